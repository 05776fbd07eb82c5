import Derived.Test.YtcklgafpgdhnaabGreatDoorPtbr
set_option maxRecDepth 100000
set_option maxHeartbeats 4000000
open List renaming getElem_toArray → zA, getElem_cons_succ → zB, getElem_cons_zero → zC, setIfInBounds_toArray → zD, set_cons_succ → zE, set_cons_zero → zF
namespace Go.Proofs.YtcklgafpgdhnaabGreatDoor
open Go.RowKit

theorem enters_TGet (args : Array Value) (w : World) : (callFunc 49 args).run Tryz.prog w = .ok (.enter 49 args) w := enters Tryz.func49 (by kernel_rfl) (by kernel_rfl) args w
def VB (q2 q3 : Nat) (V : ByteArray) (B : Bool) (W : World) : Prop := W.heap[q2]? = some (.cells #[.string V] 9 (0, 0)) ∧ W.heap[q3]? = some (.cells #[.bool B] 4 (0, 0))
theorem VB.k {q2 q3 : Nat} {V : ByteArray} {B : Bool} {W W' : World} (h : VB q2 q3 V B W) (kk : Kept [] W W') : VB q2 q3 V B W' := ⟨kk.get h.1 (by simp), kk.get h.2 (by simp)⟩
theorem VB.err {q2 q3 : Nat} {V : ByteArray} {B : Bool} {W W' : World} {T : List Nat} (h : VB q2 q3 V B W) (k : Kept T W W') (hT : ∀ y ∈ T, Tg W y 35) : VB q2 q3 V B W' := by
 refine ⟨k.get h.1 fun hm => ?_, k.get h.2 fun hm => ?_⟩
 ·have := (hT _ hm).ne ⟨_, _, h.1⟩
  revert this; decide
 ·have := (hT _ hm).ne ⟨_, _, h.2⟩
  revert this; decide
theorem szb : (Tryz.prog.info? 4).map (·.size) = some 1 := by kernel_rfl
theorem szs : (Tryz.prog.info? 9).map (·.size) = some 1 := by kernel_rfl

theorem Get1_yes (b0 b1 q2 q3 x v a n : Nat) (c : Hd) (r : Value) (t : Tr) (k : ByteArray) (w : World) (hb : Bx2 b0 b1 x k w) (hq : VB q2 q3 ⟨#[]⟩ false w) (hbq : b1 ≠ q2) (h : Rec x v a n c r t w) (ht : TW t) (hk : keyOk k) :
  Calls Tryz.prog 47 #[.pointer (some ⟨b0, 0, none⟩), .pointer (some ⟨b1, 0, none⟩), .pointer (some ⟨q2, 0, none⟩), .pointer (some ⟨q3, 0, none⟩)] w (Ends [q2, q3] (VB q2 q3 ((getL k (flatT t)).getD ⟨#[]⟩) (getL k (flatT t)).isSome) w) := by
 have c0 : w.cell? ⟨b0, 0, none⟩ = some (.pointer (some ⟨x, 0, none⟩)) := cellAt hb.1 rfl
 have HN : Hid (Calls _ _ _ _ _) := needOpen_yes x v c t r w h.st.1 h.row
 have HK : Hid (∀ W, Calls Tryz.prog 40 #[.string k] W _) := fun W => needKey_yes k W hk
 have HG : Hid (∀ W, Kept [] w W → _) := fun W kW => TGet_any (h.k kW).tv ht k
 have HRc : Hid _ := h
 have HB : Hid _ := hb
 generalize (getL k (flatT t)).getD ⟨#[]⟩ = V at *
 generalize (getL k (flatT t)).isSome = B at *
 have hqq : q2 ≠ q3 := by intro e; subst e; have := Tg.ne ⟨_, _, hq.1⟩ ⟨_, _, hq.2⟩; revert this; decide
 have hq2 := hq
 clear h hb
 go_enter Tryz.func47, Tryz.ntmps47
 go_wp2_with (first
  | (go_at_call 48; refine HN.out.mono ?_; rintro e w1 ⟨rfl, hk1⟩; have c1 : w1.cell? ⟨b1, 0, none⟩ = some (.string k) := cellAt (Bx2.k HB.out hk1).2 rfl)
  | (go_at_call 40; refine (HK.out _).mono ?_; rintro e w2 ⟨rfl, hk2⟩))
 have K3 : Kept [] w w2.drew := (hk1.trans hk2).drew
 have hR3 : Rec x v a n c r t w2.drew := Rec.k HRc.out K3
 have hS : Bx2 b0 b1 x k w2.drew ∧ RowX x v c t r w2.drew := ⟨Bx2.k HB.out K3, hR3.row⟩
 refine wp_region_S (fun W => Bx2 b0 b1 x k W ∧ RowX x v c t r W) (by kernel_rfl) ?_
 refine wpAnyH_take (i := 0) (v := .pointer (some ⟨x, 0, none⟩)) rfl (by kernel_rfl) (by kernel_rfl) (by kernel_rfl) (fun _ _ _ h => h) (Or.inl ⟨by rfl, fun W hW => exec_load 24 (.tmp 0) rfl ⟨b0, 0, none⟩ rfl _ (run_load1 Tryz.underlying24 rfl (cellAt hW.1.1 rfl))⟩) hS ?_
 simp only [Act.put, zA, zC, zD, zE, zF]
 refine wpAnyH_take (i := 1) (v := .pointer (some ⟨x, 0, none⟩)) rfl (by kernel_rfl) (by kernel_rfl) (by kernel_rfl) (fun _ _ _ h => h) (Or.inl ⟨by rfl, fun W hW => by rfl⟩) hS ?_
 simp only [Act.put, zA, zB, zC, zD, zE, zF]
 refine wpAnyH_take (i := 2) (v := .pointer (some ⟨x, 0 + 7, none⟩)) rfl (by kernel_rfl) (by kernel_rfl) (by kernel_rfl) (fun _ _ _ h => h) (Or.inl ⟨by rfl, fun W hW => exec_fieldL 79 (.tmp 10) 4 rfl x (0) rfl 7 (by rfl)⟩) hS ?_
 simp only [Act.put, zA, zB, zC, zD, zE, zF]
 refine wpAnyH_take (i := 3) (v := .agg #[.string ⟨#[]⟩, .int .i64 t.pl, r]) rfl (by kernel_rfl) (by kernel_rfl) (by kernel_rfl) (fun _ _ _ h => h) (Or.inl ⟨by rfl, fun W hW => exec_load 77 (.tmp 11) rfl ⟨x, 0 + 7, none⟩ rfl _ (recLoad hW.2)⟩) hS ?_
 simp only [Act.put, zA, zB, zC, zD, zE, zF]
 refine wpAnyH_take (i := 4) (v := .string k) rfl (by kernel_rfl) (by kernel_rfl) (by kernel_rfl) (fun _ _ _ h => h) (Or.inl ⟨by rfl, fun W hW => exec_load 9 (.tmp 1) rfl ⟨b1, 0, none⟩ rfl _ (run_load1 Tryz.underlying9 rfl (cellAt hW.1.2 rfl))⟩) hS ?_
 simp only [Act.put, zA, zB, zC, zD, zE, zF]
 refine held_one (i := 5) (by kernel_rfl) (wpOp_call rfl (by rfl) 49 #[.agg #[.string ⟨#[]⟩, .int .i64 t.pl, r], .string k] (exec_call _ _ _ rfl _ (by simp [Act.eval]) (enters_TGet _ _)) _ (HG.out _ K3) ?_)
 rintro e w4 ⟨rfl, hk4⟩
 have hS4 : Bx2 b0 b1 x k w4 ∧ RowX x v c t r w4 := ⟨hS.1.k hk4, hk4.get hS.2 (by simp)⟩
 refine ⟨_, rfl, hS4, ?_⟩
 simp only [Act.put, zA, zB, zC, zD, zE, zF]
 refine wpAnyH_take (i := 6) (v := .tuple #[.string V, .bool B]) rfl (by kernel_rfl) (by kernel_rfl) (by kernel_rfl) (fun _ _ _ h => h) (Or.inl ⟨by rfl, fun W hW => by rfl⟩) hS4 ?_
 simp only [Act.put, zA, zB, zC, zD, zE, zF]
 refine wpAnyH_take (i := 7) (v := .string V) rfl (by kernel_rfl) (by kernel_rfl) (by kernel_rfl) (fun _ _ _ h => h) (Or.inl ⟨by rfl, fun W hW => by rfl⟩) hS4 ?_
 simp only [Act.put, zA, zB, zC, zD, zE, zF]
 refine wpAnyH_take (i := 8) (v := .bool B) rfl (by kernel_rfl) (by kernel_rfl) (by kernel_rfl) (fun _ _ _ h => h) (Or.inl ⟨by rfl, fun W hW => by rfl⟩) hS4 ?_
 simp only [Act.put, zA, zB, zC, zD, zE, zF]
 have hq4 := (hq.k K3).k hk4
 have k5 : Kept [q2] w4 (w4.setCell ⟨q2, 0, none⟩ (.string V)) := (Kept.refl _ _).setCell (Or.inl (by simp)) _
 have hq5 : VB q2 q3 V false (w4.setCell ⟨q2, 0, none⟩ (.string V)) := ⟨setCellAt (i := 0) (.string V) hq4.1, k5.get hq4.2 (by simpa using hqq.symm)⟩
 have hS5 : Bx2 b0 b1 x k (w4.setCell ⟨q2, 0, none⟩ (.string V)) ∧ RowX x v c t r (w4.setCell ⟨q2, 0, none⟩ (.string V)) := by
  refine ⟨⟨k5.get hS4.1.1 ?_, k5.get hS4.1.2 (by simpa using hbq)⟩, k5.get hS4.2 ?_⟩
  ·simp; intro e; subst e; have := Tg.ne ⟨_, _, hS4.1.1⟩ ⟨_, _, hq4.1⟩; revert this; decide
  ·simp; intro e; subst e; have := Tg.ne ⟨_, _, hS4.2⟩ ⟨_, _, hq4.1⟩; revert this; decide
 refine held_one (i := 9) (by kernel_rfl) (wpOp_skip rfl rfl _ (exec_store 9 (.tmp 2) (.tmp 15) rfl ⟨q2, 0, none⟩ rfl _ rfl (run_store1 szs rfl hq4.1 (by simp))) ⟨hS5, ?_⟩)
 simp only [Act.put, zA, zB, zC]
 have k6 : Kept [q3] (w4.setCell ⟨q2, 0, none⟩ (.string V)) ((w4.setCell ⟨q2, 0, none⟩ (.string V)).setCell ⟨q3, 0, none⟩ (.bool B)) := (Kept.refl _ _).setCell (Or.inl (by simp)) _
 have hq6 : VB q2 q3 V B ((w4.setCell ⟨q2, 0, none⟩ (.string V)).setCell ⟨q3, 0, none⟩ (.bool B)) := ⟨k6.get hq5.1 (by simpa using hqq), setCellAt (i := 0) (.bool B) hq5.2⟩
 have hS6 : Bx2 b0 b1 x k ((w4.setCell ⟨q2, 0, none⟩ (.string V)).setCell ⟨q3, 0, none⟩ (.bool B)) ∧ RowX x v c t r ((w4.setCell ⟨q2, 0, none⟩ (.string V)).setCell ⟨q3, 0, none⟩ (.bool B)) := by
  refine ⟨⟨k6.get hS5.1.1 ?_, k6.get hS5.1.2 ?_⟩, k6.get hS5.2 ?_⟩
  ·simp; intro e; subst e; have := Tg.ne ⟨_, _, hS5.1.1⟩ ⟨_, _, hq5.2⟩; revert this; decide
  ·simp; intro e; subst e; have := Tg.ne ⟨_, _, hS5.1.2⟩ ⟨_, _, hq5.2⟩; revert this; decide
  ·simp; intro e; subst e; have := Tg.ne ⟨_, _, hS5.2⟩ ⟨_, _, hq5.2⟩; revert this; decide
 refine held_one (i := 10) (by kernel_rfl) (wpOp_skip rfl rfl _ (exec_store 4 (.tmp 3) (.tmp 16) rfl ⟨q3, 0, none⟩ rfl _ rfl (run_store1 szb rfl hq5.2 (by simp))) ⟨hS6, ?_⟩)
 simp only [Act.put, zA, zB, zC]
 refine wpAnyH_done (by kernel_rfl) ?_ _
 have K6 : Hid (Kept [q2, q3] w ((w4.setCell ⟨q2, 0, none⟩ (.string V)).setCell ⟨q3, 0, none⟩ (.bool B))) := (((K3.trans hk4).mono (by simp)).trans (k5.mono (by simp))).trans (k6.mono (by simp))
 have H6 : Hid _ := hq6
 clear hS hS4 hS5 hS6 hq6 hq5 hq4
 go_wp2
 go_end0
 exact ⟨rfl, H6.out, K6.out⟩

theorem Get1_closed (b0 b1 q2 q3 x : Nat) (k : ByteArray) (w : World) (hb : Bx2 b0 b1 x k w) (hq : VB q2 q3 ⟨#[]⟩ false w) (h : Shut x w) :
  Calls Tryz.prog 47 #[.pointer (some ⟨b0, 0, none⟩), .pointer (some ⟨b1, 0, none⟩), .pointer (some ⟨q2, 0, none⟩), .pointer (some ⟨q3, 0, none⟩)] w (Throws 5 [] (VB q2 q3 ⟨#[]⟩ false) w) := by
 have c0 : w.cell? ⟨b0, 0, none⟩ = some (.pointer (some ⟨x, 0, none⟩)) := cellAt hb.1 rfl
 have HN : Hid (Calls _ _ _ _ _) := needOpen_no x w h
 have HB : Hid _ := hb
 have HQ : Hid (VB q2 q3 ⟨#[]⟩ false w) := hq
 clear hb hq
 go_enter Tryz.func47, Tryz.ntmps47
 go_wp2_with (first
  | (go_at_call 48; refine HN.out.mono ?_; rintro e w1 ⟨f, o, rfl, h2, h3⟩))
 exact ⟨rfl, f, o, rfl, h2, HQ.out.k (h3), h3⟩

theorem Get1_key (b0 b1 q2 q3 x : Nat) (k : ByteArray) (w : World) (hb : Bx2 b0 b1 x k w) (hq : VB q2 q3 ⟨#[]⟩ false w) {v a n : Nat} {c : Hd} {r : Value} {t : Tr} (h : Rec x v a n c r t w) (hk : ¬ keyOk k) :
  Calls Tryz.prog 47 #[.pointer (some ⟨b0, 0, none⟩), .pointer (some ⟨b1, 0, none⟩), .pointer (some ⟨q2, 0, none⟩), .pointer (some ⟨q3, 0, none⟩)] w (Throws 1 [] (VB q2 q3 ⟨#[]⟩ false) w) := by
 have c0 : w.cell? ⟨b0, 0, none⟩ = some (.pointer (some ⟨x, 0, none⟩)) := cellAt hb.1 rfl
 have HN : Hid (Calls _ _ _ _ _) := needOpen_yes x v c t r w h.st.1 h.row
 have HK : Hid (∀ W, Calls Tryz.prog 40 #[.string k] W _) := fun W => needKey_no k W hk
 have HB : Hid _ := hb
 have HQ : Hid (VB q2 q3 ⟨#[]⟩ false w) := hq
 clear hb hq
 go_enter Tryz.func47, Tryz.ntmps47
 go_wp2_with (first
  | (go_at_call 48; refine HN.out.mono ?_; rintro e w1 ⟨rfl, hk1⟩; have c1 : w1.cell? ⟨b1, 0, none⟩ = some (.string k) := cellAt (Bx2.k HB.out hk1).2 rfl)
  | (go_at_call 40; refine (HK.out _).mono ?_; rintro e w2 ⟨f, o, rfl, h2, h3⟩))
 exact ⟨rfl, f, o, rfl, h2, HQ.out.k (hk1.trans h3), hk1.trans h3⟩

theorem Get_of (x : Nat) (k V : ByteArray) (B : Bool) (P : Value → World → Prop) (hP : ∀ err W W', P err W → Kept [] W W' → P err W') (hV : V.size ≤ 1000) (w : World)
  (hc : ∀ b, Calls Tryz.prog 32 #[.string b, .func (.func 47) #[] #[.pointer (some ⟨w.heap.size, 0, none⟩), .pointer (some ⟨w.heap.size + 1, 0, none⟩), .pointer (some ⟨w.heap.size + 1 + 1, 0, none⟩), .pointer (some ⟨w.heap.size + 1 + 1 + 1, 0, none⟩)]] ((((w.alloc (.cells #[.pointer (some ⟨x, 0, none⟩)] 24)).alloc (.cells #[.string k] 9)).alloc (.cells #[.string ⟨#[]⟩] 9)).alloc (.cells #[.bool false] 4)) (CallR (fun err W => P err W ∧ VB (w.heap.size + 1 + 1) (w.heap.size + 1 + 1 + 1) V B W) [w.heap.size + 1 + 1, w.heap.size + 1 + 1 + 1] ((((w.alloc (.cells #[.pointer (some ⟨x, 0, none⟩)] 24)).alloc (.cells #[.string k] 9)).alloc (.cells #[.string ⟨#[]⟩] 9)).alloc (.cells #[.bool false] 4)))) :
  Calls Tryz.prog 24 #[.pointer (some ⟨x, 0, none⟩), .string k] w fun e w' => ∃ err, e = .returned (.tuple #[.string V, .bool B, err]) ∧ P err w' ∧ Kept [] w w' := by
 have HC : Hid (∀ b, Calls _ _ _ _ _) := hc
 have hmf := makes
 have HP : Hid _ := hP
 clear hc hP
 go_enter Tryz.func24, Tryz.ntmps24
 go_wp2_with (go_at_call 32; refine (HC.out _).mono ?_; rintro e w2 ⟨err, rfl, ⟨hp2, hq2⟩, hk2⟩; have HP2 : Hid (P err w2) := hp2; clear hp2)
 have K2 : Kept [] w w2.drew := (((((Kept.refl [] w).alloc _).alloc _).alloc _).alloc _).trans2 hk2.drew fun z hz => Or.inr (by simp at hz; omega)
 have hS : VB (w.heap.size + 1 + 1) (w.heap.size + 1 + 1 + 1) V B w2.drew := hq2
 refine wp_region_S (VB (w.heap.size + 1 + 1) (w.heap.size + 1 + 1 + 1) V B) (by kernel_rfl) ?_
 refine wpAnyH_take (i := 0) (v := .string V) rfl (by kernel_rfl) (by kernel_rfl) (by kernel_rfl) (fun _ _ _ h => h) (Or.inl ⟨by rfl, fun W hW => exec_load 9 (.tmp 7) rfl ⟨w.heap.size + 1 + 1, 0, none⟩ rfl _ (run_load1 Tryz.underlying9 rfl (cellAt hW.1 rfl))⟩) hS ?_
 simp only [Act.put, zA, zC, zD, zE, zF]
 refine wpAnyH_take (i := 2) (v := .bool B) rfl (by kernel_rfl) (by kernel_rfl) (by kernel_rfl) (fun _ _ _ h => h) (Or.inl ⟨by rfl, fun W hW => exec_load 4 (.tmp 8) rfl ⟨w.heap.size + 1 + 1 + 1, 0, none⟩ rfl _ (run_load1 Tryz.underlying4 rfl (cellAt hW.2 rfl))⟩) hS ?_
 simp only [Act.put, zA, zB, zC, zD, zE, zF]
 refine wpAnyH_take (i := 3) (v := err) rfl (by kernel_rfl) (by kernel_rfl) (by kernel_rfl) (fun _ _ _ h => h) (Or.inl ⟨by rfl, fun W hW => by rfl⟩) hS ?_
 simp only [Act.put, zA, zB, zC, zD, zE, zF]
 refine held_one (i := 1) (by kernel_rfl) (wpOp_call rfl (by rfl) 50 #[.string V] (exec_call _ _ _ rfl _ (by simp [Act.eval]) (enters_SClone _ _)) _ (SClone_any V _ (by omega)) ?_)
 rintro e w3 ⟨rfl, hk3⟩
 have hS3 : VB (w.heap.size + 1 + 1) (w.heap.size + 1 + 1 + 1) V B w3 := hS.k hk3
 refine ⟨_, rfl, hS3, ?_⟩
 simp only [Act.put, zA, zB, zC, zD, zE, zF]
 refine wpAnyH_take (i := 4) (v := .string V) rfl (by kernel_rfl) (by kernel_rfl) (by kernel_rfl) (fun _ _ _ h => h) (Or.inl ⟨by rfl, fun W hW => by rfl⟩) hS3 ?_
 simp only [Act.put, zA, zB, zC, zD, zE, zF]
 refine wpAnyH_take (i := 5) (v := .bool B) rfl (by kernel_rfl) (by kernel_rfl) (by kernel_rfl) (fun _ _ _ h => h) (Or.inl ⟨by rfl, fun W hW => by rfl⟩) hS3 ?_
 simp only [Act.put, zA, zB, zC, zD, zE, zF]
 refine wpAnyH_take (i := 6) (v := err) rfl (by kernel_rfl) (by kernel_rfl) (by kernel_rfl) (fun _ _ _ h => h) (Or.inl ⟨by rfl, fun W hW => by rfl⟩) hS3 ?_
 simp only [Act.put, zA, zB, zC, zD, zE, zF]
 refine wpAnyH_done (by kernel_rfl) ?_ _
 have FIN : Hid (P err w3 ∧ Kept [] w w3) := ⟨HP.out _ _ _ HP2.out ((Kept.refl [] w2).drew.trans hk3), K2.trans hk3⟩
 clear hS hS3
 go_wp2
 refine bodyPost_ret (results_tmp3 rfl _ _ _) rfl ?_
 exact ⟨err, rfl, FIN.out⟩

end Go.Proofs.YtcklgafpgdhnaabGreatDoor
