import Derived.Test.YtcklgafpgdhnaaaGreatDoorPtbd
set_option maxRecDepth 100000
set_option maxHeartbeats 4000000
open List renaming getElem_toArray → zA, getElem_cons_succ → zB, getElem_cons_zero → zC, setIfInBounds_toArray → zD, set_cons_succ → zE, set_cons_zero → zF
namespace Go.Proofs.YtcklgafpgdhnaaaGreatDoor
open Go.RowKit

theorem enters_TDelete (args : Array Value) (w : World) : (callFunc 50 args).run Tryz.prog w = .ok (.enter 50 args) w := enters Tryz.func50 (by kernel_rfl) (by kernel_rfl) args w
def Bx2 (b0 b1 x : Nat) (k : ByteArray) (W : World) : Prop := W.heap[b0]? = some (.cells #[.pointer (some ⟨x, 0, none⟩)] 27 (0, 0)) ∧ W.heap[b1]? = some (.cells #[.string k] 9 (0, 0))
theorem Bx2.k {b0 b1 x : Nat} {k : ByteArray} {W W' : World} (h : Bx2 b0 b1 x k W) (kk : Kept [] W W') : Bx2 b0 b1 x k W' := ⟨kk.get h.1 (by simp), kk.get h.2 (by simp)⟩
theorem Rec.load {x v a n : Nat} {c : Hd} {r : Value} {t : Tr} {w : World} (h : Rec x v a n c r t w) : (loadVar 82 ⟨x, 7, none⟩).run Tryz.prog w = .ok (.agg #[.string ⟨#[]⟩, .int .i64 t.pl, r]) w := by
 refine run_loadVar_seg (P := Tryz.prog) w x 7 84 82 (rowS c v t r).toList [.string ⟨#[]⟩, .int .i64 t.pl, r] (0, 0) _ h.row Tryz.underlying82 rfl stT ?_
 intro j u hu
 rcases j with _ | _ | _ | j
 ·simpa [rowS] using hu
 ·simpa [rowS] using hu
 ·simpa [rowS] using hu
 ·simp at hu
theorem Rec.set {x v a n : Nat} {c : Hd} {r r' : Value} {t t' : Tr} {w : World} (h : Rec x v a n c r t w) (A : Nat → Prop) (ht : TV w A t' r') : ∃ w', (storeVar 82 ⟨x, 7, none⟩ (.agg #[.string ⟨#[]⟩, .int .i64 t'.pl, r'])).run Tryz.prog w = .ok () w' ∧ Rec x v a n c r' t' w' ∧ Kept [x] w w' := by
 have hst := run_storeVar_seg (P := Tryz.prog) w x 7 84 82 (rowS c v t r).toList [.string ⟨#[]⟩, .int .i64 t'.pl, r'] h.row (by rw [stT]; rfl) (by simp [rowS]) (by intro u hu; simp at hu; rcases hu with rfl | rfl | rfl; rfl; rfl; exact ht.one)
 have k1 : Kept [x] w (w.setRow x (splice (rowS c v t r).toList 7 [.string ⟨#[]⟩, .int .i64 t'.pl, r']).toArray) := (Kept.refl _ _).setRow (Or.inl (by simp)) _
 have hx : Tg w x 84 := ⟨_, _, h.row⟩
 have hno : ∀ y ∈ [x], ¬ TT w y := by
  intro y hy
  simp at hy
  subst hy
  rintro (h1 | h1)
  ·have := hx.ne h1
   revert this; decide
  ·have := hx.ne h1
   revert this; decide
 refine ⟨_, hst, ⟨setRow_heap _ _ _ _ _ _ h.row, k1.get h.vol ?_, h.st, TV.kept h.lv.tags k1 hno fun _ _ => trivial, TV.kept ht.tags k1 hno fun _ _ => trivial⟩, k1⟩
 intro hm
 simp at hm
 subst hm
 have := hx.ne ⟨_, _, h.vol⟩
 revert this; decide

theorem Del1_yes (b0 b1 x v a n : Nat) (c : Hd) (r : Value) (t : Tr) (k : ByteArray) (w : World) (hb : Bx2 b0 b1 x k w) (h : Rec x v a n c r t w) (ht : TW t) (hs : c.s = 1 ∨ c.s = 2) (hk : keyOk k) :
  Calls Tryz.prog 48 #[.pointer (some ⟨b0, 0, none⟩), .pointer (some ⟨b1, 0, none⟩)] w (Ends [x] (fun W => ∃ r', Rec x v a n c r' (delT k t) W) w) := by
 have c0 : w.cell? ⟨b0, 0, none⟩ = some (.pointer (some ⟨x, 0, none⟩)) := cellAt hb.1 rfl
 have HN : Hid (Calls _ _ _ _ _) := needChg_yes x v c t r w hs h.row
 have HK : Hid (∀ W, Calls Tryz.prog 45 #[.string k] W _) := fun W => needKey_yes k W hk
 have HD : Hid (∀ W, Kept [] w W → _) := fun W kW => TDelete_any (h.k kW).tv.tags (fun y hy => TT.lt hy) ht k
 have HRc : Hid _ := h
 have HB : Hid _ := hb
 clear h hb
 go_enter Tryz.func48, Tryz.ntmps48
 go_wp2_with (first
  | (go_at_call 49; refine HN.out.mono ?_; rintro e w1 ⟨rfl, hk1⟩; have c1 : w1.cell? ⟨b1, 0, none⟩ = some (.string k) := cellAt (Bx2.k HB.out hk1).2 rfl)
  | (go_at_call 45; refine (HK.out _).mono ?_; rintro e w2 ⟨rfl, hk2⟩))
 have hS : Bx2 b0 b1 x k w2.drew := Bx2.k HB.out (hk1.trans hk2).drew
 have hR2 : Rec x v a n c r t w2.drew := Rec.k HRc.out (hk1.trans hk2).drew
 refine wp_region_S (Bx2 b0 b1 x k) (by kernel_rfl) ?_
 refine wpAnyH_take (i := 0) (v := .pointer (some ⟨x, 0, none⟩)) rfl (by kernel_rfl) (by kernel_rfl) (by kernel_rfl) (fun _ _ _ h => h) (Or.inl ⟨by rfl, fun W hW => exec_load 27 (.tmp 0) rfl ⟨b0, 0, none⟩ rfl _ (run_load1 Tryz.underlying27 rfl (cellAt hW.1 rfl))⟩) hS ?_
 simp only [Act.put, zA, zC, zD, zE, zF]
 refine wpAnyH_take (i := 1) (v := .pointer (some ⟨x, 0, none⟩)) rfl (by kernel_rfl) (by kernel_rfl) (by kernel_rfl) (fun _ _ _ h => h) (Or.inl ⟨by rfl, fun W hW => exec_load 27 (.tmp 0) rfl ⟨b0, 0, none⟩ rfl _ (run_load1 Tryz.underlying27 rfl (cellAt hW.1 rfl))⟩) hS ?_
 simp only [Act.put, zA, zB, zC, zD, zE, zF]
 refine wpAnyH_take (i := 2) (v := .pointer (some ⟨x, 0, none⟩)) rfl (by kernel_rfl) (by kernel_rfl) (by kernel_rfl) (fun _ _ _ h => h) (Or.inl ⟨by rfl, fun W hW => by rfl⟩) hS ?_
 simp only [Act.put, zA, zB, zC, zD, zE, zF]
 refine wpAnyH_take (i := 3) (v := .pointer (some ⟨x, 0 + 7, none⟩)) rfl (by kernel_rfl) (by kernel_rfl) (by kernel_rfl) (fun _ _ _ h => h) (Or.inl ⟨by rfl, fun W hW => exec_fieldL 84 (.tmp 8) 4 rfl x (0) rfl 7 (by rfl)⟩) hS ?_
 simp only [Act.put, zA, zB, zC, zD, zE, zF]
 refine wpAnyH_take (i := 5) (v := .string k) rfl (by kernel_rfl) (by kernel_rfl) (by kernel_rfl) (fun _ _ _ h => h) (Or.inl ⟨by rfl, fun W hW => exec_load 9 (.tmp 1) rfl ⟨b1, 0, none⟩ rfl _ (run_load1 Tryz.underlying9 rfl (cellAt hW.2 rfl))⟩) hS ?_
 simp only [Act.put, zA, zB, zC, zD, zE, zF]
 refine held_one (i := 4) (by kernel_rfl) (wpOp_valW rfl (by rfl) (.agg #[.string ⟨#[]⟩, .int .i64 t.pl, r]) _ (exec_load 82 (.tmp 9) rfl ⟨x, 0 + 7, none⟩ rfl _ hR2.load) ⟨hS, ?_⟩)
 simp only [Act.put, zA, zB, zC, zD, zE, zF]
 refine held_one (i := 6) (by kernel_rfl) (wpOp_call rfl (by rfl) 50 #[.agg #[.string ⟨#[]⟩, .int .i64 t.pl, r], .string k] (exec_call _ _ _ rfl _ (by simp [Act.eval]) (enters_TDelete _ _)) _ (HD.out _ (hk1.trans hk2).drew) ?_)
 rintro e w3 ⟨r3, rfl, ht3, hk3⟩
 have hS3 := hS.k hk3
 refine ⟨_, rfl, hS3, ?_⟩
 simp only [Act.put, zA, zB, zC, zD, zE, zF]
 refine wpAnyH_take (i := 7) (v := .pointer (some ⟨x, 0, none⟩)) rfl (by kernel_rfl) (by kernel_rfl) (by kernel_rfl) (fun _ _ _ h => h) (Or.inl ⟨by rfl, fun W hW => by rfl⟩) hS3 ?_
 simp only [Act.put, zA, zB, zC, zD, zE, zF]
 refine wpAnyH_take (i := 8) (v := .pointer (some ⟨x, 0 + 7, none⟩)) rfl (by kernel_rfl) (by kernel_rfl) (by kernel_rfl) (fun _ _ _ h => h) (Or.inl ⟨by rfl, fun W hW => exec_fieldL 84 (.tmp 13) 4 rfl x (0) rfl 7 (by rfl)⟩) hS3 ?_
 simp only [Act.put, zA, zB, zC, zD, zE, zF]
 obtain ⟨w4, hst4, hR4, hk4⟩ := (hR2.k hk3).set _ ht3
 have hS4 : Bx2 b0 b1 x k w4 := ⟨hk4.get hS3.1 (by simp; intro e; subst e; have := Tg.ne ⟨_, _, hS3.1⟩ ⟨_, _, (hR2.k hk3).row⟩; revert this; decide), hk4.get hS3.2 (by simp; intro e; subst e; have := Tg.ne ⟨_, _, hS3.2⟩ ⟨_, _, (hR2.k hk3).row⟩; revert this; decide)⟩
 refine held_one (i := 9) (by kernel_rfl) (wpOp_skip rfl rfl w4 (exec_store 82 (.tmp 14) (.tmp 12) rfl ⟨x, 0 + 7, none⟩ rfl _ rfl hst4) ⟨hS4, ?_⟩)
 simp only [Act.put, zA, zB, zC]
 refine wpAnyH_done (by kernel_rfl) ?_ _
 have K4 : Hid (Kept [x] w w4) := ((((hk1.trans hk2).drew).trans hk3).mono (by simp)).trans hk4
 clear hS hS3 hS4 hst4
 go_wp2
 go_end0
 exact ⟨rfl, ⟨r3, hR4⟩, K4.out⟩

theorem Delete_of (x : Nat) (k : ByteArray) (P : Value → World → Prop) (S : List Nat) (w : World)
  (hc : ∀ b, Calls Tryz.prog 42 #[.string b, .func (.func 48) #[] #[.pointer (some ⟨w.heap.size, 0, none⟩), .pointer (some ⟨w.heap.size + 1, 0, none⟩)]] ((w.alloc (.cells #[.pointer (some ⟨x, 0, none⟩)] 27)).alloc (.cells #[.string k] 9)) (CallR P S ((w.alloc (.cells #[.pointer (some ⟨x, 0, none⟩)] 27)).alloc (.cells #[.string k] 9)))) :
  Calls Tryz.prog 22 #[.pointer (some ⟨x, 0, none⟩), .string k] w (CallR P S w) := by
 have HC : Hid (∀ b, Calls _ _ _ _ _) := hc
 have hmf := makes
 clear hc
 go_enter Tryz.func22, Tryz.ntmps22
 go_wp2_with (go_at_call 42; refine (HC.out _).mono ?_; rintro e w2 ⟨err, rfl, hp2, hk2⟩)
 go_ret
 exact ⟨err, rfl, hp2, (((Kept.refl S w).alloc _).alloc _).trans hk2⟩

theorem bx2_new (w : World) (x : Nat) (k : ByteArray) : Bx2 w.heap.size (w.heap.size + 1) x k ((w.alloc (.cells #[.pointer (some ⟨x, 0, none⟩)] 27)).alloc (.cells #[.string k] 9)) := by
 constructor
 ·exact ((Kept.refl [] _).alloc _).get (heap_alloc_new _ _) (by simp)
 ·have := heap_alloc_new (w.alloc (.cells #[.pointer (some ⟨x, 0, none⟩)] 27)) (.cells #[.string k] 9)
  rwa [World.size_alloc] at this
theorem Delete_yes (x v a n : Nat) (c : Hd) (r : Value) (t : Tr) (k : ByteArray) (w : World) (h : Rec x v a n c r t w) (ht : TW t) (hs : c.s = 1 ∨ c.s = 2) (hk : keyOk k) : Calls Tryz.prog 22 #[.pointer (some ⟨x, 0, none⟩), .string k] w (CallR (IsNil fun W => ∃ r', Rec x v a n c r' (delT k t) W) [x] w) := by
 have k1 := ((Kept.refl [] w).alloc (.cells #[.pointer (some ⟨x, 0, none⟩)] 27)).alloc (.cells #[.string k] 9)
 refine Delete_of x k _ _ w fun b => catch_yes b _ _ (fun _ _ => by kernel_rfl) [x] _ _ ?_ (fun W W' T h1 h2 h3 => ?_) fun W kW => ?_
 ·intro y hy
  simp at hy
  subst hy
  have := lt_heap h.row
  rw [World.size_alloc, World.size_alloc]
  omega
 ·obtain ⟨r', h1⟩ := h1
  exact ⟨r', h1.err h2 h3⟩
 ·exact Del1_yes _ _ x v a n c r t k W ((bx2_new w x k).k kW) ((h.k k1).k kW) ht hs hk
end Go.Proofs.YtcklgafpgdhnaaaGreatDoor
