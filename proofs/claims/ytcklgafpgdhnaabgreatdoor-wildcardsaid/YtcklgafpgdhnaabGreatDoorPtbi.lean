import Derived.Test.YtcklgafpgdhnaabGreatDoorPtbh
import Derived.Test.YtcklgafpgdhnaabGreatDoorPtax
set_option maxRecDepth 100000
set_option maxHeartbeats 4000000
open List renaming getElem_toArray → zA, getElem_cons_succ → zB, getElem_cons_zero → zC, setIfInBounds_toArray → zD, set_cons_succ → zE, set_cons_zero → zF
namespace Go.Proofs.YtcklgafpgdhnaabGreatDoor
open Go.RowKit

theorem exec_eql_arr {P : Program} {o : Oper} {a : Act} {w : World} (t u : TypeId) (x y : Operand) (ho : o.op = .binOp .eql t x y u) (A B : List UInt8) (hx : a.eval x = .agg (u8s A).toArray) (hy : a.eval y = .agg (u8s B).toArray)
  (len : Nat) (e : TypeId) (hA : A.length = len) (hB : B.length = len) (ht : P.underlying t = some (.array len e)) (he : P.underlying e = some (.int .u8)) (hs : (P.info? e).map (·.size) = some 1) (hm : P.eqGuardType P.depth t = false) :
  (execOp a.eval o).run P w = .ok (.value (.bool (decide (A = B)))) w := by
 have h1 : (binOp .eql t (.agg (u8s A).toArray) (.agg (u8s B).toArray)).run P w = .ok (.bool (decide (A = B))) w := by
  rw [run_eql_struct, equal_arr P w 9998 len t e A B hA hB ht he hs]; rfl
 unfold execOp
 simp only [ho, hx, hy, Sem.run_bind, run_eqGuard_agg (P := P) (w := w) .eql t x y _ _ hm, h1, Result.andThen_ok, Sem.run_pure]
def NbV (w : World) (A : Nat → Prop) : Nb → Value → Prop
 | .leaf l, x => ∃ v, x = .iface 135 v ∧ LF w v l ∧ ∀ b, v.ownBlock = some b → A b
 | .branch ks, x => ∃ v, x = .iface 180 v ∧ SL w 75 3 v (ks.map pk0) ∧ ∀ b, v.ownBlock = some b → A b
def TnR (B : List UInt8) (w : World) (e : Ending) (w' : World) : Prop :=
 (match decN B with
  | some nb => ∃ x, e = .returned x ∧ NbV w' (fun y => w.heap.size ≤ y) nb x
  | none => Thr 7 e w') ∧ Kept [] w w'
def TnS (g : Nat) (B : List UInt8) (W : World) : Prop := W.heap[g]? = some (.cells (u8s B).toArray 80 (0, 0))
theorem slice92 (W : World) (g : Nat) : (Instr.sliceAt 80 (.pointer (some ⟨g, 0, none⟩)) (some (.int .i64 2)) (some (.int .i64 124)) none).run Tryz.prog W = .ok (.slice (some ⟨g, 2, none⟩) 122 126) W := by kernel_rfl
theorem enters_tneed (args : Array Value) (w : World) : (callFunc 141 args).run Tryz.prog w = .ok (.enter 141 args) w := enters Tryz.func141 (by kernel_rfl) (by kernel_rfl) args w
theorem fits_leaf {n : Nat} {R R' : List UInt8} {l : List Pr} (hR : R.length ≤ 122) (h : tMany tPair n R = some (l, R')) : fitsN (.leaf l) := by
 obtain ⟨h1, h2⟩ := tMany_all (G := fun p : Pr => p.1.size ≤ 8 ∧ p.2.size ≤ 12) (sz := fun p : Pr => 2 + p.1.size + p.2.size) (fun r a r' h => by obtain ⟨a1, a2⟩ := tPair_some h; exact ⟨a2, by rw [a1, List.length_append, length_pkP]⟩) h
 exact ⟨h1, by omega⟩
theorem fits_branch {n : Nat} {R R' : List UInt8} {l : List (ByteArray × Nat)} (hR : R.length ≤ 122) (h : tMany tKid n R = some (l, R')) : fitsN (.branch l) := by
 obtain ⟨h1, h2⟩ := tMany_all (G := fun k : ByteArray × Nat => k.1.size ≤ 8 ∧ k.2 < 65536) (sz := fun _ => 11) (fun r a r' h => by obtain ⟨a1, a2, a3⟩ := tKid_some h; exact ⟨⟨a1, a2⟩, a3⟩) h
 have h3 : (l.map fun _ => 11).sum = 11 * l.length := by
  clear h h1 h2
  induction l with
  | nil => rfl
  | cons a l ih => simp [ih]; omega
 exact ⟨h1, by omega⟩
theorem map_kx (l : List (ByteArray × Nat)) : (l.map kx).map ke = l.map pk0 ∧ (l.map kx).map kp = l := by
 constructor
 ·rw [List.map_map]; rfl
 ·rw [List.map_map]
  conv => rhs; rw [← List.map_id l]
  rfl

theorem taken_any (B : List UInt8) (w : World) (hB : B.length = 128) : Calls Tryz.prog 129 #[.agg (u8s B).toArray] w (TnR B w) := by
 obtain ⟨b0, b1, rest, eB⟩ : ∃ b0 b1 rest, B = b0 :: b1 :: rest := by
  match B, hB with
  | b0 :: b1 :: rest, _ => exact ⟨b0, b1, rest, rfl⟩
 have hB0 : B[0]? = some b0 := by rw [eB]; rfl
 have hB1 : B[1]? = some b1 := by rw [eB]; rfl
 have hc0 : (u8s B).toArray[0]? = some (.int .u8 b0.toNat) := by rw [eB]; rfl
 have hc1 : (u8s B).toArray[1]? = some (.int .u8 b1.toNat) := by rw [eB]; rfl
 have h1 := b1.toNat_lt
 have h0 := b0.toNat_lt
 clear eB
 go_enter Tryz.func129, Tryz.ntmps129
 go_wp2_with (refine wpList_new rfl _ _ (exec_box 80 (.tmp 0) rfl (u8s B).toArray rfl) ?_; intro w1 n1 k1 hs1; have HS1 : Hid _ := hs1; clear hs1)
 have hS : TnS w.heap.size B w1.drew := n1
 refine wp_region_S (TnS w.heap.size B) (by kernel_rfl) ?_
 refine ht (i := 0) (v := (.slice (some ⟨w.heap.size, 2, none⟩) 122 126)) rfl (by kernel_rfl) (by rfl) (fun W hW => exec_slice 80 (.tmp 1) (some (.const (.int .i64 2))) (some (.const (.int .i64 124))) none rfl _ (some (.int .i64 2)) (some (.int .i64 124)) none rfl rfl rfl rfl _ (slice92 W _)) (fun _ _ _ h => h) hS ?_
 simp only [Act.put, zA, zC, zD, zE, zF]
 refine ht (i := 1) (v := (.pointer (some ⟨w.heap.size, 1, none⟩))) rfl (by kernel_rfl) (by rfl) (fun W hW => by rfl) (fun _ _ _ h => h) hS ?_
 simp only [Act.put, zA, zB, zC, zD, zE, zF]
 refine ht (i := 2) (v := (.int .u8 b1.toNat)) rfl (by kernel_rfl) (by rfl) (fun W hW => exec_load 5 (.tmp 7) rfl ⟨w.heap.size, 1, none⟩ rfl _ (run_load1 Tryz.underlying5 rfl (cellAt hW hc1))) (fun _ _ _ h => h) hS ?_
 simp only [Act.put, zA, zB, zC, zD, zE, zF]
 refine ht (i := 3) (v := (.int .i64 (IntKind.i64.wrap (b1.toNat : Int)))) rfl (by kernel_rfl) (by rfl) (fun W hW => exec_conv 5 3 (.tmp 8) rfl .u8 .i64 _ _ rfl Tryz.underlying5 Tryz.underlying3) (fun _ _ _ h => h) hS ?_
 simp only [Act.put, zA, zB, zC, zD, zE, zF]
 rw [show IntKind.i64.wrap (b1.toNat : Int) = (b1.toNat : Int) by rw [IntKind.wrap_i64]; omega]
 refine ht (i := 4) (v := (.slice (some ⟨w.heap.size, 2, none⟩) 122 126)) rfl (by kernel_rfl) (by rfl) (fun W hW => by rfl) (fun _ _ _ h => h) hS ?_
 simp only [Act.put, zA, zB, zC, zD, zE, zF]
 refine ht (i := 5) (v := (.int .i64 (b1.toNat : Nat))) rfl (by kernel_rfl) (by rfl) (fun W hW => by rfl) (fun _ _ _ h => h) hS ?_
 simp only [Act.put, zA, zB, zC, zD, zE, zF]
 refine wpAnyH_done (by kernel_rfl) ?_ _
 have hrow : w1.drew.heap[w.heap.size]? = some (.cells (u8s B).toArray 80 (0, 0)) := n1
 have cw0 : w1.drew.cell? ⟨w.heap.size, 0, none⟩ = some (.int .u8 b0.toNat) := cellAt hrow hc0
 have K2 : Kept [] w w1.drew := k1.drew
 generalize w1.drew = w2 at *
 clear hS n1 k1
 by_cases hb0 : b0 = 76
 ·have hi0 : (b0.toNat : Int) = 76 := by rw [hb0]; rfl
  rw [hi0] at cw0
  have HD : Hid (decN B = match tMany tPair b1.toNat ((B.drop 2).take 122) with
    | none => none
    | some (l, _) => if encL l = B then some (.leaf l) else none) := by
   show _ = _
   unfold decN
   simp only [hB0, hB1, Option.getD_some]
   simp only [hb0]
   rfl
  have HTk : Hid (∀ W : World, W.heap[w.heap.size]? = some (.cells (u8s B).toArray 80 (0, 0)) → _) := fun W hW => takeP_any w.heap.size b1.toNat B W hW hB (by omega)
  cases hm : tMany tPair b1.toNat ((B.drop 2).take 122) with
  | none =>
   rw [hm] at HD
   go_wp2_with fail
   refine (HTk.out _ hrow).mono ?_
   rintro e w3 ⟨ht, k3⟩
   rw [hm] at ht
   obtain ⟨f, o, rfl, hf⟩ := Thr.ex ht
   refine ⟨rfl, ?_, K2.trans k3⟩
   rw [HD.out]
   exact ht
  | some z =>
   obtain ⟨l, R'⟩ := z
   rw [hm] at HD
   have hfit := fits_leaf (by rw [List.length_take]; omega) hm
   have hEl : (encL l).length = 128 := length_encN (n := .leaf l) hfit
   go_wp2_with fail
   refine (HTk.out _ hrow).mono ?_
   rintro e w3 ⟨hres, k3⟩
   rw [hm] at hres
   obtain ⟨v, rfl, hl3, ho3⟩ := hres
   have K3 := K2.trans k3
   obtain ⟨p, cc, ev⟩ := hl3.shape
   rw [List.length_map] at ev
   subst ev
   have hrow3 := k3.get hrow (by simp)
   have HL3 : Hid (SL w3 138 2 (.slice p l.length cc) (l.map pe)) := hl3
   clear HTk
   go_wp2_with fail
   have hSd : TnS w.heap.size B w3.drew := hrow3
   obtain ⟨tt, et, hmb, heb⟩ := dBlockL p l.length cc
   cases et
   have HBk : Hid (Calls _ _ _ _ _) := leafBlock_any (.slice p l.length cc) l w3.drew (SL.kept hl3 (Kept.refl [] w3).drew) hfit
   refine wp_region_S (TnS w.heap.size B) (by kernel_rfl) ?_
   refine ht (i := 0) (v := (.iface 135 (.slice p l.length cc))) rfl (by kernel_rfl) (by rfl) (fun W hW => by rfl) (fun _ _ _ h => h) hSd ?_
   simp only [Act.put, zA, zC, zD, zE, zF]
   refine ht (i := 1) (v := (.bool true)) rfl (by kernel_rfl) (by rfl) (fun W hW => by rfl) (fun _ _ _ h => h) hSd ?_
   simp only [Act.put, zA, zB, zC, zD, zE, zF]
   refine ht (i := 2) (v := (.bool true)) rfl (by kernel_rfl) (by rfl) (fun W hW => by rfl) (fun _ _ _ h => h) hSd ?_
   simp only [Act.put, zA, zB, zC, zD, zE, zF]
   refine ht (i := 3) (v := (.iface 135 (.slice p l.length cc))) rfl (by kernel_rfl) (by rfl) (fun W hW => by rfl) (fun _ _ _ h => h) hSd ?_
   simp only [Act.put, zA, zB, zC, zD, zE, zF]
   refine ht (i := 5) (v := (.agg (u8s B).toArray)) rfl (by kernel_rfl) (by rfl) (fun W hW => exec_load 80 (.tmp 1) rfl ⟨w.heap.size, 0, none⟩ rfl _ (ld_blk hW hB)) (fun _ _ _ h => h) hSd ?_
   simp only [Act.put, zA, zB, zC, zD, zE, zF]
   refine held_one (i := 4) (by kernel_rfl) (wpOp_call rfl (by rfl) _ #[(.slice p l.length cc)] (exec_invoke0 (.tmp 27) "store/tree.block" rfl 135 (.slice p l.length cc) rfl _ (hmb _) (heb _ _)) _ HBk.out ?_)
   rintro e wz ⟨rfl, kz⟩
   have hSz : TnS w.heap.size B wz := kz.get hSd (by simp)
   refine ⟨_, rfl, hSz, ?_⟩
   simp only [Act.put, zA, zB, zC, zD, zE, zF]
   refine ht (i := 6) (v := (.bool (decide (encL l = B)))) rfl (by kernel_rfl) (by rfl) (fun W hW => exec_eql_arr 80 80 (.tmp 28) (.tmp 29) rfl (encL l) B rfl rfl 128 5 hEl hB Tryz.underlying80 Tryz.underlying5 su8 (by kernel_rfl)) (fun _ _ _ h => h) hSz ?_
   simp only [Act.put, zA, zB, zC, zD, zE, zF]
   by_cases hEq : encL l = B
   ·rw [show decide (encL l = B) = true from decide_eq_true hEq]
    refine ht (i := 7) (v := (.bool true)) rfl (by kernel_rfl) (by rfl) (fun W hW => by rfl) (fun _ _ _ h => h) hSz ?_
    simp only [Act.put, zA, zB, zC, zD, zE, zF]
    refine held_one (i := 8) (by kernel_rfl) (wpOp_call rfl (by rfl) 141 #[.bool true] (exec_call _ _ _ rfl _ (by simp [Act.eval]) (enters_tneed _ _)) _ (need_yes _) ?_)
    rintro e wy ⟨rfl, ey⟩
    subst ey
    refine ⟨_, rfl, hSz, ?_⟩
    simp only [Act.put, zA, zB, zC, zD, zE, zF]
    refine wpAnyH_done (by kernel_rfl) ?_ _
    rw [if_pos hEq] at HD
    have KZ : Kept [] w wy := (K3.trans (Kept.refl [] w3).drew).trans kz
    have FIN : Hid (NbV wy (fun y => w.heap.size ≤ y) (.leaf l) (.iface 135 (.slice p l.length cc))) := ⟨_, rfl, SL.kept HL3.out ((Kept.refl [] w3).drew.trans kz), fun b hb => Nat.le_trans K2.size (ho3 b hb)⟩
    clear hSd hSz hl3
    go_wp2
    go_ret
    refine ⟨?_, KZ⟩
    rw [HD.out]
    exact ⟨_, rfl, FIN.out⟩
   ·rw [show decide (encL l = B) = false from decide_eq_false hEq]
    refine ht (i := 7) (v := (.bool false)) rfl (by kernel_rfl) (by rfl) (fun W hW => by rfl) (fun _ _ _ h => h) hSz ?_
    simp only [Act.put, zA, zB, zC, zD, zE, zF]
    refine held_one (i := 8) (by kernel_rfl) (wpOp_callB rfl (by rfl) 141 #[.bool false] (exec_call _ _ _ rfl _ (by simp [Act.eval]) (enters_tneed _ _)) _ (need_no _) ?_)
    rintro e wy ⟨ht, ky⟩
    obtain ⟨f, o, rfl, hf⟩ := ht.ex
    refine Or.inr ⟨_, rfl, rfl, ?_⟩
    rw [if_neg hEq] at HD
    refine ⟨?_, ((K3.trans (Kept.refl [] w3).drew).trans kz).trans ky⟩
    rw [HD.out]
    exact ht
 ·by_cases hb6 : b0 = 66
  ·have hi0 : (b0.toNat : Int) = 66 := by rw [hb6]; rfl
   rw [hi0] at cw0
   have hb0 : b0 = 66 := hb6
   have HD : Hid (decN B = match tMany tKid b1.toNat ((B.drop 2).take 122) with
     | none => none
     | some (l, _) => if encB l = B then some (.branch l) else none) := by
    show _ = _
    unfold decN
    simp only [hB0, hB1, Option.getD_some]
    simp only [hb0]
    rfl
   have HTk : Hid (∀ W : World, W.heap[w.heap.size]? = some (.cells (u8s B).toArray 80 (0, 0)) → _) := fun W hW => takeK_any w.heap.size b1.toNat B W hW hB (by omega)
   cases hm : tMany tKid b1.toNat ((B.drop 2).take 122) with
   | none =>
    rw [hm] at HD
    go_wp2_with fail
    refine (HTk.out _ hrow).mono ?_
    rintro e w3 ⟨ht, k3⟩
    rw [hm] at ht
    obtain ⟨f, o, rfl, hf⟩ := Thr.ex ht
    refine ⟨rfl, ?_, K2.trans k3⟩
    rw [HD.out]
    exact ht
   | some z =>
    obtain ⟨l, R'⟩ := z
    rw [hm] at HD
    have hfit := fits_branch (by rw [List.length_take]; omega) hm
    have hEl : (encB l).length = 128 := length_encN (n := .branch l) hfit
    go_wp2_with fail
    refine (HTk.out _ hrow).mono ?_
    rintro e w3 ⟨hres, k3⟩
    rw [hm] at hres
    obtain ⟨v, rfl, hl3, ho3⟩ := hres
    have K3 := K2.trans k3
    obtain ⟨p, cc, ev⟩ := hl3.shape
    rw [List.length_map] at ev
    subst ev
    have hrow3 := k3.get hrow (by simp)
    have HBB : Hid (Calls Tryz.prog 213 #[.slice p l.length cc] w3.drew fun e w' => e = .returned (.agg (u8s (encB l)).toArray) ∧ Kept [] w3.drew w') := by
     have := brBlock_any (.slice p l.length cc) (l.map kx) w3.drew (by rw [(map_kx l).1]; exact SL.kept hl3 (Kept.refl [] w3).drew) (by rw [(map_kx l).2]; exact hfit) (by intro x hx; obtain ⟨k, _, rfl⟩ := List.mem_map.1 hx; exact Or.inl rfl)
     rw [(map_kx l).2] at this
     exact this
    have HL3 : Hid (SL w3 75 3 (.slice p l.length cc) (l.map pk0)) := hl3
    clear HTk
    go_wp2_with fail
    have hSd : TnS w.heap.size B w3.drew := hrow3
    obtain ⟨tt, et, hmb, heb⟩ := dBlockB p l.length cc
    cases et
    have HBk : Hid (Calls _ _ _ _ _) := HBB.out
    refine wp_region_S (TnS w.heap.size B) (by kernel_rfl) ?_
    refine ht (i := 0) (v := (.iface 180 (.slice p l.length cc))) rfl (by kernel_rfl) (by rfl) (fun W hW => by rfl) (fun _ _ _ h => h) hSd ?_
    simp only [Act.put, zA, zC, zD, zE, zF]
    refine ht (i := 1) (v := (.bool true)) rfl (by kernel_rfl) (by rfl) (fun W hW => by rfl) (fun _ _ _ h => h) hSd ?_
    simp only [Act.put, zA, zB, zC, zD, zE, zF]
    refine ht (i := 2) (v := (.bool true)) rfl (by kernel_rfl) (by rfl) (fun W hW => by rfl) (fun _ _ _ h => h) hSd ?_
    simp only [Act.put, zA, zB, zC, zD, zE, zF]
    refine ht (i := 3) (v := (.iface 180 (.slice p l.length cc))) rfl (by kernel_rfl) (by rfl) (fun W hW => by rfl) (fun _ _ _ h => h) hSd ?_
    simp only [Act.put, zA, zB, zC, zD, zE, zF]
    refine ht (i := 5) (v := (.agg (u8s B).toArray)) rfl (by kernel_rfl) (by rfl) (fun W hW => exec_load 80 (.tmp 1) rfl ⟨w.heap.size, 0, none⟩ rfl _ (ld_blk hW hB)) (fun _ _ _ h => h) hSd ?_
    simp only [Act.put, zA, zB, zC, zD, zE, zF]
    refine held_one (i := 4) (by kernel_rfl) (wpOp_call rfl (by rfl) _ #[(.slice p l.length cc)] (exec_invoke0 (.tmp 27) "store/tree.block" rfl 180 (.slice p l.length cc) rfl _ (hmb _) (heb _ _)) _ HBk.out ?_)
    rintro e wz ⟨rfl, kz⟩
    have hSz : TnS w.heap.size B wz := kz.get hSd (by simp)
    refine ⟨_, rfl, hSz, ?_⟩
    simp only [Act.put, zA, zB, zC, zD, zE, zF]
    refine ht (i := 6) (v := (.bool (decide (encB l = B)))) rfl (by kernel_rfl) (by rfl) (fun W hW => exec_eql_arr 80 80 (.tmp 28) (.tmp 29) rfl (encB l) B rfl rfl 128 5 hEl hB Tryz.underlying80 Tryz.underlying5 su8 (by kernel_rfl)) (fun _ _ _ h => h) hSz ?_
    simp only [Act.put, zA, zB, zC, zD, zE, zF]
    by_cases hEq : encB l = B
    ·rw [show decide (encB l = B) = true from decide_eq_true hEq]
     refine ht (i := 7) (v := (.bool true)) rfl (by kernel_rfl) (by rfl) (fun W hW => by rfl) (fun _ _ _ h => h) hSz ?_
     simp only [Act.put, zA, zB, zC, zD, zE, zF]
     refine held_one (i := 8) (by kernel_rfl) (wpOp_call rfl (by rfl) 141 #[.bool true] (exec_call _ _ _ rfl _ (by simp [Act.eval]) (enters_tneed _ _)) _ (need_yes _) ?_)
     rintro e wy ⟨rfl, ey⟩
     subst ey
     refine ⟨_, rfl, hSz, ?_⟩
     simp only [Act.put, zA, zB, zC, zD, zE, zF]
     refine wpAnyH_done (by kernel_rfl) ?_ _
     rw [if_pos hEq] at HD
     have KZ : Kept [] w wy := (K3.trans (Kept.refl [] w3).drew).trans kz
     have FIN : Hid (NbV wy (fun y => w.heap.size ≤ y) (.branch l) (.iface 180 (.slice p l.length cc))) := ⟨_, rfl, SL.kept HL3.out ((Kept.refl [] w3).drew.trans kz), fun b hb => Nat.le_trans K2.size (ho3 b hb)⟩
     clear hSd hSz hl3
     go_wp2
     go_ret
     refine ⟨?_, KZ⟩
     rw [HD.out]
     exact ⟨_, rfl, FIN.out⟩
    ·rw [show decide (encB l = B) = false from decide_eq_false hEq]
     refine ht (i := 7) (v := (.bool false)) rfl (by kernel_rfl) (by rfl) (fun W hW => by rfl) (fun _ _ _ h => h) hSz ?_
     simp only [Act.put, zA, zB, zC, zD, zE, zF]
     refine held_one (i := 8) (by kernel_rfl) (wpOp_callB rfl (by rfl) 141 #[.bool false] (exec_call _ _ _ rfl _ (by simp [Act.eval]) (enters_tneed _ _)) _ (need_no _) ?_)
     rintro e wy ⟨ht, ky⟩
     obtain ⟨f, o, rfl, hf⟩ := ht.ex
     refine Or.inr ⟨_, rfl, rfl, ?_⟩
     rw [if_neg hEq] at HD
     refine ⟨?_, ((K3.trans (Kept.refl [] w3).drew).trans kz).trans ky⟩
     rw [HD.out]
     exact ht
  ·have hi7 : ¬ (b0.toNat : Int) = 76 := fun e => hb0 (UInt8.toNat_inj.1 (by show b0.toNat = 76; omega))
   have hi6 : ¬ (b0.toNat : Int) = 66 := fun e => hb6 (UInt8.toNat_inj.1 (by show b0.toNat = 66; omega))
   have HD : Hid (decN B = none) := by
    show _ = _
    unfold decN
    simp only [hB0]
    rw [if_neg (by simpa using hb0), if_neg (by simpa using hb6)]
   go_wp2_with fail
   have hSd : TnS w.heap.size B w2.drew := hrow
   refine wp_region_S (TnS w.heap.size B) (by kernel_rfl) ?_
   refine ht (i := 0) (v := .nilIface) rfl (by kernel_rfl) (by rfl) (fun W hW => by rfl) (fun _ _ _ h => h) hSd ?_
   simp only [Act.put, zA, zC, zD, zE, zF]
   refine ht (i := 1) (v := (.bool false)) rfl (by kernel_rfl) (by rfl) (fun W hW => by rfl) (fun _ _ _ h => h) hSd ?_
   simp only [Act.put, zA, zB, zC, zD, zE, zF]
   refine ht (i := 2) (v := (.bool false)) rfl (by kernel_rfl) (by rfl) (fun W hW => by rfl) (fun _ _ _ h => h) hSd ?_
   simp only [Act.put, zA, zB, zC, zD, zE, zF]
   refine wpAnyH_take (i := 3) (v := undef) rfl (by kernel_rfl) (by kernel_rfl) (by kernel_rfl) (fun _ _ _ h => h) (Or.inr ⟨by rfl, rfl⟩) hSd ?_
   simp only [Act.put, zA, zB, zC, zD, zE, zF]
   refine wpAnyH_take (i := 4) (v := undef) rfl (by kernel_rfl) (by kernel_rfl) (by kernel_rfl) (fun _ _ _ h => h) (Or.inr ⟨by rfl, rfl⟩) hSd ?_
   simp only [Act.put, zA, zB, zC, zD, zE, zF]
   refine wpAnyH_take (i := 5) (v := undef) rfl (by kernel_rfl) (by kernel_rfl) (by kernel_rfl) (fun _ _ _ h => h) (Or.inr ⟨by rfl, rfl⟩) hSd ?_
   simp only [Act.put, zA, zB, zC, zD, zE, zF]
   refine wpAnyH_take (i := 6) (v := undef) rfl (by kernel_rfl) (by kernel_rfl) (by kernel_rfl) (fun _ _ _ h => h) (Or.inr ⟨by rfl, rfl⟩) hSd ?_
   simp only [Act.put, zA, zB, zC, zD, zE, zF]
   refine ht (i := 7) (v := (.bool false)) rfl (by kernel_rfl) (by rfl) (fun W hW => by rfl) (fun _ _ _ h => h) hSd ?_
   simp only [Act.put, zA, zB, zC, zD, zE, zF]
   refine held_one (i := 8) (by kernel_rfl) (wpOp_callB rfl (by rfl) 141 #[.bool false] (exec_call _ _ _ rfl _ (by simp [Act.eval]) (enters_tneed _ _)) _ (need_no _) ?_)
   rintro e wy ⟨ht, ky⟩
   obtain ⟨f, o, rfl, hf⟩ := ht.ex
   refine Or.inr ⟨_, rfl, rfl, ?_, (K2.trans (Kept.refl [] w2).drew).trans ky⟩
   rw [HD.out]
   exact ht

end Go.Proofs.YtcklgafpgdhnaabGreatDoor
