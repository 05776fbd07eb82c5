import Derived.Test.YtloihcnbcknbnaaGreatDoorPtav
namespace Go.Proofs.YtloihcnbcknbnaaGreatDoor
open Go.RowKit

section
variable {α : Type}
theorem splice_take (L cs : List α) (o k : Nat) (hk : k ≤ o) (ho : o ≤ L.length) : (splice L o cs).take k = L.take k := by
  unfold splice
  rw [List.take_append_of_le_length (by rw [List.length_take]; omega), List.take_take, Nat.min_eq_left hk]
theorem splice_drop (L cs : List α) (o k : Nat) (hk : o + cs.length ≤ k) (ho : o ≤ L.length) : (splice L o cs).drop k = L.drop k := by
  unfold splice
  rw [List.drop_append, List.drop_of_length_le (by rw [List.length_take]; omega), List.nil_append, List.length_take, Nat.min_eq_left ho, List.drop_append, List.drop_of_length_le (by omega), List.nil_append, List.drop_drop]
  congr 1; omega
theorem splice_mid (L cs : List α) (o : Nat) (ho : o ≤ L.length) : ((splice L o cs).drop o).take cs.length = cs := by
  unfold splice
  rw [List.drop_append, List.drop_of_length_le (by rw [List.length_take]; omega), List.nil_append, List.length_take, Nat.min_eq_left ho, Nat.sub_self, List.drop_zero, List.take_append_of_le_length (Nat.le_refl _), List.take_of_length_le (Nat.le_refl _)]
theorem take_parts (L : List α) (a b c : Nat) : L.take (a + b + c) = L.take a ++ ((L.drop a).take b ++ (L.drop (a + b)).take c) := by
  rw [Nat.add_assoc, List.take_add, List.take_add, List.drop_drop]
end

section
variable (es vs : List (Value × Value)) (cur : List Value) (i j n m : Nat) (hn : n = es.length) (hm : m = vs.length) (hij : i ≤ j) (hjn : j ≤ n) (htk : cur.take (n * 2) = fl es)
include hn htk
theorem part_of (hjn : j ≤ n) : (cur.drop (j * 2)).take ((n - j) * 2) = fl (es.drop j) := by
  rw [← fl_drop, ← htk, List.drop_take]
  congr 1; omega
theorem head_of (hin : i ≤ n) : cur.take (i * 2) = fl (es.take i) := by
  rw [← fl_take, ← htk, List.take_take]
  congr 1; omega
include hm hij hjn
theorem take_shift (hc : (i + m + (n - j)) * 2 ≤ cur.length) :
    (splice (splice cur ((i + m) * 2) ((cur.drop (j * 2)).take ((n - j) * 2))) (i * 2) (fl vs)).take ((i + m + (n - j)) * 2) = fl (es.take i ++ vs ++ es.drop j) := by
  rw [part_of es cur j n hn htk hjn]
  have l1 : (fl vs).length = m * 2 := by rw [fl_len, hm]
  have l2 : (fl (es.drop j)).length = (n - j) * 2 := by rw [fl_len, List.length_drop, hn]
  have l3 : (splice cur ((i + m) * 2) (fl (es.drop j))).length = cur.length := length_splice _ _ _ (by omega)
  rw [show (i + m + (n - j)) * 2 = i * 2 + m * 2 + (n - j) * 2 by omega, take_parts]
  rw [splice_take _ _ _ _ (Nat.le_refl _) (by omega), splice_take _ _ _ _ (by omega) (by omega), head_of es cur i n hn htk (by omega)]
  rw [← l1, splice_mid _ _ _ (by omega), splice_drop _ _ _ _ (Nat.le_refl _) (by omega), l1, ← Nat.add_mul, ← l2, splice_mid _ _ _ (by omega), fl_append, fl_append, List.append_assoc]
theorem take_fit (zs : List Value) (hmj : i + m ≤ j) (hc : n * 2 ≤ cur.length) :
    (splice (splice (splice cur (i * 2) (fl vs)) ((i + m) * 2) (((splice cur (i * 2) (fl vs)).drop (j * 2)).take ((n - j) * 2))) ((i + m + (n - j)) * 2) zs).take ((i + m + (n - j)) * 2) = fl (es.take i ++ vs ++ es.drop j) := by
  have l1 : (fl vs).length = m * 2 := by rw [fl_len, hm]
  have l2 : (fl (es.drop j)).length = (n - j) * 2 := by rw [fl_len, List.length_drop, hn]
  have l3 : (splice cur (i * 2) (fl vs)).length = cur.length := length_splice _ _ _ (by omega)
  rw [splice_drop cur _ _ _ (by omega) (by omega), part_of es cur j n hn htk hjn]
  have l4 : (splice (splice cur (i * 2) (fl vs)) ((i + m) * 2) (fl (es.drop j))).length = cur.length := by rw [length_splice _ _ _ (by omega), l3]
  rw [splice_take _ _ _ _ (Nat.le_refl _) (by omega), show (i + m + (n - j)) * 2 = i * 2 + m * 2 + (n - j) * 2 by omega, take_parts]
  rw [splice_take _ _ _ _ (by omega) (by omega), splice_take _ _ _ _ (Nat.le_refl _) (by omega), head_of es cur i n hn htk (by omega)]
  rw [← Nat.add_mul, ← l2, splice_mid _ _ _ (by omega)]
  have e1 : (List.drop (i * 2) (splice (splice cur (i * 2) (fl vs)) ((i + m) * 2) (fl (es.drop j)))).take (m * 2) = fl vs := by
    have : ((splice (splice cur (i * 2) (fl vs)) ((i + m) * 2) (fl (es.drop j))).take ((i + m) * 2)).drop (i * 2) = fl vs := by
      rw [splice_take _ _ _ _ (Nat.le_refl _) (by omega), List.drop_take, show (i + m) * 2 - i * 2 = m * 2 by omega, ← l1, splice_mid _ _ _ (by omega)]
    rw [List.drop_take, show (i + m) * 2 - i * 2 = m * 2 by omega] at this
    exact this
  rw [e1, fl_append, fl_append, List.append_assoc]
theorem take_new (rest : List Value) (hc : (i + m + (n - j)) * 2 ≤ (cur.take (i * 2) ++ rest).length) (hin : i * 2 ≤ cur.length) :
    (splice (splice (cur.take (i * 2) ++ rest) (i * 2) (fl vs)) ((i + m) * 2) ((cur.drop (j * 2)).take ((n - j) * 2))).take ((i + m + (n - j)) * 2) = fl (es.take i ++ vs ++ es.drop j) := by
  rw [part_of es cur j n hn htk hjn]
  have l1 : (fl vs).length = m * 2 := by rw [fl_len, hm]
  have l2 : (fl (es.drop j)).length = (n - j) * 2 := by rw [fl_len, List.length_drop, hn]
  have l3 : (splice (cur.take (i * 2) ++ rest) (i * 2) (fl vs)).length = (cur.take (i * 2) ++ rest).length := length_splice _ _ _ (by omega)
  rw [show (i + m + (n - j)) * 2 = i * 2 + m * 2 + (n - j) * 2 by omega, take_parts]
  rw [splice_take _ _ _ _ (by omega) (by omega), splice_take _ _ _ _ (Nat.le_refl _) (by omega)]
  rw [← Nat.add_mul, ← l2, splice_mid _ _ _ (by omega)]
  have e0 : (cur.take (i * 2) ++ rest).take (i * 2) = fl (es.take i) := by
    rw [List.take_append_of_le_length (by rw [List.length_take]; omega), List.take_take, Nat.min_self, head_of es cur i n hn htk (by omega)]
  have e1 : (List.drop (i * 2) (splice (splice (cur.take (i * 2) ++ rest) (i * 2) (fl vs)) ((i + m) * 2) (fl (es.drop j)))).take (m * 2) = fl vs := by
    have : ((splice (splice (cur.take (i * 2) ++ rest) (i * 2) (fl vs)) ((i + m) * 2) (fl (es.drop j))).take ((i + m) * 2)).drop (i * 2) = fl vs := by
      rw [splice_take _ _ _ _ (Nat.le_refl _) (by omega), List.drop_take, show (i + m) * 2 - i * 2 = m * 2 by omega, ← l1, splice_mid _ _ _ (by omega)]
    rw [List.drop_take, show (i + m) * 2 - i * 2 = m * 2 by omega] at this
    exact this
  rw [e0, e1, fl_append, fl_append, List.append_assoc]
end

/-- append, whatever the second one is called -/
theorem append_tu {P : Program} (w : World) (t u ty e d : TypeId) (i : TypeInfo) (ht : P.underlying t = some (.slice e)) (hu : P.underlying u = some (.slice d)) (hi : P.info? e = some i) (b : Option Addr) (n c : Nat) (x : Value) :
    (Builtin.append_ #[t, u] ty #[.slice b n c, x]).run P w = (Builtin.append_ #[t, t] ty #[.slice b n c, x]).run P w := by
  simp [Builtin.append_, run_underlying ht, run_underlying hu, sizeOf, typeInfo, hi]

end Go.Proofs.YtloihcnbcknbnaaGreatDoor

namespace Go.Proofs.YtloihcnbcknbnaaGreatDoor
open Go.RowKit

theorem exec_addN {o : Oper} {a : Act} {w : World} (x y : Operand) (ho : o.op = .binOp .add 3 x y 3) (m n : Nat) (hx : a.eval x = .int .i64 m) (hy : a.eval y = .int .i64 n) (hb : m + n < 1000000000000000000) :
    (execOp a.eval o).run Tryz.prog w = .ok (.value (.int .i64 ((m + n : Nat) : Int))) w := by
  have hw : IntKind.i64.wrap ((m : Int) + (n : Int)) = (m : Int) + (n : Int) := by rw [IntKind.wrap_i64]; omega
  have hr : (binOp .add 3 (.int .i64 m) (.int .i64 n)).run Tryz.prog w = .ok (.int .i64 (IntKind.i64.wrap ((m : Int) + (n : Int)))) w := rfl
  rw [hw] at hr
  have hg : (eqGuard .add 3 x y (.int .i64 m) (.int .i64 n)).run Tryz.prog w = .ok () w := by simp [eqGuard]
  simp [execOp, ho, hx, hy, hr, hg]

theorem nmin_l {a b : Nat} (h : a ≤ b) : Nat.min a b = a := Nat.min_eq_left h
theorem nmin_r {a b : Nat} (h : b ≤ a) : Nat.min a b = b := Nat.min_eq_right h

set_option maxRecDepth 100000 in
set_option maxHeartbeats 4000000 in
theorem insP_new (B : Nat) (es : List (Value × Value)) (i : Nat) (w : World) (g cap : Nat) (cur : List Value) (_hB : B ≤ g) (hg : Rw w g 114 cur) (hc1 : es.length ≤ cap) (_hc2 : cap ≤ maxLen) (hc3 : cur.length = cap * 2) (htk : cur.take (es.length * 2) = fl es) (h1 : One es) (hi : i < es.length) (hl : es.length ≤ 50000)
    (gv off cv : Nat) (vs : List (Value × Value)) (hv : SL w 114 (.slice (some ⟨gv, off, none⟩) vs.length cv) vs) (hv1 : One vs) (hv0 : 0 < vs.length) (hv2 : vs.length ≤ 1000) (hroom : cap < es.length + vs.length) (hBw : B ≤ w.heap.size) :
    Calls Tryz.prog 130 #[.slice (some ⟨g, 0, none⟩) (es.length) cap, .int .i64 i, .slice (some ⟨gv, off, none⟩) vs.length cv] w (OwnR B 114 (.slice (some ⟨g, 0, none⟩) (es.length) cap) (es.take i ++ vs ++ es.drop i) w) := by
  obtain ⟨ie, hie, hz1, hz2, hz3⟩ := info_parts itp
  have gw : g < w.heap.size := (Array.getElem?_eq_some_iff.1 hg).1
  have f1 : (i : Int) ≤ (es.length : Int) := by omega
  have f2 : ¬ (vs.length : Int) = 0 := by omega
  have f3 : ¬ (i : Int) = (es.length : Int) := by omega
  have f4 : (cap : Int) < (es.length : Int) + (vs.length : Int) := by omega
  obtain ⟨w1, cap2, rest, hr1, hg1, hc4, hc5, hc6, k1⟩ := appendZeros (P := Tryz.prog) hg 108 3 ie _ Tryz.underlying108 Tryz.underlying3 hie hz1 hz2 hz3 rfl cap i (by omega) hc3 (es.length + vs.length - i) (by omega) (by omega) (by omega)
  rw [show i + (es.length + vs.length - i) = es.length + vs.length by omega] at hr1 hc5
  rw [show ((es.length + vs.length - i : Nat) : Int) = (es.length : Int) + (vs.length : Int) - (i : Int) by omega] at hr1
  obtain ⟨w2, hr2, hg2, k2⟩ := copyTo (P := Tryz.prog) hg1 108 107 114 Tryz.underlying108 stp cap2 (es.length + vs.length) i (by omega) hc5 hc4 ⟨gv, off, none⟩ vs.length cv (fl vs) (by rw [fl_len, nmin_l (by omega)]) (hv.kept k1).src.2 hv1.fl
  have lcs : ((cur.drop (i * 2)).take ((es.length - i) * 2)).length = (es.length - i) * 2 := by rw [List.length_take, List.length_drop]; omega
  have lfl : (fl vs).length = vs.length * 2 := fl_len vs
  have l2 : (splice (cur.take (i * 2) ++ rest) (i * 2) (fl vs)).length = cap2 * 2 := by rw [length_splice _ _ _ (by omega), hc4]
  have hgo : Rw w2.drew g 114 cur := ((hg.kept k1 (by simp)).kept k2 (by simp; omega)).drew
  obtain ⟨w3, hr3, hg3, k3⟩ := copyTo (P := Tryz.prog) hg2.drew 108 108 114 Tryz.underlying108 stp cap2 (es.length + vs.length) (i + vs.length) (by omega) hc5 l2 (cutA g 0 cap i) (es.length - i) (cap - i) ((cur.drop (i * 2)).take ((es.length - i) * 2)) (by rw [lcs, nmin_l (by omega)]) (hgo.src cap i (es.length - i) (by omega)) (one_part h1 htk i _ (by omega))
  have fin : OwnR B 114 (.slice (some ⟨g, 0, none⟩) (es.length) cap) (es.take i ++ vs ++ es.drop i) w (.returned (.slice (some ⟨w.heap.size, 0, none⟩) (es.length + vs.length) cap2)) w3 := by
    refine ⟨_, rfl, OW.close hBw hg3 (by simp; omega) hc5 hc6 (by rw [length_splice _ _ _ (by rw [lcs, l2]; omega), l2]) ?_, ((k1.trans2 k2 (by intro x hx; simp at hx; omega)).drew.trans2 k3 (by intro x hx; simp at hx; omega)).mono (by simp)⟩
    have := take_new es vs cur i i es.length vs.length rfl rfl (Nat.le_refl _) (by omega) htk rest (by omega) (by omega)
    rw [show i + vs.length + (es.length - i) = es.length + vs.length by omega] at this
    exact this
  have FIN : Hid _ := fin
  have hsl1 : ∀ W : World, (Instr.sliceAt 108 (.slice (some ⟨g, 0, none⟩) (es.length) cap) none (some (.int .i64 (i : Int))) none).run Tryz.prog W = .ok (.slice (some ⟨g, 0, none⟩) (i) cap) W := fun W => run_slice_hi W 108 114 g 0 es.length cap Tryz.underlying108 stp i (by omega)
  have hsl2 : ∀ W : World, (Instr.sliceAt 108 (.slice (some ⟨w.heap.size, 0, none⟩) (es.length + vs.length) cap2) (some (.int .i64 (i : Int))) none none).run Tryz.prog W = .ok (.slice (some (cutA w.heap.size 0 cap2 (i))) (es.length + vs.length - (i)) (cap2 - (i))) W := fun W => run_slice_lo W 108 114 w.heap.size 0 (es.length + vs.length) cap2 Tryz.underlying108 stp i (by omega)
  clear fin k1 k2 k3 hg3 hg2 hg1 hgo
  go_enter Tryz.func130, Tryz.ntmps130
  go_wp2_with (first
    | (at_builtin; (refine wpList_val rfl _ w1 (exec_append2 (.tmp 34) (.tmp 39) 108 3 rfl _ _ rfl rfl _ (hr1 _)) ?_))
    | (at_builtin; (refine wpList_val rfl _ w2 (exec_copy2 (.tmp 43) (.tmp 44) 108 107 rfl _ _ rfl rfl _ (hr2 _)) ?_)))
  refine wp_region_S (fun _ : World => True) (by kernel_rfl) ?_
  refine wpAnyH_take (i := 0) (v := .slice (some ⟨w.heap.size, 0, none⟩) (es.length + vs.length) cap2) rfl (by kernel_rfl) (by kernel_rfl) (by kernel_rfl) (fun _ _ _ h => h) (Or.inl ⟨by rfl, fun W hW => by rfl⟩) trivial ?_
  simp only [Act.put, List.getElem_toArray, List.getElem_cons_zero, List.setIfInBounds_toArray, List.set_cons_succ, List.set_cons_zero]
  refine wpAnyH_take (i := 1) (v := .int .i64 i) rfl (by kernel_rfl) (by kernel_rfl) (by kernel_rfl) (fun _ _ _ h => h) (Or.inl ⟨by rfl, fun W hW => by rfl⟩) trivial ?_
  simp only [Act.put, List.getElem_toArray, List.getElem_cons_succ, List.getElem_cons_zero, List.setIfInBounds_toArray, List.set_cons_succ, List.set_cons_zero]
  refine wpAnyH_take (i := 2) (v := .int .i64 vs.length) rfl (by kernel_rfl) (by kernel_rfl) (by kernel_rfl) (fun _ _ _ h => h) (Or.inl ⟨by rfl, fun W hW => by rfl⟩) trivial ?_
  simp only [Act.put, List.getElem_toArray, List.getElem_cons_succ, List.getElem_cons_zero, List.setIfInBounds_toArray, List.set_cons_succ, List.set_cons_zero]
  refine wpAnyH_take (i := 3) (v := .int .i64 ((i + vs.length : Nat) : Int)) rfl (by kernel_rfl) (by kernel_rfl) (by kernel_rfl) (fun _ _ _ h => h) (Or.inl ⟨by rfl, fun W hW => exec_addN (.tmp 47) (.tmp 48) rfl (i) (vs.length) rfl rfl (by omega)⟩) trivial ?_
  simp only [Act.put, List.getElem_toArray, List.getElem_cons_succ, List.getElem_cons_zero, List.setIfInBounds_toArray, List.set_cons_succ, List.set_cons_zero]
  refine wpAnyH_take (i := 4) (v := .slice (some (cutA w.heap.size 0 cap2 (i + vs.length))) (es.length + vs.length - (i + vs.length)) (cap2 - (i + vs.length))) rfl (by kernel_rfl) (by kernel_rfl) (by kernel_rfl) (fun _ _ _ h => h) (Or.inl ⟨by rfl, fun W hW => exec_slice 108 (.tmp 46) (some (.tmp 49)) none none rfl _ (some (.int .i64 ((i + vs.length : Nat) : Int))) none none rfl rfl rfl rfl _ (run_slice_lo W 108 114 w.heap.size 0 (es.length + vs.length) cap2 Tryz.underlying108 stp (i + vs.length) (by omega))⟩) trivial ?_
  simp only [Act.put, List.getElem_toArray, List.getElem_cons_succ, List.getElem_cons_zero, List.setIfInBounds_toArray, List.set_cons_succ, List.set_cons_zero]
  refine wpAnyH_take (i := 5) (v := .slice (some ⟨g, 0, none⟩) (es.length) cap) rfl (by kernel_rfl) (by kernel_rfl) (by kernel_rfl) (fun _ _ _ h => h) (Or.inl ⟨by rfl, fun W hW => by rfl⟩) trivial ?_
  simp only [Act.put, List.getElem_toArray, List.getElem_cons_succ, List.getElem_cons_zero, List.setIfInBounds_toArray, List.set_cons_succ, List.set_cons_zero]
  refine wpAnyH_take (i := 6) (v := .int .i64 i) rfl (by kernel_rfl) (by kernel_rfl) (by kernel_rfl) (fun _ _ _ h => h) (Or.inl ⟨by rfl, fun W hW => by rfl⟩) trivial ?_
  simp only [Act.put, List.getElem_toArray, List.getElem_cons_succ, List.getElem_cons_zero, List.setIfInBounds_toArray, List.set_cons_succ, List.set_cons_zero]
  refine wpAnyH_take (i := 7) (v := .slice (some (cutA g 0 cap (i))) (es.length - (i)) (cap - (i))) rfl (by kernel_rfl) (by kernel_rfl) (by kernel_rfl) (fun _ _ _ h => h) (Or.inl ⟨by rfl, fun W hW => exec_slice 108 (.tmp 51) (some (.tmp 52)) none none rfl _ (some (.int .i64 ((i : Nat) : Int))) none none rfl rfl rfl rfl _ (run_slice_lo W 108 114 g 0 (es.length) cap Tryz.underlying108 stp (i) (by omega))⟩) trivial ?_
  simp only [Act.put, List.getElem_toArray, List.getElem_cons_succ, List.getElem_cons_zero, List.setIfInBounds_toArray, List.set_cons_succ, List.set_cons_zero]
  refine held_one (i := 8) (by kernel_rfl) (wpOp_valW rfl (by rfl) _ w3 (exec_copy2 (.tmp 50) (.tmp 53) 108 108 rfl _ _ rfl rfl _ (hr3 _)) ⟨trivial, ?_⟩)
  simp only [Act.put, List.getElem_toArray, List.getElem_cons_succ, List.getElem_cons_zero, List.setIfInBounds_toArray, List.set_cons_succ, List.set_cons_zero]
  refine wpAnyH_done (by kernel_rfl) ?_ _
  go_wp2
  go_ret
  exact FIN.out

set_option maxRecDepth 100000 in
set_option maxHeartbeats 4000000 in
theorem insP_shift (B : Nat) (es : List (Value × Value)) (i : Nat) (w : World) (g cap : Nat) (cur : List Value) (hB : B ≤ g) (hg : Rw w g 114 cur) (hc1 : es.length ≤ cap) (hc2 : cap ≤ maxLen) (hc3 : cur.length = cap * 2) (htk : cur.take (es.length * 2) = fl es) (h1 : One es) (hi : i < es.length) (hl : es.length ≤ 50000)
    (gv off cv : Nat) (vs : List (Value × Value)) (hv : SL w 114 (.slice (some ⟨gv, off, none⟩) vs.length cv) vs) (hv1 : One vs) (hv0 : 0 < vs.length) (hv2 : vs.length ≤ 1000) (hroom : es.length + vs.length ≤ cap) (hap : gv ≠ g) :
    Calls Tryz.prog 130 #[.slice (some ⟨g, 0, none⟩) (es.length) cap, .int .i64 i, .slice (some ⟨gv, off, none⟩) vs.length cv] w (OwnR B 114 (.slice (some ⟨g, 0, none⟩) (es.length) cap) (es.take i ++ vs ++ es.drop i) w) := by
  have f1 : (i : Int) ≤ (es.length : Int) := by omega
  have f2 : ¬ (vs.length : Int) = 0 := by omega
  have f3 : ¬ (i : Int) = (es.length : Int) := by omega
  have f4 : ¬ (cap : Int) < (es.length : Int) + (vs.length : Int) := by omega
  have hvb := hv.src
  have hvh : ∃ cu, w.heap[gv]? = some (.cells cu 114 (0, 0)) := by
    obtain ⟨g', off', cap', cu, e, hh, _⟩ := hv.at_ hv0
    cases e
    exact ⟨cu, hh⟩
  obtain ⟨cu, hvh⟩ := hvh
  have hov := apartTo (P := Tryz.prog) 107 4 Tryz.underlying107 stp ⟨gv, off, none⟩ (cutA g 0 cap (i + vs.length)) vs.length cv (es.length + vs.length - (i + vs.length)) (cap - (i + vs.length)) hvh (cutA_block _ _ _ _) hg hap (by omega)
  have he := @run_callFunc_extern Tryz.prog 131 _ (Extern.SlicesOverlaps.overlaps #[107, 107] #[4]) Tryz.func131 (by kernel_rfl) (by kernel_rfl) (by kernel_rfl) (by kernel_rfl)
  have lcs : ((cur.drop (i * 2)).take ((es.length - i) * 2)).length = (es.length - i) * 2 := by rw [List.length_take, List.length_drop]; omega
  have lfl : (fl vs).length = vs.length * 2 := fl_len vs
  have hgd : Rw w.drew g 114 cur := hg.drew
  obtain ⟨w1, hr1, hg1, k1⟩ := copyTo (P := Tryz.prog) hgd 108 108 114 Tryz.underlying108 stp cap (es.length + vs.length) (i + vs.length) (by omega) hroom hc3 (cutA g 0 cap i) (es.length + vs.length - i) (cap - i) ((cur.drop (i * 2)).take ((es.length - i) * 2)) (by rw [lcs, nmin_r (by omega)]; omega) (hgd.src cap i (es.length - i) (by omega)) (one_part h1 htk i _ (by omega))
  have l1 : (splice cur ((i + vs.length) * 2) ((cur.drop (i * 2)).take ((es.length - i) * 2))).length = cap * 2 := by rw [length_splice _ _ _ (by omega), hc3]
  have K1 : Kept [g] w w1 := (Kept.refl [g] w).drew.trans k1
  have hv' : ∀ j u, (fl vs)[j]? = some u → w1.cell? ((⟨gv, off, none⟩ : Addr).add j) = some u := by
    intro j u hj
    have := hvb.2 j u hj
    rw [add_lit] at this ⊢
    rw [cell_of_row _ _ _ _ _ _ hvh] at this
    rw [cell_of_row _ _ _ _ _ _ (K1.get hvh (by simp; omega))]
    exact this
  obtain ⟨w2, hr2, hg2, k2⟩ := copyTo (P := Tryz.prog) hg1 108 107 114 Tryz.underlying108 stp cap (es.length + vs.length) i (by omega) hroom l1 ⟨gv, off, none⟩ vs.length cv (fl vs) (by rw [lfl, nmin_l (by omega)]) hv' hv1.fl
  have fin : OwnR B 114 (.slice (some ⟨g, 0, none⟩) (es.length) cap) (es.take i ++ vs ++ es.drop i) w (.returned (.slice (some ⟨g, 0, none⟩) (es.length + vs.length) cap)) w2 := by
    refine ⟨_, rfl, OW.close hB hg2 (by simp; omega) hroom hc2 (by rw [length_splice _ _ _ (by omega), l1]) ?_, K1.trans k2⟩
    have := take_shift es vs cur i i es.length vs.length rfl rfl (Nat.le_refl _) (by omega) htk (by omega)
    rw [show i + vs.length + (es.length - i) = es.length + vs.length by omega] at this
    exact this
  have FIN : Hid _ := fin
  have hsl1 : ∀ W : World, (Instr.sliceAt 108 (.slice (some ⟨g, 0, none⟩) (es.length) cap) none (some (.int .i64 ((es.length : Int) + (vs.length : Int)))) none).run Tryz.prog W = .ok (.slice (some ⟨g, 0, none⟩) (es.length + vs.length) cap) W := fun W => by
    have := run_slice_hi (P := Tryz.prog) W 108 114 g 0 es.length cap Tryz.underlying108 stp (es.length + vs.length) (by omega)
    rwa [Int.natCast_add] at this
  have hsl2 : ∀ W : World, (Instr.sliceAt 108 (.slice (some ⟨g, 0, none⟩) (es.length + vs.length) cap) (some (.int .i64 ((i : Int) + (vs.length : Int)))) none none).run Tryz.prog W = .ok (.slice (some (cutA g 0 cap (i + vs.length))) (es.length + vs.length - (i + vs.length)) (cap - (i + vs.length))) W := fun W => by
    have := run_slice_lo (P := Tryz.prog) W 108 114 g 0 (es.length + vs.length) cap Tryz.underlying108 stp (i + vs.length) (by omega)
    rwa [Int.natCast_add] at this
  have hsl3 : ∀ W : World, (Instr.sliceAt 108 (.slice (some ⟨g, 0, none⟩) (es.length + vs.length) cap) (some (.int .i64 (i : Int))) none none).run Tryz.prog W = .ok (.slice (some (cutA g 0 cap (i))) (es.length + vs.length - (i)) (cap - (i))) W := fun W => run_slice_lo (P := Tryz.prog) W 108 114 g 0 (es.length + vs.length) cap Tryz.underlying108 stp i (by omega)
  clear fin K1 k1 k2 hg2 hg1 hgd hvb hvh
  go_enter Tryz.func130, Tryz.ntmps130
  go_wp2
  refine wp_region_S (fun _ : World => True) (by kernel_rfl) ?_
  refine wpAnyH_take (i := 0) (v := .slice (some ⟨g, 0, none⟩) (es.length + vs.length) cap) rfl (by kernel_rfl) (by kernel_rfl) (by kernel_rfl) (fun _ _ _ h => h) (Or.inl ⟨by rfl, fun W hW => by rfl⟩) trivial ?_
  simp only [Act.put, List.getElem_toArray, List.getElem_cons_zero, List.setIfInBounds_toArray, List.set_cons_succ, List.set_cons_zero]
  refine wpAnyH_take (i := 1) (v := .int .i64 i) rfl (by kernel_rfl) (by kernel_rfl) (by kernel_rfl) (fun _ _ _ h => h) (Or.inl ⟨by rfl, fun W hW => by rfl⟩) trivial ?_
  simp only [Act.put, List.getElem_toArray, List.getElem_cons_succ, List.getElem_cons_zero, List.setIfInBounds_toArray, List.set_cons_succ, List.set_cons_zero]
  refine wpAnyH_take (i := 2) (v := .int .i64 vs.length) rfl (by kernel_rfl) (by kernel_rfl) (by kernel_rfl) (fun _ _ _ h => h) (Or.inl ⟨by rfl, fun W hW => by rfl⟩) trivial ?_
  simp only [Act.put, List.getElem_toArray, List.getElem_cons_succ, List.getElem_cons_zero, List.setIfInBounds_toArray, List.set_cons_succ, List.set_cons_zero]
  refine wpAnyH_take (i := 3) (v := .int .i64 ((i + vs.length : Nat) : Int)) rfl (by kernel_rfl) (by kernel_rfl) (by kernel_rfl) (fun _ _ _ h => h) (Or.inl ⟨by rfl, fun W hW => exec_addN (.tmp 70) (.tmp 71) rfl (i) (vs.length) rfl rfl (by omega)⟩) trivial ?_
  simp only [Act.put, List.getElem_toArray, List.getElem_cons_succ, List.getElem_cons_zero, List.setIfInBounds_toArray, List.set_cons_succ, List.set_cons_zero]
  refine wpAnyH_take (i := 4) (v := .slice (some (cutA g 0 cap (i + vs.length))) (es.length + vs.length - (i + vs.length)) (cap - (i + vs.length))) rfl (by kernel_rfl) (by kernel_rfl) (by kernel_rfl) (fun _ _ _ h => h) (Or.inl ⟨by rfl, fun W hW => exec_slice 108 (.tmp 69) (some (.tmp 72)) none none rfl _ (some (.int .i64 ((i + vs.length : Nat) : Int))) none none rfl rfl rfl rfl _ (run_slice_lo W 108 114 g 0 (es.length + vs.length) cap Tryz.underlying108 stp (i + vs.length) (by omega))⟩) trivial ?_
  simp only [Act.put, List.getElem_toArray, List.getElem_cons_succ, List.getElem_cons_zero, List.setIfInBounds_toArray, List.set_cons_succ, List.set_cons_zero]
  refine wpAnyH_take (i := 5) (v := .slice (some ⟨g, 0, none⟩) (es.length + vs.length) cap) rfl (by kernel_rfl) (by kernel_rfl) (by kernel_rfl) (fun _ _ _ h => h) (Or.inl ⟨by rfl, fun W hW => by rfl⟩) trivial ?_
  simp only [Act.put, List.getElem_toArray, List.getElem_cons_succ, List.getElem_cons_zero, List.setIfInBounds_toArray, List.set_cons_succ, List.set_cons_zero]
  refine wpAnyH_take (i := 6) (v := .int .i64 i) rfl (by kernel_rfl) (by kernel_rfl) (by kernel_rfl) (fun _ _ _ h => h) (Or.inl ⟨by rfl, fun W hW => by rfl⟩) trivial ?_
  simp only [Act.put, List.getElem_toArray, List.getElem_cons_succ, List.getElem_cons_zero, List.setIfInBounds_toArray, List.set_cons_succ, List.set_cons_zero]
  refine wpAnyH_take (i := 7) (v := .slice (some (cutA g 0 cap (i))) (es.length + vs.length - (i)) (cap - (i))) rfl (by kernel_rfl) (by kernel_rfl) (by kernel_rfl) (fun _ _ _ h => h) (Or.inl ⟨by rfl, fun W hW => exec_slice 108 (.tmp 74) (some (.tmp 75)) none none rfl _ (some (.int .i64 ((i : Nat) : Int))) none none rfl rfl rfl rfl _ (run_slice_lo W 108 114 g 0 (es.length + vs.length) cap Tryz.underlying108 stp (i) (by omega))⟩) trivial ?_
  simp only [Act.put, List.getElem_toArray, List.getElem_cons_succ, List.getElem_cons_zero, List.setIfInBounds_toArray, List.set_cons_succ, List.set_cons_zero]
  refine held_one (i := 8) (by kernel_rfl) (wpOp_valW rfl (by rfl) _ w1 (exec_copy2 (.tmp 73) (.tmp 76) 108 108 rfl _ _ rfl rfl _ (hr1 _)) ⟨trivial, ?_⟩)
  simp only [Act.put, List.getElem_toArray, List.getElem_cons_succ, List.getElem_cons_zero, List.setIfInBounds_toArray, List.set_cons_succ, List.set_cons_zero]
  refine wpAnyH_done (by kernel_rfl) ?_ _
  go_wp2_with (first
    | (at_builtin; (refine wpList_val rfl _ w2 (exec_copy2 (.tmp 80) (.tmp 81) 108 107 rfl _ _ rfl rfl _ (hr2 _)) ?_)))
  go_ret
  exact FIN.out

end Go.Proofs.YtloihcnbcknbnaaGreatDoor
