import Derived.Test.YtcklgafpgdhnaaaGreatDoorPtak
set_option maxRecDepth 100000
set_option maxHeartbeats 4000000
open List renaming getElem_toArray → zA, getElem_cons_succ → zB, getElem_cons_zero → zC, setIfInBounds_toArray → zD, set_cons_succ → zE, set_cons_zero → zF
namespace Go.Proofs.YtcklgafpgdhnaaaGreatDoor
open Go.RowKit

theorem exec_addN {o : Oper} {a : Act} {w : World} (x y : Operand) (ho : o.op = .binOp .add 3 x y 3) (m n : Nat) (hx : a.eval x = .int .i64 m) (hy : a.eval y = .int .i64 n) (hb : m + n < 1000000000000000000) :
  (execOp a.eval o).run Tryz.prog w = .ok (.value (.int .i64 ((m + n : Nat) : Int))) w := by
 have hw : IntKind.i64.wrap ((m : Int) + (n : Int)) = (m : Int) + (n : Int) := by rw [IntKind.wrap_i64]; omega
 have hr : (binOp .add 3 (.int .i64 m) (.int .i64 n)).run Tryz.prog w = .ok (.int .i64 (IntKind.i64.wrap ((m : Int) + (n : Int)))) w := rfl
 rw [hw] at hr
 have hg : (eqGuard .add 3 x y (.int .i64 m) (.int .i64 n)).run Tryz.prog w = .ok () w := by simp [eqGuard]
 simp [execOp, ho, hx, hy, hr, hg]

theorem nmin_l {a b : Nat} (h : a ≤ b) : Nat.min a b = a := Nat.min_eq_left h
theorem nmin_r {a b : Nat} (h : b ≤ a) : Nat.min a b = b := Nat.min_eq_right h

theorem insP_new (B : Nat) (es : List El) (i : Nat) (w : World) (g cap : Nat) (cur : List Value) (_hB : B ≤ g) (hg : Rw w g 122 cur) (hc1 : es.length ≤ cap) (_hc2 : cap ≤ maxLen) (hc3 : cur.length = cap * 2) (htk : cur.take (es.length * 2) = fl es) (h1 : One 2 es) (hi : i < es.length) (hl : es.length ≤ 50000)
  (gv off cv : Nat) (vs : List El) (hv : SL w 122 2 (.slice (some ⟨gv, off, none⟩) vs.length cv) vs) (hv1 : One 2 vs) (hv0 : 0 < vs.length) (hv2 : vs.length ≤ 1000) (hroom : cap < es.length + vs.length) (hBw : B ≤ w.heap.size) :
  Calls Tryz.prog 156 #[.slice (some ⟨g, 0, none⟩) (es.length) cap, .int .i64 i, .slice (some ⟨gv, off, none⟩) vs.length cv] w (OwnR B 122 2 (.slice (some ⟨g, 0, none⟩) (es.length) cap) (es.take i ++ vs ++ es.drop i) w) := by
 obtain ⟨ie, hie, hz1, hz2, hz3⟩ := info_parts itp
 have gw : g < w.heap.size := (Array.getElem?_eq_some_iff.1 hg).1
 have f1 : (i : Int) ≤ (es.length : Int) := by omega
 have f2 : ¬ (vs.length : Int) = 0 := by omega
 have f3 : ¬ (i : Int) = (es.length : Int) := by omega
 have f4 : (cap : Int) < (es.length : Int) + (vs.length : Int) := by omega
 obtain ⟨w1, cap2, rest, hr1, hg1, hc4, hc5, hc6, k1⟩ := appendZeros (P := Tryz.prog) hg 116 3 ie _ Tryz.underlying116 Tryz.underlying3 hie hz1 hz2 (by omega) rfl cap i (by omega) hc3 (es.length + vs.length - i) (by omega) (by omega) (by omega)
 rw [show i + (es.length + vs.length - i) = es.length + vs.length by omega] at hr1 hc5
 rw [show ((es.length + vs.length - i : Nat) : Int) = (es.length : Int) + (vs.length : Int) - (i : Int) by omega] at hr1
 obtain ⟨w2, hr2, hg2, k2⟩ := copyTo (P := Tryz.prog) hg1 116 115 122 Tryz.underlying116 stp cap2 (es.length + vs.length) i (by omega) hc5 hc4 ⟨gv, off, none⟩ vs.length cv (fl vs) (by rw [fl_len hv1.wd, nmin_l (by omega)]) (hv.kept k1).src.2 hv1.fl
 have lcs : ((cur.drop (i * 2)).take ((es.length - i) * 2)).length = (es.length - i) * 2 := by rw [List.length_take, List.length_drop]; omega
 have lfl : (fl vs).length = vs.length * 2 := fl_len hv1.wd
 have l2 : (splice (cur.take (i * 2) ++ rest) (i * 2) (fl vs)).length = cap2 * 2 := by rw [length_splice _ _ _ (by omega), hc4]
 have hgo : Rw w2.drew g 122 cur := ((hg.kept k1 (by simp)).kept k2 (by simp; omega)).drew
 obtain ⟨w3, hr3, hg3, k3⟩ := copyTo (P := Tryz.prog) hg2.drew 116 116 122 Tryz.underlying116 stp cap2 (es.length + vs.length) (i + vs.length) (by omega) hc5 l2 (cutA 2 g 0 cap i) (es.length - i) (cap - i) ((cur.drop (i * 2)).take ((es.length - i) * 2)) (by rw [lcs, nmin_l (by omega)]) (hgo.src cap i (es.length - i) (by omega)) (one_part h1 htk i _ (by omega))
 have fin : OwnR B 122 2 (.slice (some ⟨g, 0, none⟩) (es.length) cap) (es.take i ++ vs ++ es.drop i) w (.returned (.slice (some ⟨w.heap.size, 0, none⟩) (es.length + vs.length) cap2)) w3 := by
  refine ⟨_, rfl, OW.close (((h1.wd.take i).app hv1.wd).app (h1.wd.drop i)) hBw hg3 (by simp; omega) hc5 hc6 (by rw [length_splice _ _ _ (by rw [lcs, l2]; omega), l2]) ?_, ((k1.trans2 k2 (by intro x hx; simp at hx; omega)).drew.trans2 k3 (by intro x hx; simp at hx; omega)).mono (by simp)⟩
  have := take_new (Or.inl rfl) es vs h1.wd hv1.wd cur i i es.length vs.length rfl rfl (Nat.le_refl _) (by omega) htk rest (by omega) (by omega)
  rw [show i + vs.length + (es.length - i) = es.length + vs.length by omega] at this
  exact this
 have FIN : Hid _ := fin
 have hsl1 : ∀ W : World, (Instr.sliceAt 116 (.slice (some ⟨g, 0, none⟩) (es.length) cap) none (some (.int .i64 (i : Int))) none).run Tryz.prog W = .ok (.slice (some ⟨g, 0, none⟩) (i) cap) W := fun W => run_slice_hi W 116 122 2 g 0 es.length cap Tryz.underlying116 stp i (by omega)
 have hsl2 : ∀ W : World, (Instr.sliceAt 116 (.slice (some ⟨w.heap.size, 0, none⟩) (es.length + vs.length) cap2) (some (.int .i64 (i : Int))) none none).run Tryz.prog W = .ok (.slice (some (cutA 2 w.heap.size 0 cap2 (i))) (es.length + vs.length - (i)) (cap2 - (i))) W := fun W => run_slice_lo W 116 122 2 w.heap.size 0 (es.length + vs.length) cap2 Tryz.underlying116 stp i (by omega)
 clear fin k1 k2 k3 hg3 hg2 hg1 hgo
 go_enter Tryz.func156, Tryz.ntmps156
 go_wp2_with (first
  | (at_builtin; (refine wpList_val rfl _ w1 (exec_append2 (.tmp 34) (.tmp 39) 116 3 rfl _ _ rfl rfl _ (hr1 _)) ?_))
  | (at_builtin; (refine wpList_val rfl _ w2 (exec_copy2 (.tmp 43) (.tmp 44) 116 115 rfl _ _ rfl rfl _ (hr2 _)) ?_)))
 refine wp_region_S (fun _ : World => True) (by kernel_rfl) ?_
 refine wpAnyH_take (i := 0) (v := .slice (some ⟨w.heap.size, 0, none⟩) (es.length + vs.length) cap2) rfl (by kernel_rfl) (by kernel_rfl) (by kernel_rfl) (fun _ _ _ h => h) (Or.inl ⟨by rfl, fun W hW => by rfl⟩) trivial ?_
 simp only [Act.put, zA, zC, zD, zE, zF]
 refine wpAnyH_take (i := 1) (v := .int .i64 i) rfl (by kernel_rfl) (by kernel_rfl) (by kernel_rfl) (fun _ _ _ h => h) (Or.inl ⟨by rfl, fun W hW => by rfl⟩) trivial ?_
 simp only [Act.put, zA, zB, zC, zD, zE, zF]
 refine wpAnyH_take (i := 2) (v := .int .i64 vs.length) rfl (by kernel_rfl) (by kernel_rfl) (by kernel_rfl) (fun _ _ _ h => h) (Or.inl ⟨by rfl, fun W hW => by rfl⟩) trivial ?_
 simp only [Act.put, zA, zB, zC, zD, zE, zF]
 refine wpAnyH_take (i := 3) (v := .int .i64 ((i + vs.length : Nat) : Int)) rfl (by kernel_rfl) (by kernel_rfl) (by kernel_rfl) (fun _ _ _ h => h) (Or.inl ⟨by rfl, fun W hW => exec_addN (.tmp 47) (.tmp 48) rfl (i) (vs.length) rfl rfl (by omega)⟩) trivial ?_
 simp only [Act.put, zA, zB, zC, zD, zE, zF]
 refine wpAnyH_take (i := 4) (v := .slice (some (cutA 2 w.heap.size 0 cap2 (i + vs.length))) (es.length + vs.length - (i + vs.length)) (cap2 - (i + vs.length))) rfl (by kernel_rfl) (by kernel_rfl) (by kernel_rfl) (fun _ _ _ h => h) (Or.inl ⟨by rfl, fun W hW => exec_slice 116 (.tmp 46) (some (.tmp 49)) none none rfl _ (some (.int .i64 ((i + vs.length : Nat) : Int))) none none rfl rfl rfl rfl _ (run_slice_lo W 116 122 2 w.heap.size 0 (es.length + vs.length) cap2 Tryz.underlying116 stp (i + vs.length) (by omega))⟩) trivial ?_
 simp only [Act.put, zA, zB, zC, zD, zE, zF]
 refine wpAnyH_take (i := 5) (v := .slice (some ⟨g, 0, none⟩) (es.length) cap) rfl (by kernel_rfl) (by kernel_rfl) (by kernel_rfl) (fun _ _ _ h => h) (Or.inl ⟨by rfl, fun W hW => by rfl⟩) trivial ?_
 simp only [Act.put, zA, zB, zC, zD, zE, zF]
 refine wpAnyH_take (i := 6) (v := .int .i64 i) rfl (by kernel_rfl) (by kernel_rfl) (by kernel_rfl) (fun _ _ _ h => h) (Or.inl ⟨by rfl, fun W hW => by rfl⟩) trivial ?_
 simp only [Act.put, zA, zB, zC, zD, zE, zF]
 refine wpAnyH_take (i := 7) (v := .slice (some (cutA 2 g 0 cap (i))) (es.length - (i)) (cap - (i))) rfl (by kernel_rfl) (by kernel_rfl) (by kernel_rfl) (fun _ _ _ h => h) (Or.inl ⟨by rfl, fun W hW => exec_slice 116 (.tmp 51) (some (.tmp 52)) none none rfl _ (some (.int .i64 ((i : Nat) : Int))) none none rfl rfl rfl rfl _ (run_slice_lo W 116 122 2 g 0 (es.length) cap Tryz.underlying116 stp (i) (by omega))⟩) trivial ?_
 simp only [Act.put, zA, zB, zC, zD, zE, zF]
 refine held_one (i := 8) (by kernel_rfl) (wpOp_valW rfl (by rfl) _ w3 (exec_copy2 (.tmp 50) (.tmp 53) 116 116 rfl _ _ rfl rfl _ (hr3 _)) ⟨trivial, ?_⟩)
 simp only [Act.put, zA, zB, zC, zD, zE, zF]
 refine wpAnyH_done (by kernel_rfl) ?_ _
 go_wp2
 go_ret
 exact FIN.out

theorem insP_shift (B : Nat) (es : List El) (i : Nat) (w : World) (g cap : Nat) (cur : List Value) (hB : B ≤ g) (hg : Rw w g 122 cur) (hc1 : es.length ≤ cap) (hc2 : cap ≤ maxLen) (hc3 : cur.length = cap * 2) (htk : cur.take (es.length * 2) = fl es) (h1 : One 2 es) (hi : i < es.length) (hl : es.length ≤ 50000)
  (gv off cv : Nat) (vs : List El) (hv : SL w 122 2 (.slice (some ⟨gv, off, none⟩) vs.length cv) vs) (hv1 : One 2 vs) (hv0 : 0 < vs.length) (hv2 : vs.length ≤ 1000) (hroom : es.length + vs.length ≤ cap) (hap : gv ≠ g) :
  Calls Tryz.prog 156 #[.slice (some ⟨g, 0, none⟩) (es.length) cap, .int .i64 i, .slice (some ⟨gv, off, none⟩) vs.length cv] w (OwnR B 122 2 (.slice (some ⟨g, 0, none⟩) (es.length) cap) (es.take i ++ vs ++ es.drop i) w) := by
 have f1 : (i : Int) ≤ (es.length : Int) := by omega
 have f2 : ¬ (vs.length : Int) = 0 := by omega
 have f3 : ¬ (i : Int) = (es.length : Int) := by omega
 have f4 : ¬ (cap : Int) < (es.length : Int) + (vs.length : Int) := by omega
 have hvb := hv.src
 have hvh : ∃ cu, w.heap[gv]? = some (.cells cu 122 (0, 0)) := by
  obtain ⟨g', off', cap', cu, e, hh, _⟩ := hv.at_ hv0
  cases e
  exact ⟨cu, hh⟩
 obtain ⟨cu, hvh⟩ := hvh
 have hov := apartTo (P := Tryz.prog) 115 4 Tryz.underlying115 stp ⟨gv, off, none⟩ (cutA 2 g 0 cap (i + vs.length)) vs.length cv (es.length + vs.length - (i + vs.length)) (cap - (i + vs.length)) hvh (cutA_block _ _ _ _ _) hg hap (by omega)
 have he := @run_callFunc_extern Tryz.prog 157 _ (Extern.SlicesOverlaps.overlaps #[115, 115] #[4]) Tryz.func157 (by kernel_rfl) (by kernel_rfl) (by kernel_rfl) (by kernel_rfl)
 have lcs : ((cur.drop (i * 2)).take ((es.length - i) * 2)).length = (es.length - i) * 2 := by rw [List.length_take, List.length_drop]; omega
 have lfl : (fl vs).length = vs.length * 2 := fl_len hv1.wd
 have hgd : Rw w.drew g 122 cur := hg.drew
 obtain ⟨w1, hr1, hg1, k1⟩ := copyTo (P := Tryz.prog) hgd 116 116 122 Tryz.underlying116 stp cap (es.length + vs.length) (i + vs.length) (by omega) hroom hc3 (cutA 2 g 0 cap i) (es.length + vs.length - i) (cap - i) ((cur.drop (i * 2)).take ((es.length - i) * 2)) (by rw [lcs, nmin_r (by omega)]; omega) (hgd.src cap i (es.length - i) (by omega)) (one_part h1 htk i _ (by omega))
 have l1 : (splice cur ((i + vs.length) * 2) ((cur.drop (i * 2)).take ((es.length - i) * 2))).length = cap * 2 := by rw [length_splice _ _ _ (by omega), hc3]
 have K1 : Kept [g] w w1 := (Kept.refl [g] w).drew.trans k1
 have hv' : ∀ j u, (fl vs)[j]? = some u → w1.cell? ((⟨gv, off, none⟩ : Addr).add j) = some u := by
  intro j u hj
  have := hvb.2 j u hj
  rw [add_lit] at this ⊢
  rw [cell_of_row _ _ _ _ _ _ hvh] at this
  rw [cell_of_row _ _ _ _ _ _ (K1.get hvh (by simp; omega))]
  exact this
 obtain ⟨w2, hr2, hg2, k2⟩ := copyTo (P := Tryz.prog) hg1 116 115 122 Tryz.underlying116 stp cap (es.length + vs.length) i (by omega) hroom l1 ⟨gv, off, none⟩ vs.length cv (fl vs) (by rw [lfl, nmin_l (by omega)]) hv' hv1.fl
 have fin : OwnR B 122 2 (.slice (some ⟨g, 0, none⟩) (es.length) cap) (es.take i ++ vs ++ es.drop i) w (.returned (.slice (some ⟨g, 0, none⟩) (es.length + vs.length) cap)) w2 := by
  refine ⟨_, rfl, OW.close (((h1.wd.take i).app hv1.wd).app (h1.wd.drop i)) hB hg2 (by simp; omega) hroom hc2 (by rw [length_splice _ _ _ (by omega), l1]) ?_, K1.trans k2⟩
  have := take_shift (Or.inl rfl) es vs h1.wd hv1.wd cur i i es.length vs.length rfl rfl (Nat.le_refl _) (by omega) htk (by omega)
  rw [show i + vs.length + (es.length - i) = es.length + vs.length by omega] at this
  exact this
 have FIN : Hid _ := fin
 have hsl1 : ∀ W : World, (Instr.sliceAt 116 (.slice (some ⟨g, 0, none⟩) (es.length) cap) none (some (.int .i64 ((es.length : Int) + (vs.length : Int)))) none).run Tryz.prog W = .ok (.slice (some ⟨g, 0, none⟩) (es.length + vs.length) cap) W := fun W => by
  have := run_slice_hi (P := Tryz.prog) W 116 122 2 g 0 es.length cap Tryz.underlying116 stp (es.length + vs.length) (by omega)
  rwa [Int.natCast_add] at this
 have hsl2 : ∀ W : World, (Instr.sliceAt 116 (.slice (some ⟨g, 0, none⟩) (es.length + vs.length) cap) (some (.int .i64 ((i : Int) + (vs.length : Int)))) none none).run Tryz.prog W = .ok (.slice (some (cutA 2 g 0 cap (i + vs.length))) (es.length + vs.length - (i + vs.length)) (cap - (i + vs.length))) W := fun W => by
  have := run_slice_lo (P := Tryz.prog) W 116 122 2 g 0 (es.length + vs.length) cap Tryz.underlying116 stp (i + vs.length) (by omega)
  rwa [Int.natCast_add] at this
 have hsl3 : ∀ W : World, (Instr.sliceAt 116 (.slice (some ⟨g, 0, none⟩) (es.length + vs.length) cap) (some (.int .i64 (i : Int))) none none).run Tryz.prog W = .ok (.slice (some (cutA 2 g 0 cap (i))) (es.length + vs.length - (i)) (cap - (i))) W := fun W => run_slice_lo (P := Tryz.prog) W 116 122 2 g 0 (es.length + vs.length) cap Tryz.underlying116 stp i (by omega)
 clear fin K1 k1 k2 hg2 hg1 hgd hvb hvh
 go_enter Tryz.func156, Tryz.ntmps156
 go_wp2
 refine wp_region_S (fun _ : World => True) (by kernel_rfl) ?_
 refine wpAnyH_take (i := 0) (v := .slice (some ⟨g, 0, none⟩) (es.length + vs.length) cap) rfl (by kernel_rfl) (by kernel_rfl) (by kernel_rfl) (fun _ _ _ h => h) (Or.inl ⟨by rfl, fun W hW => by rfl⟩) trivial ?_
 simp only [Act.put, zA, zC, zD, zE, zF]
 refine wpAnyH_take (i := 1) (v := .int .i64 i) rfl (by kernel_rfl) (by kernel_rfl) (by kernel_rfl) (fun _ _ _ h => h) (Or.inl ⟨by rfl, fun W hW => by rfl⟩) trivial ?_
 simp only [Act.put, zA, zB, zC, zD, zE, zF]
 refine wpAnyH_take (i := 2) (v := .int .i64 vs.length) rfl (by kernel_rfl) (by kernel_rfl) (by kernel_rfl) (fun _ _ _ h => h) (Or.inl ⟨by rfl, fun W hW => by rfl⟩) trivial ?_
 simp only [Act.put, zA, zB, zC, zD, zE, zF]
 refine wpAnyH_take (i := 3) (v := .int .i64 ((i + vs.length : Nat) : Int)) rfl (by kernel_rfl) (by kernel_rfl) (by kernel_rfl) (fun _ _ _ h => h) (Or.inl ⟨by rfl, fun W hW => exec_addN (.tmp 70) (.tmp 71) rfl (i) (vs.length) rfl rfl (by omega)⟩) trivial ?_
 simp only [Act.put, zA, zB, zC, zD, zE, zF]
 refine wpAnyH_take (i := 4) (v := .slice (some (cutA 2 g 0 cap (i + vs.length))) (es.length + vs.length - (i + vs.length)) (cap - (i + vs.length))) rfl (by kernel_rfl) (by kernel_rfl) (by kernel_rfl) (fun _ _ _ h => h) (Or.inl ⟨by rfl, fun W hW => exec_slice 116 (.tmp 69) (some (.tmp 72)) none none rfl _ (some (.int .i64 ((i + vs.length : Nat) : Int))) none none rfl rfl rfl rfl _ (run_slice_lo W 116 122 2 g 0 (es.length + vs.length) cap Tryz.underlying116 stp (i + vs.length) (by omega))⟩) trivial ?_
 simp only [Act.put, zA, zB, zC, zD, zE, zF]
 refine wpAnyH_take (i := 5) (v := .slice (some ⟨g, 0, none⟩) (es.length + vs.length) cap) rfl (by kernel_rfl) (by kernel_rfl) (by kernel_rfl) (fun _ _ _ h => h) (Or.inl ⟨by rfl, fun W hW => by rfl⟩) trivial ?_
 simp only [Act.put, zA, zB, zC, zD, zE, zF]
 refine wpAnyH_take (i := 6) (v := .int .i64 i) rfl (by kernel_rfl) (by kernel_rfl) (by kernel_rfl) (fun _ _ _ h => h) (Or.inl ⟨by rfl, fun W hW => by rfl⟩) trivial ?_
 simp only [Act.put, zA, zB, zC, zD, zE, zF]
 refine wpAnyH_take (i := 7) (v := .slice (some (cutA 2 g 0 cap (i))) (es.length + vs.length - (i)) (cap - (i))) rfl (by kernel_rfl) (by kernel_rfl) (by kernel_rfl) (fun _ _ _ h => h) (Or.inl ⟨by rfl, fun W hW => exec_slice 116 (.tmp 74) (some (.tmp 75)) none none rfl _ (some (.int .i64 ((i : Nat) : Int))) none none rfl rfl rfl rfl _ (run_slice_lo W 116 122 2 g 0 (es.length + vs.length) cap Tryz.underlying116 stp (i) (by omega))⟩) trivial ?_
 simp only [Act.put, zA, zB, zC, zD, zE, zF]
 refine held_one (i := 8) (by kernel_rfl) (wpOp_valW rfl (by rfl) _ w1 (exec_copy2 (.tmp 73) (.tmp 76) 116 116 rfl _ _ rfl rfl _ (hr1 _)) ⟨trivial, ?_⟩)
 simp only [Act.put, zA, zB, zC, zD, zE, zF]
 refine wpAnyH_done (by kernel_rfl) ?_ _
 go_wp2_with (first
  | (at_builtin; (refine wpList_val rfl _ w2 (exec_copy2 (.tmp 80) (.tmp 81) 116 115 rfl _ _ rfl rfl _ (hr2 _)) ?_)))
 go_ret
 exact FIN.out

end Go.Proofs.YtcklgafpgdhnaaaGreatDoor
