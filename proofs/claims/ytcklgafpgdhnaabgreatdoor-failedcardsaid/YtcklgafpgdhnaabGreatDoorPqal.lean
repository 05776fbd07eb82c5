import Derived.Test.YtcklgafpgdhnaabGreatDoorPqak
import Derived.Test.YtcklgafpgdhnaabGreatDoorPqab
set_option maxRecDepth 100000
set_option maxHeartbeats 4000000
open Go.Proofs.Tryz
open Go.Act renaming put → zP
open List renaming getElem_toArray → zA, getElem_cons_succ → zB, getElem_cons_zero → zC, setIfInBounds_toArray → zD, set_cons_succ → zE, set_cons_zero → zF
namespace Go.Proofs.YtcklgafpgdhnaabGreatDoor
open Go.RowKit
theorem zvk (w : World) : (zeroValue 75).run prog w = .ok (.agg #[.string ⟨#[]⟩, .int .i64 0, .nilIface]) w := by kernel_rfl
theorem Q3Z (B : Nat) (es : List El) (i j : Nat) (w : World) (g cap : Nat) (cur : List Value) (hB : B <= g) (hg : Rw w g 75 cur) (hc1 : es.length <= cap) (hc2 : cap <= maxLen) (hc3 : cur.length = cap * 3) (htk : cur.take (es.length * 3) = fl es) (h1 : One 3 es) (hij : i < j) (_hl : es.length <= 50000)
  (gv off cv : Nat) (vs : List El) (hv : SL w 75 3 (.slice (some ⟨gv, off, none⟩) vs.length cv) vs) (hv1 : One 3 vs) (hv0 : 0 < vs.length) (hv2 : vs.length <= 1000) (out : List El) (hout : out = es.take i ++ vs ++ es.drop j) (hj : j = es.length) (hroom : i + vs.length <= cap) (hcl : i + vs.length < es.length) : Calls prog 232 #[.slice (some ⟨g, 0, none⟩) (es.length) cap, .int .i64 i, .int .i64 j, .slice (some ⟨gv, off, none⟩) vs.length cv] w (gj B 75 3 (.slice (some ⟨g, 0, none⟩) (es.length) cap) out w) := by
 have f1 : (i : Int) <= (j : Int) := by omega
 have f2 : (j : Int) <= (cap : Int) := by omega
 have f3 : ¬ (i : Int) = (j : Int) := by omega
 have lfl : (fl vs).length = vs.length * 3 := qb hv1.wd
 have hsl0 : ∀ W : World, (Instr.sliceAt 180 (.slice (some ⟨g, 0, none⟩) (es.length) cap) (some (.int .i64 (i : Int))) (some (.int .i64 (j : Int))) none).run prog W = .ok (.slice (some (yS 3 g 0 cap i)) (j - i) (cap - i)) W := fun W => qd W 180 75 3 g 0 es.length cap underlying180 stk i j (by omega) (by omega)
 have hslh : ∀ W : World, (Instr.sliceAt 180 (.slice (some ⟨g, 0, none⟩) (es.length) cap) none (some (.int .i64 (i : Int))) none).run prog W = .ok (.slice (some ⟨g, 0, none⟩) (i) cap) W := fun W => yq W 180 75 3 g 0 es.length cap underlying180 stk i (by omega)
 have fj : (j : Int) = (es.length : Int) := by omega
 have f4 : (i : Int) + (vs.length : Int) < (es.length : Int) := by omega
 obtain ⟨w1, hr1, hg1, k1⟩ := Z7 (P := prog) hg 180 177 75 underlying180 underlying177 stk cap i hc3 ⟨gv, off, none⟩ vs.length cv hroom (fl vs) lfl hv.src.2 hv1.fl
 have l1 : (splice cur (i * 3) (fl vs)).length = cap * 3 := by rw [length_splice _ _ _ (by omega), hc3]
 obtain ⟨w2, zs, hzs, hr2, hg2, k2⟩ := Q3G (P := prog) hg1 180 75 _ underlying180 zvk (by rfl) (Q3R (by simp [Value.cells, Value.oneCell'])) cap es.length (i + vs.length) (by omega) (by omega) l1
 have fin : gj B 75 3 (.slice (some ⟨g, 0, none⟩) (es.length) cap) out w (.returned (.slice (some ⟨g, 0, none⟩) (i + vs.length) cap)) w2 := by
  subst hout
  subst hj
  refine ⟨_, rfl, OW.close (((h1.wd.take i).app hv1.wd).app (h1.wd.drop _)) hB hg2 (by simp; omega) (by omega) hc2 (by rw [length_splice _ _ _ (by omega), l1]) ?_, k1.trans k2⟩
  have := Q3L (Or.inr rfl) es vs h1.wd hv1.wd cur i es.length es.length vs.length rfl rfl (by omega) (Nat.le_refl _) htk zs (by omega) (by omega)
  rw [Nat.sub_self, Nat.zero_mul, List.take_zero, Nat.add_zero] at this
  have e0 : splice (splice cur (i * 3) (fl vs)) ((i + vs.length) * 3) [] = splice cur (i * 3) (fl vs) := by simp [splice]
  rw [e0] at this
  exact this
 have FIN : Hid _ := fin
 have hslc : ∀ W : World, (Instr.sliceAt 180 (.slice (some ⟨g, 0, none⟩) (es.length) cap) (some (.int .i64 ((i : Int) + (vs.length : Int)))) none none).run prog W = .ok (.slice (some (yS 3 g 0 cap (i + vs.length))) (es.length - (i + vs.length)) (cap - (i + vs.length))) W := fun W => by
  have := yi (P := prog) W 180 75 3 g 0 es.length cap underlying180 stk (i + vs.length) (by omega)
  rwa [Int.natCast_add] at this
 clear hout fin k1 k2 hg2 hg1
 go_enter func232, ntmps232
 go_wp2_with (first
  | (at_builtin; (refine y8 rfl _ w1 (yG (.tmp 32) (.tmp 33) 180 177 rfl _ _ rfl rfl _ (hr1 _)) ?_))
  | (at_builtin; (refine y8 rfl _ w2 (jS (.tmp 43) 180 rfl _ rfl _ (hr2 _)) ?_)))
 go_ret
 exact FIN.out
theorem Q40 (B : Nat) (es : List El) (i j : Nat) (w : World) (g cap : Nat) (cur : List Value) (hB : B <= g) (hg : Rw w g 75 cur) (hc1 : es.length <= cap) (hc2 : cap <= maxLen) (hc3 : cur.length = cap * 3) (htk : cur.take (es.length * 3) = fl es) (h1 : One 3 es) (hij : i < j) (_hl : es.length <= 50000)
  (gv off cv : Nat) (vs : List El) (hv : SL w 75 3 (.slice (some ⟨gv, off, none⟩) vs.length cv) vs) (hv1 : One 3 vs) (hv0 : 0 < vs.length) (hv2 : vs.length <= 1000) (out : List El) (hout : out = es.take i ++ vs ++ es.drop j) (hj : j = es.length) (hroom : i + vs.length <= cap) (hcl : es.length <= i + vs.length) : Calls prog 232 #[.slice (some ⟨g, 0, none⟩) (es.length) cap, .int .i64 i, .int .i64 j, .slice (some ⟨gv, off, none⟩) vs.length cv] w (gj B 75 3 (.slice (some ⟨g, 0, none⟩) (es.length) cap) out w) := by
 have f1 : (i : Int) <= (j : Int) := by omega
 have f2 : (j : Int) <= (cap : Int) := by omega
 have f3 : ¬ (i : Int) = (j : Int) := by omega
 have lfl : (fl vs).length = vs.length * 3 := qb hv1.wd
 have hsl0 : ∀ W : World, (Instr.sliceAt 180 (.slice (some ⟨g, 0, none⟩) (es.length) cap) (some (.int .i64 (i : Int))) (some (.int .i64 (j : Int))) none).run prog W = .ok (.slice (some (yS 3 g 0 cap i)) (j - i) (cap - i)) W := fun W => qd W 180 75 3 g 0 es.length cap underlying180 stk i j (by omega) (by omega)
 have hslh : ∀ W : World, (Instr.sliceAt 180 (.slice (some ⟨g, 0, none⟩) (es.length) cap) none (some (.int .i64 (i : Int))) none).run prog W = .ok (.slice (some ⟨g, 0, none⟩) (i) cap) W := fun W => yq W 180 75 3 g 0 es.length cap underlying180 stk i (by omega)
 have fj : (j : Int) = (es.length : Int) := by omega
 have f4 : ¬ (i : Int) + (vs.length : Int) < (es.length : Int) := by omega
 obtain ⟨w1, hr1, hg1, k1⟩ := Z7 (P := prog) hg 180 177 75 underlying180 underlying177 stk cap i hc3 ⟨gv, off, none⟩ vs.length cv hroom (fl vs) lfl hv.src.2 hv1.fl
 have l1 : (splice cur (i * 3) (fl vs)).length = cap * 3 := by rw [length_splice _ _ _ (by omega), hc3]
 have fin : gj B 75 3 (.slice (some ⟨g, 0, none⟩) (es.length) cap) out w (.returned (.slice (some ⟨g, 0, none⟩) (i + vs.length) cap)) w1 := by
  subst hout
  subst hj
  refine ⟨_, rfl, OW.close (((h1.wd.take i).app hv1.wd).app (h1.wd.drop _)) hB hg1 (by simp; omega) (by omega) hc2 l1 ?_, k1⟩
  rw [List.drop_length, List.append_nil, Nat.add_mul, <- lfl, List.take_add, yO _ _ _ _ (Nat.le_refl _) (by omega), qn _ _ _ (by omega), js es h1.wd cur i es.length rfl htk (by omega), yW]
 have FIN : Hid _ := fin
 clear hout fin k1 hg1
 go_enter func232, ntmps232
 go_wp2_with (first
  | (at_builtin; (refine y8 rfl _ w1 (yG (.tmp 32) (.tmp 33) 180 177 rfl _ _ rfl rfl _ (hr1 _)) ?_)))
 go_ret
 exact FIN.out
theorem Q41 (B : Nat) (es : List El) (i j : Nat) (w : World) (g cap : Nat) (cur : List Value) (_hB : B <= g) (hg : Rw w g 75 cur) (hc1 : es.length <= cap) (_hc2 : cap <= maxLen) (hc3 : cur.length = cap * 3) (htk : cur.take (es.length * 3) = fl es) (h1 : One 3 es) (hij : i < j) (hl : es.length <= 50000)
  (gv off cv : Nat) (vs : List El) (hv : SL w 75 3 (.slice (some ⟨gv, off, none⟩) vs.length cv) vs) (hv1 : One 3 vs) (hv0 : 0 < vs.length) (hv2 : vs.length <= 1000) (out : List El) (hout : out = es.take i ++ vs ++ es.drop j) (hj : j = es.length) (hroom : cap < i + vs.length) (hBw : B <= w.heap.size) : Calls prog 232 #[.slice (some ⟨g, 0, none⟩) (es.length) cap, .int .i64 i, .int .i64 j, .slice (some ⟨gv, off, none⟩) vs.length cv] w (gj B 75 3 (.slice (some ⟨g, 0, none⟩) (es.length) cap) out w) := by
 obtain ⟨ie, hie, hz1, hz2, hz3⟩ := info_parts itk
 have f1 : (i : Int) <= (j : Int) := by omega
 have f2 : (j : Int) <= (cap : Int) := by omega
 have f3 : ¬ (i : Int) = (j : Int) := by omega
 have lfl : (fl vs).length = vs.length * 3 := qb hv1.wd
 have hsl0 : ∀ W : World, (Instr.sliceAt 180 (.slice (some ⟨g, 0, none⟩) (es.length) cap) (some (.int .i64 (i : Int))) (some (.int .i64 (j : Int))) none).run prog W = .ok (.slice (some (yS 3 g 0 cap i)) (j - i) (cap - i)) W := fun W => qd W 180 75 3 g 0 es.length cap underlying180 stk i j (by omega) (by omega)
 have hslh : ∀ W : World, (Instr.sliceAt 180 (.slice (some ⟨g, 0, none⟩) (es.length) cap) none (some (.int .i64 (i : Int))) none).run prog W = .ok (.slice (some ⟨g, 0, none⟩) (i) cap) W := fun W => yq W 180 75 3 g 0 es.length cap underlying180 stk i (by omega)
 have fj : (j : Int) = (es.length : Int) := by omega
 have f4 : ¬ (i : Int) + (vs.length : Int) < (es.length : Int) := by omega
 obtain ⟨w1, cap2, rest, hr1, hg1, hc4, hc5, hc6, k1⟩ := Q3H (P := prog) hg 180 177 75 ie _ underlying180 underlying177 hie hz1 hz2 (by omega) rfl cap i (by omega) hc3 ⟨gv, off, none⟩ vs.length cv hroom (by omega) (fl vs) lfl hv.src.2
 have fin : gj B 75 3 (.slice (some ⟨g, 0, none⟩) (es.length) cap) out w (.returned (.slice (some ⟨w.heap.size, 0, none⟩) (i + vs.length) cap2)) w1 := by
  subst hout
  subst hj
  refine ⟨_, rfl, OW.close (((h1.wd.take i).app hv1.wd).app (h1.wd.drop _)) hBw hg1 (by simp; omega) (by omega) hc6 hc4 ?_, k1.mono (by simp)⟩
  rw [List.drop_length, List.append_nil, yW, <- js es h1.wd cur i es.length rfl htk (by omega), List.take_append_of_le_length (by simp; omega), List.take_of_length_le (by simp; omega)]
 have FIN : Hid _ := fin
 clear hout fin k1 hg1
 go_enter func232, ntmps232
 go_wp2_with (first
  | (at_builtin; (refine y8 rfl _ w1 (yG (.tmp 32) (.tmp 33) 180 177 rfl _ _ rfl rfl _ (hr1 _)) ?_)))
 go_ret
 exact FIN.out
theorem Q42 (B : Nat) (es : List El) (i j : Nat) (w : World) (g cap : Nat) (cur : List Value) (_hB : B <= g) (hg : Rw w g 75 cur) (hc1 : es.length <= cap) (_hc2 : cap <= maxLen) (hc3 : cur.length = cap * 3) (htk : cur.take (es.length * 3) = fl es) (h1 : One 3 es) (hij : i < j) (hl : es.length <= 50000)
  (gv off cv : Nat) (vs : List El) (hv : SL w 75 3 (.slice (some ⟨gv, off, none⟩) vs.length cv) vs) (hv1 : One 3 vs) (hv0 : 0 < vs.length) (hv2 : vs.length <= 1000) (out : List El) (hout : out = es.take i ++ vs ++ es.drop j) (hj : j < es.length) (hroom : cap < i + vs.length + (es.length - j)) (hBw : B <= w.heap.size) : Calls prog 232 #[.slice (some ⟨g, 0, none⟩) (es.length) cap, .int .i64 i, .int .i64 j, .slice (some ⟨gv, off, none⟩) vs.length cv] w (gj B 75 3 (.slice (some ⟨g, 0, none⟩) (es.length) cap) out w) := by
 obtain ⟨ie, hie, hz1, hz2, hz3⟩ := info_parts itk
 have gw : g < w.heap.size := (Array.getElem?_eq_some_iff.1 hg).1
 have f1 : (i : Int) <= (j : Int) := by omega
 have f2 : (j : Int) <= (cap : Int) := by omega
 have f3 : ¬ (i : Int) = (j : Int) := by omega
 have lfl : (fl vs).length = vs.length * 3 := qb hv1.wd
 have hsl0 : ∀ W : World, (Instr.sliceAt 180 (.slice (some ⟨g, 0, none⟩) (es.length) cap) (some (.int .i64 (i : Int))) (some (.int .i64 (j : Int))) none).run prog W = .ok (.slice (some (yS 3 g 0 cap i)) (j - i) (cap - i)) W := fun W => qd W 180 75 3 g 0 es.length cap underlying180 stk i j (by omega) (by omega)
 have hslh : ∀ W : World, (Instr.sliceAt 180 (.slice (some ⟨g, 0, none⟩) (es.length) cap) none (some (.int .i64 (i : Int))) none).run prog W = .ok (.slice (some ⟨g, 0, none⟩) (i) cap) W := fun W => yq W 180 75 3 g 0 es.length cap underlying180 stk i (by omega)
 obtain ⟨tot, htot⟩ : ∃ tot, tot = i + vs.length + (es.length - j) := ⟨_, rfl⟩
 have HT : Hid _ := htot
 have ft1 : i + vs.length <= tot := by omega
 have ft2 : tot <= 60000 := by omega
 have ft3 : i <= 50000 := by omega
 have f4 : ¬ (j : Int) = (es.length : Int) := by omega
 have lcs : ((cur.drop (j * 3)).take ((es.length - j) * 3)).length = (es.length - j) * 3 := by rw [List.length_take, List.length_drop]; omega
 have f5 : (cap : Int) < (tot : Int) := by omega
 obtain ⟨w1, cap2, rest, hr1, hg1, hc4, hc5, hc6, k1⟩ := Z8 (P := prog) hg.drew 180 3 ie _ underlying180 underlying3 hie hz1 hz2 (by omega) rfl cap i (by omega) hc3 (tot - i) (by omega) (by omega) (by omega)
 rw [show i + (tot - i) = tot by omega] at hr1 hc5
 rw [show ((tot - i : Nat) : Int) = (tot : Int) - (i : Int) by omega] at hr1
 rw [show w.drew.heap.size = w.heap.size from rfl] at hr1 hg1
 have k1' : y5 [] w w1 := (y5.refl [] w).drew.trans k1
 obtain ⟨w2, hr2, hg2, k2⟩ := gI (P := prog) hg1 180 177 75 underlying180 stk cap2 tot i (by omega) hc5 hc4 ⟨gv, off, none⟩ vs.length cv (fl vs) (by rw [lfl, gO (by omega)]) (hv.kept k1').src.2 hv1.fl
 have l2 : (splice (cur.take (i * 3) ++ rest) (i * 3) (fl vs)).length = cap2 * 3 := by rw [length_splice _ _ _ (by omega), hc4]
 have hgo : Rw w2.drew g 75 cur := ((hg.kept k1' (by simp)).kept k2 (by simp; omega)).drew
 obtain ⟨w3, hr3, hg3, k3⟩ := gI (P := prog) hg2.drew 180 180 75 underlying180 stk cap2 tot (i + vs.length) (by omega) hc5 l2 (yS 3 g 0 cap j) (es.length - j) (cap - j) ((cur.drop (j * 3)).take ((es.length - j) * 3)) (by rw [lcs, gO (by omega)]) (hgo.src cap j (es.length - j) (by omega)) (j5 h1 htk j _ (by omega))
 have fin : gj B 75 3 (.slice (some ⟨g, 0, none⟩) (es.length) cap) out w (.returned (.slice (some ⟨w.heap.size, 0, none⟩) (tot) cap2)) w3 := by
  subst hout
  refine ⟨_, rfl, OW.close (((h1.wd.take i).app hv1.wd).app (h1.wd.drop _)) hBw hg3 (by simp; omega) hc5 hc6 (by rw [length_splice _ _ _ (by rw [lcs, l2]; omega), l2]) ?_, ((k1'.trans2 k2 (by intro x hx; simp at hx; omega)).drew.trans2 k3 (by intro x hx; simp at hx; omega)).mono (by simp)⟩
  have := Q3M (Or.inr rfl) es vs h1.wd hv1.wd cur i j es.length vs.length rfl rfl (by omega) (by omega) htk rest (by omega) (by omega)
  rw [<- htot] at this
  exact this
 have FIN : Hid _ := fin
 have hsl2 : ∀ W : World, (Instr.sliceAt 180 (.slice (some ⟨w.heap.size, 0, none⟩) (tot) cap2) (some (.int .i64 (i : Int))) none none).run prog W = .ok (.slice (some (yS 3 w.heap.size 0 cap2 (i))) (tot - (i)) (cap2 - (i))) W := fun W => yi W 180 75 3 w.heap.size 0 tot cap2 underlying180 stk i (by omega)
 clear htot hout fin k1 k1' k2 k3 hg3 hg2 hg1 hgo
 go_enter func232, ntmps232
 go_wp2
 refine yj (fun _ : World => True) (by kernel_rfl) ?_
 refine hu 0 (.slice (some ⟨g, 0, none⟩) (es.length) cap) rfl (fun W hW => by rfl) trivial ?_
 simp only [zP, zA, zC, zD, zE, zF]
 refine hu 1 (.int .i64 i) rfl (fun W hW => by rfl) trivial ?_
 simp only [zP, zA, zB, zC, zD, zE, zF]
 refine hu 2 (.slice (some ⟨g, 0, none⟩) (i) cap) rfl (fun W hW => yu 180 (.tmp 45) none (some (.tmp 46)) none rfl _ none (some (.int .i64 ((i : Nat) : Int))) none rfl rfl rfl rfl _ (yq W 180 75 3 g 0 (es.length) cap underlying180 stk (i) (by omega))) trivial ?_
 simp only [zP, zA, zB, zC, zD, zE, zF]
 refine hu 3 (.int .i64 i) rfl (fun W hW => q0 (.tmp 47) 180 75 rfl (some ⟨g, 0, none⟩) (i) (cap) rfl underlying180) trivial ?_
 simp only [zP, zA, zB, zC, zD, zE, zF]
 refine hu 4 (.slice (some ⟨gv, off, none⟩) vs.length cv) rfl (fun W hW => by rfl) trivial ?_
 simp only [zP, zA, zB, zC, zD, zE, zF]
 refine hu 5 (.int .i64 vs.length) rfl (fun W hW => q0 (.tmp 49) 177 75 rfl (some ⟨gv, off, none⟩) (vs.length) (cv) rfl underlying177) trivial ?_
 simp only [zP, zA, zB, zC, zD, zE, zF]
 refine hu 6 (.int .i64 ((i + vs.length : Nat) : Int)) rfl (fun W hW => yY (.tmp 48) (.tmp 50) rfl (i) (vs.length) rfl rfl (by omega)) trivial ?_
 simp only [zP, zA, zB, zC, zD, zE, zF]
 refine hu 7 (.slice (some ⟨g, 0, none⟩) (es.length) cap) rfl (fun W hW => by rfl) trivial ?_
 simp only [zP, zA, zB, zC, zD, zE, zF]
 refine hu 8 (.int .i64 j) rfl (fun W hW => by rfl) trivial ?_
 simp only [zP, zA, zB, zC, zD, zE, zF]
 refine hu 9 (.slice (some (yS 3 g 0 cap (j))) (es.length - (j)) (cap - (j))) rfl (fun W hW => yu 180 (.tmp 52) (some (.tmp 53)) none none rfl _ (some (.int .i64 ((j : Nat) : Int))) none none rfl rfl rfl rfl _ (yi W 180 75 3 g 0 (es.length) cap underlying180 stk (j) (by omega))) trivial ?_
 simp only [zP, zA, zB, zC, zD, zE, zF]
 refine hu 10 (.int .i64 ((es.length - j : Nat) : Int)) rfl (fun W hW => q0 (.tmp 54) 180 75 rfl (some (yS 3 g 0 cap j)) (es.length - j) (cap - j) rfl underlying180) trivial ?_
 simp only [zP, zA, zB, zC, zD, zE, zF]
 refine hu 11 (.int .i64 (tot : Int)) rfl (fun W hW => by rw [HT.out]; exact yY (.tmp 51) (.tmp 55) rfl (i + vs.length) (es.length - j) rfl rfl (by omega)) trivial ?_
 simp only [zP, zA, zB, zC, zD, zE, zF]
 refine hu 12 (.int .i64 (tot : Int)) rfl (fun W hW => by rfl) trivial ?_
 simp only [zP, zA, zB, zC, zD, zE, zF]
 refine wpAnyH_done (by kernel_rfl) ?_ _
 go_wp2_with (first
  | (at_builtin; (refine y8 rfl _ w1 (yG (.tmp 63) (.tmp 66) 180 3 rfl _ _ rfl rfl _ (hr1 _)) ?_))
  | (at_builtin; (refine y8 rfl _ w2 (yT (.tmp 70) (.tmp 71) 180 177 rfl _ _ rfl rfl _ (hr2 _)) ?_)))
 refine yj (fun _ : World => True) (by kernel_rfl) ?_
 refine hu 0 (.slice (some ⟨w.heap.size, 0, none⟩) (tot) cap2) rfl (fun W hW => by rfl) trivial ?_
 simp only [zP, zA, zC, zD, zE, zF]
 refine hu 1 (.int .i64 i) rfl (fun W hW => by rfl) trivial ?_
 simp only [zP, zA, zB, zC, zD, zE, zF]
 refine hu 2 (.slice (some ⟨gv, off, none⟩) vs.length cv) rfl (fun W hW => by rfl) trivial ?_
 simp only [zP, zA, zB, zC, zD, zE, zF]
 refine hu 3 (.int .i64 vs.length) rfl (fun W hW => q0 (.tmp 75) 177 75 rfl (some ⟨gv, off, none⟩) (vs.length) (cv) rfl underlying177) trivial ?_
 simp only [zP, zA, zB, zC, zD, zE, zF]
 refine hu 4 (.int .i64 ((i + vs.length : Nat) : Int)) rfl (fun W hW => yY (.tmp 74) (.tmp 76) rfl (i) (vs.length) rfl rfl (by omega)) trivial ?_
 simp only [zP, zA, zB, zC, zD, zE, zF]
 refine hu 5 (.slice (some (yS 3 w.heap.size 0 cap2 (i + vs.length))) (tot - (i + vs.length)) (cap2 - (i + vs.length))) rfl (fun W hW => yu 180 (.tmp 73) (some (.tmp 77)) none none rfl _ (some (.int .i64 ((i + vs.length : Nat) : Int))) none none rfl rfl rfl rfl _ (yi W 180 75 3 w.heap.size 0 (tot) cap2 underlying180 stk (i + vs.length) (by omega))) trivial ?_
 simp only [zP, zA, zB, zC, zD, zE, zF]
 refine hu 6 (.slice (some ⟨g, 0, none⟩) (es.length) cap) rfl (fun W hW => by rfl) trivial ?_
 simp only [zP, zA, zB, zC, zD, zE, zF]
 refine hu 7 (.int .i64 j) rfl (fun W hW => by rfl) trivial ?_
 simp only [zP, zA, zB, zC, zD, zE, zF]
 refine hu 8 (.slice (some (yS 3 g 0 cap (j))) (es.length - (j)) (cap - (j))) rfl (fun W hW => yu 180 (.tmp 79) (some (.tmp 80)) none none rfl _ (some (.int .i64 ((j : Nat) : Int))) none none rfl rfl rfl rfl _ (yi W 180 75 3 g 0 (es.length) cap underlying180 stk (j) (by omega))) trivial ?_
 simp only [zP, zA, zB, zC, zD, zE, zF]
 refine yf (i := 9) (by kernel_rfl) (yy rfl (by rfl) _ w3 (yT (.tmp 78) (.tmp 81) 180 180 rfl _ _ rfl rfl _ (hr3 _)) ⟨trivial, ?_⟩)
 simp only [zP, zA, zB, zC, zD, zE, zF]
 refine wpAnyH_done (by kernel_rfl) ?_ _
 go_wp2
 go_ret
 exact FIN.out
theorem Q43 (B : Nat) (es : List El) (i j : Nat) (w : World) (g cap : Nat) (cur : List Value) (hB : B <= g) (hg : Rw w g 75 cur) (hc1 : es.length <= cap) (hc2 : cap <= maxLen) (hc3 : cur.length = cap * 3) (htk : cur.take (es.length * 3) = fl es) (h1 : One 3 es) (hij : i < j) (hl : es.length <= 50000)
  (gv off cv : Nat) (vs : List El) (hv : SL w 75 3 (.slice (some ⟨gv, off, none⟩) vs.length cv) vs) (hv1 : One 3 vs) (hv0 : 0 < vs.length) (hv2 : vs.length <= 1000) (out : List El) (hout : out = es.take i ++ vs ++ es.drop j) (hj : j < es.length) (hfit : i + vs.length <= j) (hap : gv ≠ g) : Calls prog 232 #[.slice (some ⟨g, 0, none⟩) (es.length) cap, .int .i64 i, .int .i64 j, .slice (some ⟨gv, off, none⟩) vs.length cv] w (gj B 75 3 (.slice (some ⟨g, 0, none⟩) (es.length) cap) out w) := by
 have f1 : (i : Int) <= (j : Int) := by omega
 have f2 : (j : Int) <= (cap : Int) := by omega
 have f3 : ¬ (i : Int) = (j : Int) := by omega
 have lfl : (fl vs).length = vs.length * 3 := qb hv1.wd
 have hsl0 : ∀ W : World, (Instr.sliceAt 180 (.slice (some ⟨g, 0, none⟩) (es.length) cap) (some (.int .i64 (i : Int))) (some (.int .i64 (j : Int))) none).run prog W = .ok (.slice (some (yS 3 g 0 cap i)) (j - i) (cap - i)) W := fun W => qd W 180 75 3 g 0 es.length cap underlying180 stk i j (by omega) (by omega)
 have hslh : ∀ W : World, (Instr.sliceAt 180 (.slice (some ⟨g, 0, none⟩) (es.length) cap) none (some (.int .i64 (i : Int))) none).run prog W = .ok (.slice (some ⟨g, 0, none⟩) (i) cap) W := fun W => yq W 180 75 3 g 0 es.length cap underlying180 stk i (by omega)
 obtain ⟨tot, htot⟩ : ∃ tot, tot = i + vs.length + (es.length - j) := ⟨_, rfl⟩
 have HT : Hid _ := htot
 have ft1 : i + vs.length <= tot := by omega
 have ft2 : tot <= 60000 := by omega
 have ft3 : i <= 50000 := by omega
 have f4 : ¬ (j : Int) = (es.length : Int) := by omega
 have lcs : ((cur.drop (j * 3)).take ((es.length - j) * 3)).length = (es.length - j) * 3 := by rw [List.length_take, List.length_drop]; omega
 have f5 : ¬ (cap : Int) < (tot : Int) := by omega
 have f6 : (i : Int) + (vs.length : Int) <= (j : Int) := by omega
 have hvh : ∃ cu : List Value, Rw w gv 75 cu /\ 0 < cu.length := by
  obtain ⟨g', off', cap', cu, e, hh, c1, _, c3, _⟩ := hv.at_ hv0
  cases e
  exact ⟨cu.toList, hh, by simp; omega⟩
 obtain ⟨cu, hvh, hcu0⟩ := hvh
 have hvb := hv.src.2
 have hvsrc : ∀ W : World, y5 [g] w W -> ∀ j u, (fl vs)[j]? = some u -> W.cell? ((⟨gv, off, none⟩ : Addr).add j) = some u := by
  intro W hW j u hj
  have := hvb j u hj
  rw [add_lit] at this ⊢
  rw [cell_of_row _ _ _ _ _ _ hvh] at this
  rw [cell_of_row _ _ _ _ _ _ (hW.get hvh (by simp; omega))]
  exact this
 have K0 : y5 [g] w w.drew := (y5.refl [g] w).drew
 obtain ⟨w1, hr1, hg1, k1⟩ := gI (P := prog) hg.drew 180 177 75 underlying180 stk cap tot i (by omega) (by omega) hc3 ⟨gv, off, none⟩ vs.length cv (fl vs) (by rw [lfl, gO (by omega)]) (hvsrc _ K0) hv1.fl
 have l1 : (splice cur (i * 3) (fl vs)).length = cap * 3 := by rw [length_splice _ _ _ (by omega), hc3]
 have lc2 : (((splice cur (i * 3) (fl vs)).drop (j * 3)).take ((es.length - j) * 3)).length = (es.length - j) * 3 := by rw [List.length_take, List.length_drop]; omega
 have ho2 : ∀ u ∈ ((splice cur (i * 3) (fl vs)).drop (j * 3)).take ((es.length - j) * 3), u.oneCell' = true := by
  rw [gX _ _ _ _ (by omega) (by omega)]
  exact j5 h1 htk j _ (by omega)
 obtain ⟨w2, hr2, hg2, k2⟩ := gI (P := prog) hg1.drew 180 180 75 underlying180 stk cap tot (i + vs.length) (by omega) (by omega) l1 (yS 3 g 0 cap j) (es.length - j) (cap - j) (((splice cur (i * 3) (fl vs)).drop (j * 3)).take ((es.length - j) * 3)) (by rw [lc2, gO (by omega)]) (hg1.drew.src cap j (es.length - j) (by omega)) ho2
 have l2 : (splice (splice cur (i * 3) (fl vs)) ((i + vs.length) * 3) (((splice cur (i * 3) (fl vs)).drop (j * 3)).take ((es.length - j) * 3))).length = cap * 3 := by rw [length_splice _ _ _ (by omega), l1]
 obtain ⟨w3, zs, hzs, hr3, hg3, k3⟩ := Q3G (P := prog) hg2 180 75 _ underlying180 zvk (by rfl) (Q3R (by simp [Value.cells, Value.oneCell'])) cap es.length tot (by omega) (by omega) l2
 have fin : gj B 75 3 (.slice (some ⟨g, 0, none⟩) (es.length) cap) out w (.returned (.slice (some ⟨g, 0, none⟩) (tot) cap)) w3 := by
  subst hout
  refine ⟨_, rfl, OW.close (((h1.wd.take i).app hv1.wd).app (h1.wd.drop _)) hB hg3 (by simp; omega) (by omega) hc2 (by rw [length_splice _ _ _ (by omega), l2]) ?_, ((K0.trans k1).drew.trans k2).trans k3⟩
  have := Q3L (Or.inr rfl) es vs h1.wd hv1.wd cur i j es.length vs.length rfl rfl (by omega) (by omega) htk zs hfit (by omega)
  rw [<- htot] at this
  exact this
 have FIN : Hid _ := fin
 have hslt : ∀ W : World, (Instr.sliceAt 180 (.slice (some ⟨g, 0, none⟩) (es.length) cap) none (some (.int .i64 (tot : Int))) none).run prog W = .ok (.slice (some ⟨g, 0, none⟩) (tot) cap) W := fun W => yq W 180 75 3 g 0 es.length cap underlying180 stk tot (by omega)
 have hsli : ∀ W : World, (Instr.sliceAt 180 (.slice (some ⟨g, 0, none⟩) (tot) cap) (some (.int .i64 (i : Int))) none none).run prog W = .ok (.slice (some (yS 3 g 0 cap (i))) (tot - (i)) (cap - (i))) W := fun W => yi W 180 75 3 g 0 tot cap underlying180 stk i (by omega)
 have hslc : ∀ W : World, (Instr.sliceAt 180 (.slice (some ⟨g, 0, none⟩) (es.length) cap) (some (.int .i64 (tot : Int))) none none).run prog W = .ok (.slice (some (yS 3 g 0 cap (tot))) (es.length - (tot)) (cap - (tot))) W := fun W => yi (P := prog) W 180 75 3 g 0 es.length cap underlying180 stk tot (by omega)
 clear htot hout fin k1 k2 k3 K0 hg3 hg2 hg1 hvsrc hvb hvh
 go_enter func232, ntmps232
 go_wp2
 refine yj (fun _ : World => True) (by kernel_rfl) ?_
 refine hu 0 (.slice (some ⟨g, 0, none⟩) (es.length) cap) rfl (fun W hW => by rfl) trivial ?_
 simp only [zP, zA, zC, zD, zE, zF]
 refine hu 1 (.int .i64 i) rfl (fun W hW => by rfl) trivial ?_
 simp only [zP, zA, zB, zC, zD, zE, zF]
 refine hu 2 (.slice (some ⟨g, 0, none⟩) (i) cap) rfl (fun W hW => yu 180 (.tmp 45) none (some (.tmp 46)) none rfl _ none (some (.int .i64 ((i : Nat) : Int))) none rfl rfl rfl rfl _ (yq W 180 75 3 g 0 (es.length) cap underlying180 stk (i) (by omega))) trivial ?_
 simp only [zP, zA, zB, zC, zD, zE, zF]
 refine hu 3 (.int .i64 i) rfl (fun W hW => q0 (.tmp 47) 180 75 rfl (some ⟨g, 0, none⟩) (i) (cap) rfl underlying180) trivial ?_
 simp only [zP, zA, zB, zC, zD, zE, zF]
 refine hu 4 (.slice (some ⟨gv, off, none⟩) vs.length cv) rfl (fun W hW => by rfl) trivial ?_
 simp only [zP, zA, zB, zC, zD, zE, zF]
 refine hu 5 (.int .i64 vs.length) rfl (fun W hW => q0 (.tmp 49) 177 75 rfl (some ⟨gv, off, none⟩) (vs.length) (cv) rfl underlying177) trivial ?_
 simp only [zP, zA, zB, zC, zD, zE, zF]
 refine hu 6 (.int .i64 ((i + vs.length : Nat) : Int)) rfl (fun W hW => yY (.tmp 48) (.tmp 50) rfl (i) (vs.length) rfl rfl (by omega)) trivial ?_
 simp only [zP, zA, zB, zC, zD, zE, zF]
 refine hu 7 (.slice (some ⟨g, 0, none⟩) (es.length) cap) rfl (fun W hW => by rfl) trivial ?_
 simp only [zP, zA, zB, zC, zD, zE, zF]
 refine hu 8 (.int .i64 j) rfl (fun W hW => by rfl) trivial ?_
 simp only [zP, zA, zB, zC, zD, zE, zF]
 refine hu 9 (.slice (some (yS 3 g 0 cap (j))) (es.length - (j)) (cap - (j))) rfl (fun W hW => yu 180 (.tmp 52) (some (.tmp 53)) none none rfl _ (some (.int .i64 ((j : Nat) : Int))) none none rfl rfl rfl rfl _ (yi W 180 75 3 g 0 (es.length) cap underlying180 stk (j) (by omega))) trivial ?_
 simp only [zP, zA, zB, zC, zD, zE, zF]
 refine hu 10 (.int .i64 ((es.length - j : Nat) : Int)) rfl (fun W hW => q0 (.tmp 54) 180 75 rfl (some (yS 3 g 0 cap j)) (es.length - j) (cap - j) rfl underlying180) trivial ?_
 simp only [zP, zA, zB, zC, zD, zE, zF]
 refine hu 11 (.int .i64 (tot : Int)) rfl (fun W hW => by rw [HT.out]; exact yY (.tmp 51) (.tmp 55) rfl (i + vs.length) (es.length - j) rfl rfl (by omega)) trivial ?_
 simp only [zP, zA, zB, zC, zD, zE, zF]
 refine hu 12 (.int .i64 (tot : Int)) rfl (fun W hW => by rfl) trivial ?_
 simp only [zP, zA, zB, zC, zD, zE, zF]
 refine wpAnyH_done (by kernel_rfl) ?_ _
 go_wp2_with (first
  | (at_builtin; (refine y8 rfl _ w1 (yT (.tmp 95) (.tmp 96) 180 177 rfl _ _ rfl rfl _ (hr1 _)) ?_)))
 refine yj (fun _ : World => True) (by kernel_rfl) ?_
 refine hu 0 (.slice (some ⟨g, 0, none⟩) (tot) cap) rfl (fun W hW => by rfl) trivial ?_
 simp only [zP, zA, zC, zD, zE, zF]
 refine hu 1 (.int .i64 i) rfl (fun W hW => by rfl) trivial ?_
 simp only [zP, zA, zB, zC, zD, zE, zF]
 refine hu 2 (.slice (some ⟨gv, off, none⟩) vs.length cv) rfl (fun W hW => by rfl) trivial ?_
 simp only [zP, zA, zB, zC, zD, zE, zF]
 refine hu 3 (.int .i64 vs.length) rfl (fun W hW => q0 (.tmp 100) 177 75 rfl (some ⟨gv, off, none⟩) (vs.length) (cv) rfl underlying177) trivial ?_
 simp only [zP, zA, zB, zC, zD, zE, zF]
 refine hu 4 (.int .i64 ((i + vs.length : Nat) : Int)) rfl (fun W hW => yY (.tmp 99) (.tmp 101) rfl (i) (vs.length) rfl rfl (by omega)) trivial ?_
 simp only [zP, zA, zB, zC, zD, zE, zF]
 refine hu 5 (.slice (some (yS 3 g 0 cap (i + vs.length))) (tot - (i + vs.length)) (cap - (i + vs.length))) rfl (fun W hW => yu 180 (.tmp 98) (some (.tmp 102)) none none rfl _ (some (.int .i64 ((i + vs.length : Nat) : Int))) none none rfl rfl rfl rfl _ (yi W 180 75 3 g 0 (tot) cap underlying180 stk (i + vs.length) (by omega))) trivial ?_
 simp only [zP, zA, zB, zC, zD, zE, zF]
 refine hu 6 (.slice (some ⟨g, 0, none⟩) (es.length) cap) rfl (fun W hW => by rfl) trivial ?_
 simp only [zP, zA, zB, zC, zD, zE, zF]
 refine hu 7 (.int .i64 j) rfl (fun W hW => by rfl) trivial ?_
 simp only [zP, zA, zB, zC, zD, zE, zF]
 refine hu 8 (.slice (some (yS 3 g 0 cap (j))) (es.length - (j)) (cap - (j))) rfl (fun W hW => yu 180 (.tmp 104) (some (.tmp 105)) none none rfl _ (some (.int .i64 ((j : Nat) : Int))) none none rfl rfl rfl rfl _ (yi W 180 75 3 g 0 (es.length) cap underlying180 stk (j) (by omega))) trivial ?_
 simp only [zP, zA, zB, zC, zD, zE, zF]
 refine yf (i := 9) (by kernel_rfl) (yy rfl (by rfl) _ w2 (yT (.tmp 103) (.tmp 106) 180 180 rfl _ _ rfl rfl _ (hr2 _)) ⟨trivial, ?_⟩)
 simp only [zP, zA, zB, zC, zD, zE, zF]
 refine wpAnyH_done (by kernel_rfl) ?_ _
 go_wp2_with (first
  | (at_builtin; (refine y8 rfl _ w3 (jS (.tmp 110) 180 rfl _ rfl _ (hr3 _)) ?_)))
 go_ret
 exact FIN.out
theorem Q44 (B : Nat) (es : List El) (i j : Nat) (w : World) (g cap : Nat) (cur : List Value) (hB : B <= g) (hg : Rw w g 75 cur) (hc1 : es.length <= cap) (hc2 : cap <= maxLen) (hc3 : cur.length = cap * 3) (htk : cur.take (es.length * 3) = fl es) (h1 : One 3 es) (hij : i < j) (hl : es.length <= 50000)
  (gv off cv : Nat) (vs : List El) (hv : SL w 75 3 (.slice (some ⟨gv, off, none⟩) vs.length cv) vs) (hv1 : One 3 vs) (hv0 : 0 < vs.length) (hv2 : vs.length <= 1000) (out : List El) (hout : out = es.take i ++ vs ++ es.drop j) (hj : j < es.length) (hroom : i + vs.length + (es.length - j) <= cap) (hfit : j < i + vs.length) (hap : gv ≠ g) : Calls prog 232 #[.slice (some ⟨g, 0, none⟩) (es.length) cap, .int .i64 i, .int .i64 j, .slice (some ⟨gv, off, none⟩) vs.length cv] w (gj B 75 3 (.slice (some ⟨g, 0, none⟩) (es.length) cap) out w) := by
 have f1 : (i : Int) <= (j : Int) := by omega
 have f2 : (j : Int) <= (cap : Int) := by omega
 have f3 : ¬ (i : Int) = (j : Int) := by omega
 have lfl : (fl vs).length = vs.length * 3 := qb hv1.wd
 have hsl0 : ∀ W : World, (Instr.sliceAt 180 (.slice (some ⟨g, 0, none⟩) (es.length) cap) (some (.int .i64 (i : Int))) (some (.int .i64 (j : Int))) none).run prog W = .ok (.slice (some (yS 3 g 0 cap i)) (j - i) (cap - i)) W := fun W => qd W 180 75 3 g 0 es.length cap underlying180 stk i j (by omega) (by omega)
 have hslh : ∀ W : World, (Instr.sliceAt 180 (.slice (some ⟨g, 0, none⟩) (es.length) cap) none (some (.int .i64 (i : Int))) none).run prog W = .ok (.slice (some ⟨g, 0, none⟩) (i) cap) W := fun W => yq W 180 75 3 g 0 es.length cap underlying180 stk i (by omega)
 obtain ⟨tot, htot⟩ : ∃ tot, tot = i + vs.length + (es.length - j) := ⟨_, rfl⟩
 have HT : Hid _ := htot
 have ft1 : i + vs.length <= tot := by omega
 have ft2 : tot <= 60000 := by omega
 have ft3 : i <= 50000 := by omega
 have f4 : ¬ (j : Int) = (es.length : Int) := by omega
 have lcs : ((cur.drop (j * 3)).take ((es.length - j) * 3)).length = (es.length - j) * 3 := by rw [List.length_take, List.length_drop]; omega
 have f5 : ¬ (cap : Int) < (tot : Int) := by omega
 have f6 : ¬ (i : Int) + (vs.length : Int) <= (j : Int) := by omega
 have hvh : ∃ cu : List Value, Rw w gv 75 cu /\ 0 < cu.length := by
  obtain ⟨g', off', cap', cu, e, hh, c1, _, c3, _⟩ := hv.at_ hv0
  cases e
  exact ⟨cu.toList, hh, by simp; omega⟩
 obtain ⟨cu, hvh, hcu0⟩ := hvh
 have hvb := hv.src.2
 have hvsrc : ∀ W : World, y5 [g] w W -> ∀ j u, (fl vs)[j]? = some u -> W.cell? ((⟨gv, off, none⟩ : Addr).add j) = some u := by
  intro W hW j u hj
  have := hvb j u hj
  rw [add_lit] at this ⊢
  rw [cell_of_row _ _ _ _ _ _ hvh] at this
  rw [cell_of_row _ _ _ _ _ _ (hW.get hvh (by simp; omega))]
  exact this
 have K0 : y5 [g] w w.drew.drew := (y5.refl [g] w).drew.drew
 have hov := Q3I (P := prog) (w := w.drew) 177 4 underlying177 stk (yS 3 g 0 cap (i + vs.length)) ⟨gv, off, none⟩ (tot - (i + vs.length)) (cap - (i + vs.length)) vs.length cv (by rw [jk]; exact hg) rfl hvh (by rw [jk]; exact fun e => hap e.symm) hcu0
 have he := @run_callFunc_extern prog 238 _ (Extern.SlicesOverlaps.overlaps #[177, 177] #[4]) func238 (by kernel_rfl) (by kernel_rfl) (by kernel_rfl) (by kernel_rfl)
 obtain ⟨w1, hr1, hg1, k1⟩ := gI (P := prog) hg.drew.drew 180 180 75 underlying180 stk cap tot (i + vs.length) (by omega) (by omega) hc3 (yS 3 g 0 cap j) (es.length - j) (cap - j) ((cur.drop (j * 3)).take ((es.length - j) * 3)) (by rw [lcs, gO (by omega)]) (hg.drew.drew.src cap j (es.length - j) (by omega)) (j5 h1 htk j _ (by omega))
 have l1 : (splice cur ((i + vs.length) * 3) ((cur.drop (j * 3)).take ((es.length - j) * 3))).length = cap * 3 := by rw [length_splice _ _ _ (by omega), hc3]
 obtain ⟨w2, hr2, hg2, k2⟩ := gI (P := prog) hg1 180 177 75 underlying180 stk cap tot i (by omega) (by omega) l1 ⟨gv, off, none⟩ vs.length cv (fl vs) (by rw [lfl, gO (by omega)]) (hvsrc _ (K0.trans k1)) hv1.fl
 have fin : gj B 75 3 (.slice (some ⟨g, 0, none⟩) (es.length) cap) out w (.returned (.slice (some ⟨g, 0, none⟩) (tot) cap)) w2 := by
  subst hout
  refine ⟨_, rfl, OW.close (((h1.wd.take i).app hv1.wd).app (h1.wd.drop _)) hB hg2 (by simp; omega) (by omega) hc2 (by rw [length_splice _ _ _ (by omega), l1]) ?_, (K0.trans k1).trans k2⟩
  have := ZX (Or.inr rfl) es vs h1.wd hv1.wd cur i j es.length vs.length rfl rfl (by omega) (by omega) htk (by omega)
  rw [<- htot] at this
  exact this
 have FIN : Hid _ := fin
 have hslt : ∀ W : World, (Instr.sliceAt 180 (.slice (some ⟨g, 0, none⟩) (es.length) cap) none (some (.int .i64 (tot : Int))) none).run prog W = .ok (.slice (some ⟨g, 0, none⟩) (tot) cap) W := fun W => yq W 180 75 3 g 0 es.length cap underlying180 stk tot (by omega)
 have hsli : ∀ W : World, (Instr.sliceAt 180 (.slice (some ⟨g, 0, none⟩) (tot) cap) (some (.int .i64 (i : Int))) none none).run prog W = .ok (.slice (some (yS 3 g 0 cap (i))) (tot - (i)) (cap - (i))) W := fun W => yi W 180 75 3 g 0 tot cap underlying180 stk i (by omega)
 have hslv : ∀ W : World, (Instr.sliceAt 180 (.slice (some ⟨g, 0, none⟩) (tot) cap) (some (.int .i64 ((i : Int) + (vs.length : Int)))) none none).run prog W = .ok (.slice (some (yS 3 g 0 cap (i + vs.length))) (tot - (i + vs.length)) (cap - (i + vs.length))) W := fun W => by
  have := yi (P := prog) W 180 75 3 g 0 tot cap underlying180 stk (i + vs.length) (by omega)
  rwa [Int.natCast_add] at this
 clear htot hout fin k1 k2 K0 hg2 hg1 hvsrc hvb hvh
 go_enter func232, ntmps232
 go_wp2
 refine yj (fun _ : World => True) (by kernel_rfl) ?_
 refine hu 0 (.slice (some ⟨g, 0, none⟩) (es.length) cap) rfl (fun W hW => by rfl) trivial ?_
 simp only [zP, zA, zC, zD, zE, zF]
 refine hu 1 (.int .i64 i) rfl (fun W hW => by rfl) trivial ?_
 simp only [zP, zA, zB, zC, zD, zE, zF]
 refine hu 2 (.slice (some ⟨g, 0, none⟩) (i) cap) rfl (fun W hW => yu 180 (.tmp 45) none (some (.tmp 46)) none rfl _ none (some (.int .i64 ((i : Nat) : Int))) none rfl rfl rfl rfl _ (yq W 180 75 3 g 0 (es.length) cap underlying180 stk (i) (by omega))) trivial ?_
 simp only [zP, zA, zB, zC, zD, zE, zF]
 refine hu 3 (.int .i64 i) rfl (fun W hW => q0 (.tmp 47) 180 75 rfl (some ⟨g, 0, none⟩) (i) (cap) rfl underlying180) trivial ?_
 simp only [zP, zA, zB, zC, zD, zE, zF]
 refine hu 4 (.slice (some ⟨gv, off, none⟩) vs.length cv) rfl (fun W hW => by rfl) trivial ?_
 simp only [zP, zA, zB, zC, zD, zE, zF]
 refine hu 5 (.int .i64 vs.length) rfl (fun W hW => q0 (.tmp 49) 177 75 rfl (some ⟨gv, off, none⟩) (vs.length) (cv) rfl underlying177) trivial ?_
 simp only [zP, zA, zB, zC, zD, zE, zF]
 refine hu 6 (.int .i64 ((i + vs.length : Nat) : Int)) rfl (fun W hW => yY (.tmp 48) (.tmp 50) rfl (i) (vs.length) rfl rfl (by omega)) trivial ?_
 simp only [zP, zA, zB, zC, zD, zE, zF]
 refine hu 7 (.slice (some ⟨g, 0, none⟩) (es.length) cap) rfl (fun W hW => by rfl) trivial ?_
 simp only [zP, zA, zB, zC, zD, zE, zF]
 refine hu 8 (.int .i64 j) rfl (fun W hW => by rfl) trivial ?_
 simp only [zP, zA, zB, zC, zD, zE, zF]
 refine hu 9 (.slice (some (yS 3 g 0 cap (j))) (es.length - (j)) (cap - (j))) rfl (fun W hW => yu 180 (.tmp 52) (some (.tmp 53)) none none rfl _ (some (.int .i64 ((j : Nat) : Int))) none none rfl rfl rfl rfl _ (yi W 180 75 3 g 0 (es.length) cap underlying180 stk (j) (by omega))) trivial ?_
 simp only [zP, zA, zB, zC, zD, zE, zF]
 refine hu 10 (.int .i64 ((es.length - j : Nat) : Int)) rfl (fun W hW => q0 (.tmp 54) 180 75 rfl (some (yS 3 g 0 cap j)) (es.length - j) (cap - j) rfl underlying180) trivial ?_
 simp only [zP, zA, zB, zC, zD, zE, zF]
 refine hu 11 (.int .i64 (tot : Int)) rfl (fun W hW => by rw [HT.out]; exact yY (.tmp 51) (.tmp 55) rfl (i + vs.length) (es.length - j) rfl rfl (by omega)) trivial ?_
 simp only [zP, zA, zB, zC, zD, zE, zF]
 refine hu 12 (.int .i64 (tot : Int)) rfl (fun W hW => by rfl) trivial ?_
 simp only [zP, zA, zB, zC, zD, zE, zF]
 refine wpAnyH_done (by kernel_rfl) ?_ _
 go_wp2
 refine yj (fun _ : World => True) (by kernel_rfl) ?_
 refine hu 0 (.slice (some ⟨g, 0, none⟩) (tot) cap) rfl (fun W hW => by rfl) trivial ?_
 simp only [zP, zA, zC, zD, zE, zF]
 refine hu 1 (.int .i64 i) rfl (fun W hW => by rfl) trivial ?_
 simp only [zP, zA, zB, zC, zD, zE, zF]
 refine hu 2 (.slice (some ⟨gv, off, none⟩) vs.length cv) rfl (fun W hW => by rfl) trivial ?_
 simp only [zP, zA, zB, zC, zD, zE, zF]
 refine hu 3 (.int .i64 vs.length) rfl (fun W hW => q0 (.tmp 123) 177 75 rfl (some ⟨gv, off, none⟩) (vs.length) (cv) rfl underlying177) trivial ?_
 simp only [zP, zA, zB, zC, zD, zE, zF]
 refine hu 4 (.int .i64 ((i + vs.length : Nat) : Int)) rfl (fun W hW => yY (.tmp 122) (.tmp 124) rfl (i) (vs.length) rfl rfl (by omega)) trivial ?_
 simp only [zP, zA, zB, zC, zD, zE, zF]
 refine hu 5 (.slice (some (yS 3 g 0 cap (i + vs.length))) (tot - (i + vs.length)) (cap - (i + vs.length))) rfl (fun W hW => yu 180 (.tmp 121) (some (.tmp 125)) none none rfl _ (some (.int .i64 ((i + vs.length : Nat) : Int))) none none rfl rfl rfl rfl _ (yi W 180 75 3 g 0 (tot) cap underlying180 stk (i + vs.length) (by omega))) trivial ?_
 simp only [zP, zA, zB, zC, zD, zE, zF]
 refine hu 6 (.slice (some ⟨g, 0, none⟩) (es.length) cap) rfl (fun W hW => by rfl) trivial ?_
 simp only [zP, zA, zB, zC, zD, zE, zF]
 refine hu 7 (.int .i64 j) rfl (fun W hW => by rfl) trivial ?_
 simp only [zP, zA, zB, zC, zD, zE, zF]
 refine hu 8 (.slice (some (yS 3 g 0 cap (j))) (es.length - (j)) (cap - (j))) rfl (fun W hW => yu 180 (.tmp 127) (some (.tmp 128)) none none rfl _ (some (.int .i64 ((j : Nat) : Int))) none none rfl rfl rfl rfl _ (yi W 180 75 3 g 0 (es.length) cap underlying180 stk (j) (by omega))) trivial ?_
 simp only [zP, zA, zB, zC, zD, zE, zF]
 refine yf (i := 9) (by kernel_rfl) (yy rfl (by rfl) _ w1 (yT (.tmp 126) (.tmp 129) 180 180 rfl _ _ rfl rfl _ (hr1 _)) ⟨trivial, ?_⟩)
 simp only [zP, zA, zB, zC, zD, zE, zF]
 refine wpAnyH_done (by kernel_rfl) ?_ _
 go_wp2_with (first
  | (at_builtin; (refine y8 rfl _ w2 (yT (.tmp 133) (.tmp 134) 180 177 rfl _ _ rfl rfl _ (hr2 _)) ?_)))
 go_ret
 exact FIN.out
theorem Q45 (B : Nat) (vl : Value) (es : List El) (i j : Nat) (w : World) (h : OW w B 75 3 vl es) (h1 : One 3 es) (hij : i < j) (hj : j <= es.length) (hl : es.length <= 50000) (hBw : B <= w.heap.size)
  (gv off cv : Nat) (vs : List El) (hv : SL w 75 3 (.slice (some ⟨gv, off, none⟩) vs.length cv) vs) (hv1 : One 3 vs) (hv0 : 0 < vs.length) (hv2 : vs.length <= 1000) (hap : vl.ownBlock ≠ some gv) :
  Calls prog 232 #[vl, .int .i64 i, .int .i64 j, .slice (some ⟨gv, off, none⟩) vs.length cv] w (gj B 75 3 vl (es.take i ++ vs ++ es.drop j) w) := by
 obtain ⟨g, cap, cur, rfl, hB, hg, hc1, hc2, hc3, htk⟩ := h.open (by omega)
 have hap' : gv ≠ g := by intro e; subst e; exact hap rfl
 rcases Nat.eq_or_lt_of_le hj with hj | hj
 ·by_cases hr : i + vs.length <= cap
  ·by_cases hc : i + vs.length < es.length
   ·exact Q3Z B es i j w g cap cur hB hg hc1 hc2 hc3 htk h1 hij hl gv off cv vs hv hv1 hv0 hv2 _ rfl hj hr hc
   ·exact Q40 B es i j w g cap cur hB hg hc1 hc2 hc3 htk h1 hij hl gv off cv vs hv hv1 hv0 hv2 _ rfl hj hr (by omega)
  ·exact Q41 B es i j w g cap cur hB hg hc1 hc2 hc3 htk h1 hij hl gv off cv vs hv hv1 hv0 hv2 _ rfl hj (by omega) hBw
 ·by_cases hr : i + vs.length + (es.length - j) <= cap
  ·by_cases hf : i + vs.length <= j
   ·exact Q43 B es i j w g cap cur hB hg hc1 hc2 hc3 htk h1 hij hl gv off cv vs hv hv1 hv0 hv2 _ rfl hj hf hap'
   ·exact Q44 B es i j w g cap cur hB hg hc1 hc2 hc3 htk h1 hij hl gv off cv vs hv hv1 hv0 hv2 _ rfl hj hr (by omega) hap'
  ·exact Q42 B es i j w g cap cur hB hg hc1 hc2 hc3 htk h1 hij hl gv off cv vs hv hv1 hv0 hv2 _ rfl hj (by omega) hBw
end Go.Proofs.YtcklgafpgdhnaabGreatDoor
