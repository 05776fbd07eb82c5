import Derived.Test.YtcklgafpgdhnaaaGreatDoorPtaf
set_option maxRecDepth 100000
set_option maxHeartbeats 4000000
open List renaming getElem_toArray → zA, getElem_cons_succ → zB, getElem_cons_zero → zC, setIfInBounds_toArray → zD, set_cons_succ → zE, set_cons_zero → zF
namespace Go.Proofs.YtcklgafpgdhnaaaGreatDoor
open Go.RowKit


def ScI (w : World) (vl : Value) (l : List Pr) (lo hi : ByteArray) (m : Nat) (out i : Value) (wr : World) : Prop :=
 ∃ (j : Nat) (o : List Pr), j ≤ l.length ∧ i = .int .i64 j ∧ wr.ownsRow (w.heap.size + 1) 224 2 out o.length (flat2 o) ∧ o.length ≤ j ∧ o.length ≤ m ∧ o = (l.take j).filter (inR lo hi) ∧
  wr.heap[w.heap.size]? = some (.cells #[vl] 189 (0, 0)) ∧ Kept [] w wr


theorem scan_full {lo hi : ByteArray} {m : Nat} {l : List Pr} {j : Nat} (h : m ≤ ((l.take j).filter (inR lo hi)).length) : scanL lo hi m l = ((l.take j).filter (inR lo hi)).take m := by
 conv => lhs; rw [scanL, ← List.take_append_drop j l, List.filter_append]
 rw [List.take_append_of_le_length h]

theorem RScan_any (vl : Value) (l : List Pr) (lo hi : ByteArray) (m : Int) (w : World) (h : PL w 224 vl l) (hl : l.length ≤ 50000) :
  Calls Tryz.prog 143 #[.agg #[vl], .string lo, .string hi, .int .i64 m] w (ListR 224 (scanL lo hi (mst m) l) w) := by
 obtain ⟨pv, cv, rfl⟩ := h.shape
 have k0 := (Kept.refl [] w).alloc (.cells #[.slice pv l.length cv] 189)
 have n0 := heap_alloc_new w (.cells #[.slice pv l.length cv] 189)
 have hW0 : ScI w (.slice pv l.length cv) l lo hi (mst m) (.slice none 0 0) (.int .i64 0) (w.alloc (.cells #[.slice pv l.length cv] 189)) :=
  ⟨0, [], Nat.zero_le _, rfl, World.ownsRow_nil _ _ _ _, by simp, by simp, rfl, n0, k0⟩
 clear n0
 go_enter Tryz.func143, Tryz.ntmps143
 go_wp2
 go_loopw [9, 10] (fun out i wr => ScI w (.slice pv l.length cv) l lo hi (mst m) out i wr) (fun _ i _ => l.length - (intOf i).toNat)
 case atStart => exact hW0
 case round =>
  obtain ⟨j, o, hj, rfl, hown, hol, hom, heq, b0, hkr⟩ := hrel
  have c0 : wr.cell? ⟨w.heap.size, 0, none⟩ = some (.slice pv l.length cv) := cellAt b0 rfl
  obtain ⟨p9, c9, rfl⟩ := owns_len2 hown
  have RET : Hid (∀ (x : List Pr), x = scanL lo hi (mst m) l → o = x → ListR 224 (scanL lo hi (mst m) l) w (.returned (.slice p9 o.length c9)) wr) := by
   rintro x hx rfl
   rw [hx] at hown
   exact ⟨_, rfl, by rw [hx]; exact owns_mono hown (Nat.zero_le _), by intro y hy; have := (hown.lt y (by rw [hx] at hy; exact hy)).1; omega, hkr⟩
  have HQ : Hid (o = (l.take j).filter (inR lo hi)) := heq
  clear heq
  by_cases hlt : j < l.length
  ·by_cases hm : (o.length : Int) < m
   ·have hm' : o.length + 1 ≤ mst m := by unfold mst; omega
    have hPL := h.kept hkr (by simp)
    obtain ⟨g, cap, cur, e, hg, hcur⟩ := hPL.at_ (by omega)
    cases e
    obtain ⟨p, hp⟩ : ∃ p, l[j]? = some p := ⟨_, List.getElem?_eq_getElem hlt⟩
    have hld := PL.load (P := Tryz.prog) (ty := 224) _ hg (hcur j p hp) Tryz.underlying224 srp
    have hc0 : wr.cell? ⟨g, j * 2, none⟩ = some (.string p.1) := cellAt hg (hcur j p hp).1
    have hb : w.heap.size + 1 ≤ wr.heap.size := by have := lt_heap b0; omega
    clear hPL hcur
    have fin : ∀ (out' : Value) (o' : List Pr) (w' : World), w'.ownsRow (w.heap.size + 1) 224 2 out' o'.length (flat2 o') → o'.length ≤ o.length + 1 → o' = (l.take (j + 1)).filter (inR lo hi) → Kept (Value.slice p9 o.length c9).ownBlock.toList wr w' → ScI w (.slice (some ⟨g, 0, none⟩) l.length cv) l lo hi (mst m) out' (.int .i64 ((j : Int) + 1)) w' := by
     rintro out' o' w' h1 h2 h3 h4
     have h5 := own_ge hown
     refine ⟨j + 1, o', by omega, by simp, h1, by omega, by omega, h3, h4.get b0 ?_, hkr.trans2 h4 ?_⟩
     ·intro hx; have := h5 _ hx; omega
     ·intro x hx; right; have := h5 _ hx; omega
    have FIN : Hid _ := fin
    have HE : Hid ((l.take (j + 1)).filter (inR lo hi) = o ++ if inR lo hi p then [p] else []) := by
     have heq := HQ.out
     show _ = _
     rw [take_snoc l j p hp, heq]
     simp only [List.filter_append]
     cases he : inR lo hi p <;> simp [he]
    clear fin
    cases hlo : bl p.1 lo with
    | true =>
     have hP := FIN.out _ o wr hown (by omega) (by have := HE.out; simpa [inR, hlo] using this.symm) (Kept.refl _ _)
     unfold bl at hlo
     go_wp2_with (first
      | (refine wpList_val rfl _ _ (exec_index 187 (.tmp 25) (.tmp 26) rfl g 0 l.length cv j 2 rfl rfl 224 Tryz.underlying187 srp hlt (j * 2) (by omega)) ?_))
     go_roundw
     case rel => exact hP
     case measure => simp [intOf]; omega
    | false =>
     cases hhi : bl p.1 hi with
     | false =>
      have hP := FIN.out _ o wr hown (by omega) (by have := HE.out; simpa [inR, hlo, hhi] using this.symm) (Kept.refl _ _)
      unfold bl at hlo hhi
      go_wp2_with (first
       | (refine wpList_val rfl _ _ (exec_index 187 (.tmp 25) (.tmp 26) rfl g 0 l.length cv j 2 rfl rfl 224 Tryz.underlying187 srp hlt (j * 2) (by omega)) ?_)
       | (refine wpList_val rfl _ _ (exec_index 187 (.tmp 34) (.tmp 35) rfl g 0 l.length cv j 2 rfl rfl 224 Tryz.underlying187 srp hlt (j * 2) (by omega)) ?_))
      go_roundw
      case rel => exact hP
      case measure => simp [intOf]; omega
     | true =>
      have hE : (l.take (j + 1)).filter (inR lo hi) = o ++ [p] := by have := HE.out; simpa [inR, hlo, hhi] using this
      have HE2 : Hid _ := hE
      clear hE
      unfold bl at hlo hhi
      go_wp2_with (first
       | (refine wpList_val rfl _ _ (exec_index 187 (.tmp 25) (.tmp 26) rfl g 0 l.length cv j 2 rfl rfl 224 Tryz.underlying187 srp hlt (j * 2) (by omega)) ?_)
       | (refine wpList_val rfl _ _ (exec_index 187 (.tmp 34) (.tmp 35) rfl g 0 l.length cv j 2 rfl rfl 224 Tryz.underlying187 srp hlt (j * 2) (by omega)) ?_)
       | (refine wpList_val rfl _ _ (exec_index 187 (.tmp 44) (.tmp 45) rfl g 0 l.length cv j 2 rfl rfl 224 Tryz.underlying187 srp hlt (j * 2) (by omega)) ?_)
       | (refine wpList_load_seg rfl 224 (.tmp 46) rfl ⟨g, j * 2, none⟩ rfl _ hld ?_)
       | (refine wpList_new rfl _ _ (exec_buildSlice 187 1 (.tmp 47) rfl (.agg #[.string p.1, .string p.2]) rfl _ (run_pair1 _ p)) ?_; intro w3 n3 k3 _; have own3 := owns_kept hown k3 (by simp); have hb3 := k3.size)
       | (at_builtin; refine wpList_push rfl (.tmp 42) (.tmp 48) rfl (w.heap.size + 1) (.slice p9 o.length c9) o rfl own3 p _ rfl n3 (by omega) (by omega) ?_; intro v4 w4 own4 k4; have hP := FIN.out v4 (o ++ [p]) w4 own4 (by simp) HE2.out.symm ((k3.mono (by simp)).trans k4); clear own4 own3 n3 k3 k4))
      go_roundw
      case rel => exact hP
      case measure => simp [intOf]; omega
   ·have hom2 : mst m ≤ o.length := by unfold mst; omega
    have hfin := RET.out o (by have heq := HQ.out; rw [scan_full (j := j) (by rw [← heq]; exact hom2), ← heq, List.take_of_length_le (by omega)]) rfl
    go_wp2
    go_ret
    exact hfin
  ·have hge : ¬ (j : Int) < (l.length : Int) := by omega
   have ej : j = l.length := by omega
   have hfin := RET.out o (by have heq := HQ.out; rw [ej, List.take_length] at heq; rw [scanL, ← heq, List.take_of_length_le hom]) rfl
   go_wp2
   go_ret
   exact hfin

end Go.Proofs.YtcklgafpgdhnaaaGreatDoor
