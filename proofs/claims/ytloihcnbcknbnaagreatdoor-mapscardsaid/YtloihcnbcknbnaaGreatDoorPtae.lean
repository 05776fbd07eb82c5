import Derived.Test.YtloihcnbcknbnaaGreatDoorPtad
namespace Go.Proofs.YtloihcnbcknbnaaGreatDoor
open Go.RowKit

theorem take_snoc {α : Type} (l : List α) (j : Nat) (p : α) (h : l[j]? = some p) : l.take (j + 1) = l.take j ++ [p] := by
  rw [List.take_add_one, h]; rfl

def WoR (w : World) (vl : Value) (l : List Pr) (k : ByteArray) (out i : Value) (wr : World) : Prop :=
  ∃ (j : Nat) (o : List Pr), j ≤ l.length ∧ i = .int .i64 j ∧ wr.ownsRow (w.heap.size + 2) 201 2 out o.length (flat2 o) ∧ o.length ≤ j ∧ o = withoutL k (l.take j) ∧
    wr.heap[w.heap.size]? = some (.cells #[vl] 170 (0, 0)) ∧ wr.heap[w.heap.size + 1]? = some (.cells #[.slice none 0 0] 170 (0, 0)) ∧ Kept [] w wr

set_option maxRecDepth 100000 in
set_option maxHeartbeats 1000000 in
theorem Without_any (vl : Value) (l : List Pr) (k : ByteArray) (w : World) (h : PL w 201 vl l) (hl : l.length ≤ 50000) :
    Calls Tryz.prog 114 #[.agg #[vl], .string k] w (MapR (withoutL k l) w) := by
  obtain ⟨pv, cv, rfl⟩ := h.shape
  have k0 := (Kept.refl [] w).alloc (.cells #[.slice pv l.length cv] 170)
  have n0 := heap_alloc_new w (.cells #[.slice pv l.length cv] 170)
  have k1 := (Kept.refl [] (w.alloc (.cells #[.slice pv l.length cv] 170))).alloc (.cells #[.slice none 0 0] 170)
  have n1 := heap_alloc_new (w.alloc (.cells #[.slice pv l.length cv] 170)) (.cells #[.slice none 0 0] 170)
  have z1 : (w.alloc (.cells #[.slice pv l.length cv] 170)).heap.size = w.heap.size + 1 := by simp
  rw [z1] at n1
  have hW0 : WoR w (.slice pv l.length cv) l k (.slice none 0 0) (.int .i64 0) ((w.alloc (.cells #[.slice pv l.length cv] 170)).alloc (.cells #[.slice none 0 0] 170)) :=
    ⟨0, [], Nat.zero_le _, rfl, World.ownsRow_nil _ _ _ _, by simp, rfl, k1.get n0 (by simp), n1, k0.trans k1⟩
  clear z1 n0 n1 k1
  go_enter Tryz.func114, Tryz.ntmps114
  go_wp2
  go_loopw [5, 6] (fun out i wr => WoR w (.slice pv l.length cv) l k out i wr) (fun _ i _ => l.length - (intOf i).toNat)
  case atStart => exact hW0
  case round =>
    obtain ⟨j, o, hj, rfl, hown, hol, heq, b0, b1, hkr⟩ := hrel
    have c0 : wr.cell? ⟨w.heap.size, 0, none⟩ = some (.slice pv l.length cv) := cellAt b0 rfl
    by_cases hlt : j < l.length
    · have hPL := h.kept hkr (by simp)
      obtain ⟨g, cap, cur, e, hg, hcur⟩ := hPL.at_ (by omega)
      cases e
      obtain ⟨p, hp⟩ : ∃ p, l[j]? = some p := ⟨_, List.getElem?_eq_getElem hlt⟩
      have hld := PL.load (P := Tryz.prog) (ty := 201) _ hg (hcur j p hp) Tryz.underlying201 srp
      have hc0 : wr.cell? ⟨g, j * 2, none⟩ = some (.string p.1) := cellAt hg (hcur j p hp).1
      have hb : w.heap.size + 2 ≤ wr.heap.size := by have := lt_heap b1; omega
      clear hPL hcur
      have fin : ∀ (out' : Value) (o' : List Pr) (w' : World), w'.ownsRow (w.heap.size + 2) 201 2 out' o'.length (flat2 o') → o'.length ≤ j + 1 → o' = withoutL k (l.take (j + 1)) → Kept u5.ownBlock.toList wr w' → WoR w (.slice (some ⟨g, 0, none⟩) l.length cv) l k out' (.int .i64 ((j : Int) + 1)) w' := by
        rintro out' o' w' h1 h2 h3 h4
        have h5 := own_ge hown
        refine ⟨j + 1, o', by omega, by simp, h1, h2, h3, h4.get b0 ?_, h4.get b1 ?_, hkr.trans2 h4 ?_⟩
        · intro hx; have := h5 _ hx; omega
        · intro hx; have := h5 _ hx; omega
        · intro x hx; right; have := h5 _ hx; omega
      have FIN : Hid _ := fin
      have HE : Hid (withoutL k (l.take (j + 1)) = o ++ if be p.1 k then [] else [p]) := by
        show _ = _
        rw [take_snoc l j p hp, heq]
        simp only [withoutL, List.filter_append]
        cases he : be p.1 k <;> simp [he]
      clear fin heq
      cases he : be p.1 k with
      | true =>
        have hP := FIN.out u5 o wr hown (by omega) (by have := HE.out; simpa [he] using this.symm) (Kept.refl _ _)
        unfold be at he
        go_wp2_with (first
          | (refine wpList_val rfl _ _ (exec_index 168 (.tmp 15) (.tmp 16) rfl g 0 l.length cv j 2 rfl rfl 201 Tryz.underlying168 srp hlt (j * 2) (by omega)) ?_))
        go_roundw
        case rel => exact hP
        case measure => simp [intOf]; omega
      | false =>
        have hE := HE.out
        simp only [he, Bool.false_eq_true, if_false] at hE
        unfold be at he
        go_wp2_with (first
          | (refine wpList_val rfl _ _ (exec_index 168 (.tmp 15) (.tmp 16) rfl g 0 l.length cv j 2 rfl rfl 201 Tryz.underlying168 srp hlt (j * 2) (by omega)) ?_)
          | (refine wpList_val rfl _ _ (exec_index 168 (.tmp 24) (.tmp 25) rfl g 0 l.length cv j 2 rfl rfl 201 Tryz.underlying168 srp hlt (j * 2) (by omega)) ?_)
          | (refine wpList_load_seg rfl 201 (.tmp 26) rfl ⟨g, j * 2, none⟩ rfl _ hld ?_)
          | (refine wpList_new rfl _ _ (exec_buildSlice 168 1 (.tmp 27) rfl (.agg #[.string p.1, .string p.2]) rfl _ (run_pair1 _ p)) ?_; intro w3 n3 k3 _; have own3 := owns_kept hown k3 (by simp); have hb3 := k3.size)
          | (at_builtin; refine wpList_push rfl (.tmp 22) (.tmp 28) rfl (w.heap.size + 2) u5 o rfl own3 p _ rfl n3 (by omega) (by omega) ?_; intro v4 w4 own4 k4; have hP := FIN.out v4 (o ++ [p]) w4 own4 (by simp; omega) hE.symm ((k3.mono (by simp)).trans k4); clear own4 own3 n3 k3 k4))
        go_roundw
        case rel => exact hP
        case measure => simp [intOf]; omega
    · have hge : ¬ (j : Int) < (l.length : Int) := by omega
      have ej : j = l.length := by omega
      subst ej
      rw [List.take_length] at heq
      subst heq
      have f1 : wr.frozen? ⟨w.heap.size + 1, 0, none⟩ = false := frozen_of_row _ _ _ _ _ b1
      obtain ⟨p', c', rfl⟩ := owns_len2 hown
      have c1 : wr.cell? ⟨w.heap.size + 1, 0, none⟩ = some (.slice none 0 0) := cellAt b1 rfl
      go_wp2
      have b2 := setCellAt (i := 0) (.slice p' (withoutL k l).length c') b1
      have k2 : Kept [w.heap.size + 1] wr (wr.setCell ⟨w.heap.size + 1, 0, none⟩ (.slice p' (withoutL k l).length c')) := (Kept.refl _ _).setCell (Or.inl (by simp)) _
      refine bodyPost_ret (results_cell_row rfl _ _ (w.heap.size + 1) 170 _ (0, 0) _ rfl b2 Tryz.underlying170 rfl smap) rfl ?_
      refine ⟨_, rfl, owns_mono (owns_kept hown k2 ?_) (Nat.zero_le _), ?_, hkr.trans2 k2 (by intro x hx; simp at hx; omega)⟩
      · intro y hy; have := (hown.lt y hy).1; simp; omega
      · intro y hy; have := (hown.lt y hy).1; omega

/-! Get -/
theorem getL_drop (k : ByteArray) (l : List Pr) (j : Nat) (p : Pr) (h : l[j]? = some p) : getL k (l.drop j) = if be p.1 k then some p.2 else getL k (l.drop (j + 1)) := by
  have hlt : j < l.length := (List.getElem?_eq_some_iff.1 h).1
  rw [List.drop_eq_getElem_cons hlt, (List.getElem?_eq_some_iff.1 h).2]
  rfl

def GetR (l : List Pr) (k : ByteArray) (w : World) (e : Ending) (w' : World) : Prop :=
  e = .returned (.tuple #[.string ((getL k l).getD ⟨#[]⟩), .bool (getL k l).isSome]) ∧ Kept [] w w'

def GetI (w : World) (l : List Pr) (pv : Option Addr) (cv : Nat) (k : ByteArray) (s b i : Value) (wr : World) : Prop := ∃ (j : Nat), j ≤ l.length ∧ s = .string ⟨#[]⟩ ∧ b = .bool false ∧ i = .int .i64 j ∧ getL k (l.drop j) = getL k l ∧ wr = w.alloc (.cells #[.slice pv l.length cv] 170)

set_option maxRecDepth 100000 in
set_option maxHeartbeats 1000000 in
theorem RGet_any (vl : Value) (l : List Pr) (k : ByteArray) (w : World) (h : PL w 201 vl l) (hl : l.length ≤ 50000) :
    Calls Tryz.prog 117 #[.agg #[vl], .string k] w (GetR l k w) := by
  obtain ⟨pv, cv, rfl⟩ := h.shape
  have k0 := (Kept.refl [] w).alloc (.cells #[.slice pv l.length cv] 170)
  have n0 := heap_alloc_new w (.cells #[.slice pv l.length cv] 170)
  go_enter Tryz.func117, Tryz.ntmps117
  go_wp2
  go_loopw [4, 5, 6] (fun s b i wr => GetI w l pv cv k s b i wr) (fun _ _ i _ => l.length - (intOf i).toNat)
  case atStart => exact ⟨0, Nat.zero_le _, rfl, rfl, rfl, rfl, rfl⟩
  case round =>
    obtain ⟨j, hj, rfl, rfl, rfl, heq, rfl⟩ := hrel
    have c0 : (w.alloc (.cells #[.slice pv l.length cv] 170)).cell? ⟨w.heap.size, 0, none⟩ = some (.slice pv l.length cv) := cellAt n0 rfl
    by_cases hlt : j < l.length
    · have hPL := h.kept k0 (by simp)
      obtain ⟨g, cap, cur, e, hg, hcur⟩ := hPL.at_ (by omega)
      cases e
      obtain ⟨p, hp⟩ : ∃ p, l[j]? = some p := ⟨_, List.getElem?_eq_getElem hlt⟩
      have hc0 := cellAt (j := j * 2) hg (hcur j p hp).1
      have hc1 := cellAt (j := j * 2 + 1) hg (hcur j p hp).2
      rw [getL_drop k l j p hp] at heq
      have HE : Hid _ := heq
      clear hPL hcur heq
      cases he : be p.1 k with
      | true =>
        have hE := HE.out
        simp only [he, if_true] at hE
        unfold be at he
        go_wp2_with (first
          | (refine wpList_val rfl _ _ (exec_index 168 (.tmp 15) (.tmp 16) rfl g 0 l.length cv j 2 rfl rfl 201 Tryz.underlying168 srp hlt (j * 2) (by omega)) ?_)
          | (refine wpList_val rfl _ _ (exec_index 168 (.tmp 23) (.tmp 24) rfl g 0 l.length cv j 2 rfl rfl 201 Tryz.underlying168 srp hlt (j * 2) (by omega)) ?_))
        go_ret2
        exact ⟨by rw [← hE]; rfl, k0⟩
      | false =>
        have hE := HE.out
        simp only [he, Bool.false_eq_true, if_false] at hE
        unfold be at he
        go_wp2_with (first
          | (refine wpList_val rfl _ _ (exec_index 168 (.tmp 15) (.tmp 16) rfl g 0 l.length cv j 2 rfl rfl 201 Tryz.underlying168 srp hlt (j * 2) (by omega)) ?_))
        go_roundw
        case rel => exact ⟨j + 1, by omega, rfl, rfl, by go_num, hE, rfl⟩
        case measure => simp [intOf]; omega
    · have hge : ¬ (j : Int) < (l.length : Int) := by omega
      have ej : j = l.length := by omega
      subst ej
      rw [List.drop_length] at heq
      have hE : getL k l = none := heq.symm
      clear heq
      go_wp2
      go_ret2
      exact ⟨by rw [hE]; rfl, k0⟩

end Go.Proofs.YtloihcnbcknbnaaGreatDoor
