import Derived.Test.YtnofaofjgjgkgaaGreatDoorScrB
namespace Go.Proofs.YtnofaofjgjgkgaaGreatDoor
open Go.RowKit

def flat (os : List Op6) : List Value := os.flatMap Op6.cells
theorem length_cells (o : Op6) : o.cells.length = 6 := rfl
theorem length_flat (os : List Op6) : (flat os).length = os.length * 6 := by
  induction os with
  | nil => rfl
  | cons o r ih =>
    have : flat (o :: r) = o.cells ++ flat r := rfl
    rw [this, List.length_append, ih, length_cells, List.length_cons]
    omega
theorem flat_get (os : List Op6) : ∀ (i : Nat) (o : Op6), os[i]? = some o → ∀ (j : Nat) (v : Value), o.cells[j]? = some v → (flat os)[i * 6 + j]? = some v := by
  induction os with
  | nil => intro i o h; simp at h
  | cons x r ih =>
    intro i o h j v hv
    have hj : j < 6 := by have := (List.getElem?_eq_some_iff.1 hv).1; rwa [length_cells] at this
    have e : flat (x :: r) = x.cells ++ flat r := rfl
    rw [e]
    cases i with
    | zero =>
      simp at h; subst h
      rw [List.getElem?_append_left (by rw [length_cells]; omega)]
      simpa using hv
    | succ i =>
      rw [List.getElem?_append_right (by rw [length_cells]; omega), length_cells]
      have := ih i o (by simpa using h) j v hv
      rw [show (i + 1) * 6 + j - 6 = i * 6 + j by omega]
      exact this
theorem flat_snoc (os : List Op6) (o : Op6) : flat os ++ o.cells = flat (os ++ [o]) := by simp [flat]
theorem one_cells (o : Op6) : ∀ v ∈ o.cells, v.oneCell' = true := by
  intro v hv
  simp only [Op6.cells, List.mem_cons, List.not_mem_nil, or_false] at hv
  rcases hv with rfl | rfl | rfl | rfl | rfl | rfl <;> rfl

/-- a script that was collected -/
theorem Scr.of_owns {w : World} {base g cap : Nat} {os : List Op6} (h : w.ownsRow base 27 6 (.slice (some ⟨g, 0, none⟩) os.length cap) os.length (flat os)) : Scr w ⟨g, 0, none⟩ os := by
  obtain ⟨_, ⟨h0, _⟩ | ⟨g', cap', cur, e, _, hh, _, _, _, htk⟩⟩ := h
  · cases h0
  cases e
  intro i o hi j v hv
  have hj : j < 6 := by have := (List.getElem?_eq_some_iff.1 hv).1; rwa [length_cells] at this
  have hil : i < os.length := (List.getElem?_eq_some_iff.1 hi).1
  have hf := flat_get os i o hi j v hv
  rw [← htk, List.getElem?_take, if_pos (by omega)] at hf
  rw [add_lit, add_lit, Nat.zero_add, cell_of_row _ _ _ _ _ _ hh]
  simpa using hf

theorem iop : (Tryz.prog.info? 27).map (fun i => (i.zero, i.size, i.bytes)) = some (some (.agg #[.int .i64 0, .int .i64 0, .int .i64 0, .int .i64 0, .string ⟨#[]⟩, .string ⟨#[]⟩]), 6, 64) := by kernel_rfl

/-- the kinds that Opens plays -/
def KC (w : World) (kb : Nat) : Prop := w.heap[kb]? = some (.cells #[.int .i64 5, .int .i64 10, .int .i64 11] 3 (0, 0))

def TrueR (w : World) (e : Ending) (w' : World) : Prop := e = .returned (.bool true) ∧ Kept [] w w'

/-- what plays has collected behind k steps -/
def PR (w : World) (os : List Op6) (v i : Value) (wr : World) : Prop := ∃ (k : Nat) (fs : List Op6), k ≤ os.length ∧ i = .int .i64 k ∧ fs.length ≤ k ∧ (∀ o ∈ fs, Kd o.K ∧ o.ok) ∧ wr.ownsRow w.heap.size 27 6 v fs.length (flat fs) ∧ Kept [] w wr

set_option maxRecDepth 100000 in
set_option maxHeartbeats 1000000 in
theorem plays_some (ad : Addr) (cap kb : Nat) (os : List Op6) (w : World) (hG : Glob w) (h : Scr w ad os) (hok : ∀ o ∈ os, o.ok) (hkb : KC w kb) :
    Calls Tryz.prog 8 #[.slice (some ad) os.length cap, .slice (some ⟨kb, 0, none⟩) 3 3] w (TrueR w) := by
  obtain ⟨ie, hie, hz1, hz2, hz3⟩ := info_parts iop
  go_enter Tryz.func8, Tryz.ntmps8
  go_wp2_with fail
  refine (small_some ad cap os w h).mono ?_
  rintro e w1 ⟨b, rfl, hb, hk1⟩
  cases b with
  | false =>
    go_wp2
    go_ret
    exact ⟨rfl, hk1⟩
  | true =>
    have hlen := hb rfl
    clear hb
    go_wp2
    go_loopw [6, 7] (fun v i wr => PR w os v i wr) (fun _ i _ => os.length - (intOf i).toNat)
    case atStart => exact ⟨0, [], Nat.zero_le _, rfl, Nat.le_refl _, by simp, World.ownsRow_nil _ _ _ _, hk1⟩
    case round =>
      obtain ⟨k, fs, hk, rfl, hfl, hfK, hown, hkr⟩ := hrel
      by_cases hlt : k < os.length
      · obtain ⟨o, ho⟩ : ∃ o, os[k]? = some o := ⟨_, List.getElem?_eq_getElem hlt⟩
        have hsc := h.below hkr
        have hload := hsc.load ho
        have hoko := hok o (List.mem_of_getElem? ho)
        have l0 := hsc k o ho 0 _ rfl
        have hkb' : KC wr kb := hkr.get hkb (by simp)
        have e0 : wr.cell? ⟨kb, 0, none⟩ = some (.int .i64 5) := cellAt hkb' rfl
        have e1 : wr.cell? ⟨kb, 1, none⟩ = some (.int .i64 10) := cellAt hkb' rfl
        have e2 : wr.cell? ⟨kb, 2, none⟩ = some (.int .i64 11) := cellAt hkb' rfl
        have hbl : w.heap.size ≤ wr.heap.size := hkr.size
        have hbs := run_build1 (P := Tryz.prog) wr 22 27 o.cells.toArray ie _ Tryz.underlying22 hie hz1 hz2 (by simp [length_cells]) (by simp [length_cells])
        clear hsc hkb'
        have hgo : ∀ (v4 : Value) (w4 : World), w4.ownsRow w.heap.size 27 6 v4 (fs.length + 1) (flat fs ++ o.cells) → Kept [] w w4 → Kd o.K → PR w os v4 (.int .i64 ((k : Int) + 1)) w4 := by
          intro v4 w4 h1 h2 h3
          refine ⟨k + 1, fs ++ [o], by omega, by simp, by simp; omega, ?_, by rw [flat_snoc] at h1; simpa using h1, h2⟩
          intro x hx
          rcases List.mem_append.1 hx with hx | hx
          · exact hfK x hx
          · simp at hx; subst hx; exact ⟨h3, hoko⟩
        have HGO : Hid (∀ (v4 : Value) (w4 : World), w4.ownsRow w.heap.size 27 6 v4 (fs.length + 1) (flat fs ++ o.cells) → Kept [] w w4 → Kd o.K → PR w os v4 (.int .i64 ((k : Int) + 1)) w4) := hgo
        clear hgo
        have HNO : Hid (PR w os u6 (.int .i64 ((k : Int) + 1)) wr) := ⟨k + 1, fs, by omega, by simp, by omega, hfK, hown, hkr⟩
        have hcs : o.K < 4 ∨ o.K = 5 ∨ o.K = 10 ∨ o.K = 11 ∨ (¬ o.K < 4 ∧ ¬ o.K = 5 ∧ ¬ o.K = 10 ∧ ¬ o.K = 11) := by omega
        clear hfK
        rcases hcs with hk4 | hk4 | hk4 | hk4 | ⟨hk4, n5, n10, n11⟩
        · have hKd : Kd o.K := Or.inl hk4
          go_wp2_with (first
            | (refine wpList_val rfl _ _ (exec_indexA 22 (.tmp 21) (.tmp 22) rfl ad os.length cap k 6 rfl rfl 27 Tryz.underlying22 sop hlt) ?_)
            | (refine wpList_val rfl _ _ (exec_field 27 (.tmp 23) 0 rfl (ad.add (k * 6)) rfl 0 (by rfl)) ?_)
            | (refine wpList_load_seg rfl 3 (.tmp 24) rfl _ rfl _ (run_load1 Tryz.underlying3 rfl l0) ?_))
          refine wp_loop_rounds 4 ?_
          rw [rounds_succ]
          go_wp2
          rw [rounds_succ]
          go_wp2
          rw [rounds_succ]
          go_wp2
          rw [rounds_succ]
          go_wp2_with (first
            | (refine wpList_val rfl _ _ (exec_indexA 22 (.tmp 45) (.tmp 46) rfl ad os.length cap k 6 rfl rfl 27 Tryz.underlying22 sop hlt) ?_)
            | (refine wpList_load_seg rfl 27 (.tmp 47) rfl _ rfl _ hload ?_)
            | (refine wpList_new rfl _ _ (exec_buildSlice 22 1 (.tmp 48) rfl (.agg o.cells.toArray) rfl _ hbs) ?_; intro w3 n3 k3 _; have own3 := owns_kept hown k3 (by simp); have hb3 := k3.size)
            | (at_builtin; refine wpList_append_own _ rfl (.tmp 44) (.tmp 49) 22 rfl w.heap.size 27 ie _ 6 64 Tryz.underlying22 hie hz1 hz2 hz3 rfl (by decide) u6 fs.length (flat fs) rfl own3 ⟨wr.heap.size, 0, none⟩ 1 1 o.cells rfl rfl (row_src n3) (one_cells o) (by unfold maxLen; omega) (by omega) (by omega) ?_; intro v4 w4 hown4 hgr4 _; have k4 := grown_kept hgr4 u6.ownBlock.toList (by intro x hx; rw [hx]; simp); have k04 : Kept [] w w4 := (hkr.trans k3).trans2 k4 (by intro x hx; simp at hx; exact Or.inr (own3.lt x hx).1); have hP := HGO.out v4 w4 hown4 k04 hKd; clear hown4 hgr4 k4 own3 n3))
          go_roundw
          case rel => exact hP
          case measure => simp [intOf]; omega
        · have hKd : Kd o.K := Or.inr (Or.inl hk4)
          rw [hk4] at l0
          clear hk4
          go_wp2_with (first
            | (refine wpList_val rfl _ _ (exec_indexA 22 (.tmp 21) (.tmp 22) rfl ad os.length cap k 6 rfl rfl 27 Tryz.underlying22 sop hlt) ?_)
            | (refine wpList_val rfl _ _ (exec_field 27 (.tmp 23) 0 rfl (ad.add (k * 6)) rfl 0 (by rfl)) ?_)
            | (refine wpList_load_seg rfl 3 (.tmp 24) rfl _ rfl _ (run_load1 Tryz.underlying3 rfl l0) ?_))
          refine wp_loop_rounds 4 ?_
          rw [rounds_succ]
          go_wp2
          rw [rounds_succ]
          go_wp2
          rw [rounds_succ]
          go_wp2
          rw [rounds_succ]
          go_wp2_with (first
            | (refine wpList_val rfl _ _ (exec_indexA 22 (.tmp 45) (.tmp 46) rfl ad os.length cap k 6 rfl rfl 27 Tryz.underlying22 sop hlt) ?_)
            | (refine wpList_load_seg rfl 27 (.tmp 47) rfl _ rfl _ hload ?_)
            | (refine wpList_new rfl _ _ (exec_buildSlice 22 1 (.tmp 48) rfl (.agg o.cells.toArray) rfl _ hbs) ?_; intro w3 n3 k3 _; have own3 := owns_kept hown k3 (by simp); have hb3 := k3.size)
            | (at_builtin; refine wpList_append_own _ rfl (.tmp 44) (.tmp 49) 22 rfl w.heap.size 27 ie _ 6 64 Tryz.underlying22 hie hz1 hz2 hz3 rfl (by decide) u6 fs.length (flat fs) rfl own3 ⟨wr.heap.size, 0, none⟩ 1 1 o.cells rfl rfl (row_src n3) (one_cells o) (by unfold maxLen; omega) (by omega) (by omega) ?_; intro v4 w4 hown4 hgr4 _; have k4 := grown_kept hgr4 u6.ownBlock.toList (by intro x hx; rw [hx]; simp); have k04 : Kept [] w w4 := (hkr.trans k3).trans2 k4 (by intro x hx; simp at hx; exact Or.inr (own3.lt x hx).1); have hP := HGO.out v4 w4 hown4 k04 hKd; clear hown4 hgr4 k4 own3 n3))
          go_roundw
          case rel => exact hP
          case measure => simp [intOf]; omega
        · have hKd : Kd o.K := Or.inr (Or.inr (Or.inl hk4))
          rw [hk4] at l0
          clear hk4
          go_wp2_with (first
            | (refine wpList_val rfl _ _ (exec_indexA 22 (.tmp 21) (.tmp 22) rfl ad os.length cap k 6 rfl rfl 27 Tryz.underlying22 sop hlt) ?_)
            | (refine wpList_val rfl _ _ (exec_field 27 (.tmp 23) 0 rfl (ad.add (k * 6)) rfl 0 (by rfl)) ?_)
            | (refine wpList_load_seg rfl 3 (.tmp 24) rfl _ rfl _ (run_load1 Tryz.underlying3 rfl l0) ?_))
          refine wp_loop_rounds 4 ?_
          rw [rounds_succ]
          go_wp2
          rw [rounds_succ]
          go_wp2
          rw [rounds_succ]
          go_wp2
          rw [rounds_succ]
          go_wp2_with (first
            | (refine wpList_val rfl _ _ (exec_indexA 22 (.tmp 45) (.tmp 46) rfl ad os.length cap k 6 rfl rfl 27 Tryz.underlying22 sop hlt) ?_)
            | (refine wpList_load_seg rfl 27 (.tmp 47) rfl _ rfl _ hload ?_)
            | (refine wpList_new rfl _ _ (exec_buildSlice 22 1 (.tmp 48) rfl (.agg o.cells.toArray) rfl _ hbs) ?_; intro w3 n3 k3 _; have own3 := owns_kept hown k3 (by simp); have hb3 := k3.size)
            | (at_builtin; refine wpList_append_own _ rfl (.tmp 44) (.tmp 49) 22 rfl w.heap.size 27 ie _ 6 64 Tryz.underlying22 hie hz1 hz2 hz3 rfl (by decide) u6 fs.length (flat fs) rfl own3 ⟨wr.heap.size, 0, none⟩ 1 1 o.cells rfl rfl (row_src n3) (one_cells o) (by unfold maxLen; omega) (by omega) (by omega) ?_; intro v4 w4 hown4 hgr4 _; have k4 := grown_kept hgr4 u6.ownBlock.toList (by intro x hx; rw [hx]; simp); have k04 : Kept [] w w4 := (hkr.trans k3).trans2 k4 (by intro x hx; simp at hx; exact Or.inr (own3.lt x hx).1); have hP := HGO.out v4 w4 hown4 k04 hKd; clear hown4 hgr4 k4 own3 n3))
          go_roundw
          case rel => exact hP
          case measure => simp [intOf]; omega
        · have hKd : Kd o.K := Or.inr (Or.inr (Or.inr hk4))
          rw [hk4] at l0
          clear hk4
          go_wp2_with (first
            | (refine wpList_val rfl _ _ (exec_indexA 22 (.tmp 21) (.tmp 22) rfl ad os.length cap k 6 rfl rfl 27 Tryz.underlying22 sop hlt) ?_)
            | (refine wpList_val rfl _ _ (exec_field 27 (.tmp 23) 0 rfl (ad.add (k * 6)) rfl 0 (by rfl)) ?_)
            | (refine wpList_load_seg rfl 3 (.tmp 24) rfl _ rfl _ (run_load1 Tryz.underlying3 rfl l0) ?_))
          refine wp_loop_rounds 4 ?_
          rw [rounds_succ]
          go_wp2
          rw [rounds_succ]
          go_wp2
          rw [rounds_succ]
          go_wp2
          rw [rounds_succ]
          go_wp2_with (first
            | (refine wpList_val rfl _ _ (exec_indexA 22 (.tmp 45) (.tmp 46) rfl ad os.length cap k 6 rfl rfl 27 Tryz.underlying22 sop hlt) ?_)
            | (refine wpList_load_seg rfl 27 (.tmp 47) rfl _ rfl _ hload ?_)
            | (refine wpList_new rfl _ _ (exec_buildSlice 22 1 (.tmp 48) rfl (.agg o.cells.toArray) rfl _ hbs) ?_; intro w3 n3 k3 _; have own3 := owns_kept hown k3 (by simp); have hb3 := k3.size)
            | (at_builtin; refine wpList_append_own _ rfl (.tmp 44) (.tmp 49) 22 rfl w.heap.size 27 ie _ 6 64 Tryz.underlying22 hie hz1 hz2 hz3 rfl (by decide) u6 fs.length (flat fs) rfl own3 ⟨wr.heap.size, 0, none⟩ 1 1 o.cells rfl rfl (row_src n3) (one_cells o) (by unfold maxLen; omega) (by omega) (by omega) ?_; intro v4 w4 hown4 hgr4 _; have k4 := grown_kept hgr4 u6.ownBlock.toList (by intro x hx; rw [hx]; simp); have k04 : Kept [] w w4 := (hkr.trans k3).trans2 k4 (by intro x hx; simp at hx; exact Or.inr (own3.lt x hx).1); have hP := HGO.out v4 w4 hown4 k04 hKd; clear hown4 hgr4 k4 own3 n3))
          go_roundw
          case rel => exact hP
          case measure => simp [intOf]; omega
        · have b4 : decide (o.K < 4) = false := by simpa using hk4
          have b5 : (o.K == 5) = false := by simpa using n5
          have b10 : (o.K == 10) = false := by simpa using n10
          have b11 : (o.K == 11) = false := by simpa using n11
          go_wp2_with (first
            | (refine wpList_val rfl _ _ (exec_indexA 22 (.tmp 21) (.tmp 22) rfl ad os.length cap k 6 rfl rfl 27 Tryz.underlying22 sop hlt) ?_)
            | (refine wpList_val rfl _ _ (exec_field 27 (.tmp 23) 0 rfl (ad.add (k * 6)) rfl 0 (by rfl)) ?_)
            | (refine wpList_load_seg rfl 3 (.tmp 24) rfl _ rfl _ (run_load1 Tryz.underlying3 rfl l0) ?_))
          refine wp_loop_rounds 4 ?_
          rw [rounds_succ]
          go_wp2
          rw [rounds_succ]
          go_wp2
          rw [rounds_succ]
          go_wp2
          rw [rounds_succ]
          go_wp2
          go_roundw
          case rel => exact HNO.out
          case measure => simp [intOf]; omega
      · have hge : ¬ (k : Int) < (os.length : Int) := by omega
        have hGr := hG.kept hkr (by simp)
        have HU : Hid (Calls Tryz.prog 10 #[u6] wr fun e w' => e = .returned (.int .i64 (-1)) ∧ Kept [] wr w') := by
          obtain ⟨p, c, rfl⟩ := owns_len hown
          by_cases h0 : fs.length = 0
          · rw [h0]; exact upTo_none p c wr
          · have hown' := hown
            obtain ⟨_, ⟨_, hz⟩ | ⟨g, cap', cur, e, _⟩⟩ := hown'
            · omega
            · cases e
              exact upTo_some ⟨g, 0, none⟩ c fs wr hGr (Scr.of_owns hown) (by omega) hfK
        clear hown hfK hGr
        go_wp2_with (first | (go_at_call 10; refine HU.out.mono ?_; rintro e w2 ⟨rfl, hk2⟩))
        go_ret
        exact ⟨rfl, hkr.trans hk2⟩

end Go.Proofs.YtnofaofjgjgkgaaGreatDoor
