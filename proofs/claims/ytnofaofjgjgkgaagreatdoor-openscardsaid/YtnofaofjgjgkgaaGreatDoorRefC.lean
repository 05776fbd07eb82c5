import Derived.Test.YtnofaofjgjgkgaaGreatDoorRefB
namespace Go.Proofs.YtnofaofjgjgkgaaGreatDoor
open Go.RowKit

/-- what Only gives -/
def OnlyR (n : Int) (k : Nat) (wd b : Bool) (w : World) (ev : Ending) (w' : World) : Prop :=
  ∃ v1 v2, ev = .returned (.agg (rcells n v1 false v2 wd b)) ∧ Maps w' v1 1 ∧ Maps w' v2 (k + 1) ∧ Kept [] w w'

set_option maxRecDepth 100000 in
set_option maxHeartbeats 1000000 in
theorem Only_any (n : Int) (may were : Value) (m k : Nat) (e wd b : Bool) (w : World) (hm : Maps w may m) (hk : Maps w were k) (bm : m ≤ 20000) (bk : k ≤ 20000) :
    Calls Tryz.prog 31 #[.agg (rcells n may e were wd b), .agg #[.slice none 0 0]] w (OnlyR n k wd b w) := by
  have HB := Boxes.init w (rcells n may e were wd b)
  have hT := fun W (h1 : Maps W may m) (h2 : Maps W were k) => Too_any n may were m k e wd b W h1 h2 bm bk
  unfold rcells at HB hT ⊢
  go_enter Tryz.func31, Tryz.ntmps31
  go_wp2_with fail
  refine (hT _ (owns_kept hm HB.k (by simp)) (owns_kept hk HB.k (by simp))).mono ?_
  rintro e w1 ⟨p1, l1, q1, p2, l2, q2, rfl, hm1, hk1⟩
  have B1 := HB.step hk1 (by simp)
  clear HB hT hk1
  have a0 := cellAt (j := 0) B1.b1 rfl
  go_wp2_with (first
    | (refine wpList_alloc_k rfl 40 rfl (rcells 0 (.slice none 0 0) false (.slice none 0 0) false false) (by rfl) ?_; intro w2 hn2 hk2 _; have B2 := B1.step hk2 (by simp))
    | (refine wpList_store_k rfl 40 (.tmp 5) (.tmp 8) rfl w1.heap.size (rcells n (.slice p1 l1 q1) e (.slice p2 l2 q2) wd b) rfl rfl 40 _ hn2 srd rfl (all_rcells _ _ _ _ _ _ _ _ _ _) ?_; intro w3 hn3 hk3; have B3 := B2.step hk3 (by intro x hx; simp at hx; subst hx; exact B1.sz); have a3 : w3.cell? ⟨w.heap.size + 1, 0, none⟩ = some (.slice none 0 0) := cellAt B3.b1 rfl; have k4 := (Kept.refl [] w3).alloc (.cells #[.slice none 0 0] 60); have hn4 := k4.get hn3 (by simp); have a4 : (w3.alloc (.cells #[.slice none 0 0] 60)).cell? ⟨w1.heap.size, 1, none⟩ = some (.slice p1 l1 q1) := cellAt hn4 rfl; have f4 : (w3.alloc (.cells #[.slice none 0 0] 60)).frozen? ⟨w1.heap.size, 1, none⟩ = false := frozen_of_row _ _ _ _ _ hn4; have hn5 := setCellAt (i := 1) (.slice (some ⟨w3.heap.size, 0, none⟩) 1 1) hn4; have f5 : ((w3.alloc (.cells #[.slice none 0 0] 60)).setCell ⟨w1.heap.size, 1, none⟩ (.slice (some ⟨w3.heap.size, 0, none⟩) 1 1)).frozen? ⟨w1.heap.size, 2, none⟩ = false := frozen_of_row _ _ _ _ _ hn5; have a5 : ((w3.alloc (.cells #[.slice none 0 0] 60)).setCell ⟨w1.heap.size, 1, none⟩ (.slice (some ⟨w3.heap.size, 0, none⟩) 1 1)).cell? ⟨w1.heap.size, 2, none⟩ = some (.bool e) := cellAt hn5 rfl; have hn6 := setCellAt (i := 2) (.bool false) hn5; have k6 : Kept [w1.heap.size] w3 (((w3.alloc (.cells #[.slice none 0 0] 60)).setCell ⟨w1.heap.size, 1, none⟩ (.slice (some ⟨w3.heap.size, 0, none⟩) 1 1)).setCell ⟨w1.heap.size, 2, none⟩ (.bool false)) := (((Kept.refl _ _).alloc _).setCell (Or.inl (by simp)) _).setCell (Or.inl (by simp)) _; have B6 := B3.step k6 (by intro x hx; simp at hx; subst hx; exact B1.sz))
    | (refine wpList_load_row rfl 40 (.tmp 5) rfl w1.heap.size rfl 40 (rcells n (.slice (some ⟨w3.heap.size, 0, none⟩) 1 1) false (.slice p2 l2 q2) wd b) (0, 0) _ hn6 Tryz.underlying40 rfl srd ?_)
    | (refine wpList_store_k rfl 40 (.tmp 4) (.tmp 13) rfl (w.heap.size + 1 + 1) (rcells n (.slice (some ⟨w3.heap.size, 0, none⟩) 1 1) false (.slice p2 l2 q2) wd b) rfl rfl 40 _ B6.b2 srd rfl (all_rcells _ _ _ _ _ _ _ _ _ _) ?_; intro w7 hg7 hk7))
  refine bodyPost_ret (results_cell_row rfl _ w7 (w.heap.size + 1 + 1) 40 _ (0, 0) _ rfl hg7 Tryz.underlying40 rfl srd) rfl ?_
  have hsz1 := B1.sz
  have hsz3 : w1.heap.size + 1 ≤ w3.heap.size := by have := hk2.size; have := hk3.size; have := lt_heap hn3; omega
  have kk : Kept [w1.heap.size] w1 w3 := (hk2.mono (by simp)).trans hk3
  have k67 := hk7
  refine ⟨_, _, rfl, ?_, ?_, B6.k.trans2 hk7 (by intro x hx; simp at hx; subst hx; exact Or.inr (by omega))⟩
  · refine ⟨rfl, Or.inr ⟨w3.heap.size, 1, #[.slice none 0 0], rfl, Nat.zero_le _, ?_, Nat.le_refl _, by unfold maxLen; omega, rfl, rfl⟩⟩
    refine k67.get ?_ (by simp; omega)
    have kb : Kept [w1.heap.size] (w3.alloc (.cells #[.slice none 0 0] 60)) (((w3.alloc (.cells #[.slice none 0 0] 60)).setCell ⟨w1.heap.size, 1, none⟩ (.slice (some ⟨w3.heap.size, 0, none⟩) 1 1)).setCell ⟨w1.heap.size, 2, none⟩ (.bool false)) := ((Kept.refl _ _).setCell (Or.inl (by simp)) _).setCell (Or.inl (by simp)) _
    exact kb.get (heap_alloc_new _ _) (by simp; omega)
  · refine owns_kept (owns_kept (owns_kept hm1 kk ?_) k6 ?_) k67 ?_
    · intro x hx; have := (World.ownsRow.lt hm1 x hx).2; simp; omega
    · intro x hx; have := (World.ownsRow.lt hm1 x hx).2; simp; omega
    · intro x hx
      obtain ⟨_, ⟨hv, _⟩ | ⟨g, cap, cur, hv, _, hh, _⟩⟩ := hm1
      · rw [hv] at hx; cases hx
      · rw [hv] at hx
        simp only [Value.ownBlock, Option.some.injEq] at hx
        subst hx
        simpa using ne_tag hh B1.b2 (by decide)

end Go.Proofs.YtnofaofjgjgkgaaGreatDoor
