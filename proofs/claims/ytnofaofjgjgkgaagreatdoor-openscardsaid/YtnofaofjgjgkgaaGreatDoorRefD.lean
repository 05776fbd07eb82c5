import Derived.Test.YtnofaofjgjgkgaaGreatDoorRefC
namespace Go.Proofs.YtnofaofjgjgkgaaGreatDoor
open Go.RowKit

set_option maxHeartbeats 400000 in
theorem Same_nil (w : World) : Calls Tryz.prog 49 #[.slice none 0 0, .slice none 0 0] w fun e w' => e = .returned (.bool true) ∧ w' = w := by
  go_enter Tryz.func49, Tryz.ntmps49
  go_wp2
  refine wp_loop_rounds 1 ?_
  rw [rounds_succ]
  go_wp2
  go_ret
  exact ⟨rfl, rfl⟩

set_option maxHeartbeats 400000 in
theorem pairs_nil (w : World) : Calls Tryz.prog 48 #[.slice none 0 0] w fun e w' => e = .returned (.slice none 0 0) ∧ w' = w := by
  go_enter Tryz.func48, Tryz.ntmps48
  go_wp2
  refine wp_loop_rounds 1 ?_
  rw [rounds_succ]
  go_wp2
  go_ret
  exact ⟨rfl, rfl⟩

theorem num_any (x : Int) (w : World) : Calls Tryz.prog 30 #[.int .i64 x] w fun e w' => e = .returned (.int .i64 x) ∧ w' = w := by
  go_enter Tryz.func30, Tryz.ntmps30
  go_wp2
  go_ret
  exact ⟨rfl, rfl⟩

set_option maxHeartbeats 400000 in
theorem Has_one (n : Int) (may were : Value) (e wd b : Bool) (w : World) (hm : Maps w may 1) :
    Calls Tryz.prog 63 #[.agg (rcells n may e were wd b), .slice none 0 0] w fun ev w' => ev = .returned (.bool true) ∧ Kept [] w w' := by
  obtain ⟨_, ⟨_, h0⟩ | ⟨g, cap, cur, rfl, _, hh, _, _, _, h4⟩⟩ := hm
  · omega
  have hc : w.cell? ⟨g, 0, none⟩ = some (.slice none 0 0) := by
    rw [cell_of_row _ _ _ _ _ _ hh]
    have := congrArg (fun x => x[0]?) h4
    simpa [nilMaps] using this
  have hg := lt_heap hh
  clear hh h4
  unfold rcells
  go_enter Tryz.func63, Tryz.ntmps63
  go_wp2
  refine wp_loop_rounds 1 ?_
  rw [rounds_succ]
  go_wp2_with (go_at_call 49; refine (Same_nil _).mono ?_; rintro e w' ⟨rfl, rfl⟩)
  go_ret
  exact ⟨rfl, (Kept.refl _ _).alloc _⟩

end Go.Proofs.YtnofaofjgjgkgaaGreatDoor
