import Derived.Test.YtnofaofjgjgkgaaGreatDoorScrC
namespace Go.Proofs.YtnofaofjgjgkgaaGreatDoor
open Go.RowKit

set_option maxRecDepth 100000 in
set_option maxHeartbeats 400000 in
theorem plays_none (ao : Option Addr) (cap : Nat) (kv : Value) (w : World) : Calls Tryz.prog 8 #[.slice ao 0 cap, kv] w (TrueR w) := by
  go_enter Tryz.func8, Tryz.ntmps8
  go_wp2_with fail
  refine (small_none ao cap w).mono ?_
  rintro e w1 ⟨b, rfl, hb, hk1⟩
  cases b with
  | false =>
    go_wp2
    go_ret
    exact ⟨rfl, hk1⟩
  | true =>
    go_wp2
    refine wp_loop_rounds 1 ?_
    rw [rounds_succ]
    go_wp2_with (first | (go_at_call 10; refine (upTo_none _ _ _).mono ?_; rintro e w2 ⟨rfl, hk2⟩))
    go_ret
    exact ⟨rfl, hk1.trans hk2⟩

set_option maxRecDepth 100000 in
set_option maxHeartbeats 400000 in
theorem Opens_some (ad : Addr) (cap : Nat) (os : List Op6) (w : World) (hG : Glob w) (h : Scr w ad os) (hok : ∀ o ∈ os, o.ok) :
    Calls Tryz.prog 3 #[.slice (some ad) os.length cap] w (TrueR w) := by
  have k1 := (Kept.refl [] w).alloc (.cells #[.int .i64 5, .int .i64 10, .int .i64 11] 3)
  have n1 := heap_alloc_new w (.cells #[.int .i64 5, .int .i64 10, .int .i64 11] 3)
  have HP : Hid (Calls _ _ _ _ _) := plays_some ad cap w.heap.size os _ (hG.kept k1 (by simp)) (h.below k1) hok n1
  clear n1
  go_enter Tryz.func3, Tryz.ntmps3
  go_wp2_with (first | (go_at_call 8; refine HP.out.mono ?_; rintro e w2 ⟨rfl, hk2⟩))
  go_ret
  exact ⟨rfl, k1.trans hk2⟩

set_option maxRecDepth 100000 in
set_option maxHeartbeats 400000 in
theorem Opens_none (ao : Option Addr) (cap : Nat) (w : World) : Calls Tryz.prog 3 #[.slice ao 0 cap] w (TrueR w) := by
  have k1 := (Kept.refl [] w).alloc (.cells #[.int .i64 5, .int .i64 10, .int .i64 11] 3)
  have HP : Hid (∀ kv W, Calls Tryz.prog 8 #[.slice ao 0 cap, kv] W (TrueR W)) := fun kv W => plays_none ao cap kv W
  go_enter Tryz.func3, Tryz.ntmps3
  go_wp2_with (first | (go_at_call 8; refine (HP.out _ _).mono ?_; rintro e w2 ⟨rfl, hk2⟩))
  go_ret
  exact ⟨rfl, k1.trans hk2⟩

end Go.Proofs.YtnofaofjgjgkgaaGreatDoor
