import Derived.Test.YtnofaofjgjgkgaaGreatDoorBase
namespace Go.Proofs.YtnofaofjgjgkgaaGreatDoor
open Go.RowKit

/-- the cells of an api.Disk whose power is on and that tells no errors -/
def dcells (bs cache : Value) (c wr t : Int) : Array Value :=
  #[bs, cache, .int .i64 c, .int .i64 wr, .int .i64 t, .int .i64 (-1), .int .i64 0, .int .i64 0]

set_option maxHeartbeats 400000 in
theorem fails_any (a : Nat) (bs cache : Value) (c wr t : Int) (w : World)
    (h : w.heap[a]? = some (.cells (dcells bs cache c wr t) 93 (0, 0))) :
    Calls Tryz.prog 133 #[.pointer (some ⟨a, 0, none⟩)] w fun e w' => e = .returned (.bool false) ∧
      w'.heap[a]? = some (.cells (dcells bs cache (wrap64 (c + 1)) wr t) 93 (0, 0)) ∧ Kept [a] w w' ∧ w'.heap.size = w.heap.size := by
  have c2 : w.cell? ⟨a, 2, none⟩ = some (.int .i64 c) := cellAt h rfl
  have c5 : w.cell? ⟨a, 5, none⟩ = some (.int .i64 (-1)) := cellAt h rfl
  have c6 : w.cell? ⟨a, 6, none⟩ = some (.int .i64 0) := cellAt h rfl
  have c7 : w.cell? ⟨a, 7, none⟩ = some (.int .i64 0) := cellAt h rfl
  have f2 : w.frozen? ⟨a, 2, none⟩ = false := frozen_of_row _ _ _ _ _ h
  have hh := setCellAt (i := 2) (.int .i64 (wrap64 (c + 1))) h
  have H : Hid ((w.setCell ⟨a, 2, none⟩ (.int .i64 (wrap64 (c + 1)))).heap[a]? = some (.cells (dcells bs cache (wrap64 (c + 1)) wr t) 93 (0, 0))) := hh
  clear h hh
  by_cases hc : c < 0
  · go_enter Tryz.func133, Tryz.ntmps133
    go_wp2
    go_ret
    exact ⟨rfl, H.out, (Kept.refl _ _).setCell (Or.inl (by simp)) _, by simp⟩
  · have hd : decide (c < 0) = false := by simpa using hc
    go_enter Tryz.func133, Tryz.ntmps133
    go_wp2
    go_ret
    exact ⟨by simp, H.out, (Kept.refl _ _).setCell (Or.inl (by simp)) _, by simp⟩

set_option maxHeartbeats 400000 in
theorem none_any (a : Nat) (ao : Option Addr) (n cap : Nat) (cache : Value) (c wr t i : Int) (w : World)
    (h : w.heap[a]? = some (.cells (dcells (.slice ao n cap) cache c wr t) 93 (0, 0))) (h0 : 0 ≤ i) (h1 : i < n) :
    Calls Tryz.prog 134 #[.pointer (some ⟨a, 0, none⟩), .int .i64 i] w fun e w' => e = .returned (.bool false) ∧ w' = w := by
  have c0 : w.cell? ⟨a, 0, none⟩ = some (.slice ao n cap) := cellAt h rfl
  have g0 : ¬ i < 0 := by omega
  clear h
  go_enter Tryz.func134, Tryz.ntmps134
  go_wp2
  all_goals
    go_ret
    exact ⟨rfl, rfl⟩

set_option maxHeartbeats 400000 in
theorem Blocks_any (a : Nat) (ao : Option Addr) (n cap : Nat) (cache : Value) (c wr t : Int) (w : World)
    (h : w.heap[a]? = some (.cells (dcells (.slice ao n cap) cache c wr t) 93 (0, 0))) :
    Calls Tryz.prog 129 #[.pointer (some ⟨a, 0, none⟩)] w fun e w' => e = .returned (.int .i64 n) ∧ w' = w := by
  have c0 : w.cell? ⟨a, 0, none⟩ = some (.slice ao n cap) := cellAt h rfl
  clear h
  go_enter Tryz.func129, Tryz.ntmps129
  go_wp2
  go_ret
  exact ⟨rfl, rfl⟩

set_option maxHeartbeats 400000 in
theorem DTold_any (a : Nat) (bs cache : Value) (c wr t : Int) (w : World)
    (h : w.heap[a]? = some (.cells (dcells bs cache c wr t) 93 (0, 0))) :
    Calls Tryz.prog 26 #[.pointer (some ⟨a, 0, none⟩)] w fun e w' => e = .returned (.int .i64 t) ∧ w' = w := by
  have c0 : w.cell? ⟨a, 4, none⟩ = some (.int .i64 t) := cellAt h rfl
  clear h
  go_enter Tryz.func26, Tryz.ntmps26
  go_wp2
  go_ret
  exact ⟨rfl, rfl⟩

set_option maxHeartbeats 400000 in
theorem DWrites_any (a : Nat) (bs cache : Value) (c wr t : Int) (w : World)
    (h : w.heap[a]? = some (.cells (dcells bs cache c wr t) 93 (0, 0))) :
    Calls Tryz.prog 33 #[.pointer (some ⟨a, 0, none⟩)] w fun e w' => e = .returned (.int .i64 wr) ∧ w' = w := by
  have c0 : w.cell? ⟨a, 3, none⟩ = some (.int .i64 wr) := cellAt h rfl
  clear h
  go_enter Tryz.func33, Tryz.ntmps33
  go_wp2
  go_ret
  exact ⟨rfl, rfl⟩

set_option maxHeartbeats 400000 in
theorem DPending_any (a : Nat) (bs : Value) (ao : Option Addr) (n cap : Nat) (c wr t : Int) (w : World)
    (h : w.heap[a]? = some (.cells (dcells bs (.slice ao n cap) c wr t) 93 (0, 0))) :
    Calls Tryz.prog 34 #[.pointer (some ⟨a, 0, none⟩)] w fun e w' => e = .returned (.int .i64 n) ∧ w' = w := by
  have c0 : w.cell? ⟨a, 1, none⟩ = some (.slice ao n cap) := cellAt h rfl
  clear h
  go_enter Tryz.func34, Tryz.ntmps34
  go_wp2
  go_ret
  exact ⟨rfl, rfl⟩

end Go.Proofs.YtnofaofjgjgkgaaGreatDoor
