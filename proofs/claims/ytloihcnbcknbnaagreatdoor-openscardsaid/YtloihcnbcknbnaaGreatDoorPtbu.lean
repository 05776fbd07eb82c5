import Derived.Test.YtloihcnbcknbnaaGreatDoorPtbs
import Derived.Test.YtloihcnbcknbnaaGreatDoorPtbt
namespace Go.Proofs.YtloihcnbcknbnaaGreatDoor
open Go.RowKit Go.Shelf

set_option maxRecDepth 100000 in
set_option maxHeartbeats 4000000 in
/-- 'is it at its end?', of a store that is open -/
theorem ended_open (b0 b1 x v a n : Nat) (r : Value) (t : Tr) (w : World) (hb : w.heap[b0]? = some (.cells #[.pointer (some ⟨x, 0, none⟩)] 27 (0, 0))) (h : Rec x v a n r t w) :
    Calls Tryz.prog 58 #[.pointer (some ⟨b0, 0, none⟩), .pointer (some ⟨b1, 0, none⟩)] w fun e w' => e = .returned (.bool false) ∧ Kept [] w w' := by
  have c0 : w.cell? ⟨b0, 0, none⟩ = some (.pointer (some ⟨x, 0, none⟩)) := cellAt hb rfl
  have hmf := makes
  have HC : Hid (∀ b, Calls Tryz.prog 39 #[.string b, .func (.func 41) #[.pointer (some ⟨x, 0, none⟩)] #[]] w fun e w' => e = .returned .nilIface ∧ Always w' ∧ Kept [] w w') := fun b =>
    CatchM_ok b 41 _ (fun _ _ => by kernel_rfl) [] Always w (by simp) (fun _ _ _ _ _ _ => trivial) fun W kW _ => (needOpen_yes x _ r W (h.k kW).row).mono fun e w' h => ⟨h.1, trivial, h.2⟩
  clear h
  go_enter Tryz.func58, Tryz.ntmps58
  go_wp2_with (first | (go_at_call 39; refine (HC.out _).mono ?_; rintro e w1 ⟨rfl, _, hk1⟩))
  go_ret
  exact ⟨rfl, hk1⟩

set_option maxRecDepth 100000 in
theorem SAll_any (x : Nat) (lo hi : ByteArray) (w : World) : Calls Tryz.prog 38 #[.pointer (some ⟨x, 0, none⟩), .string lo, .string hi] w fun e w' => e = .returned (.func (.func 57) #[] #[.pointer (some ⟨w.heap.size, 0, none⟩), .pointer (some ⟨w.heap.size + 1, 0, none⟩), .pointer (some ⟨w.heap.size + 1 + 1, 0, none⟩)]) ∧ Bx3 w.heap.size (w.heap.size + 1) (w.heap.size + 1 + 1) x lo hi w' ∧ w'.heap.size = w.heap.size + 3 ∧ Kept [] w w' := by
  have hmf := makes
  go_enter Tryz.func38, Tryz.ntmps38
  go_wp2
  go_ret
  exact ⟨rfl, bx3_new w x lo hi, by simp, (((Kept.refl _ _).alloc _).alloc _).alloc _⟩

end Go.Proofs.YtloihcnbcknbnaaGreatDoor
