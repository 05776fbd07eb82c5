import Derived.Test.YtloihcnbcknbnaaGreatDoorPtaa
import Derived.Lib.Strings
import Derived.Lib.BufferWrite
import Derived.Lib.UnsafeStr
import Derived.Laws.MakeOwn
namespace Go.Proofs.YtloihcnbcknbnaaGreatDoor
open Go.RowKit

theorem itu8 : (Tryz.prog.info? 5).map (fun i => (i.zero, i.size, i.bytes)) = some (some (Value.int .u8 0), 1, 1) := by kernel_rfl

set_option maxRecDepth 100000 in
set_option maxHeartbeats 4000000 in
theorem SLClone_any (s : ByteArray) (w : World) (hs : s.size ≤ 1000000) : Calls Tryz.prog 64 #[.string s] w fun e w' => e = .returned (.string s) ∧ Kept [] w w' := by
  by_cases h0 : s.size = 0
  · obtain rfl : s = ⟨#[]⟩ := ByteArray.ext (Array.eq_empty_of_size_eq_zero h0)
    go_enter Tryz.func64, Tryz.ntmps64
    go_wp2
    go_ret
    exact ⟨rfl, Kept.refl _ _⟩
  · obtain ⟨iu, hiu, hz0, hz1, hz2⟩ := info_parts itu8
    have h1 : (Tryz.prog.info? 5).map (·.size) = some 1 := by rw [hiu]; simp [hz1]
    have hcells : Tryz.prog.cellsOf 5 = 1 := by simp [Program.cellsOf, hiu, hz1]
    obtain ⟨new, hnew⟩ : ∃ new, new = madeCells (Value.int .u8 0).cells (((s.size : Nat) : Int).toNat * iu.size) := ⟨_, rfl⟩
    have hns : new.size = s.size := by rw [hnew, size_madeCells, hz1]; simp
    have hmake : ∀ W : World, (Instr.makeSlice 58 (.int .i64 (s.size : Int)) (.int .i64 (s.size : Int))).run Tryz.prog W = .ok (.slice (some ⟨W.heap.size, 0, none⟩) s.size s.size) (W.alloc (.cells new 5)) := by
      intro W
      have := run_make (P := Tryz.prog) W 58 5 iu (.int .u8 0) Tryz.underlying58 hiu hz0 .i64 .i64 (s.size : Int) (s.size : Int) (by omega) (by omega) (by rw [hz2]; omega) (by omega)
      rw [← hnew] at this
      simpa using this
    clear hnew
    obtain ⟨w1, ew1⟩ : ∃ w1, w1 = w.alloc (.cells new 5) := ⟨_, rfl⟩
    have hrow1 : w1.heap[w.heap.size]? = some (.cells new 5 (0, 0)) := by rw [ew1]; exact heap_alloc_new w _
    have hcopy := Lib.run_copy_row_string (P := Tryz.prog) w1 58 9 3 5 w.heap.size 0 s.size s.size s new 5 Tryz.underlying58 h1 hrow1 (Nat.le_refl _) (by omega)
    obtain ⟨full, hfull⟩ : ∃ full, full = (new.toList.take 0 ++ Lib.byteCells s.data.toList ++ new.toList.drop (0 + s.size)).toArray := ⟨_, rfl⟩
    rw [← hfull] at hcopy
    have hfl : full.toList = Lib.byteCells s.data.toList := by
      rw [hfull, List.toList_toArray, List.take_zero, List.nil_append, List.drop_of_length_le (by rw [Array.length_toList]; omega), List.append_nil]
    have hfs : full.size = s.size := by rw [← Array.length_toList, hfl, Lib.byteCells_length, ← Lib.size_eq]
    have hrow2 : (w1.setRow w.heap.size full).heap[w.heap.size]? = some (.cells full 5 (0, 0)) := setRow_heap _ _ new _ 5 (0, 0) hrow1
    have hne : s.data.toList ≠ [] := fun e => h0 (by rw [Lib.size_eq, e]; rfl)
    have hstr := Lib.run_unsafeString_row (P := Tryz.prog) (w1.setRow w.heap.size full) 146 3 9 5 Tryz.underlying146 hcells w.heap.size full.size (by unfold World.shape?; rw [hrow2]) s.data.toList hne (by rw [← Lib.size_eq]; omega) (by rw [← Lib.size_eq]; omega)
      (fun j x hx => Lib.cells_of_row hrow2 full.size j _ (by rw [List.take_of_length_le (by rw [Array.length_toList]; exact Nat.le_refl _), hfl]; simp [Lib.byteCells, hx]))
    rw [← Lib.size_eq] at hstr
    have k1 : Kept [] w (w1.setRow w.heap.size full) := by rw [ew1]; exact ((Kept.refl [] w).alloc _).setRow (Or.inr (Nat.le_refl _)) _
    have K1 : Hid _ := k1.below
    subst ew1
    clear hfull k1
    go_enter Tryz.func64, Tryz.ntmps64
    go_wp2
    go_ret
    exact ⟨rfl, Kept.of_below (Lib.below_freeze K1.out (p := ⟨w.heap.size, 0, none⟩) (Nat.le_refl _) _)⟩

set_option maxRecDepth 100000 in
set_option maxHeartbeats 1000000 in
theorem SClone_any (s : ByteArray) (w : World) (hs : s.size ≤ 1000000) : Calls Tryz.prog 44 #[.string s] w fun e w' => e = .returned (.string s) ∧ Kept [] w w' := by
  have HC : Hid (Calls _ _ _ _ _) := SLClone_any s w hs
  go_enter Tryz.func44, Tryz.ntmps44
  go_wp2_with (first | (go_at_call 64; refine HC.out.mono ?_; rintro e w1 ⟨rfl, hk1⟩))
  go_ret
  exact ⟨rfl, hk1⟩

end Go.Proofs.YtloihcnbcknbnaaGreatDoor
