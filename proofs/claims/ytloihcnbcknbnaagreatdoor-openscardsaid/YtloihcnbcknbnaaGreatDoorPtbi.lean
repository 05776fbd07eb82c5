import Derived.Test.YtloihcnbcknbnaaGreatDoorPtbe
import Derived.Test.YtloihcnbcknbnaaGreatDoorPtag
import Derived.Test.YtloihcnbcknbnaaGreatDoorPtav
import Derived.Test.YtloihcnbcknbnaaGreatDoorPtbh
namespace Go.Proofs.YtloihcnbcknbnaaGreatDoor
open Go.RowKit

theorem enters_SClone (args : Array Value) (w : World) : (callFunc 44 args).run Tryz.prog w = .ok (.enter 44 args) w := enters Tryz.func44 (by kernel_rfl) (by kernel_rfl) args w
theorem stPair0 : (Tryz.prog.info? 41).map (·.size) = some 2 := by kernel_rfl
def FrS (w : World) (k x : ByteArray) (u v : Value) (W : World) : Prop := W.heap[w.heap.size]? = some (.cells #[.string k, .string x] 41 (0, 0)) ∧ W.heap[w.heap.size + 1]? = some (.cells #[u, v] 41 (0, 0))
def Fr1 (w : World) (k x : ByteArray) (W : World) : Prop := W.heap[w.heap.size]? = some (.cells #[.string k, .string x] 41 (0, 0))
theorem FrS.k {w : World} {k x : ByteArray} {u v : Value} {W W' : World} (h : FrS w k x u v W) (kk : Kept [] W W') : FrS w k x u v W' := ⟨kk.get h.1 (by simp), kk.get h.2 (by simp)⟩

set_option maxRecDepth 100000 in
set_option maxHeartbeats 4000000 in
theorem fresh_any (k x : ByteArray) (w : World) (hk : k.size ≤ 1000) (hx : x.size ≤ 1000) : Calls Tryz.prog 52 #[.agg #[.string k, .string x]] w fun e w' => e = .returned (.agg #[.string k, .string x]) ∧ Kept [] w w' := by
  have k0 := ((Kept.refl [] w).alloc (.cells #[.string k, .string x] 41)).alloc (.cells #[.string ⟨#[]⟩, .string ⟨#[]⟩] 41)
  have hS : FrS w k x (.string ⟨#[]⟩) (.string ⟨#[]⟩) ((w.alloc (.cells #[.string k, .string x] 41)).alloc (.cells #[.string ⟨#[]⟩, .string ⟨#[]⟩] 41)).drew := by
    constructor
    · exact ((Kept.refl [] _).alloc _).drew.get (heap_alloc_new w _) (by simp)
    · have := heap_alloc_new (w.alloc (.cells #[.string k, .string x] 41)) (.cells #[.string ⟨#[]⟩, .string ⟨#[]⟩] 41)
      rw [World.size_alloc] at this
      exact this
  go_enter Tryz.func52, Tryz.ntmps52
  go_wp2
  refine wp_region_S (Fr1 w k x) (by kernel_rfl) ?_
  refine wpAnyH_take (i := 0) (v := .pointer (some ⟨w.heap.size, 0 + 0, none⟩)) rfl (by kernel_rfl) (by kernel_rfl) (by kernel_rfl) (fun _ _ _ h => h) (Or.inl ⟨by rfl, fun W hW => exec_fieldL 41 (.tmp 1) 0 rfl w.heap.size (0) rfl 0 (by rfl)⟩) hS.1 ?_
  simp only [Act.put, List.getElem_toArray, List.getElem_cons_zero, List.setIfInBounds_toArray, List.set_cons_succ, List.set_cons_zero]
  refine wpAnyH_take (i := 1) (v := .string k) rfl (by kernel_rfl) (by kernel_rfl) (by kernel_rfl) (fun _ _ _ h => h) (Or.inl ⟨by rfl, fun W hW => exec_load 9 (.tmp 3) rfl ⟨w.heap.size, 0 + 0, none⟩ rfl _ (run_load1 Tryz.underlying9 rfl (cellAt hW rfl))⟩) hS.1 ?_
  simp only [Act.put, List.getElem_toArray, List.getElem_cons_succ, List.getElem_cons_zero, List.setIfInBounds_toArray, List.set_cons_succ, List.set_cons_zero]
  refine wpAnyH_take (i := 3) (v := .pointer (some ⟨w.heap.size, 0 + 1, none⟩)) rfl (by kernel_rfl) (by kernel_rfl) (by kernel_rfl) (fun _ _ _ h => h) (Or.inl ⟨by rfl, fun W hW => exec_fieldL 41 (.tmp 1) 1 rfl w.heap.size (0) rfl 1 (by rfl)⟩) hS.1 ?_
  simp only [Act.put, List.getElem_toArray, List.getElem_cons_succ, List.getElem_cons_zero, List.setIfInBounds_toArray, List.set_cons_succ, List.set_cons_zero]
  refine wpAnyH_take (i := 4) (v := .string x) rfl (by kernel_rfl) (by kernel_rfl) (by kernel_rfl) (fun _ _ _ h => h) (Or.inl ⟨by rfl, fun W hW => exec_load 9 (.tmp 6) rfl ⟨w.heap.size, 0 + 1, none⟩ rfl _ (run_load1 Tryz.underlying9 rfl (cellAt hW rfl))⟩) hS.1 ?_
  simp only [Act.put, List.getElem_toArray, List.getElem_cons_succ, List.getElem_cons_zero, List.setIfInBounds_toArray, List.set_cons_succ, List.set_cons_zero]
  refine held_one (i := 2) (by kernel_rfl) (wpOp_call rfl (by rfl) 44 #[.string k] (exec_call _ _ _ rfl _ (by simp [Act.eval]) (enters_SClone _ _)) _ (SClone_any k _ (by omega)) ?_)
  rintro e w2 ⟨rfl, hk2⟩
  have hS2 := hS.k hk2
  refine ⟨_, rfl, hS2.1, ?_⟩
  simp only [Act.put, List.getElem_toArray, List.getElem_cons_succ, List.getElem_cons_zero, List.setIfInBounds_toArray, List.set_cons_succ, List.set_cons_zero]
  refine held_one (i := 5) (by kernel_rfl) (wpOp_call rfl (by rfl) 44 #[.string x] (exec_call _ _ _ rfl _ (by simp [Act.eval]) (enters_SClone _ _)) _ (SClone_any x _ (by omega)) ?_)
  rintro e w3 ⟨rfl, hk3'⟩
  have hS3 := hS2.k hk3'
  have hk3 := hk2.trans hk3'
  refine ⟨_, rfl, hS3.1, ?_⟩
  simp only [Act.put, List.getElem_toArray, List.getElem_cons_succ, List.getElem_cons_zero, List.setIfInBounds_toArray, List.set_cons_succ, List.set_cons_zero]
  refine held_one (i := 6) (by kernel_rfl) (wpOp_valW rfl (by rfl) (.agg #[.string k, .string x]) w3 (exec_build 41 (.tmp 5) (.tmp 8) 0 1 rfl _ _ _ rfl rfl (by kernel_rfl)) ⟨hS3.1, ?_⟩)
  simp only [Act.put, List.getElem_toArray, List.getElem_cons_succ, List.getElem_cons_zero, List.setIfInBounds_toArray, List.set_cons_succ, List.set_cons_zero]
  have hst := run_storeVar_seg (P := Tryz.prog) w3 (w.heap.size + 1) 0 41 41 [.string ⟨#[]⟩, .string ⟨#[]⟩] [.string k, .string x] hS3.2 (by rw [stPair0]; rfl) (by simp) (by intro u hu; simp at hu; rcases hu with rfl | rfl <;> rfl)
  have hS4 : FrS w k x (.string k) (.string x) (w3.setRow (w.heap.size + 1) (splice [.string ⟨#[]⟩, .string ⟨#[]⟩] 0 [.string k, .string x]).toArray) := ⟨((Kept.refl [w.heap.size + 1] w3).setRow (Or.inl (by simp)) _).get hS3.1 (by simp), setRow_heap _ _ _ _ _ _ hS3.2⟩
  refine held_one (i := 7) (by kernel_rfl) (wpOp_skip rfl rfl _ (exec_store 41 (.tmp 2) (.tmp 9) rfl ⟨w.heap.size + 1, 0, none⟩ rfl _ rfl hst) ⟨hS4.1, ?_⟩)
  simp only [Act.put, List.getElem_toArray, List.getElem_cons_succ, List.getElem_cons_zero]
  refine wpAnyH_done (by kernel_rfl) ?_ _
  have K4 : Hid (Kept [] w (w3.setRow (w.heap.size + 1) (splice [.string ⟨#[]⟩, .string ⟨#[]⟩] 0 [.string k, .string x]).toArray)) := (k0.drew.trans hk3).trans2 ((Kept.refl [w.heap.size + 1] w3).setRow (Or.inl (by simp)) _) (fun y hy => Or.inr (by simp at hy; omega))
  clear hst hS hS2 hS3
  go_wp2
  refine bodyPost_ret (results_cell_row rfl _ _ (w.heap.size + 1) 41 #[.string k, .string x] (0, 0) _ rfl hS4.2 Tryz.underlying41 rfl stPair0) rfl ?_
  exact ⟨rfl, K4.out⟩

set_option maxRecDepth 100000 in
set_option maxHeartbeats 4000000 in
theorem needOpen_yes (x : Nat) (p : Addr) (r : Value) (w : World) (h : w.heap[x]? = some (.cells #[.pointer (some p), r] 76 (0, 0))) : Calls Tryz.prog 41 #[.pointer (some ⟨x, 0, none⟩)] w fun e w' => e = .returned (.tuple #[]) ∧ Kept [] w w' := by
  have c0 : w.cell? ⟨x, 0, none⟩ = some (.pointer (some p)) := cellAt h rfl
  go_enter Tryz.func41, Tryz.ntmps41
  go_wp2
  go_end0
  exact ⟨rfl, Kept.refl _ _⟩

set_option maxRecDepth 100000 in
set_option maxHeartbeats 4000000 in
theorem needOpen_no (x : Nat) (r : Value) (w : World) (h : w.heap[x]? = some (.cells #[.pointer none, r] 76 (0, 0))) : Calls Tryz.prog 41 #[.pointer (some ⟨x, 0, none⟩)] w (Thrown 5 w) := by
  have c0 : w.cell? ⟨x, 0, none⟩ = some (.pointer none) := cellAt h rfl
  go_enter Tryz.func41, Tryz.ntmps41
  go_wp2_with (first | (go_at_call 55; refine (Throw_any _ _ _).mono ?_; rintro e w2 ⟨f, o, rfl, h2, h3⟩))
  exact ⟨rfl, f, o, rfl, h2, h3⟩

set_option maxRecDepth 100000 in
set_option maxHeartbeats 4000000 in
theorem needKey_yes (k : ByteArray) (w : World) (hk : 1 ≤ k.size ∧ k.size ≤ 8) : Calls Tryz.prog 42 #[.string k] w fun e w' => e = .returned (.tuple #[]) ∧ Kept [] w w' := by
  have h1 : ¬ (k.size : Int) < 1 := by omega
  have h2 : ¬ (8 : Int) < (k.size : Int) := by omega
  go_enter Tryz.func42, Tryz.ntmps42
  go_wp2
  go_end0
  exact ⟨rfl, Kept.refl _ _⟩

set_option maxRecDepth 100000 in
set_option maxHeartbeats 4000000 in
theorem needKey_no (k : ByteArray) (w : World) (hk : ¬ (1 ≤ k.size ∧ k.size ≤ 8)) : Calls Tryz.prog 42 #[.string k] w (Thrown 1 w) := by
  by_cases h1 : (k.size : Int) < 1
  · go_enter Tryz.func42, Tryz.ntmps42
    go_wp2_with (first | (go_at_call 55; refine (Throw_any _ _ _).mono ?_; rintro e w2 ⟨f, o, rfl, h2, h3⟩))
    exact ⟨rfl, f, o, rfl, h2, h3⟩
  · have h8 : (8 : Int) < (k.size : Int) := by omega
    go_enter Tryz.func42, Tryz.ntmps42
    go_wp2_with (first | (go_at_call 55; refine (Throw_any _ _ _).mono ?_; rintro e w2 ⟨f, o, rfl, h2, h3⟩))
    exact ⟨rfl, f, o, rfl, h2, h3⟩

set_option maxRecDepth 100000 in
set_option maxHeartbeats 4000000 in
theorem needValue_yes (k : ByteArray) (w : World) (hk : k.size ≤ 12) : Calls Tryz.prog 50 #[.string k] w fun e w' => e = .returned (.tuple #[]) ∧ Kept [] w w' := by
  have h2 : ¬ (12 : Int) < (k.size : Int) := by omega
  go_enter Tryz.func50, Tryz.ntmps50
  go_wp2
  go_end0
  exact ⟨rfl, Kept.refl _ _⟩

set_option maxRecDepth 100000 in
set_option maxHeartbeats 4000000 in
theorem needValue_no (k : ByteArray) (w : World) (hk : ¬ k.size ≤ 12) : Calls Tryz.prog 50 #[.string k] w (Thrown 2 w) := by
  have h8 : (12 : Int) < (k.size : Int) := by omega
  go_enter Tryz.func50, Tryz.ntmps50
  go_wp2_with (first | (go_at_call 55; refine (Throw_any _ _ _).mono ?_; rintro e w2 ⟨f, o, rfl, h2, h3⟩))
  exact ⟨rfl, f, o, rfl, h2, h3⟩

set_option maxRecDepth 100000 in
set_option maxHeartbeats 4000000 in
theorem VSize_any (v a n : Nat) (w : World) (h : Vol w v a n) : Calls Tryz.prog 76 #[.pointer (some ⟨v, 0, none⟩)] w fun e w' => e = .returned (.int .i64 n) ∧ Kept [] w w' := by
  have c1 : w.cell? ⟨v, 1, none⟩ = some (.int .i64 n) := cellAt h rfl
  go_enter Tryz.func76, Tryz.ntmps76
  go_wp2
  go_ret
  exact ⟨rfl, Kept.refl _ _⟩

set_option maxRecDepth 100000 in
set_option maxHeartbeats 4000000 in
theorem room_any (x v a n : Nat) (r : Value) (w : World) (hx : w.heap[x]? = some (.cells #[.pointer (some ⟨v, 0, none⟩), r] 76 (0, 0))) (h : Vol w v a n) (h8 : 8 ≤ n) (h4 : n ≤ 400) : Calls Tryz.prog 54 #[.pointer (some ⟨x, 0, none⟩)] w fun e w' => e = .returned (.int .i64 (((n - 2) / 2 : Nat) : Int)) ∧ Kept [] w w' := by
  have c0 : w.cell? ⟨x, 0, none⟩ = some (.pointer (some ⟨v, 0, none⟩)) := cellAt hx rfl
  have HC : Hid (Calls _ _ _ _ _) := VSize_any v a n w h
  clear h
  go_enter Tryz.func54, Tryz.ntmps54
  go_wp2_with (first | (go_at_call 76; refine HC.out.mono ?_; rintro e w1 ⟨rfl, hk1⟩))
  go_ret
  refine ⟨?_, hk1⟩
  have e : ((n : Int) - 2) / 2 = (((n - 2) / 2 : Nat) : Int) := by omega
  rw [← e]
  rfl

end Go.Proofs.YtloihcnbcknbnaaGreatDoor
