import Derived.Test.YtnofaofjgjgkgaaGreatDoorVolB
import Derived.Defers
import Derived.Recover
import Derived.Laws.Pointers
namespace Go.Proofs.YtnofaofjgjgkgaaGreatDoor
open Go.RowKit

theorem count1_idle (p : Addr) (w : World) :
    CallsD Tryz.prog 93 #[.pointer (some p)] .returning w fun e u' w' => e = .returned (.tuple #[]) ∧ u' = .returning ∧ w' = w := by
  refine callsD_of_wpS Tryz.func93 rfl fun c₀ cs hu => ?_
  apply wpS_seq
  apply wpS_region
  simp [wpOpsS, go_sem, recoverD, hu, Tryz.ntmps93, Exit.thenS]
  refine wpS_cond (t := false) (by simp [Act.eval, Array.replicate]) ?_
  simp only [Bool.false_eq_true, if_false]
  refine wpS_of_wp (wp_skip ?_)
  cases c₀
  simp_all [bodyPostS, results, Tryz.results93]

theorem makes (fn : Fn) (first cap : Array Value) (w : World) : (Instr.makeFunc fn first cap).run Tryz.prog w = .ok (.func fn first cap) w := rfl

set_option maxHeartbeats 1000000 in
theorem count_any (a n cap : Nat) (ao : Option Addr) (cache : Value) (c wr t : Int) (w : World) (h : w.heap[a]? = some (.cells (dcells (.slice ao n cap) cache c wr t) 93 (0, 0))) :
    Calls Tryz.prog 83 #[.iface 37 (.pointer (some ⟨a, 0, none⟩))] w fun e w' => e = .returned (.int .i64 n) ∧ Kept [] w w' := by
  have hmf := makes
  have m1 := mBlocks
  have k1 := (Kept.refl [] w).alloc (.cells #[.int .i64 0] 3)
  have h1 := k1.get h (by simp)
  go_enter_defers Tryz.func83, Tryz.ntmps83
  go_wp2_with (go_at_call 129; refine (Blocks_any a ao n cap cache c wr t _ h1).mono ?_; rintro e w' ⟨rfl, rfl⟩)
  refine leaves_cons (f := 93) (args := #[.pointer (some ⟨w.heap.size, 0, none⟩)]) (by simp) (by simp [go_sem]) ?_
  refine (count1_idle ⟨w.heap.size, 0, none⟩ _).mono ?_
  rintro e u' w'' ⟨rfl, rfl, rfl⟩
  simp [Leaves, settle, results, Tryz.results83, go_sem]
  exact (Kept.refl _ _).alloc _

/-- a fault that was thrown -/
def Thrown (x : Int) (w : World) (e : Ending) (w' : World) : Prop :=
  ∃ f o, e = .panicked [{ v := .iface 167 (.agg #[.iface 141 (.pointer (some ⟨f, 0, none⟩))]), recovered := false }] ∧
    w'.heap[f]? = some (.cells #[o, .iface 54 (.int .i64 x)] 144 (0, 0)) ∧ Kept [] w w'

set_option maxHeartbeats 1000000 in
theorem Throw_any (o : ByteArray) (x : Int) (w : World) : Calls Tryz.prog 79 #[.string o, .int .i64 x] w (Thrown x w) := by
  go_enter Tryz.func79, Tryz.ntmps79
  go_wp2
  exact ⟨rfl, w.heap.size, .string o, rfl, heap_alloc_new _ _, (Kept.refl _ _).alloc _⟩

theorem Thrown.mono {x : Int} {w0 w w' : World} {e : Ending} (h : Thrown x w e w') (k : Kept [] w0 w) : Thrown x w0 e w' := by
  obtain ⟨f, o, h1, h2, h3⟩ := h
  exact ⟨f, o, h1, h2, k.trans h3⟩

/-- a new volume -/
def RetVol (a : Nat) (w : World) (e : Ending) (w' : World) : Prop := ∃ v, e = .returned (.pointer (some ⟨v, 0, none⟩)) ∧ Vol w' v a ∧ w.heap.size ≤ v ∧ Kept [] w w'

set_option maxHeartbeats 1000000 in
theorem On_fits (a n cap : Nat) (ao : Option Addr) (cache : Value) (c wr t : Int) (w : World) (h : w.heap[a]? = some (.cells (dcells (.slice ao n cap) cache c wr t) 93 (0, 0))) (h8 : 8 ≤ n) (h4 : n ≤ 400) :
    Calls Tryz.prog 70 #[.iface 37 (.pointer (some ⟨a, 0, none⟩))] w (RetVol a w) := by
  have g8 : ¬ (n : Int) < 8 := by omega
  have g4 : ¬ (400 : Int) < n := by omega
  go_enter Tryz.func70, Tryz.ntmps70
  go_wp2_with (go_at_call 83; refine (count_any a n cap ao cache c wr t _ h).mono ?_; rintro e w1 ⟨rfl, k1⟩)
  go_ret
  exact ⟨_, rfl, heap_alloc_new _ _, k1.size, k1.alloc _⟩

set_option maxHeartbeats 1000000 in
theorem On_no (a n cap : Nat) (ao : Option Addr) (cache : Value) (c wr t : Int) (w : World) (h : w.heap[a]? = some (.cells (dcells (.slice ao n cap) cache c wr t) 93 (0, 0))) (hn : n < 8 ∨ 400 < n) :
    Calls Tryz.prog 70 #[.iface 37 (.pointer (some ⟨a, 0, none⟩))] w (Thrown 8 w) := by
  rcases hn with hn | hn
  · have g8 : (n : Int) < 8 := by omega
    go_enter Tryz.func70, Tryz.ntmps70
    go_wp2_with (first
      | (go_at_call 83; refine (count_any a n cap ao cache c wr t _ h).mono ?_; rintro e w1 ⟨rfl, k1⟩)
      | (go_at_call 79; refine (Throw_any _ _ _).mono ?_; rintro e w2 ⟨f, o, rfl, h2, h3⟩))
    exact ⟨rfl, f, o, rfl, h2, k1.trans h3⟩
  · have g8 : ¬ (n : Int) < 8 := by omega
    have g4 : (400 : Int) < n := by omega
    go_enter Tryz.func70, Tryz.ntmps70
    go_wp2_with (first
      | (go_at_call 83; refine (count_any a n cap ao cache c wr t _ h).mono ?_; rintro e w1 ⟨rfl, k1⟩)
      | (go_at_call 79; refine (Throw_any _ _ _).mono ?_; rintro e w2 ⟨f, o, rfl, h2, h3⟩))
    exact ⟨rfl, f, o, rfl, h2, k1.trans h3⟩

end Go.Proofs.YtnofaofjgjgkgaaGreatDoor
