import Derived.Test.YtnofaofjgjgkgaaGreatDoorFltA
import Derived.Deep.RegionWith
namespace Go.Proofs.YtnofaofjgjgkgaaGreatDoor
open Go.RowKit

theorem asrtT (v : Value) (w : World) : (Instr.typeAssert (.iface 167 v) 20 167 true).run Tryz.prog w = .ok (.tuple #[v, .bool true]) w := by kernel_rfl

set_option maxRecDepth 10000 in
set_option maxHeartbeats 1000000 in
theorem meant_thrown (f : Addr) (w : World) : Calls Tryz.prog 82 #[.iface 167 (.agg #[.iface 141 (.pointer (some f))])] w fun e w' => e = .returned (.iface 141 (.pointer (some f))) ∧ Kept [] w w' := by
  have aT := asrtT
  go_enter Tryz.func82, Tryz.ntmps82
  go_wp2
  go_ret
  exact ⟨rfl, (Kept.refl _ _).alloc _⟩

theorem Catch1_idle (p q : Addr) (w : World) :
    CallsD Tryz.prog 81 #[.pointer (some p), .pointer (some q)] .returning w fun e u' w' => e = .returned (.tuple #[]) ∧ u' = .returning ∧ w' = w := by
  refine callsD_of_wpS Tryz.func81 rfl fun c₀ cs hu => ?_
  apply wpS_seq
  apply wpS_region
  simp [wpOpsS, go_sem, recoverD, hu, Tryz.ntmps81, Exit.thenS]
  rw [show #[Value.pointer (some p), Value.pointer (some q)] ++ ((Array.replicate 10 undef).setIfInBounds 1 Value.nilIface).setIfInBounds 0 Value.nilIface = #[.pointer (some p), .pointer (some q), .nilIface, .nilIface, undef, undef, undef, undef, undef, undef, undef, undef] from rfl]
  refine wpS_of_wp ?_
  go_wp2
  cases c₀
  simp_all [bodyPostS, results, Tryz.results81]

/-- what a caught fault is told as -/
def Caught (x : Int) (q : Nat) (w w' : World) : Prop := ∃ err, w'.heap[q]? = some (.cells #[err] 52 (0, 0)) ∧ Chain w' err x ∧ Kept [q] w w'

theorem caught_of {w w2 : World} {q f : Nat} {o old : Value} {x : Int} {b : ByteArray} (hk2 : Kept [] w.drew w2) (hq2 : w2.heap[q]? = some (.cells #[old] 52 (0, 0)))
    (hf : w.heap[f]? = some (.cells #[o, .iface 54 (.int .i64 x)] 144 (0, 0))) :
    Caught x q w ((w2.setCell ⟨q, 0, none⟩ (.iface 141 (.pointer (some ⟨w2.heap.size, 0, none⟩)))).alloc (.cells #[.string b, .iface 141 (.pointer (some ⟨f, 0, none⟩))] 144)) := by
  have kd : Kept [] w w.drew := (Kept.refl _ _).drew
  have hf2 := hk2.get (w := w.drew) hf (by simp)
  have nqf : q ≠ f := ne_tag hq2 hf2 (by decide)
  have k1 : Kept [q] w2 (w2.setCell ⟨q, 0, none⟩ (.iface 141 (.pointer (some ⟨w2.heap.size, 0, none⟩)))) := (Kept.refl _ _).setCell (Or.inl (by simp)) _
  have h1 := setCellAt (i := 0) (.iface 141 (.pointer (some ⟨w2.heap.size, 0, none⟩))) hq2
  have k2 := (Kept.refl [] (w2.setCell ⟨q, 0, none⟩ (.iface 141 (.pointer (some ⟨w2.heap.size, 0, none⟩))))).alloc (.cells #[.string b, .iface 141 (.pointer (some ⟨f, 0, none⟩))] 144)
  refine ⟨.iface 141 (.pointer (some ⟨w2.heap.size, 0, none⟩)), k2.get h1 (by simp), ⟨w2.heap.size, f, .string b, o, rfl, ?_, k2.get (k1.get hf2 (by simpa using nqf.symm)) (by simp)⟩, ?_⟩
  · have := heap_alloc_new (w2.setCell ⟨q, 0, none⟩ (.iface 141 (.pointer (some ⟨w2.heap.size, 0, none⟩)))) (.cells #[.string b, .iface 141 (.pointer (some ⟨f, 0, none⟩))] 144)
    rwa [show (w2.setCell ⟨q, 0, none⟩ (.iface 141 (.pointer (some ⟨w2.heap.size, 0, none⟩)))).heap.size = w2.heap.size by simp] at this
  · exact (((kd.trans hk2).mono (by simp)).trans k1).trans2 k2 (by simp)

set_option maxHeartbeats 1000000 in
theorem Catch1_caught (p q f : Nat) (o s old : Value) (x : Int) (w : World) (hp : w.heap[p]? = some (.cells #[s] 9 (0, 0))) (hs : ∃ b, s = .string b) (hq : w.heap[q]? = some (.cells #[old] 52 (0, 0)))
    (hf : w.heap[f]? = some (.cells #[o, .iface 54 (.int .i64 x)] 144 (0, 0))) :
    CallsD Tryz.prog 81 #[.pointer (some ⟨p, 0, none⟩), .pointer (some ⟨q, 0, none⟩)] (.panicking [{ v := .iface 167 (.agg #[.iface 141 (.pointer (some ⟨f, 0, none⟩))]), recovered := false }]) w
      fun e u' w' => e = .returned (.tuple #[]) ∧ u' = .panicking [{ v := .iface 167 (.agg #[.iface 141 (.pointer (some ⟨f, 0, none⟩))]), recovered := true }] ∧ Caught x q w w' := by
  obtain ⟨b, rfl⟩ := hs
  refine callsD_of_wpS Tryz.func81 rfl fun c₀ cs hu => ?_
  apply wpS_seq
  apply wpS_region
  simp [wpOpsS, go_sem, recoverD, hu, Tryz.ntmps81, Exit.thenS]
  rw [show #[Value.pointer (some ⟨p, 0, none⟩), Value.pointer (some ⟨q, 0, none⟩)] ++ ((Array.replicate 10 undef).setIfInBounds 1 (Value.iface 167 (.agg #[.iface 141 (.pointer (some ⟨f, 0, none⟩))]))).setIfInBounds 0 (Value.iface 167 (.agg #[.iface 141 (.pointer (some ⟨f, 0, none⟩))])) = #[.pointer (some ⟨p, 0, none⟩), .pointer (some ⟨q, 0, none⟩), .iface 167 (.agg #[.iface 141 (.pointer (some ⟨f, 0, none⟩))]), .iface 167 (.agg #[.iface 141 (.pointer (some ⟨f, 0, none⟩))]), undef, undef, undef, undef, undef, undef, undef, undef] from rfl]
  refine wpS_of_wp ?_
  have cp : w.cell? ⟨p, 0, none⟩ = some (.string b) := cellAt hp rfl
  go_wp2
  go_region_with (go_at_call 82; refine (meant_thrown _ _).mono ?_; rintro e w2 ⟨rfl, hk2⟩; have cp2 : w2.cell? ⟨p, 0, none⟩ = some (.string b) := cellAt (hk2.get (w := w.drew) hp (by simp)) rfl; have hq2 := hk2.get (w := w.drew) hq (by simp); have cq2 : w2.cell? ⟨q, 0, none⟩ = some old := cellAt hq2 rfl; have fq2 : w2.frozen? ⟨q, 0, none⟩ = false := frozen_of_row _ _ _ _ _ hq2; have lq2 := lt_heap hq2)
  all_goals exact ⟨rfl, _, rfl, .tuple #[], results_none rfl _ _ _, rfl, rfl, caught_of hk2 hq2 hf⟩

end Go.Proofs.YtnofaofjgjgkgaaGreatDoor
