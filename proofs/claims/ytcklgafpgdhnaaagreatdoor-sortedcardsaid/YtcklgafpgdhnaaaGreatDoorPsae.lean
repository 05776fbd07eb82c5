import Derived.Test.YtcklgafpgdhnaaaGreatDoorPsad
import Derived.Deep.RegionWith
import Derived.Test.YtcklgafpgdhnaaaGreatDoorPsab
import Derived.Maps.OwnSet
import Derived.LoopN
import Derived.Test.YtcklgafpgdhnaaaGreatDoorPsac
import Derived.Laws.AppendOwnNone
import Derived.Laws.ResultCell
import Derived.BigRegion
set_option maxRecDepth 100000
set_option maxHeartbeats 4000000
open Go.Proofs.Tryz
namespace Go.Proofs.YtcklgafpgdhnaaaGreatDoor
open Go.RowKit
theorem Q2O (v : Value) (w : World) : (Instr.typeAssert (.iface 147 v) 20 147 true).run prog w = .ok (.tuple #[v, .bool true]) w := by kernel_rfl
set_option maxRecDepth 10000 in
theorem Q2P (f : Addr) (w : World) : Calls prog 68 #[.iface 147 (.agg #[.iface 111 (.pointer (some f))])] w fun e w' => e = .returned (.iface 111 (.pointer (some f))) /\ Kept [] w w' := by
 have aT := Q2O
 go_enter func68, ntmps68
 go_wp2
 go_ret
 exact ⟨rfl, (Kept.refl _ _).alloc _⟩
theorem Q2Q (p q : Addr) (w : World) :
  CallsD prog 67 #[.pointer (some p), .pointer (some q)] .returning w fun e u' w' => e = .returned (.tuple #[]) /\ u' = .returning /\ w' = w := by
 refine callsD_of_wpS func67 rfl fun c₀ cs hu => ?_
 apply wpS_seq
 apply wpS_region
 simp [wpOpsS, go_sem, recoverD, hu, ntmps67, Exit.thenS]
 rw [show #[Value.pointer (some p), Value.pointer (some q)] ++ ((Array.replicate 10 undef).setIfInBounds 1 Value.nilIface).setIfInBounds 0 Value.nilIface = #[.pointer (some p), .pointer (some q), .nilIface, .nilIface, undef, undef, undef, undef, undef, undef, undef, undef] from rfl]
 refine wpS_of_wp ?_
 go_wp2
 cases c₀
 simp_all [bodyPostS, results, Tryz.results67]
def Q2R (x : Int) (q : Nat) (w w' : World) : Prop := ∃ err, w'.heap[q]? = some (.cells #[err] 35 (0, 0)) /\ Q2N w' err x /\ Kept [q] w w'
theorem Q2S {w w2 : World} {q f : Nat} {o old : Value} {x : Int} {b : ByteArray} (hk2 : Kept [] w.drew w2) (hq2 : w2.heap[q]? = some (.cells #[old] 35 (0, 0)))
  (hf : w.heap[f]? = some (.cells #[o, .iface 100 (.int .i64 x)] 114 (0, 0))) :
  Q2R x q w ((w2.setCell ⟨q, 0, none⟩ (.iface 111 (.pointer (some ⟨w2.heap.size, 0, none⟩)))).alloc (.cells #[.string b, .iface 111 (.pointer (some ⟨f, 0, none⟩))] 114)) := by
 have kd : Kept [] w w.drew := (Kept.refl _ _).drew
 have hf2 := hk2.get (w := w.drew) hf (by simp)
 have nqf : q ≠ f := Q01 hq2 hf2 (by decide)
 have k1 : Kept [q] w2 (w2.setCell ⟨q, 0, none⟩ (.iface 111 (.pointer (some ⟨w2.heap.size, 0, none⟩)))) := (Kept.refl _ _).setCell (Or.inl (by simp)) _
 have h1 := Q03 (i := 0) (.iface 111 (.pointer (some ⟨w2.heap.size, 0, none⟩))) hq2
 have k2 := (Kept.refl [] (w2.setCell ⟨q, 0, none⟩ (.iface 111 (.pointer (some ⟨w2.heap.size, 0, none⟩))))).alloc (.cells #[.string b, .iface 111 (.pointer (some ⟨f, 0, none⟩))] 114)
 refine ⟨.iface 111 (.pointer (some ⟨w2.heap.size, 0, none⟩)), k2.get h1 (by simp), ⟨w2.heap.size, f, .string b, o, rfl, ?_, k2.get (k1.get hf2 (by simpa using nqf.symm)) (by simp)⟩, ?_⟩
 ·have := heap_alloc_new (w2.setCell ⟨q, 0, none⟩ (.iface 111 (.pointer (some ⟨w2.heap.size, 0, none⟩)))) (.cells #[.string b, .iface 111 (.pointer (some ⟨f, 0, none⟩))] 114)
  rwa [show (w2.setCell ⟨q, 0, none⟩ (.iface 111 (.pointer (some ⟨w2.heap.size, 0, none⟩)))).heap.size = w2.heap.size by simp] at this
 ·exact (((kd.trans hk2).mono (by simp)).trans k1).trans2 k2 (by simp)
theorem Q2T (p q f : Nat) (o s old : Value) (x : Int) (w : World) (hp : w.heap[p]? = some (.cells #[s] 9 (0, 0))) (hs : ∃ b, s = .string b) (hq : w.heap[q]? = some (.cells #[old] 35 (0, 0)))
  (hf : w.heap[f]? = some (.cells #[o, .iface 100 (.int .i64 x)] 114 (0, 0))) :
  CallsD prog 67 #[.pointer (some ⟨p, 0, none⟩), .pointer (some ⟨q, 0, none⟩)] (.panicking [{ v := .iface 147 (.agg #[.iface 111 (.pointer (some ⟨f, 0, none⟩))]), recovered := false }]) w
   fun e u' w' => e = .returned (.tuple #[]) /\ u' = .panicking [{ v := .iface 147 (.agg #[.iface 111 (.pointer (some ⟨f, 0, none⟩))]), recovered := true }] /\ Q2R x q w w' := by
 obtain ⟨b, rfl⟩ := hs
 refine callsD_of_wpS func67 rfl fun c₀ cs hu => ?_
 apply wpS_seq
 apply wpS_region
 simp [wpOpsS, go_sem, recoverD, hu, ntmps67, Exit.thenS]
 rw [show #[Value.pointer (some ⟨p, 0, none⟩), Value.pointer (some ⟨q, 0, none⟩)] ++ ((Array.replicate 10 undef).setIfInBounds 1 (Value.iface 147 (.agg #[.iface 111 (.pointer (some ⟨f, 0, none⟩))]))).setIfInBounds 0 (Value.iface 147 (.agg #[.iface 111 (.pointer (some ⟨f, 0, none⟩))])) = #[.pointer (some ⟨p, 0, none⟩), .pointer (some ⟨q, 0, none⟩), .iface 147 (.agg #[.iface 111 (.pointer (some ⟨f, 0, none⟩))]), .iface 147 (.agg #[.iface 111 (.pointer (some ⟨f, 0, none⟩))]), undef, undef, undef, undef, undef, undef, undef, undef] from rfl]
 refine wpS_of_wp ?_
 have cp : w.cell? ⟨p, 0, none⟩ = some (.string b) := Q02 hp rfl
 go_wp2
 go_region_with (go_at_call 68; refine (Q2P _ _).mono ?_; rintro e w2 ⟨rfl, hk2⟩; have cp2 : w2.cell? ⟨p, 0, none⟩ = some (.string b) := Q02 (hk2.get (w := w.drew) hp (by simp)) rfl; have hq2 := hk2.get (w := w.drew) hq (by simp); have cq2 : w2.cell? ⟨q, 0, none⟩ = some old := Q02 hq2 rfl; have fq2 : w2.frozen? ⟨q, 0, none⟩ = false := frozen_of_row _ _ _ _ _ hq2; have lq2 := Q00 hq2)
 all_goals exact ⟨rfl, _, rfl, .tuple #[], results_none rfl _ _ _, rfl, rfl, Q2S hk2 hq2 hf⟩
def Ends (S : List Nat) (R : World -> Prop) (W : World) (e : Ending) (W' : World) : Prop := e = .returned (.tuple #[]) /\ R W' /\ Kept S W W'
def Q2U (x : Int) (S : List Nat) (R : World -> Prop) (W : World) (e : Ending) (W' : World) : Prop :=
 ∃ f o, e = .panicked [{ v := .iface 147 (.agg #[.iface 111 (.pointer (some ⟨f, 0, none⟩))]), recovered := false }] /\
  W'.heap[f]? = some (.cells #[o, .iface 100 (.int .i64 x)] 114 (0, 0)) /\ R W' /\ Kept S W W'
theorem Q2V (b : ByteArray) (fid : FuncId) (caps : Array Value) (he : ∀ (args : Array Value) (W : World), (callFunc fid args).run prog W = .ok (.enter fid args) W)  (S : List Nat) (R : World -> Prop) (w : World) (hS : ∀ x ∈ S, x < w.heap.size)
  (hR : ∀ W W' T, R W -> Kept T W W' -> (∀ x ∈ T, w.heap.size <= x /\ x < w.heap.size + 2 /\ ∃ cs fr, W.heap[x]? = some (.cells cs 35 fr)) -> R W')
  (hw : ∀ W, Kept [] w W -> W.heap.size = w.heap.size + 2 -> Calls prog fid caps W (Ends S R W)) :
  Calls prog 42 #[.string b, .func (.func fid) #[] caps] w fun e w' => e = .returned .nilIface /\ R w' /\ Kept S w w' := by
 have hmf := Q2H
 have k1 := ((Kept.refl [] w).alloc (.cells #[.string b] 9)).alloc (.cells #[.nilIface] 35)
 have hE1 : ((w.alloc (.cells #[.string b] 9)).alloc (.cells #[.nilIface] 35)).heap[w.heap.size + 1]? = some (.cells #[.nilIface] 35 (0, 0)) := by
  have := heap_alloc_new (w.alloc (.cells #[.string b] 9)) (.cells #[.nilIface] 35)
  rwa [World.size_alloc] at this
 have hw1 := hw _ k1 (by simp)
 have HW : Hid (Calls _ _ _ _ _) := hw1
 have HR : Hid (∀ W W' T, R W -> Kept T W W' -> (∀ x ∈ T, w.heap.size <= x /\ x < w.heap.size + 2 /\ ∃ cs fr, W.heap[x]? = some (.cells cs 35 fr)) -> R W') := hR
 have HS : Hid (∀ x ∈ S, x < w.heap.size) := hS
 clear hw hw1 hR hS
 go_enter_defers func42, ntmps42
 go_wp2_with fail
 refine HW.out.mono ?_
 rintro e W ⟨rfl, hRW, hkW⟩
 have HRW : Hid (R W) := hRW
 have hE2 := hkW.get hE1 (fun hx => by have := HS.out _ hx; omega)
 have c2 : W.cell? ⟨w.heap.size + 1, 0, none⟩ = some .nilIface := Q02 hE2 rfl
 have f2 : W.frozen? ⟨w.heap.size + 1, 0, none⟩ = false := frozen_of_row _ _ _ _ _ hE2
 have k3 : Kept [w.heap.size + 1] W (W.setCell ⟨w.heap.size + 1, 0, none⟩ .nilIface) := (Kept.refl _ _).setCell (Or.inl (by simp)) _
 have hk13 : Kept S w (W.setCell ⟨w.heap.size + 1, 0, none⟩ .nilIface) := ((k1.mono (by simp)).trans hkW).trans2 k3 (by intro x hx; simp at hx; subst hx; exact Or.inr (by omega))
 have hR3 : R (W.setCell ⟨w.heap.size + 1, 0, none⟩ .nilIface) := HR.out _ _ _ HRW.out k3 (by intro x hx; simp at hx; subst hx; exact ⟨by omega, by omega, _, _, hE2⟩)
 have HR3 : Hid (R (W.setCell ⟨w.heap.size + 1, 0, none⟩ .nilIface)) := hR3
 have c3 : (W.setCell ⟨w.heap.size + 1, 0, none⟩ .nilIface).cell? ⟨w.heap.size + 1, 0, none⟩ = some .nilIface := Q02 (Q03 (i := 0) .nilIface hE2) rfl
 clear hRW hR3 hE1 hE2 k1
 go_wp2
 refine leaves_cons (f := 67) (args := #[.pointer (some ⟨w.heap.size, 0, none⟩), .pointer (some ⟨w.heap.size + 1, 0, none⟩)]) (by simp) (by simp [go_sem]) ?_
 refine (Q2Q ⟨w.heap.size, 0, none⟩ ⟨w.heap.size + 1, 0, none⟩ _).mono ?_
 rintro e u' w'' ⟨rfl, rfl, rfl⟩
 simp [Leaves, settle, results, Tryz.results42, go_sem, c3]
 exact ⟨HR3.out, hk13⟩
def WEnd (o : Option Int) (e : Ending) (W : World) : Prop := match o with
 | none => e = .returned (.tuple #[])
 | some x => Thr x e W
def CEnd (o : Option Int) (err : Value) (W : World) : Prop := match o with
 | none => err = .nilIface
 | some x => Q2N W err x
def Q2W (S : List Nat) (R : Option Int -> World -> Prop) (W : World) (e : Ending) (W' : World) : Prop := ∃ o, WEnd o e W' /\ R o W' /\ Kept S W W'
def Q2X (S : List Nat) (R : Option Int -> World -> Prop) (w : World) (e : Ending) (w' : World) : Prop := ∃ o err, e = .returned err /\ CEnd o err w' /\ R o w' /\ Kept S w w'
theorem Q2Y (b : ByteArray) (fid : FuncId) (caps : Array Value) (he : ∀ (args : Array Value) (W : World), (callFunc fid args).run prog W = .ok (.enter fid args) W) (S : List Nat) (R : Option Int -> World -> Prop) (w : World) (hS : ∀ x ∈ S, x < w.heap.size)
  (hR : ∀ o W W' T, R o W -> Kept T W W' -> (∀ x ∈ T, w.heap.size <= x /\ x < w.heap.size + 2 /\ ∃ cs fr, W.heap[x]? = some (.cells cs 35 fr)) -> R o W')
  (hw : ∀ W, Kept [] w W -> W.heap.size = w.heap.size + 2 -> Calls prog fid caps W (Q2W S R W)) :
  Calls prog 42 #[.string b, .func (.func fid) #[] caps] w (Q2X S R w) := by
 have hmf := Q2H
 have k1 := ((Kept.refl [] w).alloc (.cells #[.string b] 9)).alloc (.cells #[.nilIface] 35)
 have hE1 : ((w.alloc (.cells #[.string b] 9)).alloc (.cells #[.nilIface] 35)).heap[w.heap.size + 1]? = some (.cells #[.nilIface] 35 (0, 0)) := by
  have := heap_alloc_new (w.alloc (.cells #[.string b] 9)) (.cells #[.nilIface] 35)
  rwa [World.size_alloc] at this
 have hO1 := ((Kept.refl [] (w.alloc (.cells #[.string b] 9))).alloc (.cells #[.nilIface] 35)).get (heap_alloc_new w (.cells #[.string b] 9)) (by simp)
 have hw1 := hw _ k1 (by simp)
 have HW : Hid (Calls _ _ _ _ _) := hw1
 have HR : Hid (∀ o W W' T, R o W -> Kept T W W' -> (∀ x ∈ T, w.heap.size <= x /\ x < w.heap.size + 2 /\ ∃ cs fr, W.heap[x]? = some (.cells cs 35 fr)) -> R o W') := hR
 have HS : Hid (∀ x ∈ S, x < w.heap.size) := hS
 clear hw hw1 hR hS
 go_enter_defers func42, ntmps42
 go_wp2_with fail
 refine HW.out.mono ?_
 rintro e W ⟨o, hend, hRW, hkW⟩
 have hE2 := hkW.get hE1 (fun hx => by have := HS.out _ hx; omega)
 have hO2 := hkW.get hO1 (fun hx => by have := HS.out _ hx; omega)
 cases o with
 | none =>
  have hee : e = .returned (.tuple #[]) := hend
  subst hee
  have HRW : Hid (R none W) := hRW
  have c2 : W.cell? ⟨w.heap.size + 1, 0, none⟩ = some .nilIface := Q02 hE2 rfl
  have f2 : W.frozen? ⟨w.heap.size + 1, 0, none⟩ = false := frozen_of_row _ _ _ _ _ hE2
  have k3 : Kept [w.heap.size + 1] W (W.setCell ⟨w.heap.size + 1, 0, none⟩ .nilIface) := (Kept.refl _ _).setCell (Or.inl (by simp)) _
  have hk13 : Kept S w (W.setCell ⟨w.heap.size + 1, 0, none⟩ .nilIface) := ((k1.mono (by simp)).trans hkW).trans2 k3 (by intro x hx; simp at hx; subst hx; exact Or.inr (by omega))
  have hR3 : R none (W.setCell ⟨w.heap.size + 1, 0, none⟩ .nilIface) := HR.out _ _ _ _ HRW.out k3 (by intro x hx; simp at hx; subst hx; exact ⟨by omega, by omega, _, _, hE2⟩)
  have HR3 : Hid (R none (W.setCell ⟨w.heap.size + 1, 0, none⟩ .nilIface)) := hR3
  have c3 : (W.setCell ⟨w.heap.size + 1, 0, none⟩ .nilIface).cell? ⟨w.heap.size + 1, 0, none⟩ = some .nilIface := Q02 (Q03 (i := 0) .nilIface hE2) rfl
  clear hRW hR3 hE1 hE2 k1 hend
  go_wp2
  refine leaves_cons (f := 67) (args := #[.pointer (some ⟨w.heap.size, 0, none⟩), .pointer (some ⟨w.heap.size + 1, 0, none⟩)]) (by simp) (by simp [go_sem]) ?_
  refine (Q2Q ⟨w.heap.size, 0, none⟩ ⟨w.heap.size + 1, 0, none⟩ _).mono ?_
  rintro e u' w'' ⟨rfl, rfl, rfl⟩
  simp [Leaves, settle, results, Tryz.results42, go_sem, c3]
  exact ⟨none, _, rfl, rfl, HR3.out, hk13⟩
 | some x =>
  obtain ⟨f, o, rfl, hf⟩ := Thr.ex hend
  refine leaves_cons (f := 67) (args := #[.pointer (some ⟨w.heap.size, 0, none⟩), .pointer (some ⟨w.heap.size + 1, 0, none⟩)]) (by simp) (by simp [go_sem]) ?_
  refine (Q2T w.heap.size (w.heap.size + 1) f o _ _ x W hO2 ⟨b, rfl⟩ hE2 hf).mono ?_
  rintro e u' w'' ⟨rfl, rfl, err, he, hc, hk⟩
  have ce : w''.cell? ⟨w.heap.size + 1, 0, none⟩ = some err := Q02 he rfl
  simp [Leaves, settle, results, Tryz.results42, go_sem, ce]
  exact ⟨some x, err, rfl, hc, HR.out _ _ _ _ hRW hk (by intro y hy; simp at hy; subst hy; exact ⟨by omega, by omega, _, _, hE2⟩), ((k1.mono (by simp)).trans hkW).trans2 hk (by intro y hy; simp at hy; subst hy; exact Or.inr (by omega))⟩
section
variable {P : Program} {ops : Array Oper} {Q : Exit -> Act -> World -> Prop}
theorem Q2Z {i : Nat} {o : Oper} {K : Act -> World -> Prop} {a : Act} {w : World} (ho : ops[i]? = some o) (hw : Region.wanted o (yielded ops a.tmps) = true) (f : FuncId) (args : Array Value)
  (hrun : (execOp a.eval o).run P w = .ok (.enter f args) w) (R : Ending -> World -> Prop) (hc : Calls P f args w R) (h : ∀ e w', R e w' -> ∃ v, e = .returned v /\ K (a.put o.dst v) w') : wpOp P ops Q i K a w :=
 wpOp_step ho fun K' hK => by
  rw [if_pos hw]; unfold Oper.wp; rw [hrun, Oper.upon_enter]
  refine hc.mono ?_
  intro e w' hR
  obtain ⟨v, rfl, hk⟩ := h e w' hR
  exact hK _ _ hk
end
theorem Q30 {P : Program} {ops : Array Oper} {Q : Exit -> Act -> World -> Prop} {i : Nat} {o : Oper} {K : Act -> World -> Prop} {a : Act} {w : World} (ho : ops[i]? = some o) (hw : Region.wanted o (yielded ops a.tmps) = true) (f : FuncId) (args : Array Value)
  (hrun : (execOp a.eval o).run P w = .ok (.enter f args) w) (R : Ending -> World -> Prop) (hc : Calls P f args w R) (h : ∀ e w', R e w' -> (∃ v, e = .returned v /\ K (a.put o.dst v) w') \/ ∃ c, e = .panicked c /\ Q (.panic c) a w') : wpOp P ops Q i K a w :=
 wpOp_step ho fun K' hK => by
  rw [if_pos hw]; unfold Oper.wp; rw [hrun, Oper.upon_enter]
  refine hc.mono ?_
  intro e w' hR
  rcases h e w' hR with ⟨v, rfl, hk⟩ | ⟨c, rfl, hk⟩
  ·exact hK _ _ hk
  ·exact hk
theorem Q31 {P : Program} {f : FuncId} {fn : Func} (hf : P.funcs[f]? = some fn) (hname : (fn.name == "runtime.NumGoroutine") = false) (hb : fn.body.isNone = false) (args : Array Value) (w : World) : (callFunc f args).run P w = .ok (.enter f args) w := by
 have h1 : ¬ fn.name = "runtime.NumGoroutine" := by simpa using hname
 have h2 : ¬ fn.body = none := by intro h; rw [h] at hb; cases hb
 simp [callFunc, hf, h1, h2]
theorem Q32 {P : Program} {o : Oper} {a : Act} {w : World} (f : FuncId) (xs : Array Operand) (ts : Array TypeId) (ho : o.op = .call { callee := .value (.func f), args := xs, argTypes := ts }) (vs : Array Value) (hv : xs.map a.eval = vs) (he : (callFunc f vs).run P w = .ok (.enter f vs) w) :
  (execOp a.eval o).run P w = .ok (.enter f vs) w := by
 subst hv
 simp [execOp, ho, resolve, Deferred.ofValue, invoke, Act.eval, he]
theorem Q33 {P : Program} {o : Oper} {a : Act} {w : World} (t : TypeId) (x : Operand) (i : Nat) (ho : o.op = .fieldAddr t x i) (g b : Nat) (hx : a.eval x = .pointer (some ⟨g, b, none⟩)) (off : Nat) (hr : (Instr.fieldAt t (.pointer (some ⟨g, b, none⟩)) i).run P w = .ok (.pointer (some ⟨g, b + off, none⟩)) w) :
  (execOp a.eval o).run P w = .ok (.value (.pointer (some ⟨g, b + off, none⟩))) w := by
 simp [execOp, ho, hx, hr]
theorem Q34 {P : Program} {o : Oper} {a : Act} {w : World} (t u : TypeId) (x : Operand) (ho : o.op = .convert t u x) (k k' : IntKind) (d : TypeDesc) (n : Int) (hx : a.eval x = .int k n) (ht : P.underlying t = some d) (hu : P.underlying u = some (.int k')) :
  (execOp a.eval o).run P w = .ok (.value (.int k' (k'.wrap n))) w := by
 simp [execOp, ho, hx, convert, run_underlying ht, run_underlying hu, Conv.intToInt]
def SpM (w : World) (b : Nat) (us : List Nat) : Prop :=
 ∃ (m : Nat) (D : DataW Unit), w.ownsMap prog 3 unitElem b m D /\ m <= us.length /\ ∀ i : Nat, Maps.has D (.int .i64 i) = decide (i ∈ us)
theorem SpM.kept {S : List Nat} {w w' : World} {b : Nat} {us : List Nat} (h : SpM w b us) (k : Kept S w w') (hb : b ∉ S) : SpM w' b us := by
 obtain ⟨m, D, h1, h2⟩ := h
 refine ⟨m, D, ?_, h2⟩
 have hlt := h1.lt
 obtain ⟨es, clock, hh, r⟩ := h1
 exact ⟨es, clock, by rw [k.block b hlt hb]; exact hh, r⟩
theorem SpM.lt {w : World} {b : Nat} {us : List Nat} (h : SpM w b us) : b < w.heap.size := by
 obtain ⟨m, D, h1, _⟩ := h
 exact h1.lt
theorem SpM.ne {w : World} {b : Nat} {us : List Nat} (h : SpM w b us) {y : Nat} {cs : Array Value} {t : TypeId} {fr : Nat × Nat} (hy : w.heap[y]? = some (.cells cs t fr)) : y ≠ b := by
 rintro rfl
 obtain ⟨m, D, ⟨es, clock, hh, _⟩, _⟩ := h
 rw [hy] at hh
 cases hh
theorem kl : Maps.Keyed prog 3 := Maps.int_keyed underlying3
theorem kwf (i : Nat) (hi : i < 70000) : keyOf prog 3 (.int .i64 (i : Int)) = some (.int .i64 i) := Maps.keyOf_int_mk underlying3 (by simp [Lit.wf, show IntKind.i64.min = -9223372036854775808 from rfl, show IntKind.i64.max = 9223372036854775807 from rfl]; omega)
theorem Q35 (w : World) : (zeroValue 172).run prog w = .ok (.agg #[]) w := by kernel_rfl
theorem SpM.made (w : World) : SpM (w.alloc (.map #[] 0)) w.heap.size [] :=
 ⟨0, .map [], World.ownsMap_made w _ _ _, Nat.le_refl _, fun i => by simp [Maps.has]⟩
theorem SpM.look {w : World} {b : Nat} {us : List Nat} (h : SpM w b us) (i : Nat) (hi : i < 70000) : (Instr.lookup 129 (.map (some b)) (.int .i64 (i : Int)) true).run prog w = .ok (.tuple #[.agg #[], .bool (decide (i ∈ us))]) w := by
 obtain ⟨m, D, h1, h2, h3⟩ := h
 obtain ⟨v, ps, hr, hv⟩ := h1.look_ok kl underlying129 (Q35 w) unitElem_mk (kwf i hi)
 obtain ⟨rfl, _⟩ := unitElem_inv hv
 rw [<- h3 i]
 exact hr
theorem SpM.put {w : World} {b : Nat} {us : List Nat} (h : SpM w b us) (i : Nat) (hi : i < 70000) (hl : us.length < 70000) : ∃ w', (Instr.mapUpdate 129 (.map (some b)) (.int .i64 (i : Int)) (.agg #[])).run prog w = .ok () w' /\ SpM w' b (i :: us) /\ Kept [b] w w' := by
 obtain ⟨m, D, h1, h2, h3⟩ := h
 obtain ⟨w', hr, ho, ht⟩ := h1.store kl underlying129 (by unfold maxLen; omega) (kwf i hi) unitElem_mk
 refine ⟨w', hr, ⟨m + 1, _, ho, by simp; omega, ?_⟩, ?_⟩
 ·intro j
  by_cases e : j = i
  ·subst e
   rw [Maps.has_put_same h1.isMap (by simp [WideAt.IsKeyLit])]
   simp
  ·rw [Maps.has_put_other (by simpa using fun h => e (by omega))]
   rw [h3 j]
   simp [e]
 ·exact Q1x ht.grown [b] (by intro y hy; cases hy; simp)
theorem Q36 : (prog.info? 131).map (·.size) = some 2 := by kernel_rfl
theorem Q37 (n b : Nat) (us : List Nat) (i : Nat) (w : World) (h : SpM w b us) (hi : i < 70000) :
  Calls prog 114 #[.agg #[.int .i64 n, .map (some b)], .int .i64 i] w fun e w' => e = .returned (.bool (decide (i ∈ us))) /\ Kept [] w w' := by
 have k1 := (Kept.refl [] w).alloc (.cells #[.int .i64 n, .map (some b)] 131)
 have hl := (h.kept k1 (by simp)).look i hi
 go_enter func114, ntmps114
 go_wp2
 go_ret
 exact ⟨rfl, ((Kept.refl _ _).alloc _).alloc _⟩
theorem Q38 (n b : Nat) (us : List Nat) (i : Nat) (w : World) (h : SpM w b us) (hi : i < 70000) (hl : us.length < 70000) (h1 : i < n) (h2 : i ∉ us) :
  Calls prog 78 #[.agg #[.int .i64 n, .map (some b)], .int .i64 i] w fun e w' => e = .returned (.tuple #[]) /\ SpM w' b (i :: us) /\ Kept [b] w w' := by
 have k1 := (Kept.refl [] w).alloc (.cells #[.int .i64 n, .map (some b)] 131)
 have n1 := heap_alloc_new w (.cells #[.int .i64 n, .map (some b)] 131)
 have hs1 := h.kept k1 (by simp)
 have g0 : ¬ (i : Int) < 0 := by omega
 have g1 : ¬ (n : Int) <= i := by omega
 have HI : Hid (Calls _ _ _ _ _) := Q37 n b us i _ hs1 hi
 have hd : decide (i ∈ us) = false := by simpa using h2
 rw [hd] at HI
 go_enter func78, ntmps78
 go_wp2_with (go_at_call 114; refine HI.out.mono ?_; rintro e w2 ⟨rfl, hk2⟩; obtain ⟨w3, hput, hs3, hk3⟩ := (hs1.kept hk2 (by simp)).put i hi hl; have c2 : w2.cell? ⟨w.heap.size, 1, none⟩ = some (.map (some b)) := Q02 (hk2.get n1 (by simp)) rfl)
 go_end0
 exact ⟨rfl, hs3, ((k1.trans hk2).mono (by simp)).trans hk3⟩
def OfR (n : Nat) (w : World) (e : Ending) (w' : World) : Prop := ∃ b, e = .returned (.agg #[.int .i64 n, .map (some b)]) /\ SpM w' b [1, 0] /\ w.heap.size <= b /\ Kept [] w w'
theorem Q39 (w : World) : (Instr.makeMap 129 none).run prog w = .ok (.map (some w.heap.size)) (w.alloc (.map #[] 0)) := by kernel_rfl
theorem Q3a (n : Nat) (w : World) (hn : 8 <= n) : Calls prog 75 #[.int .i64 n, .int .i64 2] w (OfR n w) := by
 have hmk := Q39
 have k1 := (Kept.refl [] w).alloc (.cells #[.int .i64 0, .map none] 131)
 have n1 := heap_alloc_new w (.cells #[.int .i64 0, .map none] 131)
 have k2 := (Kept.refl [] (w.alloc (.cells #[.int .i64 0, .map none] 131))).alloc (.map #[] 0)
 have s2 := SpM.made (w.alloc (.cells #[.int .i64 0, .map none] 131))
 have hz1 : (w.alloc (.cells #[.int .i64 0, .map none] 131)).heap.size = w.heap.size + 1 := World.size_alloc _ _
 rw [hz1] at s2
 have k3 := (Kept.refl [] ((w.alloc (.cells #[.int .i64 0, .map none] 131)).alloc (.map #[] 0))).alloc (.cells #[.int .i64 n, .map (some (w.heap.size + 1))] 131)
 have n3 := heap_alloc_new ((w.alloc (.cells #[.int .i64 0, .map none] 131)).alloc (.map #[] 0)) (.cells #[.int .i64 n, .map (some (w.heap.size + 1))] 131)
 have hz2 : ((w.alloc (.cells #[.int .i64 0, .map none] 131)).alloc (.map #[] 0)).heap.size = w.heap.size + 1 + 1 := by rw [World.size_alloc, hz1]
 rw [hz2] at n3
 have s3 := s2.kept k3 (by simp)
 have m3 := k3.get (k2.get n1 (by simp)) (by simp)
 have hk3 := (k1.trans k2).trans k3
 have hz3 := hk3.size
 generalize hW3 : ((w.alloc (.cells #[.int .i64 0, .map none] 131)).alloc (.map #[] 0)).alloc (.cells #[.int .i64 n, .map (some (w.heap.size + 1))] 131) = w3 at *
 have HW3 : Hid _ := hW3
 have U0 : Hid (Calls _ _ _ _ _) := Q38 n (w.heap.size + 1) [] 0 w3 s3 (by omega) (by simp) (by omega) (by simp)
 have U1 : Hid (∀ W, SpM W (w.heap.size + 1) [0] -> Calls prog 78 #[.agg #[.int .i64 n, .map (some (w.heap.size + 1))], .int .i64 1] W fun e w' => e = .returned (.tuple #[]) /\ SpM w' (w.heap.size + 1) [1, 0] /\ Kept [w.heap.size + 1] W w') := fun W hs => Q38 n (w.heap.size + 1) [0] 1 W hs (by omega) (by simp) (by omega) (by simp)
 have c0 : w3.cell? ⟨w.heap.size + 1 + 1, 0, none⟩ = some (.int .i64 n) := Q02 n3 rfl
 have c1 : w3.cell? ⟨w.heap.size + 1 + 1, 1, none⟩ = some (.map (some (w.heap.size + 1))) := Q02 n3 rfl
 clear hW3 k1 n1 k2 s2 k3 hz1 hz2
 go_enter func75, ntmps75
 go_wp2_with fail
 rw [HW3.out]
 go_wp2_with fail
 refine wp_loop_rounds 3 ?_
 rw [rounds_succ]
 go_wp2_with fail
 refine U0.out.mono ?_
 rintro e w4 ⟨rfl, s4, k4⟩
 have n4 := k4.get n3 (by simp)
 have m4 := k4.get m3 (by simp)
 have c40 : w4.cell? ⟨w.heap.size + 1 + 1, 0, none⟩ = some (.int .i64 n) := Q02 n4 rfl
 have c41 : w4.cell? ⟨w.heap.size + 1 + 1, 1, none⟩ = some (.map (some (w.heap.size + 1))) := Q02 n4 rfl
 go_wp2_with fail
 rw [rounds_succ]
 go_wp2_with fail
 refine (U1.out _ s4).mono ?_
 rintro e w5 ⟨rfl, s5, k5⟩
 have n5 := k5.get n4 (by simp)
 have m5 := k5.get m4 (by simp)
 have c50 : w5.cell? ⟨w.heap.size + 1 + 1, 0, none⟩ = some (.int .i64 n) := Q02 n5 rfl
 have c51 : w5.cell? ⟨w.heap.size + 1 + 1, 1, none⟩ = some (.map (some (w.heap.size + 1))) := Q02 n5 rfl
 have d50 : w5.cell? ⟨w.heap.size, 0, none⟩ = some (.int .i64 0) := Q02 m5 rfl
 have d51 : w5.cell? ⟨w.heap.size, 1, none⟩ = some (.map none) := Q02 m5 rfl
 have f50 : w5.frozen? ⟨w.heap.size, 0, none⟩ = false := frozen_of_row _ _ _ _ _ m5
 have f51 : w5.frozen? ⟨w.heap.size, 1, none⟩ = false := frozen_of_row _ _ _ _ _ m5
 go_wp2_with fail
 rw [rounds_succ]
 go_wp2
 have k6 : Kept [w.heap.size] w5 ((w5.setCell ⟨w.heap.size, 0, none⟩ (.int .i64 n)).setCell ⟨w.heap.size, 1, none⟩ (.map (some (w.heap.size + 1)))) := ((Kept.refl [w.heap.size] w5).setCell (p := ⟨w.heap.size, 0, none⟩) (Or.inl (by simp)) _).setCell (p := ⟨w.heap.size, 1, none⟩) (Or.inl (by simp)) _
 refine bodyPost_ret (results_cell_row rfl _ _ w.heap.size 131 #[.int .i64 n, .map (some (w.heap.size + 1))] (0, 0) _ rfl (Q03 (i := 1) (.map (some (w.heap.size + 1))) (Q03 (i := 0) (.int .i64 (n : Int)) m5)) underlying131 rfl Q36) rfl ?_
 refine ⟨w.heap.size + 1, rfl, s5.kept k6 (by simp), by omega, ((hk3.trans2 k4 ?_).trans2 k5 ?_).trans2 k6 ?_⟩
 ·intro x hx; simp at hx; subst hx; exact Or.inr (by omega)
 ·intro x hx; simp at hx; subst hx; exact Or.inr (by omega)
 ·intro x hx; simp at hx; subst hx; exact Or.inr (Nat.le_refl _)
def Q3b (k : Nat) : List Value := List.replicate k (.slice none 0 0)
def Maps (w : World) (v : Value) (k : Nat) : Prop := w.ownsRow 0 189 1 v k (Q3b k)
end Go.Proofs.YtcklgafpgdhnaaaGreatDoor
