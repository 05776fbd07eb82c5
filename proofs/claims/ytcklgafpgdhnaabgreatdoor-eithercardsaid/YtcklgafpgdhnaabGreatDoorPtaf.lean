import Derived.Test.YtcklgafpgdhnaabGreatDoorPtae
import Derived.Test.YtcklgafpgdhnaabGreatDoorPtab
import Derived.Maps.OwnSet
import Derived.LoopN
import Derived.Test.YtcklgafpgdhnaabGreatDoorPtac
import Derived.BigRegion
import Derived.Laws.AppendOwnNone
import Derived.Laws.ResultCell
import Derived.Lib.Bytealg
set_option maxRecDepth 100000
set_option maxHeartbeats 4000000
open Go.Proofs.Tryz
namespace Go.Proofs.YtcklgafpgdhnaabGreatDoor
open Go.RowKit
def WEnd (o : Option Int) (e : Ending) (W : World) : Prop := match o with
 | none => e = .returned (.tuple #[])
 | some x => Thr x e W
def CEnd (o : Option Int) (err : Value) (W : World) : Prop := match o with
 | none => err = .nilIface
 | some x => Q2Y W err x
def Q37 (S : List Nat) (R : Option Int -> World -> Prop) (W : World) (e : Ending) (W' : World) : Prop := ∃ o, WEnd o e W' /\ R o W' /\ Kept S W W'
def Q38 (S : List Nat) (R : Option Int -> World -> Prop) (w : World) (e : Ending) (w' : World) : Prop := ∃ o err, e = .returned err /\ CEnd o err w' /\ R o w' /\ Kept S w w'
theorem Q39 (b : ByteArray) (fid : FuncId) (caps : Array Value) (he : ∀ (args : Array Value) (W : World), (callFunc fid args).run prog W = .ok (.enter fid args) W) (S : List Nat) (R : Option Int -> World -> Prop) (w : World) (hS : ∀ x ∈ S, x < w.heap.size)
  (hR : ∀ o W W' T, R o W -> Kept T W W' -> (∀ x ∈ T, w.heap.size <= x /\ x < w.heap.size + 2 /\ ∃ cs fr, W.heap[x]? = some (.cells cs 35 fr)) -> R o W')
  (hw : ∀ W, Kept [] w W -> W.heap.size = w.heap.size + 2 -> Calls prog fid caps W (Q37 S R W)) :
  Calls prog 32 #[.string b, .func (.func fid) #[] caps] w (Q38 S R w) := by
 have hmf := Q2S
 have k1 := ((Kept.refl [] w).alloc (.cells #[.string b] 9)).alloc (.cells #[.nilIface] 35)
 have hE1 : ((w.alloc (.cells #[.string b] 9)).alloc (.cells #[.nilIface] 35)).heap[w.heap.size + 1]? = some (.cells #[.nilIface] 35 (0, 0)) := by
  have := heap_alloc_new (w.alloc (.cells #[.string b] 9)) (.cells #[.nilIface] 35)
  rwa [World.size_alloc] at this
 have hO1 := ((Kept.refl [] (w.alloc (.cells #[.string b] 9))).alloc (.cells #[.nilIface] 35)).get (heap_alloc_new w (.cells #[.string b] 9)) (by simp)
 have hw1 := hw _ k1 (by simp)
 have HW : Hid (Calls _ _ _ _ _) := hw1
 have HR : Hid (∀ o W W' T, R o W -> Kept T W W' -> (∀ x ∈ T, w.heap.size <= x /\ x < w.heap.size + 2 /\ ∃ cs fr, W.heap[x]? = some (.cells cs 35 fr)) -> R o W') := hR
 have HS : Hid (∀ x ∈ S, x < w.heap.size) := hS
 clear hw hw1 hR hS
 go_enter_defers func32, ntmps32
 go_wp2_with fail
 refine HW.out.mono ?_
 rintro e W ⟨o, hend, hRW, hkW⟩
 have hE2 := hkW.get hE1 (fun hx => by have := HS.out _ hx; omega)
 have hO2 := hkW.get hO1 (fun hx => by have := HS.out _ hx; omega)
 cases o with
 | none =>
  have hee : e = .returned (.tuple #[]) := hend
  subst hee
  have HRW : Hid (R none W) := hRW
  have c2 : W.cell? ⟨w.heap.size + 1, 0, none⟩ = some .nilIface := Q02 hE2 rfl
  have f2 : W.frozen? ⟨w.heap.size + 1, 0, none⟩ = false := frozen_of_row _ _ _ _ _ hE2
  have k3 : Kept [w.heap.size + 1] W (W.setCell ⟨w.heap.size + 1, 0, none⟩ .nilIface) := (Kept.refl _ _).setCell (Or.inl (by simp)) _
  have hk13 : Kept S w (W.setCell ⟨w.heap.size + 1, 0, none⟩ .nilIface) := ((k1.mono (by simp)).trans hkW).trans2 k3 (by intro x hx; simp at hx; subst hx; exact Or.inr (by omega))
  have hR3 : R none (W.setCell ⟨w.heap.size + 1, 0, none⟩ .nilIface) := HR.out _ _ _ _ HRW.out k3 (by intro x hx; simp at hx; subst hx; exact ⟨by omega, by omega, _, _, hE2⟩)
  have HR3 : Hid (R none (W.setCell ⟨w.heap.size + 1, 0, none⟩ .nilIface)) := hR3
  have c3 : (W.setCell ⟨w.heap.size + 1, 0, none⟩ .nilIface).cell? ⟨w.heap.size + 1, 0, none⟩ = some .nilIface := Q02 (Q03 (i := 0) .nilIface hE2) rfl
  clear hRW hR3 hE1 hE2 k1 hend
  go_wp2
  refine leaves_cons (f := 55) (args := #[.pointer (some ⟨w.heap.size, 0, none⟩), .pointer (some ⟨w.heap.size + 1, 0, none⟩)]) (by simp) (by simp [go_sem]) ?_
  refine (Q31 ⟨w.heap.size, 0, none⟩ ⟨w.heap.size + 1, 0, none⟩ _).mono ?_
  rintro e u' w'' ⟨rfl, rfl, rfl⟩
  simp [Leaves, settle, results, Tryz.results32, go_sem, c3]
  exact ⟨none, _, rfl, rfl, HR3.out, hk13⟩
 | some x =>
  obtain ⟨f, o, rfl, hf⟩ := Thr.ex hend
  refine leaves_cons (f := 55) (args := #[.pointer (some ⟨w.heap.size, 0, none⟩), .pointer (some ⟨w.heap.size + 1, 0, none⟩)]) (by simp) (by simp [go_sem]) ?_
  refine (Q34 w.heap.size (w.heap.size + 1) f o _ _ x W hO2 ⟨b, rfl⟩ hE2 hf).mono ?_
  rintro e u' w'' ⟨rfl, rfl, err, he, hc, hk⟩
  have ce : w''.cell? ⟨w.heap.size + 1, 0, none⟩ = some err := Q02 he rfl
  simp [Leaves, settle, results, Tryz.results32, go_sem, ce]
  exact ⟨some x, err, rfl, hc, HR.out _ _ _ _ hRW hk (by intro y hy; simp at hy; subst hy; exact ⟨by omega, by omega, _, _, hE2⟩), ((k1.mono (by simp)).trans hkW).trans2 hk (by intro y hy; simp at hy; subst hy; exact Or.inr (by omega))⟩
section
variable {P : Program} {ops : Array Oper} {Q : Exit -> Act -> World -> Prop}
theorem Q3a {i : Nat} {o : Oper} {K : Act -> World -> Prop} {a : Act} {w : World} (ho : ops[i]? = some o) (hw : Region.wanted o (yielded ops a.tmps) = true) (f : FuncId) (args : Array Value)
  (hrun : (execOp a.eval o).run P w = .ok (.enter f args) w) (R : Ending -> World -> Prop) (hc : Calls P f args w R) (h : ∀ e w', R e w' -> ∃ v, e = .returned v /\ K (a.put o.dst v) w') : wpOp P ops Q i K a w :=
 wpOp_step ho fun K' hK => by
  rw [if_pos hw]; unfold Oper.wp; rw [hrun, Oper.upon_enter]
  refine hc.mono ?_
  intro e w' hR
  obtain ⟨v, rfl, hk⟩ := h e w' hR
  exact hK _ _ hk
end
theorem Q3b {P : Program} {ops : Array Oper} {Q : Exit -> Act -> World -> Prop} {i : Nat} {o : Oper} {K : Act -> World -> Prop} {a : Act} {w : World} (ho : ops[i]? = some o) (hw : Region.wanted o (yielded ops a.tmps) = true) (f : FuncId) (args : Array Value)
  (hrun : (execOp a.eval o).run P w = .ok (.enter f args) w) (R : Ending -> World -> Prop) (hc : Calls P f args w R) (h : ∀ e w', R e w' -> (∃ v, e = .returned v /\ K (a.put o.dst v) w') \/ ∃ c, e = .panicked c /\ Q (.panic c) a w') : wpOp P ops Q i K a w :=
 wpOp_step ho fun K' hK => by
  rw [if_pos hw]; unfold Oper.wp; rw [hrun, Oper.upon_enter]
  refine hc.mono ?_
  intro e w' hR
  rcases h e w' hR with ⟨v, rfl, hk⟩ | ⟨c, rfl, hk⟩
  ·exact hK _ _ hk
  ·exact hk
theorem Q3c {P : Program} {f : FuncId} {fn : Func} (hf : P.funcs[f]? = some fn) (hname : (fn.name == "runtime.NumGoroutine") = false) (hb : fn.body.isNone = false) (args : Array Value) (w : World) : (callFunc f args).run P w = .ok (.enter f args) w := by
 have h1 : ¬ fn.name = "runtime.NumGoroutine" := by simpa using hname
 have h2 : ¬ fn.body = none := by intro h; rw [h] at hb; cases hb
 simp [callFunc, hf, h1, h2]
theorem Q3d {P : Program} {o : Oper} {a : Act} {w : World} (f : FuncId) (xs : Array Operand) (ts : Array TypeId) (ho : o.op = .call { callee := .value (.func f), args := xs, argTypes := ts }) (vs : Array Value) (hv : xs.map a.eval = vs) (he : (callFunc f vs).run P w = .ok (.enter f vs) w) :
  (execOp a.eval o).run P w = .ok (.enter f vs) w := by
 subst hv
 simp [execOp, ho, resolve, Deferred.ofValue, invoke, Act.eval, he]
theorem Q3e {P : Program} {o : Oper} {a : Act} {w : World} (t : TypeId) (x : Operand) (i : Nat) (ho : o.op = .fieldAddr t x i) (g b : Nat) (hx : a.eval x = .pointer (some ⟨g, b, none⟩)) (off : Nat) (hr : (Instr.fieldAt t (.pointer (some ⟨g, b, none⟩)) i).run P w = .ok (.pointer (some ⟨g, b + off, none⟩)) w) :
  (execOp a.eval o).run P w = .ok (.value (.pointer (some ⟨g, b + off, none⟩))) w := by
 simp [execOp, ho, hx, hr]
theorem Q3f {P : Program} {o : Oper} {a : Act} {w : World} (t u : TypeId) (x : Operand) (ho : o.op = .convert t u x) (k k' : IntKind) (d : TypeDesc) (n : Int) (hx : a.eval x = .int k n) (ht : P.underlying t = some d) (hu : P.underlying u = some (.int k')) :
  (execOp a.eval o).run P w = .ok (.value (.int k' (k'.wrap n))) w := by
 simp [execOp, ho, hx, convert, run_underlying ht, run_underlying hu, Conv.intToInt]
def SpM (w : World) (b : Nat) (us : List Nat) : Prop :=
 ∃ (m : Nat) (D : DataW Unit), w.ownsMap prog 3 unitElem b m D /\ m <= us.length /\ ∀ i : Nat, Maps.has D (.int .i64 i) = decide (i ∈ us)
theorem SpM.kept {S : List Nat} {w w' : World} {b : Nat} {us : List Nat} (h : SpM w b us) (k : Kept S w w') (hb : b ∉ S) : SpM w' b us := by
 obtain ⟨m, D, h1, h2⟩ := h
 refine ⟨m, D, ?_, h2⟩
 have hlt := h1.lt
 obtain ⟨es, clock, hh, r⟩ := h1
 exact ⟨es, clock, by rw [k.block b hlt hb]; exact hh, r⟩
theorem SpM.lt {w : World} {b : Nat} {us : List Nat} (h : SpM w b us) : b < w.heap.size := by
 obtain ⟨m, D, h1, _⟩ := h
 exact h1.lt
theorem SpM.ne {w : World} {b : Nat} {us : List Nat} (h : SpM w b us) {y : Nat} {cs : Array Value} {t : TypeId} {fr : Nat × Nat} (hy : w.heap[y]? = some (.cells cs t fr)) : y ≠ b := by
 rintro rfl
 obtain ⟨m, D, ⟨es, clock, hh, _⟩, _⟩ := h
 rw [hy] at hh
 cases hh
theorem kl : Maps.Keyed prog 3 := Maps.int_keyed underlying3
theorem kwf (i : Nat) (hi : i < 70000) : keyOf prog 3 (.int .i64 (i : Int)) = some (.int .i64 i) := Maps.keyOf_int_mk underlying3 (by simp [Lit.wf, show IntKind.i64.min = -9223372036854775808 from rfl, show IntKind.i64.max = 9223372036854775807 from rfl]; omega)
theorem Q3g (w : World) : (zeroValue 154).run prog w = .ok (.agg #[]) w := by kernel_rfl
theorem SpM.made (w : World) : SpM (w.alloc (.map #[] 0)) w.heap.size [] :=
 ⟨0, .map [], World.ownsMap_made w _ _ _, Nat.le_refl _, fun i => by simp [Maps.has]⟩
theorem SpM.look {w : World} {b : Nat} {us : List Nat} (h : SpM w b us) (i : Nat) (hi : i < 70000) : (Instr.lookup 106 (.map (some b)) (.int .i64 (i : Int)) true).run prog w = .ok (.tuple #[.agg #[], .bool (decide (i ∈ us))]) w := by
 obtain ⟨m, D, h1, h2, h3⟩ := h
 obtain ⟨v, ps, hr, hv⟩ := h1.look_ok kl underlying106 (Q3g w) unitElem_mk (kwf i hi)
 obtain ⟨rfl, _⟩ := unitElem_inv hv
 rw [<- h3 i]
 exact hr
theorem SpM.put {w : World} {b : Nat} {us : List Nat} (h : SpM w b us) (i : Nat) (hi : i < 70000) (hl : us.length < 70000) : ∃ w', (Instr.mapUpdate 106 (.map (some b)) (.int .i64 (i : Int)) (.agg #[])).run prog w = .ok () w' /\ SpM w' b (i :: us) /\ Kept [b] w w' := by
 obtain ⟨m, D, h1, h2, h3⟩ := h
 obtain ⟨w', hr, ho, ht⟩ := h1.store kl underlying106 (by unfold maxLen; omega) (kwf i hi) unitElem_mk
 refine ⟨w', hr, ⟨m + 1, _, ho, by simp; omega, ?_⟩, ?_⟩
 ·intro j
  by_cases e : j = i
  ·subst e
   rw [Maps.has_put_same h1.isMap (by simp [WideAt.IsKeyLit])]
   simp
  ·rw [Maps.has_put_other (by simpa using fun h => e (by omega))]
   rw [h3 j]
   simp [e]
 ·exact Q1y ht.grown [b] (by intro y hy; cases hy; simp)
theorem Q3h : (prog.info? 108).map (·.size) = some 2 := by kernel_rfl
theorem Q3i (n b : Nat) (us : List Nat) (i : Nat) (w : World) (h : SpM w b us) (hi : i < 70000) :
  Calls prog 92 #[.agg #[.int .i64 n, .map (some b)], .int .i64 i] w fun e w' => e = .returned (.bool (decide (i ∈ us))) /\ Kept [] w w' := by
 have k1 := (Kept.refl [] w).alloc (.cells #[.int .i64 n, .map (some b)] 108)
 have hl := (h.kept k1 (by simp)).look i hi
 go_enter func92, ntmps92
 go_wp2
 go_ret
 exact ⟨rfl, ((Kept.refl _ _).alloc _).alloc _⟩
theorem Q3j (n b : Nat) (us : List Nat) (i : Nat) (w : World) (h : SpM w b us) (hi : i < 70000) (hl : us.length < 70000) (h1 : i < n) (h2 : i ∉ us) :
  Calls prog 60 #[.agg #[.int .i64 n, .map (some b)], .int .i64 i] w fun e w' => e = .returned (.tuple #[]) /\ SpM w' b (i :: us) /\ Kept [b] w w' := by
 have k1 := (Kept.refl [] w).alloc (.cells #[.int .i64 n, .map (some b)] 108)
 have n1 := heap_alloc_new w (.cells #[.int .i64 n, .map (some b)] 108)
 have hs1 := h.kept k1 (by simp)
 have g0 : ¬ (i : Int) < 0 := by omega
 have g1 : ¬ (n : Int) <= i := by omega
 have HI : Hid (Calls _ _ _ _ _) := Q3i n b us i _ hs1 hi
 have hd : decide (i ∈ us) = false := by simpa using h2
 rw [hd] at HI
 go_enter func60, ntmps60
 go_wp2_with (go_at_call 92; refine HI.out.mono ?_; rintro e w2 ⟨rfl, hk2⟩; obtain ⟨w3, hput, hs3, hk3⟩ := (hs1.kept hk2 (by simp)).put i hi hl; have c2 : w2.cell? ⟨w.heap.size, 1, none⟩ = some (.map (some b)) := Q02 (hk2.get n1 (by simp)) rfl)
 go_end0
 exact ⟨rfl, hs3, ((k1.trans hk2).mono (by simp)).trans hk3⟩
theorem Q3k (n b : Nat) (us : List Nat) (i : Nat) (w : World) (h : SpM w b us) (hi : i < 70000) (h1 : ¬ (i < n /\ i ∉ us)) (hT : Tab w) :
  Calls prog 60 #[.agg #[.int .i64 n, .map (some b)], .int .i64 i] w fun e w' => Thr 7 e w' /\ Kept [] w w' := by
 have k1 := (Kept.refl [] w).alloc (.cells #[.int .i64 n, .map (some b)] 108)
 have n1 := heap_alloc_new w (.cells #[.int .i64 n, .map (some b)] 108)
 have hs1 := h.kept k1 (by simp)
 have g0 : ¬ (i : Int) < 0 := by omega
 have HI : Hid (Calls _ _ _ _ _) := Q3i n b us i _ hs1 hi
 have hT1 := hT.k k1
 by_cases hn : i < n
 ·have g1 : ¬ (n : Int) <= i := by omega
  have hd : decide (i ∈ us) = true := by
   by_cases hm : i ∈ us
   ·simpa using hm
   ·exact absurd ⟨hn, hm⟩ h1
  rw [hd] at HI
  go_enter func60, ntmps60
  go_wp2_with (first
   | (go_at_call 92; refine HI.out.mono ?_; rintro e w2 ⟨rfl, hk2⟩; have hT2 := hT1.k hk2)
   | (go_at_call 93; refine (Q2D hT2 i hi).mono ?_; rintro e w3 ⟨s3, rfl, hs3, hk3⟩; have hs3' : ¬ 9223372036854775807 < 13 + s3.size := (by omega))
   | (go_at_call 46; refine (Q2I _ _ _).mono ?_; rintro e w4 ⟨ht, hk4⟩; obtain ⟨f, o, rfl, hf⟩ := ht.ex))
  exact ⟨rfl, ht, ((k1.trans hk2).trans hk3).trans hk4⟩
 ·have g1 : (n : Int) <= i := by omega
  go_enter func60, ntmps60
  go_wp2_with (first
   | (go_at_call 93; refine (Q2D hT1 i hi).mono ?_; rintro e w3 ⟨s3, rfl, hs3, hk3⟩; have hs3' : ¬ 9223372036854775807 < 13 + s3.size := (by omega))
   | (go_at_call 46; refine (Q2I _ _ _).mono ?_; rintro e w4 ⟨ht, hk4⟩; obtain ⟨f, o, rfl, hf⟩ := ht.ex))
  exact ⟨rfl, ht, (k1.trans hk3).trans hk4⟩
def OfR (n : Nat) (w : World) (e : Ending) (w' : World) : Prop := ∃ b, e = .returned (.agg #[.int .i64 n, .map (some b)]) /\ SpM w' b [1, 0] /\ w.heap.size <= b /\ Kept [] w w'
theorem Q3l (w : World) : (Instr.makeMap 106 none).run prog w = .ok (.map (some w.heap.size)) (w.alloc (.map #[] 0)) := by kernel_rfl
theorem Q3m (n : Nat) (w : World) (hn : 8 <= n) : Calls prog 57 #[.int .i64 n, .int .i64 2] w (OfR n w) := by
 have hmk := Q3l
 have k1 := (Kept.refl [] w).alloc (.cells #[.int .i64 0, .map none] 108)
 have n1 := heap_alloc_new w (.cells #[.int .i64 0, .map none] 108)
 have k2 := (Kept.refl [] (w.alloc (.cells #[.int .i64 0, .map none] 108))).alloc (.map #[] 0)
 have s2 := SpM.made (w.alloc (.cells #[.int .i64 0, .map none] 108))
 have hz1 : (w.alloc (.cells #[.int .i64 0, .map none] 108)).heap.size = w.heap.size + 1 := World.size_alloc _ _
 rw [hz1] at s2
 have k3 := (Kept.refl [] ((w.alloc (.cells #[.int .i64 0, .map none] 108)).alloc (.map #[] 0))).alloc (.cells #[.int .i64 n, .map (some (w.heap.size + 1))] 108)
 have n3 := heap_alloc_new ((w.alloc (.cells #[.int .i64 0, .map none] 108)).alloc (.map #[] 0)) (.cells #[.int .i64 n, .map (some (w.heap.size + 1))] 108)
 have hz2 : ((w.alloc (.cells #[.int .i64 0, .map none] 108)).alloc (.map #[] 0)).heap.size = w.heap.size + 1 + 1 := by rw [World.size_alloc, hz1]
 rw [hz2] at n3
 have s3 := s2.kept k3 (by simp)
 have m3 := k3.get (k2.get n1 (by simp)) (by simp)
 have hk3 := (k1.trans k2).trans k3
 have hz3 := hk3.size
 generalize hW3 : ((w.alloc (.cells #[.int .i64 0, .map none] 108)).alloc (.map #[] 0)).alloc (.cells #[.int .i64 n, .map (some (w.heap.size + 1))] 108) = w3 at *
 have HW3 : Hid _ := hW3
 have U0 : Hid (Calls _ _ _ _ _) := Q3j n (w.heap.size + 1) [] 0 w3 s3 (by omega) (by simp) (by omega) (by simp)
 have U1 : Hid (∀ W, SpM W (w.heap.size + 1) [0] -> Calls prog 60 #[.agg #[.int .i64 n, .map (some (w.heap.size + 1))], .int .i64 1] W fun e w' => e = .returned (.tuple #[]) /\ SpM w' (w.heap.size + 1) [1, 0] /\ Kept [w.heap.size + 1] W w') := fun W hs => Q3j n (w.heap.size + 1) [0] 1 W hs (by omega) (by simp) (by omega) (by simp)
 have c0 : w3.cell? ⟨w.heap.size + 1 + 1, 0, none⟩ = some (.int .i64 n) := Q02 n3 rfl
 have c1 : w3.cell? ⟨w.heap.size + 1 + 1, 1, none⟩ = some (.map (some (w.heap.size + 1))) := Q02 n3 rfl
 clear hW3 k1 n1 k2 s2 k3 hz1 hz2
 go_enter func57, ntmps57
 go_wp2_with fail
 rw [HW3.out]
 go_wp2_with fail
 refine wp_loop_rounds 3 ?_
 rw [rounds_succ]
 go_wp2_with fail
 refine U0.out.mono ?_
 rintro e w4 ⟨rfl, s4, k4⟩
 have n4 := k4.get n3 (by simp)
 have m4 := k4.get m3 (by simp)
 have c40 : w4.cell? ⟨w.heap.size + 1 + 1, 0, none⟩ = some (.int .i64 n) := Q02 n4 rfl
 have c41 : w4.cell? ⟨w.heap.size + 1 + 1, 1, none⟩ = some (.map (some (w.heap.size + 1))) := Q02 n4 rfl
 go_wp2_with fail
 rw [rounds_succ]
 go_wp2_with fail
 refine (U1.out _ s4).mono ?_
 rintro e w5 ⟨rfl, s5, k5⟩
 have n5 := k5.get n4 (by simp)
 have m5 := k5.get m4 (by simp)
 have c50 : w5.cell? ⟨w.heap.size + 1 + 1, 0, none⟩ = some (.int .i64 n) := Q02 n5 rfl
 have c51 : w5.cell? ⟨w.heap.size + 1 + 1, 1, none⟩ = some (.map (some (w.heap.size + 1))) := Q02 n5 rfl
 have d50 : w5.cell? ⟨w.heap.size, 0, none⟩ = some (.int .i64 0) := Q02 m5 rfl
 have d51 : w5.cell? ⟨w.heap.size, 1, none⟩ = some (.map none) := Q02 m5 rfl
 have f50 : w5.frozen? ⟨w.heap.size, 0, none⟩ = false := frozen_of_row _ _ _ _ _ m5
 have f51 : w5.frozen? ⟨w.heap.size, 1, none⟩ = false := frozen_of_row _ _ _ _ _ m5
 go_wp2_with fail
 rw [rounds_succ]
 go_wp2
 have k6 : Kept [w.heap.size] w5 ((w5.setCell ⟨w.heap.size, 0, none⟩ (.int .i64 n)).setCell ⟨w.heap.size, 1, none⟩ (.map (some (w.heap.size + 1)))) := ((Kept.refl [w.heap.size] w5).setCell (p := ⟨w.heap.size, 0, none⟩) (Or.inl (by simp)) _).setCell (p := ⟨w.heap.size, 1, none⟩) (Or.inl (by simp)) _
 refine bodyPost_ret (results_cell_row rfl _ _ w.heap.size 108 #[.int .i64 n, .map (some (w.heap.size + 1))] (0, 0) _ rfl (Q03 (i := 1) (.map (some (w.heap.size + 1))) (Q03 (i := 0) (.int .i64 (n : Int)) m5)) underlying108 rfl Q3h) rfl ?_
 refine ⟨w.heap.size + 1, rfl, s5.kept k6 (by simp), by omega, ((hk3.trans2 k4 ?_).trans2 k5 ?_).trans2 k6 ?_⟩
 ·intro x hx; simp at hx; subst hx; exact Or.inr (by omega)
 ·intro x hx; simp at hx; subst hx; exact Or.inr (by omega)
 ·intro x hx; simp at hx; subst hx; exact Or.inr (Nat.le_refl _)
abbrev Pr := ByteArray × ByteArray
def Q3n (p : Pr) : List Value := [.string p.1, .string p.2]
def Q3o (l : List Pr) : List Value := l.flatMap Q3n
theorem Q3p (p : Pr) : (Q3n p).length = 2 := rfl
theorem Q3q (l : List Pr) : ∀ (i : Nat) (p : Pr), l[i]? = some p -> ∀ (j : Nat) (v : Value), (Q3n p)[j]? = some v -> (Q3o l)[i * 2 + j]? = some v := by
 induction l with
 | nil => intro i o h; simp at h
 | cons x r ih =>
  intro i o h j v hv
  have hj : j < 2 := by have := (List.getElem?_eq_some_iff.1 hv).1; rwa [Q3p] at this
  have e : Q3o (x :: r) = Q3n x ++ Q3o r := rfl
  rw [e]
  cases i with
  | zero =>
   simp at h; subst h
   rw [List.getElem?_append_left (by rw [Q3p]; omega)]
   simpa using hv
  | succ i =>
   rw [List.getElem?_append_right (by rw [Q3p]; omega), Q3p]
   have := ih i o (by simpa using h) j v hv
   rw [show (i + 1) * 2 + j - 2 = i * 2 + j by omega]
   exact this
theorem Q3r (l : List Pr) (p : Pr) : Q3o l ++ Q3n p = Q3o (l ++ [p]) := by simp [Q3o]
def PL (w : World) (t : TypeId) (v : Value) (l : List Pr) : Prop := w.ownsRow 0 t 2 v l.length (Q3o l)
theorem PL.nil (w : World) (t : TypeId) : PL w t (.slice none 0 0) [] := World.ownsRow_nil _ _ _ _
theorem PL.shape {w : World} {t : TypeId} {v : Value} {l : List Pr} (h : PL w t v l) : ∃ p cap, v = .slice p l.length cap := by
 obtain ⟨_, ⟨rfl, h0⟩ | ⟨g, cap, cur, rfl, _⟩⟩ := h
 ·exact ⟨none, 0, by rw [h0]⟩
 ·exact ⟨_, _, rfl⟩
theorem PL.at_ {w : World} {t : TypeId} {v : Value} {l : List Pr} (h : PL w t v l) (hl : 0 < l.length) : ∃ g cap cur, v = .slice (some ⟨g, 0, none⟩) l.length cap /\ w.heap[g]? = some (.cells cur t (0, 0)) /\
  (∀ (i : Nat) (p : Pr), l[i]? = some p -> cur[i * 2]? = some (.string p.1) /\ cur[i * 2 + 1]? = some (.string p.2)) := by
 obtain ⟨_, ⟨_, h0⟩ | ⟨g, cap, cur, e, _, hh, _, _, _, htk⟩⟩ := h
 ·omega
 refine ⟨g, cap, cur, e, hh, ?_⟩
 intro i p hi
 have hil : i < l.length := (List.getElem?_eq_some_iff.1 hi).1
 have h0 := Q3q l i p hi 0 _ rfl
 have h1 := Q3q l i p hi 1 _ rfl
 rw [<- htk, List.getElem?_take, if_pos (by omega)] at h0 h1
 exact ⟨by simpa using h0, by simpa using h1⟩
theorem PL.load {w : World} {t ty : TypeId} {g i : Nat} {cur : Array Value} {p : Pr} (fs : _) {P : Program} (hg : w.heap[g]? = some (.cells cur t (0, 0))) (hc : cur[i * 2]? = some (.string p.1) /\ cur[i * 2 + 1]? = some (.string p.2))
  (hu : P.underlying ty = some (.struct fs)) (hi : (P.info? ty).map (·.size) = some 2) :
  (loadVar ty ⟨g, i * 2, none⟩).run P w = .ok (.agg #[.string p.1, .string p.2]) w := by
 refine Q0r (P := P) w g (i * 2) t ty cur.toList [.string p.1, .string p.2] (0, 0) _ (by simpa using hg) hu rfl hi ?_
 intro j v hv
 rcases j with _ | _ | j
 ·simp at hv; subst hv; simpa using hc.1
 ·simp at hv; subst hv; simpa using hc.2
 ·simp at hv
theorem PL.kept {S : List Nat} {w w' : World} {t : TypeId} {v : Value} {l : List Pr} (h : PL w t v l) (k : Kept S w w') (hS : ∀ b, v.ownBlock = some b -> b ∉ S) : PL w' t v l := Q0U h k hS
theorem sap : (prog.info? 52).map (·.size) = some 2 := by kernel_rfl
def bl (a b : ByteArray) : Bool := Op.bytesLess a.toList b.toList
def be (a b : ByteArray) : Bool := a.toList == b.toList
theorem Q3s (s : ByteArray) : s.toList = s.data.toList := ByteArray.toList_eq s
theorem Q3t : ∀ (x y : List UInt8), Op.bytesLess x y = decide (x < y)
 | [], [] => by simp [Op.bytesLess]
 | _ :: _, [] => by simp [Op.bytesLess]
 | [], _ :: _ => by simp [Op.bytesLess]
 | a :: x, b :: y => by
  have ih := Q3t x y
  unfold Op.bytesLess
  rw [ih]
  by_cases h1 : a < b <;> by_cases h2 : a = b <;> by_cases h3 : x < y <;> simp [List.cons_lt_cons_iff, h1, h2, h3]
theorem Q3u (a b : ByteArray) : bl a b = decide (a.data.toList < b.data.toList) := by rw [bl, Q3t, Q3s, Q3s]
theorem Q3v (a b : ByteArray) : be a b = true ↔ a = b := by
 rw [be, Q3s, Q3s, beq_iff_eq]
 constructor
 ·intro h
  cases a; cases b
  simp only [ByteArray.mk.injEq]
  exact Array.toList_inj.1 h
 ·rintro rfl; rfl
theorem Q3w (a b : ByteArray) : be a b = false ↔ a ≠ b := by
 have := Q3v a b
 cases h : be a b <;> simp_all
theorem Q3x (a : ByteArray) : be a a = true := (Q3v a a).2 rfl
theorem Q3y (a : ByteArray) : bl a a = false := by rw [Q3u]; simp [List.lt_irrefl]
theorem Q3z {a b c : ByteArray} (h1 : bl a b = true) (h2 : bl b c = true) : bl a c = true := by
 rw [Q3u, decide_eq_true_eq] at *; exact List.lt_trans h1 h2
theorem Q3A (a b : ByteArray) : bl a b = true \/ a = b \/ bl b a = true := by
 simp only [Q3u, decide_eq_true_eq]
 rcases Decidable.em (a.data.toList < b.data.toList) with h | h
 ·exact Or.inl h
 rcases Decidable.em (b.data.toList < a.data.toList) with h' | h'
 ·exact Or.inr (Or.inr h')
 right; left
 have := List.le_antisymm (List.not_lt.1 h') (List.not_lt.1 h)
 cases a; cases b
 simp only [ByteArray.mk.injEq]
 exact Array.toList_inj.1 this
def Q3B (k v : ByteArray) : Bool -> List Pr -> List Pr
 | b, [] => if b then [] else [(k, v)]
 | b, p :: r => (if !b && !bl p.1 k then [(k, v)] else []) ++ (if be p.1 k then [] else [p]) ++ Q3B k v (b || !bl p.1 k) r
def Q3C (k v : ByteArray) (l : List Pr) : List Pr := Q3B k v false l
def Q3D (k : ByteArray) (l : List Pr) : List Pr := l.filter fun p => !be p.1 k
def getL (k : ByteArray) : List Pr -> Option ByteArray
 | [] => none
 | p :: r => if be p.1 k then some p.2 else getL k r
def inR (lo hi : ByteArray) (p : Pr) : Bool := !bl p.1 lo && bl p.1 hi
def Q3E (lo hi : ByteArray) (m : Nat) (l : List Pr) : List Pr := (l.filter (inR lo hi)).take m
end Go.Proofs.YtcklgafpgdhnaabGreatDoor
