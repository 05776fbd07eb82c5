import Derived.Test.YtcklgafpgdhnaaaGreatDoorPsbg
import Derived.Test.YtcklgafpgdhnaaaGreatDoorPsbh
import Derived.Test.YtcklgafpgdhnaaaGreatDoorPsab
import Derived.Test.YtcklgafpgdhnaaaGreatDoorPsar
set_option maxRecDepth 100000
set_option maxHeartbeats 4000000
open Go.Proofs.Tryz
open Go.Act renaming put → zP
open List renaming getElem_toArray → zA, getElem_cons_succ → zB, getElem_cons_zero → zC, setIfInBounds_toArray → zD, set_cons_succ → zE, set_cons_zero → zF
namespace Go.Proofs.YtcklgafpgdhnaaaGreatDoor
open Go.RowKit Go.Shelf
structure Gr (B : Nat) (w w' : World) : Prop where
 os : w'.os = w.os
 tape : w'.tape = w.tape
 output : w'.output = w.output
 size : w.heap.size <= w'.heap.size
 low : ∀ (k : Nat), k < w.heap.size -> k < B -> w'.heap[k]? = w.heap[k]?
 row : ∀ (k : Nat) (cs : Array Value) (t : TypeId) (fr : Nat × Nat), w.heap[k]? = some (.cells cs t fr) -> w'.heap[k]? = some (.cells cs t fr)
theorem Gr.of {B : Nat} {a b : World} (h : Kept [] a b) : Gr B a b := ⟨h.os, h.tape, h.output, h.size, fun k hk _ => h.block k hk (by simp), fun _ _ _ _ hi => h.get hi (by simp)⟩
theorem Gr.put {B : Nat} {W : World} {l : Nat} {o : Obj} (o' : Obj) (hB : B <= l) (h : W.heap[l]? = some o) (hc : o.isCells = false) : Gr B W (W.putObj l o') := by
 have g := grownBy_putObj' W l o'
 refine ⟨g.os, g.tape, g.output, g.size, fun i hi hiB => g.block i hi (by intro e; cases e; omega), fun i cs t fr hi => (g.block i (Q00 hi) ?_).trans hi⟩
 intro e
 cases e
 rw [hi] at h
 cases h
 cases hc
theorem Gr.mono {B B' : Nat} {a b : World} (h : Gr B a b) (hb : B' <= B) : Gr B' a b := ⟨h.os, h.tape, h.output, h.size, fun k hk h' => h.low k hk (by omega), h.row⟩
def Sty {β : Type} (B : Nat) (J : β -> World -> Prop) : Prop := ∀ s A A', J s A -> Gr B A A' -> J s A'
def Rnd {α : Type} (M : List Nat) (B : Nat) (J Jx : List α -> World -> Prop) (xs : List α) (W : World) (e : Ending) (W' : World) : Prop :=
 (e = .returned (.bool true) /\ J xs W' /\ KC M W W' /\ KeepsFrom B W W') \/ (e = .returned (.bool false) /\ Jx xs W' /\ KeepsFrom B W W')
def Itr {α : Type} (g : FuncId) (lb : Array Value) (encs : α -> Array Value) (V : α -> World -> Prop) (M : List Nat) (S Sp : List α -> Prop) (N : Nat) (w : World) : Prop :=
 ∀ (l : Nat) (J Jx : List α -> World -> Prop) (W : World), Kept [] w W -> Sty W.heap.size J -> Sty W.heap.size Jx ->
  (∀ m pre x W1, J pre W1 -> V x W1 -> pre.length < N -> YieldAt Fence.wide m prog l (encs x) W1 (Rnd M W.heap.size J Jx (pre ++ [x]) W1)) -> J [] W ->
  Calls prog g (#[.func (.yield l) #[] #[]] ++ lb) W fun e W' => (∃ v, e = .returned v) /\ ((∃ xs, S xs /\ J xs W') \/ ∃ pre, Sp pre /\ Jx pre W')
def RndP {α : Type} (M : List Nat) (B : Nat) (I : List α -> World -> Prop) (Ix : Code -> List α -> World -> Prop) (xs : List α) (W : World) : Exit -> Act -> World -> Prop
 | .normal, _, W' => KeepsFrom B W W' /\ KC M W W' /\ I xs W'
 | .ret, _, W' => KeepsFrom B W W' /\ Ix .ret xs W'
 | .exit id, _, W' => KeepsFrom B W W' /\ Ix (.exit id) xs W'
 | _, _, _ => False
theorem QdA {W W' : World} (k : Kept [] W W') : W.grownBy W' none := ⟨k.os, k.tape, k.output, k.size, fun i hi _ => k.block i hi (by simp)⟩
theorem QdB {B : Nat} {W : World} {l : Nat} (o : Obj) (hl : l < B) : KeepsFrom B W (W.putObj l o) :=
 KeepsFrom.of_grownBy (grownBy_putObj' W l o) fun j e => by cases e; exact hl
theorem QdC {α : Type} {g : Operand} {ps : Array Tmp} {assign body : Code} {Q : Exit -> Act -> World -> Prop} {a : Act} {w : World} {gf : FuncId} {lb : Array Value} (hg : a.eval g = .func (.func gf) #[] lb) (eg : ∀ args W, (callFunc gf args).run prog W = .ok (.enter gf args) W)
  {encs : α -> Array Value} {V : α -> World -> Prop} {M : List Nat} {S Sp : List α -> Prop} {N : Nat} (hit : Itr gf lb encs V M S Sp N w) (hps : ∀ x, (encs x).size = ps.size)
  (I : List α -> World -> Prop) (Ix : Code -> List α -> World -> Prop) (hI : Sty w.heap.size I) (hIx : ∀ c, Sty w.heap.size (Ix c)) (h0 : I [] w)
  (Ax : α -> Act -> World -> Prop) (hAx : ∀ x a', Sty w.heap.size (fun (_ : Unit) W => Ax x a' W)) (hV : ∀ x, Sty w.heap.size (fun (_ : Unit) W => V x W))
  (hassign : ∀ (m l : Nat) (pre : List α) (x : α) (W : World) (K : Act -> World -> Prop), I pre W -> V x W -> (∀ a' W', Kept [] W W' -> Ax x a' W' -> K a' W') ->
   assign.wpIn (Fence.wide.inRound l) m prog (Exit.then K (fun _ _ _ => False)) { tmps := (ps.zip (encs x)).foldl (fun t (p, v) => t.setIfInBounds p v) a.tmps, defers := [] } W)
  (hbody : ∀ (m l : Nat) (pre : List α) (x : α) (a' : Act) (W : World), I pre W -> V x W -> Ax x a' W -> pre.length < N -> body.wpIn (Fence.wide.inRound l) m prog (RndP M w.heap.size I Ix (pre ++ [x]) W) a' W)
  (hdone : ∀ (D : Nat) (xs : List α) (W : World), w.heap.size <= D -> S xs -> I xs W -> W.heap[D]? = some (.deferred (some [])) -> Q .normal { a with defers := { target := .collected D, args := #[] } :: a.defers } W)
  (hstop : ∀ (D : Nat) (c : Code) (pre : List α) (W : World), w.heap.size <= D -> Sp pre -> Ix c pre W -> W.heap[D]? = some (.deferred (some [])) -> c.wp prog Q { a with defers := { target := .collected D, args := #[] } :: a.defers } W) :
  (Code.rangeFunc g ps assign body).wp prog Q a w := by
 refine (wpIn_wide (n := 1)).1 (wpIn_rangeFunc fun fn hfn => ?_)
 obtain ⟨rc, hrc⟩ : ∃ rc : LoopState -> Option Code -> Loop, rc = fun st pe => { state := st, pending := pe, fn, tmps := a.tmps, params := ps, assign, body, defers := w.heap.size } := ⟨_, rfl⟩
 obtain ⟨W1, hW1⟩ : ∃ W1, W1 = (w.alloc (.deferred (some []))).alloc (.loop (rc .ready none)) := ⟨_, rfl⟩
 have k1 : Kept [] w W1 := by rw [hW1]; exact ((Kept.refl [] w).alloc _).alloc _
 have hs1 : W1.heap.size = w.heap.size + 2 := by rw [hW1]; simp
 have hL1 : W1.heap[w.heap.size + 1]? = some (.loop (rc .ready none)) := by
  have := heap_alloc_new (w.alloc (.deferred (some []))) (.loop (rc .ready none))
  rw [World.size_alloc] at this
  rw [hW1]; exact this
 have hD1 : W1.heap[w.heap.size]? = some (.deferred (some [])) := by
  rw [hW1]
  exact ((Kept.refl [] _).alloc _).block _ (by simp) (by simp) |>.trans (World.alloc_heap_new w _)
 refine ⟨w.heap.size + 1, [{ target := .collected w.heap.size, args := #[] }], W1, { target := .fn (.func gf) lb, args := #[.func (.yield (w.heap.size + 1)) #[] #[]] }, W1, gf, #[.func (.yield (w.heap.size + 1)) #[] #[]] ++ lb, W1, ?_, ?_, fun _ _ => trivial, ?_, fun h => (by cases h), ?_⟩
 ·rw [hW1, hrc]; exact run_enterLoop_outer _ _ _ _ _
 ·simp only [resolve, hg]
  simp [go_sem]
 ·simp [invoke, go_sem, eg]
 refine callsIn_wide.2 ((hit (w.heap.size + 1) (fun pre W => I pre W /\ W.heap[w.heap.size + 1]? = some (.loop (rc .ready none)) /\ W.heap[w.heap.size]? = some (.deferred (some [])))
  (fun pre W => ∃ c, Ix c pre W /\ W.heap[w.heap.size + 1]? = some (.loop (rc .done (some c))) /\ W.heap[w.heap.size]? = some (.deferred (some []))) W1 k1 ?_ ?_ ?_ ⟨hI _ _ _ h0 (Gr.of k1), hL1, hD1⟩).mono ?_)
 ·rintro s A A' ⟨h1, h2, h3⟩ hg'
  exact ⟨hI _ _ _ h1 (hg'.mono (by omega)), (hg'.low _ (Array.getElem?_eq_some_iff.1 h2).1 (by omega)).trans h2, (hg'.low _ (Array.getElem?_eq_some_iff.1 h3).1 (by omega)).trans h3⟩
 ·rintro s A A' ⟨c, h1, h2, h3⟩ hg'
  exact ⟨c, hIx c _ _ _ h1 (hg'.mono (by omega)), (hg'.low _ (Array.getElem?_eq_some_iff.1 h2).1 (by omega)).trans h2, (hg'.low _ (Array.getElem?_eq_some_iff.1 h3).1 (by omega)).trans h3⟩
 ·rintro m pre x W ⟨hi, hl, hd⟩ hv hlen
  have hy := run_yield (P := prog) (args := encs x) hl (by rw [hrc]; exact hps x)
  rw [hrc] at hy
  refine ⟨fn, _, assign, body, hy, roundIn_of_wpIn hfn (hassign m _ pre x W _ hi hv ?_)⟩
  intro a' Wa ka hax
  have hla : Wa.heap[w.heap.size + 1]? = some (.loop (rc .ready none)) := (ka.block _ (Array.getElem?_eq_some_iff.1 hl).1 (by simp)).trans hl
  have hda : Wa.heap[w.heap.size]? = some (.deferred (some [])) := (ka.block _ (Array.getElem?_eq_some_iff.1 hd).1 (by simp)).trans hd
  have hlt : w.heap.size + 1 < Wa.heap.size := (Array.getElem?_eq_some_iff.1 hla).1
  refine ⟨_, run_beginRound hla (by rw [hrc]), ?_⟩
  obtain ⟨Wb, hWb⟩ : ∃ Wb, Wb = Wa.putObj (w.heap.size + 1) (.loop { rc .ready none with state := .busy }) := ⟨_, rfl⟩
  rw [<- hWb]
  have gb : Gr w.heap.size Wa Wb := by rw [hWb]; exact Gr.put _ (by omega) hla rfl
  have hlb : Wb.heap[w.heap.size + 1]? = some (.loop { rc .ready none with state := .busy }) := by rw [hWb]; exact World.putObj_heap_same hlt
  have hdb : Wb.heap[w.heap.size]? = some (.deferred (some [])) := by rw [hWb]; exact (World.putObj_heap_other (by omega)).trans hda
  have kcb : KC M W Wb := (KC.of0 ka).trans (by rw [hWb]; exact KC.put _ _ _ _ hla rfl)
  have kfb : KeepsFrom W1.heap.size W Wb := by
   refine KeepsFrom.trans (KeepsFrom.of_grownBy (QdA ka) (fun j e => by cases e)) ?_
   rw [hWb]
   exact QdB _ (by omega)
  have ib : I pre Wb := hI _ _ _ (hI _ _ _ hi (Gr.of ka)) gb
  have vb : V x Wb := hV x () _ _ (hV x () _ _ hv (Gr.of ka)) gb
  have ab : Ax x a' Wb := hAx x a' () _ _ hax gb
  refine wpIn_mono (hbody m _ pre x a' Wb ib vb ab hlen) ?_
  have fin : ∀ (jump : Option Code) (W3 : World), KeepsFrom w.heap.size Wb W3 -> ∃ W4, W4 = W3.putObj (w.heap.size + 1) (.loop (rc (if jump.isNone then .ready else .done) jump)) /\ (Instr.endRound (w.heap.size + 1) jump).run prog W3 = .ok (.bool jump.isNone) W4 /\
    W4.heap[w.heap.size + 1]? = some (.loop (rc (if jump.isNone then .ready else .done) jump)) /\ W4.heap[w.heap.size]? = some (.deferred (some [])) /\ Gr w.heap.size W3 W4 /\ KC M W3 W4 /\ KeepsFrom W1.heap.size Wb W4 := by
   intro jump W3 k3
   have hl3 := k3.same _ _ (by omega) hlb rfl
   have hd3 := k3.same _ _ (Nat.le_refl _) hdb rfl
   have hr := run_endRound (P := prog) jump hl3
   refine ⟨_, rfl, ?_, World.putObj_heap_same (Array.getElem?_eq_some_iff.1 hl3).1, (World.putObj_heap_other (by omega)).trans hd3, Gr.put _ (by omega) hl3 rfl, KC.put _ _ _ _ hl3 rfl, ?_⟩
   ·rw [hr, hrc]
   ·refine KeepsFrom.trans ⟨k3.size, fun i o hi ho hc => k3.same i o (by omega) ho hc⟩ (QdB _ (by omega))
  rintro e a3 W3 hp
  cases e with
  | normal =>
   obtain ⟨p1, p2, p3⟩ := hp
   obtain ⟨W4, _, hr, q1, q2, q3, q4, q5⟩ := fin none W3 p1
   exact ⟨_, _, hr, Or.inl ⟨rfl, ⟨hI _ _ _ p3 q3, q1, q2⟩, (kcb.trans p2).trans q4, kfb.trans q5⟩⟩
  | ret =>
   obtain ⟨p1, p3⟩ := hp
   obtain ⟨W4, _, hr, q1, q2, q3, q4, q5⟩ := fin (some .ret) W3 p1
   exact ⟨_, _, hr, Or.inr ⟨rfl, ⟨_, hIx _ _ _ _ p3 q3, q1, q2⟩, kfb.trans q5⟩⟩
  | exit id =>
   obtain ⟨p1, p3⟩ := hp
   obtain ⟨W4, _, hr, q1, q2, q3, q4, q5⟩ := fin (some (.exit id)) W3 p1
   exact ⟨_, _, hr, Or.inr ⟨rfl, ⟨_, hIx _ _ _ _ p3 q3, q1, q2⟩, kfb.trans q5⟩⟩
  | goto t => exact hp.elim
  | panic c => exact hp.elim
  | outgrown => exact hp.elim
 ·rintro e W2 ⟨⟨v, rfl⟩, ⟨xs, hS, hi, hl, hd⟩ | ⟨pre, hSp, c, hi, hl, hd⟩⟩
  ·have hel := run_endLoop (P := prog) hl (by rw [hrc]; simp)
   have hp : (rc .ready none).pending = none := by rw [hrc]
   rw [hp] at hel
   exact ⟨none, _, hel, hdone _ xs _ (Nat.le_refl _) hS (hI _ _ _ hi (Gr.put _ (by omega) hl rfl)) ((World.putObj_heap_other (by omega)).trans hd)⟩
  ·have hel := run_endLoop (P := prog) hl (by rw [hrc]; simp)
   have hp : (rc .done (some c)).pending = some c := by rw [hrc]
   rw [hp] at hel
   exact ⟨some c, _, hel, wpIn_wide.2 (hstop _ c pre _ (Nat.le_refl _) hSp (hIx c _ _ _ hi (Gr.put _ (by omega) hl rfl)) ((World.putObj_heap_other (by omega)).trans hd))⟩
section
variable {l m : Nat} {ops : Array Oper} {Q : Exit -> Act -> World -> Prop} {i : Nat} {o : Oper} {K : Act -> World -> Prop} {a : Act} {w : World}
theorem rOp (ho : ops[i]? = some o) (hw : Region.wanted o (yielded ops a.tmps) = true) (hd : ∀ c, o.op ≠ .defer c) (v : Value) (w' : World) (hrun : (execOp a.eval o).run prog w = .ok (.value v) w') (h : K (a.put o.dst v) w') : wpOpIn (Fence.wide.inRound l) m prog ops Q i K a w :=
 wpOpIn_step ho fun K' hK => by
  rw [if_pos hw]
  refine ⟨fun _ _ => trivial, ?_⟩
  rw [show (Fence.wide.inRound l).round = some l from rfl, Oper.semAt_some l a.eval o hd, hrun]
  exact hK _ _ h
theorem QdD (ho : ops[i]? = some o) (hw : Region.wanted o (yielded ops a.tmps) = false) (h : K (a.put o.dst undef) w) : wpOpIn (Fence.wide.inRound l) m prog ops Q i K a w :=
 wpOpIn_step ho fun K' hK => by
  rw [if_neg (by rw [hw]; simp)]
  exact ⟨fun _ _ => trivial, hK _ _ h⟩
theorem QdE (ho : ops[i]? = some o) (hw : Region.wanted o (yielded ops a.tmps) = true) (hd : ∀ c, o.op ≠ .defer c) (f : FuncId) (args : Array Value) (hrun : (execOp a.eval o).run prog w = .ok (.enter f args) w) (R : Ending -> World -> Prop) (hc : Calls prog f args w R)
  (h : ∀ e w', R e w' -> ∃ v, e = .returned v /\ K (a.put o.dst v) w') : wpOpIn (Fence.wide.inRound l) m prog ops Q i K a w :=
 wpOpIn_step ho fun K' hK => by
  rw [if_pos hw]
  refine ⟨fun _ _ => trivial, ?_⟩
  rw [show (Fence.wide.inRound l).round = some l from rfl, Oper.semAt_some l a.eval o hd, hrun]
  refine ⟨fun h => (by cases h), CallsIn.inRound l ((callsIn_wide.2 hc).mono ?_)⟩
  intro e w' hR
  obtain ⟨v, rfl, hk⟩ := h e w' hR
  exact hK _ _ hk
theorem QdF (ho : ops[i]? = some o) (hw : Region.wanted o (yielded ops a.tmps) = true) (hd : ∀ c, o.op ≠ .defer c) (l0 : Nat) (args : Array Value) (hrun : (execOp a.eval o).run prog w = (Instr.yield l0 args).run prog w) (R : Ending -> World -> Prop) (hy : YieldAt Fence.wide (m - 1) prog l0 args w R)
  (h : ∀ e w', R e w' -> ∃ v, e = .returned v /\ K (a.put o.dst v) w') : wpOpIn (Fence.wide.inRound l) m prog ops Q i K a w :=
 wpOpIn_step ho fun K' hK => by
  rw [if_pos hw]
  obtain ⟨fn, tmps, assign, body, hy, hR⟩ := hy
  refine ⟨fun _ _ => trivial, ?_⟩
  rw [show (Fence.wide.inRound l).round = some l from rfl, Oper.semAt_some l a.eval o hd, hrun, hy]
  refine ⟨fun h => (by cases h), hR.mono ?_⟩
  intro e w' hR
  obtain ⟨v, rfl, hk⟩ := h e w' hR
  exact hK _ _ hk
theorem rOne {fuel : Nat} {listed : Array Bool} (hr : Region.ready .any ops listed = [i]) (h : wpOpIn (Fence.wide.inRound l) m prog ops Q i (wpAnyIn (Fence.wide.inRound l) m prog .any ops Q fuel (listed.setIfInBounds i true)) a w) : wpAnyIn (Fence.wide.inRound l) m prog .any ops Q (fuel + 1) listed a w :=
 wpAnyIn_all hr (by simp) (by intro j hj; simp at hj; subst hj; exact h)
theorem rTwo {j fuel : Nat} {listed : Array Bool} (hr : Region.ready .any ops listed = [i, j]) (h : wpOpIn (Fence.wide.inRound l) m prog ops Q i (wpAnyIn (Fence.wide.inRound l) m prog .any ops Q fuel (listed.setIfInBounds i true)) a w)
  (h' : wpOpIn (Fence.wide.inRound l) m prog ops Q j (wpAnyIn (Fence.wide.inRound l) m prog .any ops Q fuel (listed.setIfInBounds j true)) a w) : wpAnyIn (Fence.wide.inRound l) m prog .any ops Q (fuel + 1) listed a w :=
 wpAnyIn_all hr (by simp) (by intro k hk; simp at hk; rcases hk with rfl | rfl; exact h; exact h')
end
theorem QdG {o : Oper} {a : Act} {w : World} (x y z : Operand) (ts : Array TypeId) (ho : o.op = .call { callee := .value x, args := #[y, z], argTypes := ts }) (l : Nat) (hx : a.eval x = .func (.yield l) #[] #[]) (vy vz : Value) (hy : a.eval y = vy) (hz : a.eval z = vz) :
  (execOp a.eval o).run prog w = (Instr.yield l #[vy, vz]).run prog w := by
 simp [execOp, ho, resolve, Deferred.ofValue, invoke, hx, hy, hz]
theorem QdH {o : Oper} {a : Act} {w : World} (x : Operand) (ts : Array TypeId) (ho : o.op = .call { callee := .value x, args := #[], argTypes := ts }) (f : FuncId) (cap : Array Value) (hx : a.eval x = .func (.func f) #[] cap) (he : (callFunc f cap).run prog w = .ok (.enter f cap) w) :
  (execOp a.eval o).run prog w = .ok (.enter f cap) w := by
 simp [execOp, ho, resolve, Deferred.ofValue, invoke, hx, he]
theorem QdI (args : Array Value) (w : World) : (callFunc 69 args).run prog w = .ok (.enter 69 args) w := Q31 func69 (by kernel_rfl) (by kernel_rfl) args w
def TaB (b0 b1 b2 : Nat) (t : Tr) (r : Value) (lo hi : ByteArray) (W : World) : Prop := RowT b0 t r W /\ W.heap[b1]? = some (.cells #[.string lo] 9 (0, 0)) /\ W.heap[b2]? = some (.cells #[.string hi] 9 (0, 0))
theorem TaB.k {b0 b1 b2 : Nat} {t : Tr} {r : Value} {lo hi : ByteArray} {W W' : World} (h : TaB b0 b1 b2 t r lo hi W) (kk : Kept [] W W') : TaB b0 b1 b2 t r lo hi W' := ⟨kk.get h.1 (by simp), kk.get h.2.1 (by simp), kk.get h.2.2 (by simp)⟩
theorem QdJ {o : Oper} {a : Act} {w : World} (x : Operand) (nm : String) (y1 y2 y3 : Operand) (ts : Array TypeId) (ho : o.op = .call { callee := .invoke x nm, args := #[y1, y2, y3], argTypes := ts }) (t : TypeId) (v : Value) (hx : a.eval x = .iface t v) (v1 v2 v3 : Value) (h1 : a.eval y1 = v1) (h2 : a.eval y2 = v2) (h3 : a.eval y3 = v3) (f : FuncId)
  (hm : (Go.method 433 t v nm).run prog w = .ok (f, v) w) (he : (callFunc f #[v, v1, v2, v3]).run prog w = .ok (.enter f #[v, v1, v2, v3]) w) : (execOp a.eval o).run prog w = .ok (.enter f #[v, v1, v2, v3]) w := by
 have hp : (program : Sem Program).run prog w = .ok prog w := rfl
 simp [execOp, ho, resolve, invoke, callMethod, hx, h1, h2, h3, hp, Q7S, hm, he]
theorem QdK (ll : Nat) (M : List Nat) (b0 b1 b2 : Nat) (lo hi : ByteArray) (r : Value) (t : Tr) (J Jx : List Pr -> World -> Prop) (hJ : ∀ pre W W', J pre W -> Kept [] W W' -> J pre W') (hY : Qdn ll M (flt lo hi (Q4V t)).length J Jx) (ht : TW t) (W : World) (hb : TaB b0 b1 b2 t r lo hi W) (hv : TV W (· ∉ M) t r) (hJ0 : J [] W) :
  Calls prog 106 #[.func (.yield ll) #[] #[], .pointer (some ⟨b0, 0, none⟩), .pointer (some ⟨b1, 0, none⟩), .pointer (some ⟨b2, 0, none⟩)] W fun e W' => (∃ v, e = .returned v) /\ (J (flt lo hi (Q4V t)) W' \/ ∃ q, q <+: flt lo hi (Q4V t) /\ Jx q W') := by
 have HF : Hid (∀ W' x, Kept [] W W' -> ND W' (· ∉ M) t.h t.n x -> _) := fun W' x kW hx => Qdw ll M _ J Jx hJ hY lo hi t.h 1 nil8 t.n x [] W' hx ht.wf ht.full (by have := ht.hi; omega) (hJ _ _ _ hJ0 kW) (by rw [List.length_nil, Nat.zero_add]; exact Nat.le_refl _)
 have HT : Hid (∀ W', Kept [] W W' -> Calls prog 69 #[.agg #[.string ⟨#[]⟩, .int .i64 t.pl, r]] W' _) := fun W' kW => Q9F (hv.k kW)
 have hS : TaB b0 b1 b2 t r lo hi W.drew := hb
 clear hJ hJ0 hY hv
 go_enter func106, ntmps106
 go_wp2_with fail
 refine Q1i (TaB b0 b1 b2 t r lo hi) 5 (by kernel_rfl) ?_
 refine Q1f (i := 2) (v := .string lo) rfl (by kernel_rfl) (by kernel_rfl) (by kernel_rfl) (by kernel_rfl) (fun _ _ _ h => h) (Or.inl ⟨by rfl, fun W hW => Q0l 9 (.tmp 2) rfl ⟨b1, 0, none⟩ rfl _ (Q0p underlying9 rfl (Q02 hW.2.1 rfl))⟩) hS ?_
 simp only [zP, zA, zB, zC, zD, zE, zF]
 refine Q1f (i := 3) (v := .string hi) rfl (by kernel_rfl) (by kernel_rfl) (by kernel_rfl) (by kernel_rfl) (fun _ _ _ h => h) (Or.inl ⟨by rfl, fun W hW => Q0l 9 (.tmp 3) rfl ⟨b2, 0, none⟩ rfl _ (Q0p underlying9 rfl (Q02 hW.2.2 rfl))⟩) hS ?_
 simp only [zP, zA, zB, zC, zD, zE, zF]
 refine Q1f (i := 4) (v := .func (.yield ll) #[] #[]) rfl (by kernel_rfl) (by kernel_rfl) (by kernel_rfl) (by kernel_rfl) (fun _ _ _ h => h) (Or.inl ⟨by rfl, fun W hW => by rfl⟩) hS ?_
 simp only [zP, zA, zB, zC, zD, zE, zF]
 refine Q1g (i := 0) (by kernel_rfl) (Q1r rfl (by rfl) (.agg #[.string ⟨#[]⟩, .int .i64 t.pl, r]) _ (Q0l 82 (.tmp 1) rfl ⟨b0, 0, none⟩ rfl _ (Qbi hS.1)) ⟨fun _ => hS, ?_⟩)
 simp only [zP, zA, zC, zD, zE, zF]
 refine Q1g (i := 1) (by kernel_rfl) (Q2Z rfl (by rfl) 69 #[.agg #[.string ⟨#[]⟩, .int .i64 t.pl, r]] (Q32 _ _ _ rfl _ (by simp [Act.eval]) (QdI _ _)) _ (HT.out _ (Kept.refl [] W).drew) ?_)
 rintro e w1 ⟨x, rfl, hx, hk1⟩
 have hS1 := hS.k hk1
 obtain ⟨fn, v, ⟨ty, ex, hm, he⟩, hcall⟩ := HF.out w1 x ((Kept.refl [] W).drew.trans hk1) hx
 refine ⟨_, rfl, fun _ => hS1, ?_⟩
 simp only [zP, zA, zB, zC, zD, zE, zF]
 subst ex
 refine Q1g (i := 5) (by kernel_rfl) (Q2Z rfl (by rfl) fn #[v, .string lo, .string hi, .func (.yield ll) #[] #[]] (QdJ (.tmp 6) _ (.tmp 7) (.tmp 8) (.tmp 9) _ rfl ty v rfl _ _ _ rfl rfl rfl fn (hm _) (he _ _)) _ ((callsIn_wide (n := 1)).1 hcall) ?_)
 rintro e w2 hres
 have hv2 : ∃ bb, e = .returned (.bool bb) := by
  rcases hres with ⟨rfl, _⟩ | ⟨rfl, _⟩
  ·exact ⟨_, rfl⟩
  ·exact ⟨_, rfl⟩
 obtain ⟨bb, rfl⟩ := hv2
 refine ⟨_, rfl, fun h => absurd rfl h, ?_⟩
 simp only [zP, zA, zB, zC, zD, zE, zF]
 refine Q1h (by kernel_rfl) ?_ _
 have FIN : Hid (J (flt lo hi (Q4V t)) w2 \/ ∃ q, q <+: flt lo hi (Q4V t) /\ Jx q w2) := by
  rcases hres with ⟨_, h1, _⟩ | ⟨_, ⟨h1, _⟩ | ⟨q, hq, h1⟩⟩
  ·exact Or.inl (by rw [List.nil_append] at h1; exact h1)
  ·exact Or.inl (by rw [List.nil_append] at h1; exact h1)
  ·exact Or.inr ⟨q, hq, by rw [List.nil_append] at h1; exact h1⟩
 clear hres hS hS1 hcall
 go_wp2
 go_end0
 exact ⟨⟨_, rfl⟩, FIN.out⟩
def encP (x : Pr) : Array Value := #[.agg #[.string x.1, .string x.2]]
theorem QdL (M : List Nat) (b0 b1 b2 : Nat) (lo hi : ByteArray) (r : Value) (t : Tr) (ht : TW t) (w : World) (hb : TaB b0 b1 b2 t r lo hi w) (hv : TV w (· ∉ M) t r) :
  Itr 106 #[.pointer (some ⟨b0, 0, none⟩), .pointer (some ⟨b1, 0, none⟩), .pointer (some ⟨b2, 0, none⟩)] encP (fun x _ => okp x) M (fun ys => ys = flt lo hi (Q4V t)) (fun pre => pre <+: flt lo hi (Q4V t)) (flt lo hi (Q4V t)).length w := by
 intro l J Jx W kW hJ hJx hY h0
 refine (QdK l M b0 b1 b2 lo hi r t J Jx (fun pre A B h k => hJ _ _ _ h (Gr.of k)) ?_ ht W (hb.k kW) (hv.k kW) h0).mono ?_
 ·intro m pre x A hA hok hlen
  refine YieldAt.mono (hY m pre x A hA hok hlen) ?_
  rintro e B (⟨h1, h2, h3, _⟩ | ⟨h1, h2, _⟩)
  ·exact Or.inl ⟨h1, h2, h3⟩
  ·exact Or.inr ⟨h1, h2⟩
 ·rintro e B ⟨h1, h2 | ⟨q, h2, h3⟩⟩
  ·exact ⟨h1, Or.inl ⟨_, rfl, h2⟩⟩
  ·exact ⟨h1, Or.inr ⟨q, h2, h3⟩⟩
theorem QdM (t : Tr) (r : Value) (lo hi : ByteArray) (w : World) : Calls prog 66 #[.agg #[.string ⟨#[]⟩, .int .i64 t.pl, r], .string lo, .string hi] w fun e w' => e = .returned (.func (.func 106) #[] #[.pointer (some ⟨w.heap.size, 0, none⟩), .pointer (some ⟨w.heap.size + 1, 0, none⟩), .pointer (some ⟨w.heap.size + 1 + 1, 0, none⟩)]) /\ TaB w.heap.size (w.heap.size + 1) (w.heap.size + 1 + 1) t r lo hi w' /\ w'.heap.size = w.heap.size + 3 /\ Kept [] w w' := by
 have hmf := Q2H
 go_enter func66, ntmps66
 go_wp2
 go_ret
 refine ⟨rfl, ⟨?_, ?_, ?_⟩, by simp, (((Kept.refl _ _).alloc _).alloc _).alloc _⟩
 ·exact (((Kept.refl [] _).alloc _).alloc _).get (heap_alloc_new _ _) (by simp)
 ·have := heap_alloc_new (w.alloc (.cells #[.string ⟨#[]⟩, .int .i64 t.pl, r] 82)) (.cells #[.string lo] 9)
  rw [World.size_alloc] at this
  exact ((Kept.refl [] _).alloc _).get this (by simp)
 ·have := heap_alloc_new ((w.alloc (.cells #[.string ⟨#[]⟩, .int .i64 t.pl, r] 82)).alloc (.cells #[.string lo] 9)) (.cells #[.string hi] 9)
  rwa [World.size_alloc, World.size_alloc] at this
theorem QdN (b0 b1 x v a n : Nat) (c : Hd) (r : Value) (t : Tr) (w : World) (hb : w.heap[b0]? = some (.cells #[.pointer (some ⟨x, 0, none⟩)] 27 (0, 0))) (h : Rec x v a n c r t w) :
  Calls prog 65 #[.pointer (some ⟨b0, 0, none⟩), .pointer (some ⟨b1, 0, none⟩)] w fun e w' => e = .returned (.bool false) /\ Kept [] w w' := by
 have c0 : w.cell? ⟨b0, 0, none⟩ = some (.pointer (some ⟨x, 0, none⟩)) := Q02 hb rfl
 have hmf := Q2H
 have HC : Hid (∀ b, Calls prog 42 #[.string b, .func (.func 44) #[.pointer (some ⟨x, 0, none⟩)] #[]] w fun e w' => e = .returned .nilIface /\ Q9C w' /\ Kept [] w w') := fun b =>
  Q97 b 44 _ (fun _ _ => by kernel_rfl) [] Q9C w (by simp) (fun _ _ _ _ _ _ => trivial) fun W kW _ => (Qai x v c t r W h.st.1 (h.k kW).row).mono fun e w' h => ⟨h.1, trivial, h.2⟩
 clear h
 go_enter func65, ntmps65
 go_wp2_with (first | (go_at_call 42; refine (HC.out _).mono ?_; rintro e w1 ⟨rfl, _, hk1⟩))
 go_ret
 exact ⟨rfl, hk1⟩
theorem QdO (x : Nat) (lo hi : ByteArray) (w : World) : Calls prog 41 #[.pointer (some ⟨x, 0, none⟩), .string lo, .string hi] w fun e w' => e = .returned (.func (.func 64) #[] #[.pointer (some ⟨w.heap.size, 0, none⟩), .pointer (some ⟨w.heap.size + 1, 0, none⟩), .pointer (some ⟨w.heap.size + 1 + 1, 0, none⟩)]) /\ Bx3 w.heap.size (w.heap.size + 1) (w.heap.size + 1 + 1) x lo hi w' /\ w'.heap.size = w.heap.size + 3 /\ Kept [] w w' := by
 have hmf := Q2H
 go_enter func41, ntmps41
 go_wp2
 go_ret
 exact ⟨rfl, Qbo w x lo hi, by simp, (((Kept.refl _ _).alloc _).alloc _).alloc _⟩
end Go.Proofs.YtcklgafpgdhnaaaGreatDoor
