import Derived.Test.YtcklgafpgdhnaabGreatDoorProg
import Derived.Handy
import Derived.WalkKit
import Derived.WalkSpells
import Derived.WalkLawsBesides
import Derived.Laws.CopyOwn
import Derived.OrdersHeld
import Derived.RegionTactic
import Derived.BigRegion
set_option maxRecDepth 100000
set_option maxHeartbeats 4000000
open Go.Proofs.Tryz
namespace Go.Proofs.YtcklgafpgdhnaabGreatDoor
open Go.RowKit
structure y5 (S : List Nat) (w w' : World) : Prop where
 os : w'.os = w.os
 tape : w'.tape = w.tape
 output : w'.output = w.output
 size : w.heap.size <= w'.heap.size
 block : ∀ k, k < w.heap.size -> k ∉ S -> w'.heap[k]? = w.heap[k]?
theorem y5.refl (S : List Nat) (w : World) : y5 S w w := ⟨rfl, rfl, rfl, Nat.le_refl _, fun _ _ _ => rfl⟩
theorem y5.trans2 {S S' : List Nat} {a b c : World} (h : y5 S a b) (k : y5 S' b c) (hs : ∀ x ∈ S', x ∈ S \/ a.heap.size <= x) : y5 S a c :=
 ⟨k.os.trans h.os, k.tape.trans h.tape, k.output.trans h.output, Nat.le_trans h.size k.size, fun i hi hn =>
  (k.block i (Nat.lt_of_lt_of_le hi h.size) (fun hx => by rcases hs i hx with h1 | h1; exact hn h1; omega)).trans (h.block i hi hn)⟩
theorem y5.trans {S : List Nat} {a b c : World} (h : y5 S a b) (k : y5 S b c) : y5 S a c := h.trans2 k fun _ hx => Or.inl hx
theorem y5.mono {S S' : List Nat} {a b : World} (h : y5 S a b) (hs : ∀ x ∈ S, x ∈ S') : y5 S' a b :=
 ⟨h.os, h.tape, h.output, h.size, fun k hk hn => h.block k hk fun hx => hn (hs k hx)⟩
theorem y5.drew {S : List Nat} {a b : World} (h : y5 S a b) : y5 S a b.drew := ⟨h.os, h.tape, h.output, h.size, h.block⟩
theorem y5.alloc {S : List Nat} {a b : World} (h : y5 S a b) (o : Obj) : y5 S a (b.alloc o) :=
 ⟨h.os, h.tape, h.output, by have := h.size; simp; omega, fun k hk hn => (Below.heap_alloc b o k (Nat.lt_of_lt_of_le hk h.size)).trans (h.block k hk hn)⟩
theorem y5.setCell {S : List Nat} {a b : World} (h : y5 S a b) {p : Addr} (hp : p.block ∈ S \/ a.heap.size <= p.block) (u : Value) : y5 S a (b.setCell p u) :=
 ⟨h.os, h.tape, h.output, by have := h.size; simp [World.setCell]; omega, fun k hk hn =>
  (Below.heap_setCell b p u k (fun e => by subst e; rcases hp with h1 | h1; exact hn h1; omega)).trans (h.block k hk hn)⟩
theorem y5.setRow {S : List Nat} {a b : World} (h : y5 S a b) {g : Nat} (hp : g ∈ S \/ a.heap.size <= g) (cs : Array Value) : y5 S a (b.setRow g cs) :=
 ⟨h.os, h.tape, h.output, by have := h.size; simp; omega, fun k hk hn =>
  (setRow_other b g k cs (fun e => by subst e; rcases hp with h1 | h1; exact hn h1; omega)).trans (h.block k hk hn)⟩
theorem y5.below {w w' : World} (h : y5 [] w w') : Below w.heap.size w w' := ⟨h.os, h.tape, h.output, h.size, fun k hk => h.block k hk (by simp)⟩
theorem y5.of_below {w w' : World} (h : Below w.heap.size w w') : y5 [] w w' := ⟨h.os, h.tape, h.output, h.size, fun k hk _ => h.block k hk⟩
theorem yt {w : World} {b : Nat} {o : Obj} (h : w.heap[b]? = some o) : b < w.heap.size := (Array.getElem?_eq_some_iff.1 h).1
theorem y5.get {S : List Nat} {w w' : World} (h : y5 S w w') {b : Nat} {o : Obj} (hb : w.heap[b]? = some o) (hn : b ∉ S) : w'.heap[b]? = some o :=
 (h.block b (yt hb) hn).trans hb
theorem yP {w : World} {a b : Nat} {c1 c2 : Array Value} {t1 t2 : TypeId} {f1 f2 : Nat × Nat} (h1 : w.heap[a]? = some (.cells c1 t1 f1)) (h2 : w.heap[b]? = some (.cells c2 t2 f2)) (ht : t1 ≠ t2) : a ≠ b := by
 intro e; subst e; rw [h1] at h2; simp only [Option.some.injEq, Obj.cells.injEq] at h2; exact ht h2.2.1
theorem y6 {w : World} {g j : Nat} {cs : Array Value} {t : TypeId} {fr : Nat × Nat} {v : Value} (h : w.heap[g]? = some (.cells cs t fr)) (hv : cs[j]? = some v) : w.cell? ⟨g, j, none⟩ = some v := by
 rw [cell_of_row _ _ _ _ _ _ h]; exact hv
theorem yg {w : World} {g i : Nat} {cs : Array Value} {t : TypeId} (v : Value) (h : w.heap[g]? = some (.cells cs t (0, 0))) :
  (w.setCell ⟨g, i, none⟩ v).heap[g]? = some (.cells (cs.setIfInBounds i v) t (0, 0)) := heap_setCell_same w g i cs t v h
theorem y8 {P : Program} {ops : Array Oper} {rest : List Oper} {o : Oper} {a : Act} {w : World} {Q : Exit -> Act -> World -> Prop} (hgd : o.guard = none) (v : Value) (w' : World)
  (hrun : (execOp a.eval o).run P w = .ok (.value v) w') (h : wpList P ops Q rest (a.put o.dst v) w') : wpList P ops Q (o :: rest) a w :=
 wpList_plain hgd fun K hK => by unfold Oper.wp; rw [hrun]; exact hK _ _ h
theorem qM {P : Program} {ops : Array Oper} {rest : List Oper} {o : Oper} {a : Act} {w : World} {Q : Exit -> Act -> World -> Prop} (hgd : o.guard = none) (w' : World)
  (hrun : (execOp a.eval o).run P w = .ok .skip w') (h : wpList P ops Q rest (a.put o.dst undef) w') : wpList P ops Q (o :: rest) a w :=
 wpList_plain hgd fun K hK => by unfold Oper.wp; rw [hrun]; exact hK _ _ h
theorem yK {P : Program} {ops : Array Oper} {rest : List Oper} {o : Oper} {a : Act} {w : World} {Q : Exit -> Act -> World -> Prop} (hgd : o.guard = none) (v : Value) (x : Obj)
  (hrun : (execOp a.eval o).run P w = .ok (.value v) (w.alloc x))
  (h : ∀ w', w'.heap[w.heap.size]? = some x -> y5 [] w w' -> w'.heap.size = w.heap.size + 1 -> wpList P ops Q rest (a.put o.dst v) w') : wpList P ops Q (o :: rest) a w :=
 y8 hgd v _ hrun (h _ (heap_alloc_new w x) ((y5.refl _ _).alloc _) (by simp))
theorem gJ {P : Program} {ops : Array Oper} {rest : List Oper} {o : Oper} {a : Act} {w : World} {Q : Exit -> Act -> World -> Prop} (hgd : o.guard = none) (t : TypeId) (l c : Operand) (ho : o.op = .makeSlice t l c)
  (vl vc : Value) (hl : a.eval l = vl) (hc : a.eval c = vc) (v : Value) (x : Obj) (hrun : (Instr.makeSlice t vl vc).run P w = .ok v (w.alloc x))
  (h : ∀ w', w'.heap[w.heap.size]? = some x -> y5 [] w w' -> w'.heap.size = w.heap.size + 1 -> wpList P ops Q rest (a.put o.dst v) w') : wpList P ops Q (o :: rest) a w :=
 yK hgd v x (by unfold execOp; simp only [ho, hl, hc, Sem.run_bind, hrun, Result.andThen_ok, Sem.run_pure]) h
def u8s (l : List UInt8) : List Value := l.map fun b => .int .u8 b.toNat
theorem yd (l : List UInt8) : (u8s l).length = l.length := by simp [u8s]
theorem qv (l : List UInt8) : ∀ v ∈ u8s l, v.oneCell' = true := by
 intro v hv; simp only [u8s, List.mem_map] at hv; obtain ⟨b, _, rfl⟩ := hv; rfl
theorem jL (l : List UInt8) (j : Nat) : (u8s l)[j]? = (l[j]?).map fun b => Value.int .u8 b.toNat := by simp [u8s]
theorem qx {P : Program} {ops : Array Oper} {rest : List Oper} {o : Oper} {a : Act} {w : World} {Q : Exit -> Act -> World -> Prop} (hgd : o.guard = none) (t : TypeId) (ho : o.op = .alloc t) (cs : Array Value)
  (hz : (Instr.alloc t true (.tuple #[])).run P w = .ok (.pointer (some ⟨w.heap.size, 0, none⟩)) (w.alloc (.cells cs t)))
  (h : ∀ w', w'.heap[w.heap.size]? = some (.cells cs t (0, 0)) -> y5 [] w w' -> w'.heap.size = w.heap.size + 1 -> wpList P ops Q rest (a.put o.dst (.pointer (some ⟨w.heap.size, 0, none⟩))) w') : wpList P ops Q (o :: rest) a w :=
 yK hgd _ _ (by unfold execOp; simp only [ho, Sem.run_bind, hz, Result.andThen_ok, Sem.run_pure]) h
theorem yb {P : Program} {ops : Array Oper} {rest : List Oper} {o : Oper} {a : Act} {w : World} {Q : Exit -> Act -> World -> Prop} (hgd : o.guard = none) (ty : TypeId) (x y : Operand) (ho : o.op = .store ty x y)
  (g : Nat) (cells : Array Value) (hx : a.eval x = .pointer (some ⟨g, 0, none⟩)) (hy : a.eval y = .agg cells)
  (t : TypeId) (old : Array Value) (hg : w.heap[g]? = some (.cells old t (0, 0))) (hi : (P.info? ty).map (·.size) = some cells.size)
  (hold : old.size = cells.size) (h1 : cells.all (·.oneCell') = true)
  (h : ∀ w', w'.heap[g]? = some (.cells cells t (0, 0)) -> y5 [g] w w' -> wpList P ops Q rest (a.put o.dst undef) w') : wpList P ops Q (o :: rest) a w :=
 wpList_store_row hgd ty x y ho g cells hx hy t old hg hi hold h1 (h _ (setRow_heap w g _ _ t _ hg) ((y5.refl _ _).setRow (Or.inl (by simp)) _))
theorem gQ {P : Program} {w : World} {o : Oper} {a : Act} {K : Act -> World -> Prop} {Q : Exit -> Act -> World -> Prop} {ty : TypeId} (dT sT : TypeId) (elem : TypeId) (hu : P.underlying dT = some (.slice elem)) (hsz : (P.info? elem).map (·.size) = some 1)
  (g off dLen dCap : Nat) (ad : Addr) (sLen sCap : Nat)
  (cur : List Value) (t : TypeId) (hg : w.heap[g]? = some (.cells cur.toArray t (0, 0))) (cs : List Value) (hn : cs.length = Nat.min sLen dLen)
  (hsrc : ∀ j v, cs[j]? = some v -> w.cell? (ad.add j) = some v) (hfit : off + cs.length <= cur.length) (h1 : ∀ v ∈ cs, v.oneCell' = true)
  (h : ∀ w', w'.heap[g]? = some (.cells (splice cur off cs).toArray t (0, 0)) -> y5 [g] w w' -> K (a.put o.dst (goInt cs.length)) w') :
  Oper.upon P o a K Q ((Sem.run P (Builtin.copy_ #[dT, sT] ty #[.slice (some ⟨g, off, none⟩) dLen dCap, .slice (some ad) sLen sCap]) w).andThen fun a w' => Result.ok (Next.value a) w') := by
 rw [run_copy_row (P := P) w dT sT ty elem g off dLen dCap ad sLen sCap cur.toArray t cs hu hsz hg hn hsrc (by simpa using hfit) h1]
 refine h _ ?_ ((y5.refl _ _).setRow (Or.inl (by simp)) _)
 simpa [splice] using setRow_heap w g _ _ t _ hg
theorem jM {α : Type} (L cs : List α) (h : L.length = cs.length) : splice L 0 cs = cs := by
 simp [splice, List.drop_of_length_le (Nat.le_of_eq h)]
theorem Q00 (l : List Value) : ∀ (k : Nat) (cs : Array Value), k + l.length <= cs.size ->
  (l.zipIdx k).foldl (fun cs x => cs.setIfInBounds (0 + x.2) x.1) cs = (splice cs.toList k l).toArray := by
 induction l with
 | nil => intro k cs _; simp [splice]
 | cons v rest ih =>
  intro k cs h
  simp only [List.length_cons] at h
  rw [List.zipIdx_cons, List.foldl_cons, ih (k + 1) _ (by simp; omega)]
  congr 1
  have e := list_seg_step cs.toList k v rest (by simp; omega)
  simp only [splice, Nat.zero_add, Array.toList_setIfInBounds, List.length_cons] at e ⊢
  rw [<- List.append_assoc, <- List.append_assoc]
  rw [show k + 1 + rest.length = k + (rest.length + 1) by omega] at e ⊢
  exact e
theorem ZL {P : Program} (w : World) (t e : TypeId) (cs : Array Value) (ie : TypeInfo) (z : Value) (hu : P.underlying t = some (.slice e)) (hi : P.info? e = some ie) (hz : ie.zero = some z)
  (hs : ie.size = cs.size) (h0 : 0 < cs.size) (hb : cs.size <= 1000) :
  (Instr.buildSlice t 1 #[(0, .agg cs)]).run P w = .ok (.slice (some ⟨w.heap.size, 0, none⟩) 1 1) (w.alloc (.cells cs e)) := by
 have hf : Instr.fill (fun i => some (i * ie.size, ie.size)) ((Array.range (1 * ie.size)).map (z.cells[· % z.cells.size]!)) [(0, .agg cs)] = some cs := by
  have hc : (Value.agg cs).cells = cs := rfl
  simp only [Instr.fill, hc, Nat.zero_mul, hs]
  rw [if_neg (by simp)]
  congr 1
  rw [<- Array.foldl_toList, Array.toList_zipIdx]
  have := Q00 cs.toList 0 ((Array.range (1 * cs.size)).map (z.cells[· % z.cells.size]!)) (by simp)
  rw [jM _ _ (by simp)] at this
  simpa using this
 have hne : ¬ ie.size = 0 := by omega
 have hle : ¬ 16777216 < ie.size := by omega
 generalize hzc : z.cells = zc at hf
 simp only [Nat.one_mul] at hf
 simp [Instr.buildSlice, run_underlying hu, sizeOf, typeInfo, hi, zeroValue, hz, newRow, hne, hle, hzc, hf]
section
variable {P : Program} {ops : Array Oper} {Q : Exit -> Act -> World -> Prop} {md : Region.Mode} {S : World -> Prop}
theorem j0 {i : Nat} {o : Oper} {K : Act -> World -> Prop} {a : Act} {w : World} (ho : ops[i]? = some o) (hg : o.guard = none) (v : Value) (w' : World)
  (hrun : (execOp a.eval o).run P w = .ok (.value v) w') (h : K (a.put o.dst v) w') : wpOp P ops Q i K a w :=
 wpOp_step ho fun K' hK => by rw [if_pos (by simp [Region.wanted, hg])]; unfold Oper.wp; rw [hrun]; exact hK _ _ h
theorem qo {i : Nat} {o : Oper} {K : Act -> World -> Prop} {a : Act} {w : World} (ho : ops[i]? = some o) (hg : o.guard = none) (w' : World)
  (hrun : (execOp a.eval o).run P w = .ok .skip w') (h : K (a.put o.dst undef) w') : wpOp P ops Q i K a w :=
 wpOp_step ho fun K' hK => by rw [if_pos (by simp [Region.wanted, hg])]; unfold Oper.wp; rw [hrun]; exact hK _ _ h
theorem yf {i : Nat} {fuel : Nat} {listed : Array Bool} {a : Act} {w : World} (hr : Region.ready md ops listed = [i])
  (h : wpOp P ops Q i (fun a' w' => S w' /\ wpAnyH P md ops Q S fuel (listed.setIfInBounds i true) a' w') a w) : wpAnyH P md ops Q S (fuel + 1) listed a w :=
 wpAnyH_all hr (by simp) (by intro j hj; simp at hj; subst hj; exact h)
theorem Q01 {i j : Nat} {fuel : Nat} {listed : Array Bool} {a : Act} {w : World} (hr : Region.ready md ops listed = [i, j])
  (h : wpOp P ops Q i (fun a' w' => S w' /\ wpAnyH P md ops Q S fuel (listed.setIfInBounds i true) a' w') a w)
  (h' : wpOp P ops Q j (fun a' w' => S w' /\ wpAnyH P md ops Q S fuel (listed.setIfInBounds j true) a' w') a w) : wpAnyH P md ops Q S (fuel + 1) listed a w :=
 wpAnyH_all hr (by simp) (by intro k hk; simp at hk; rcases hk with rfl | rfl; exact h; exact h')
theorem y9 {o : Oper} {a : Act} {w : World} (ty : TypeId) (x : Operand) (ho : o.op = .load ty x) (ad : Addr) (hx : a.eval x = .pointer (some ad)) (v : Value)
  (hrun : (loadVar ty ad).run P w = .ok v w) : (execOp a.eval o).run P w = .ok (.value v) w := by
 unfold execOp; simp only [ho, hx, Instr.loadAt, Instr.sureAddr, Sem.run_bind, Sem.run_pure, Result.andThen_ok, hrun]
theorem yH {o : Oper} {a : Act} {w w' : World} (ty : TypeId) (x y : Operand) (ho : o.op = .store ty x y) (ad : Addr) (hx : a.eval x = .pointer (some ad)) (v : Value) (hy : a.eval y = v)
  (hrun : (storeVar ty ad v).run P w = .ok () w') : (execOp a.eval o).run P w = .ok .skip w' := by
 unfold execOp; simp only [ho, hx, hy, Instr.storeAt, Instr.sureAddr, Sem.run_bind, Sem.run_pure, Result.andThen_ok, hrun]
theorem Q5 {o : Oper} {a : Act} {w w' : World} (x y : Operand) (t : TypeId) (ho : o.op = .call { callee := .builtin .append, args := #[x, y], argTypes := #[t, t] }) (vx vy : Value) (hx : a.eval x = vx) (hy : a.eval y = vy) (v : Value)
  (hrun : (Builtin.append_ #[t, t] o.type #[vx, vy]).run P w = .ok v w') : (execOp a.eval o).run P w = .ok (.value v) w' := by
 simp [execOp, ho, resolve, invoke, builtin, hx, hy, hrun, Result.andThen]
theorem qf {o : Oper} {a : Act} {w w' : World} (t : TypeId) (n : Nat) (x : Operand) (ho : o.op = .buildSlice t n #[(0, x)]) (vx : Value) (hx : a.eval x = vx) (v : Value)
  (hrun : (Instr.buildSlice t n #[(0, vx)]).run P w = .ok v w') : (execOp a.eval o).run P w = .ok (.value v) w' := by
 simp [execOp, ho, hx, hrun, Result.andThen]
theorem yh {w : World} {ty : TypeId} {d : TypeDesc} {ad : Addr} {v : Value} (hu : P.underlying ty = some d) (hd : (match d with | .struct _ | .array _ _ => true | _ => false) = false) (hc : w.cell? ad = some v) :
  (loadVar ty ad).run P w = .ok v w := by
 cases d <;> simp_all [loadVar, isAgg, run_underlying hu]
theorem gK {w : World} {ty : TypeId} {g j : Nat} {cs : Array Value} {t : TypeId} {v : Value} (hs : (P.info? ty).map (·.size) = some 1) (h1 : v.oneCell' = true) (hg : w.heap[g]? = some (.cells cs t (0, 0))) (hj : j < cs.size) :
  (storeVar ty ⟨g, j, none⟩ v).run P w = .ok () (w.setCell ⟨g, j, none⟩ v) := by
 have hv : v.cells = #[v] := by cases v <;> simp_all [Value.cells, Value.oneCell']
 have hc : w.cell? ⟨g, j, none⟩ = some cs[j] := y6 hg (by simp [hj])
 have hf : w.frozen? ⟨g, j, none⟩ = false := frozen_of_row _ _ _ _ _ hg
 cases hq : P.info? ty with
 | none => simp [hq] at hs
 | some i =>
  have hi : i.size = 1 := by simpa [hq] using hs
  simp [storeVar, sizeOf, typeInfo, hq, hi, hv, storeCells, Addr.add]
  rw [run_store P w _ _ _ h1]
  simp [hc, hf]
theorem yV (w : World) (g off : Nat) (t ty : TypeId) (cs xs : List Value) (fr : Nat × Nat) (d : TypeDesc) (hg : w.heap[g]? = some (.cells cs.toArray t fr))
  (hu : P.underlying ty = some d) (hd : (match d with | .struct _ | .array _ _ => true | _ => false) = true) (hi : (P.info? ty).map (·.size) = some xs.length)
  (hx : ∀ j v, xs[j]? = some v -> cs[off + j]? = some v) : (loadVar ty ⟨g, off, none⟩).run P w = .ok (.agg xs.toArray) w := by
 have hl : (loadCells ⟨g, off, none⟩ xs.length).run P w = .ok xs.toArray w :=
  run_loadCells_list (P := P) w ⟨g, off, none⟩ xs (fun j v hv => by
   have hadd : (⟨g, off, none⟩ : Addr).add j = ⟨g, off + j, none⟩ := by unfold Addr.add; split <;> simp_all
   rw [hadd, cell_of_row w g _ _ t fr hg]
   simpa using hx j v hv)
 cases hq : P.info? ty with
 | none => simp [hq] at hi
 | some i =>
  have hs : i.size = xs.length := by simpa [hq] using hi
  have hagg : (isAgg ty).run P w = .ok true w := by
   unfold isAgg
   rw [Sem.run_bind, run_underlying hu w]
   cases d <;> simp_all
  simp [loadVar, Sem.run_bind, hagg, sizeOf, typeInfo, hq, hs, hl]
theorem yE (w : World) (g off : Nat) (t ty : TypeId) (cs xs : List Value) (hg : w.heap[g]? = some (.cells cs.toArray t (0, 0))) (hi : (P.info? ty).map (·.size) = some xs.length)
  (hfit : off + xs.length <= cs.length) (h1 : ∀ v ∈ xs, v.oneCell' = true) :
  (storeVar ty ⟨g, off, none⟩ (.agg xs.toArray)).run P w = .ok () (w.setRow g (splice cs off xs).toArray) := by
 have hst := run_storeCells_at P g off t xs 0 cs.toArray w hg (by simpa using hfit) h1
 cases hq : P.info? ty with
 | none => simp [hq] at hi
 | some i =>
  have hs : i.size = xs.length := by simpa [hq] using hi
  simp [storeVar, sizeOf, typeInfo, hq, hs, Value.cells, hst, splice]
theorem ye {rest : List Oper} {o : Oper} {a : Act} {w : World} (hgd : o.guard = none) (ty : TypeId) (x : Operand) (ho : o.op = .load ty x) (ad : Addr) (hx : a.eval x = .pointer (some ad)) (v : Value)
  (hrun : (loadVar ty ad).run P w = .ok v w) (h : wpList P ops Q rest (a.put o.dst v) w) : wpList P ops Q (o :: rest) a w :=
 y8 hgd v w (y9 ty x ho ad hx v hrun) h
theorem add_lit (g o k : Nat) : (⟨g, o, none⟩ : Addr).add k = ⟨g, o + k, none⟩ := by unfold Addr.add; split <;> simp_all
theorem ya {o : Oper} {a : Act} {w : World} (t : TypeId) (x ix : Operand) (ho : o.op = .indexAddr t x ix) (g off n cap i k : Nat) (hx : a.eval x = .slice (some ⟨g, off, none⟩) n cap) (hix : a.eval ix = .int .i64 i)
  (e : TypeId) (hu : P.underlying t = some (.slice e)) (hs : (P.info? e).map (·.size) = some k) (hi : i < n) (p : Nat) (hp : p = off + i * k) :
  (execOp a.eval o).run P w = .ok (.value (.pointer (some ⟨g, p, none⟩))) w := by
 cases hq : P.info? e with
 | none => simp [hq] at hs
 | some ie =>
  have hsz : ie.size = k := by simpa [hq] using hs
  subst hp
  rw [<- add_lit]
  simp [execOp, ho, hx, hix, Instr.indexAt, asIntOf, run_underlying hu, sizeOf, typeInfo, hq, hsz, Result.andThen, hi]
end
abbrev El := List Value
def fl (es : List El) : List Value := es.flatten
def One (d : Nat) (es : List El) : Prop := ∀ e ∈ es, e.length = d /\ ∀ u ∈ e, u.oneCell' = true
theorem yW (a b : List El) : fl (a ++ b) = fl a ++ fl b := by simp [fl]
theorem jq (e : El) (b : List El) : fl (e :: b) = e ++ fl b := rfl
def Wd (d : Nat) (es : List El) : Prop := ∀ e ∈ es, e.length = d
theorem One.wd {d : Nat} {es : List El} (h : One d es) : Wd d es := fun e he => (h e he).1
theorem Wd.tl {d : Nat} {e : El} {es : List El} (h : Wd d (e :: es)) : Wd d es := fun x hx => h x (List.mem_cons_of_mem _ hx)
theorem Wd.app {d : Nat} {a b : List El} (h : Wd d a) (h' : Wd d b) : Wd d (a ++ b) := fun x hx => (List.mem_append.1 hx).elim (h x) (h' x)
theorem Wd.take {d : Nat} {a : List El} (h : Wd d a) (i : Nat) : Wd d (a.take i) := fun x hx => h x (List.mem_of_mem_take hx)
theorem Wd.drop {d : Nat} {a : List El} (h : Wd d a) (i : Nat) : Wd d (a.drop i) := fun x hx => h x (List.mem_of_mem_drop hx)
theorem qb {d : Nat} {es : List El} (h : Wd d es) : (fl es).length = es.length * d := by
 induction es with
 | nil => simp [fl]
 | cons e r ih => rw [jq, List.length_append, ih h.tl, h e (by simp), List.length_cons, Nat.add_mul]; omega
theorem Q03 {d : Nat} {es : List El} (h : Wd d es) : ∀ (i : Nat) (e : El), es[i]? = some e -> ∀ (j : Nat) (u : Value), e[j]? = some u -> (fl es)[i * d + j]? = some u := by
 induction es with
 | nil => intro i e h; simp at h
 | cons x r ih =>
  intro i e he j u hu
  have hx := h x (by simp)
  rw [jq]
  cases i with
  | zero =>
   simp at he; subst he
   rw [Nat.zero_mul, Nat.zero_add, List.getElem?_append_left (List.getElem?_eq_some_iff.1 hu).1]; exact hu
  | succ i =>
   rw [List.getElem?_append_right (by rw [hx, Nat.add_mul]; omega), hx, Nat.add_mul, Nat.one_mul, show i * d + d + j - d = i * d + j by omega]
   exact ih h.tl i e (by simpa using he) j u hu
theorem Q04 {d : Nat} {es : List El} (h : Wd d es) (i : Nat) : (fl es).take (i * d) = fl (es.take i) := by
 induction es generalizing i with
 | nil => simp [fl]
 | cons x r ih =>
  cases i with
  | zero => simp [fl]
  | succ i => rw [List.take_succ_cons, jq, jq, List.take_append, List.take_of_length_le (by rw [h x (by simp), Nat.add_mul]; omega), h x (by simp), Nat.add_mul, Nat.one_mul, Nat.add_sub_cancel, ih h.tl]
theorem Q05 {d : Nat} {es : List El} (h : Wd d es) (i : Nat) : (fl es).drop (i * d) = fl (es.drop i) := by
 induction es generalizing i with
 | nil => simp [fl]
 | cons x r ih =>
  cases i with
  | zero => simp
  | succ i => rw [List.drop_succ_cons, jq, List.drop_append, List.drop_of_length_le (by rw [h x (by simp), Nat.add_mul]; omega), h x (by simp), Nat.add_mul, Nat.one_mul, Nat.add_sub_cancel, List.nil_append, ih h.tl]
theorem One.fl {d : Nat} {es : List El} (h : One d es) : ∀ u ∈ fl es, u.oneCell' = true := by
 intro u hu
 obtain ⟨e, he, hu⟩ := List.mem_flatten.1 hu
 exact (h e he).2 u hu
structure Dv where
 L : List UInt8
 q : List (Nat × List UInt8)
 c : Int
 wr : Int
 t : Int
 off : Int
 fr : Int
 to : Int
def Q06 (bs cache : Value) (D : Dv) : Array Value :=
 #[bs, cache, .int .i64 D.c, .int .i64 D.wr, .int .i64 D.t, .int .i64 D.off, .int .i64 D.fr, .int .i64 D.to]
def Dv.bad (D : Dv) : Bool := (decide (0 <= D.off) && decide (D.off <= D.c)) || (decide (D.fr <= D.c) && decide (D.c < D.to))
def Dv.tick (D : Dv) : Dv := { D with c := wrap64 (D.c + 1), t := if D.bad then wrap64 (D.t + 1) else D.t }
def DC (w : World) (a : Nat) (bs cache : Value) (D : Dv) : Prop := w.heap[a]? = some (.cells (Q06 bs cache D) 65 (0, 0))
def Q07 (a : Nat) (bs cache : Value) (D : Dv) (w : World) (e : Ending) (w' : World) : Prop :=
 e = .returned (.bool D.bad) /\ DC w' a bs cache D.tick /\ y5 [a] w w' /\ w'.heap.size = w.heap.size
theorem Q08 {a : Nat} {bs cache : Value} {D : Dv} {w : World} (h : DC w a bs cache D) (hb : D.bad = true) :
  Q07 a bs cache D w (.returned (.bool true)) ((w.setCell ⟨a, 2, none⟩ (.int .i64 (wrap64 (D.c + 1)))).setCell ⟨a, 4, none⟩ (.int .i64 (wrap64 (D.t + 1)))) := by
 have h2 := yg (i := 4) (.int .i64 (wrap64 (D.t + 1))) (yg (i := 2) (.int .i64 (wrap64 (D.c + 1))) h)
 refine ⟨by rw [hb], ?_, ((y5.refl [a] w).setCell (Or.inl (by simp)) _).setCell (Or.inl (by simp)) _, by simp⟩
 unfold DC Dv.tick
 rw [hb]
 exact h2
theorem Q09 {a : Nat} {bs cache : Value} {D : Dv} {w : World} (h : DC w a bs cache D) (hb : D.bad = false) :
  Q07 a bs cache D w (.returned (.bool false)) (w.setCell ⟨a, 2, none⟩ (.int .i64 (wrap64 (D.c + 1)))) := by
 have h2 := yg (i := 2) (.int .i64 (wrap64 (D.c + 1))) h
 refine ⟨by rw [hb], ?_, (y5.refl [a] w).setCell (Or.inl (by simp)) _, by simp⟩
 unfold DC Dv.tick
 rw [hb]
 exact h2
theorem Q0a (a : Nat) (bs cache : Value) (D : Dv) (w : World) (h : DC w a bs cache D) :
  Calls prog 173 #[.pointer (some ⟨a, 0, none⟩)] w (Q07 a bs cache D w) := by
 have c2 : w.cell? ⟨a, 2, none⟩ = some (.int .i64 D.c) := y6 h rfl
 have c4 : w.cell? ⟨a, 4, none⟩ = some (.int .i64 D.t) := y6 h rfl
 have c5 : w.cell? ⟨a, 5, none⟩ = some (.int .i64 D.off) := y6 h rfl
 have c6 : w.cell? ⟨a, 6, none⟩ = some (.int .i64 D.fr) := y6 h rfl
 have c7 : w.cell? ⟨a, 7, none⟩ = some (.int .i64 D.to) := y6 h rfl
 have f2 : w.frozen? ⟨a, 2, none⟩ = false := frozen_of_row _ _ _ _ _ h
 have f4 : w.frozen? ⟨a, 4, none⟩ = false := frozen_of_row _ _ _ _ _ h
 have Y : Hid (D.bad = true -> _) := Q08 h
 have N : Hid (D.bad = false -> _) := Q09 h
 clear h
 obtain ⟨L, q, c, wr, t, off, fr, to⟩ := D
 simp only at c2 c4 c5 c6 c7
 by_cases h1 : 0 <= off
 ·by_cases h2 : off <= c
  ·have Y' := Y.out (by simp [Dv.bad, h1, h2])
   have Y2 : Hid _ := Y'
   clear Y N Y'
   go_enter func173, ntmps173
   go_wp2
   go_ret
   exact Y2.out
  ·by_cases h3 : fr <= c
   ·by_cases h4 : c < to
    ·have Y' := Y.out (by simp [Dv.bad, h3, h4])
     have Y2 : Hid _ := Y'
     clear Y N Y'
     go_enter func173, ntmps173
     go_wp2
     go_ret
     exact Y2.out
    ·have N' := N.out (by simp [Dv.bad, h2, h4])
     have N2 : Hid _ := N'
     clear Y N N'
     go_enter func173, ntmps173
     go_wp2
     go_ret
     exact N2.out
   ·have N' := N.out (by simp [Dv.bad, h2, h3])
    have N2 : Hid _ := N'
    clear Y N N'
    go_enter func173, ntmps173
    go_wp2
    go_ret
    exact N2.out
 ·by_cases h3 : fr <= c
  ·by_cases h4 : c < to
   ·have Y' := Y.out (by simp [Dv.bad, h3, h4])
    have Y2 : Hid _ := Y'
    clear Y N Y'
    go_enter func173, ntmps173
    go_wp2
    go_ret
    exact Y2.out
   ·have N' := N.out (by simp [Dv.bad, h1, h4])
    have N2 : Hid _ := N'
    clear Y N N'
    go_enter func173, ntmps173
    go_wp2
    go_ret
    exact N2.out
  ·have N' := N.out (by simp [Dv.bad, h1, h3])
   have N2 : Hid _ := N'
   clear Y N N'
   go_enter func173, ntmps173
   go_wp2
   go_ret
   exact N2.out
theorem Q0b (a : Nat) (ao : Option Addr) (n cap : Nat) (cache : Value) (D : Dv) (i : Int) (w : World)
  (h : DC w a (.slice ao n cap) cache D) (h0 : 0 <= i) (h1 : i < n) :
  Calls prog 174 #[.pointer (some ⟨a, 0, none⟩), .int .i64 i] w fun e w' => e = .returned (.bool false) /\ w' = w := by
 have c0 : w.cell? ⟨a, 0, none⟩ = some (.slice ao n cap) := y6 h rfl
 have g0 : ¬ i < 0 := by omega
 clear h
 go_enter func174, ntmps174
 go_wp2
 all_goals
  go_ret
  exact ⟨rfl, rfl⟩
theorem Q0c (a : Nat) (ao : Option Addr) (n cap : Nat) (cache : Value) (D : Dv) (w : World) (h : DC w a (.slice ao n cap) cache D) :
  Calls prog 23 #[.pointer (some ⟨a, 0, none⟩)] w fun e w' => e = .returned (.int .i64 n) /\ w' = w := by
 have c0 : w.cell? ⟨a, 0, none⟩ = some (.slice ao n cap) := y6 h rfl
 clear h
 go_enter func23, ntmps23
 go_wp2
 go_ret
 exact ⟨rfl, rfl⟩
theorem Q0d (a : Nat) (bs cache : Value) (D : Dv) (x : Int) (w : World) (h : DC w a bs cache D) :
  Calls prog 12 #[.pointer (some ⟨a, 0, none⟩), .int .i64 x] w fun e w' => e = .returned (.tuple #[]) /\ DC w' a bs cache { D with off := wrap64 (D.c + x) } /\ y5 [a] w w' := by
 have c2 : w.cell? ⟨a, 2, none⟩ = some (.int .i64 D.c) := y6 h rfl
 have c5 : w.cell? ⟨a, 5, none⟩ = some (.int .i64 D.off) := y6 h rfl
 have f5 : w.frozen? ⟨a, 5, none⟩ = false := frozen_of_row _ _ _ _ _ h
 have H : Hid (DC (w.setCell ⟨a, 5, none⟩ (.int .i64 (wrap64 (D.c + x)))) a bs cache { D with off := wrap64 (D.c + x) }) := yg (i := 5) _ h
 clear h
 go_enter func12, ntmps12
 go_wp2
 go_end0
 exact ⟨rfl, H.out, (y5.refl [a] w).setCell (Or.inl (by simp)) _⟩
theorem Q0e (a : Nat) (bs cache : Value) (D : Dv) (x y : Int) (w : World) (h : DC w a bs cache D) :
  Calls prog 18 #[.pointer (some ⟨a, 0, none⟩), .int .i64 x, .int .i64 y] w fun e w' => e = .returned (.tuple #[]) /\ DC w' a bs cache { D with fr := wrap64 (D.c + x), to := wrap64 (wrap64 (D.c + x) + y) } /\ y5 [a] w w' := by
 have c2 : w.cell? ⟨a, 2, none⟩ = some (.int .i64 D.c) := y6 h rfl
 have c6 : w.cell? ⟨a, 6, none⟩ = some (.int .i64 D.fr) := y6 h rfl
 have c7 : w.cell? ⟨a, 7, none⟩ = some (.int .i64 D.to) := y6 h rfl
 have f6 : w.frozen? ⟨a, 6, none⟩ = false := frozen_of_row _ _ _ _ _ h
 have f7 : w.frozen? ⟨a, 7, none⟩ = false := frozen_of_row _ _ _ _ _ h
 have H : Hid (DC ((w.setCell ⟨a, 6, none⟩ (.int .i64 (wrap64 (D.c + x)))).setCell ⟨a, 7, none⟩ (.int .i64 (wrap64 (wrap64 (D.c + x) + y)))) a bs cache { D with fr := wrap64 (D.c + x), to := wrap64 (wrap64 (D.c + x) + y) }) := yg (i := 7) _ (yg (i := 6) _ h)
 clear h
 go_enter func18, ntmps18
 go_wp2
 go_region
 go_wp2
 go_end0
 exact ⟨rfl, H.out, (((y5.refl [a] w).setCell (Or.inl (by simp)) _).setCell (Or.inl (by simp)) _).drew⟩
end Go.Proofs.YtcklgafpgdhnaabGreatDoor
