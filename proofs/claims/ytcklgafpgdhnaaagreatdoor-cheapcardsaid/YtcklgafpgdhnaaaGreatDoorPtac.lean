import Derived.Test.YtcklgafpgdhnaaaGreatDoorPtaa
import Derived.Test.YtcklgafpgdhnaaaGreatDoorPtab
import Derived.Deep.DeepAppendRoom
set_option maxRecDepth 100000
set_option maxHeartbeats 4000000
open List renaming getElem_toArray → zA, getElem_cons_succ → zB, getElem_cons_zero → zC, setIfInBounds_toArray → zD, set_cons_succ → zE, set_cons_zero → zF
namespace Go.Proofs.YtcklgafpgdhnaaaGreatDoor
open Go.RowKit

section
variable {P : Program} {ops : Array Oper} {Q : Exit → Act → World → Prop} {md : Region.Mode} {S : World → Prop} {k : Nat}

def wpAnyK (P : Program) (md : Region.Mode) (ops : Array Oper) (Q : Exit → Act → World → Prop) (S : World → Prop) (k : Nat) : Nat → Array Bool → Act → World → Prop
 | 0, listed, a, w => Region.ready md ops listed = [] ∧ Q .normal a w
 | fuel + 1, listed, a, w =>
  (Region.ready md ops listed = [] → Q .normal a w) ∧
  ∀ i ∈ Region.ready md ops listed, wpOp P ops Q i (fun a' w' => (i ≠ k → S w') ∧ wpAnyK P md ops Q S k fuel (listed.setIfInBounds i true) a' w') a w

theorem wpAny_of_K : ∀ (fuel : Nat) (listed : Array Bool) (a : Act) (w : World), wpAnyK P md ops Q S k fuel listed a w → wpAny P md ops Q fuel listed a w
 | 0, _, _, _, h => h
 | fuel + 1, _, _, _, h => ⟨h.1, fun i hi => wpOp_mono (fun a' w' h' => wpAny_of_K fuel _ a' w' h'.2) (h.2 i hi)⟩

theorem wpAnyK_first {i : Nat} {oi ok : Oper} {v : Value} (hi : ops[i]? = some oi) (hok : ops[k]? = some ok) (hwait : ∃ e ∈ ok.after, Region.binds md e = true ∧ e.on = i) (hsel : ∀ (j : Nat) (o : Oper) cs b, ops[j]? = some o → o.op ≠ .select cs b)
  (hQ : ∀ c a w, Q (.panic c) (a.put oi.dst v) w → Q (.panic c) a w) :
  ∀ (fuel : Nat) (listed : Array Bool) (a : Act) (w : World),
   (∀ j oj, ops[j]? = some oj → j ≠ i → listed.getD j true = false → (∀ e ∈ oj.after, Region.binds md e = true → e.on ≠ i) → oi.apart ops oj = true) →
   i ∈ Region.ready md ops listed → YieldsIf P ops S oi v a → S w →
   wpAnyK P md ops Q S k fuel (listed.setIfInBounds i true) (a.put oi.dst v) w → wpAnyK P md ops Q S k (fuel + 1) listed a w := by
 intro fuel
 induction fuel with
 | zero =>
  intro listed a w _ hr hy hS H
  refine ⟨fun h => (by rw [h] at hr; cases hr), fun j hj => ?_⟩
  by_cases hji : j = i
  ·subst hji; exact hy.wpOp hi hS ⟨fun _ => hS, H⟩
  ·have := ready_mono hj hji
   rw [H.1] at this
   cases this
 | succ fuel ih =>
  intro listed a w hfree hr hy hS H
  refine ⟨fun h => (by rw [h] at hr; cases hr), fun j hj => ?_⟩
  by_cases hji : j = i
  ·subst hji; exact hy.wpOp hi hS ⟨fun _ => hS, H⟩
  ·have h1 := H.2 j (ready_mono hj hji)
   obtain ⟨hjun, oj, hoj, hall⟩ := mem_ready.1 hj
   have hnot : ∀ e ∈ oj.after, Region.binds md e = true → e.on ≠ i := fun e he hb heq => by
    have h1 := hall e he hb
    have h0 := (mem_ready.1 hr).1
    rw [heq] at h1
    rcases Nat.lt_or_ge i listed.size with h' | h'
    ·simp [h'] at h0 h1; rw [h0] at h1; cases h1
    ·simp [Array.getElem?_eq_none h'] at h1
   have hjk : j ≠ k := by
    intro e
    subst e
    rw [hok] at hoj
    cases hoj
    obtain ⟨e, he, hb, hon⟩ := hwait
    exact hnot e he hb hon
   have h2 := wpOp_putIf hoj (hfree j oj hoj hji hjun hnot) (fun cs b => hsel i oi cs b hi) (fun cs b => hsel j oj cs b hoj) hQ hy h1
   have hfree' : ∀ k ok, ops[k]? = some ok → k ≠ i → (listed.setIfInBounds j true).getD k true = false →
     (∀ e ∈ ok.after, Region.binds md e = true → e.on ≠ i) → oi.apart ops ok = true := fun k ok hk hki hun hno => by
    refine hfree k ok hk hki ?_ hno
    by_cases hjk : j = k
    ·subst hjk; exact hjun
    ·rw [getD_set_ne true hjk] at hun; exact hun
   refine wpOp_mono (fun a' w' h3 => ⟨h3.2.1, ih (listed.setIfInBounds j true) a' w' hfree' (ready_mono hr (Ne.symm hji)) h3.1 (h3.2.1 hjk) ?_⟩) h2
   rw [Array.setIfInBounds_comm _ _ hji]
   exact h3.2.2

def waits (md : Region.Mode) (ops : Array Oper) (k i : Nat) : Bool := match ops[k]? with
 | some o => o.after.any fun e => Region.binds md e && e.on == i
 | none => false

theorem waits_spec {i : Nat} (h : waits md ops k i = true) : ∃ ok, ops[k]? = some ok ∧ ∃ e ∈ ok.after, Region.binds md e = true ∧ e.on = i := by
 unfold waits at h
 cases hk : ops[k]? with
 | none => rw [hk] at h; cases h
 | some o =>
  rw [hk] at h
  refine ⟨o, rfl, ?_⟩
  simp only [Array.any_eq_true] at h
  obtain ⟨j, hj, h⟩ := h
  simp only [Bool.and_eq_true, beq_iff_eq] at h
  exact ⟨o.after[j], Array.getElem_mem hj, h.1, h.2⟩

theorem wpAnyK_take {i : Nat} {oi : Oper} {v : Value} {fuel : Nat} {listed : Array Bool} {a : Act} {w : World} (hi : ops[i]? = some oi)
  (hs : Region.noSelect ops = true) (hf : Region.free md ops listed i = true) (hr : (Region.ready md ops listed).contains i = true) (hw : waits md ops k i = true)
  (hQ : ∀ c a w, Q (.panic c) (a.put oi.dst v) w → Q (.panic c) a w) (hy : YieldsIf P ops S oi v a) (hS : S w)
  (h : wpAnyK P md ops Q S k fuel (listed.setIfInBounds i true) (a.put oi.dst v) w) : wpAnyK P md ops Q S k (fuel + 1) listed a w := by
 obtain ⟨ok, hok, hwait⟩ := waits_spec hw
 exact wpAnyK_first hi hok hwait (Region.noSelect_spec hs) hQ fuel listed a w (Region.free_spec hi hf) (by simpa using hr) hy hS h

def okK (md : Region.Mode) (ops : Array Oper) (listed : Array Bool) (k i : Nat) : Bool := Region.noSelect ops && Region.free md ops listed i && (Region.ready md ops listed).contains i && waits md ops k i
theorem kt {i : Nat} {oi : Oper} {v : Value} {fuel : Nat} {listed : Array Bool} {a : Act} {w : World} (hi : ops[i]? = some oi) (hc : okK md ops listed k i = true) (hg : Region.wanted oi (yielded ops a.tmps) = true)
  (hy : ∀ W, S W → (execOp a.eval oi).run P W = .ok (.value v) W) (hQ : ∀ c a w, Q (.panic c) (a.put oi.dst v) w → Q (.panic c) a w) (hS : S w)
  (h : wpAnyK P md ops Q S k fuel (listed.setIfInBounds i true) (a.put oi.dst v) w) : wpAnyK P md ops Q S k (fuel + 1) listed a w := by
 simp only [okK, Bool.and_eq_true] at hc
 exact wpAnyK_take hi hc.1.1.1 hc.1.1.2 hc.1.2 hc.2 hQ (Or.inl ⟨hg, hy⟩) hS h

theorem K_one {i : Nat} {fuel : Nat} {listed : Array Bool} {a : Act} {w : World} (hr : Region.ready md ops listed = [i])
  (h : wpOp P ops Q i (fun a' w' => (i ≠ k → S w') ∧ wpAnyK P md ops Q S k fuel (listed.setIfInBounds i true) a' w') a w) : wpAnyK P md ops Q S k (fuel + 1) listed a w :=
 ⟨fun h0 => absurd (hr ▸ h0) (by simp), by intro j hj; rw [hr] at hj; simp at hj; subst hj; exact h⟩

theorem wpAnyK_done {listed : Array Bool} {a : Act} {w : World} (hr : Region.ready md ops listed = []) (h : Q .normal a w) :
  ∀ fuel, wpAnyK P md ops Q S k fuel listed a w
 | 0 => ⟨hr, h⟩
 | _ + 1 => ⟨fun _ => h, by rw [hr]; simp⟩

theorem wp_region_K {id : Nat} {a : Act} {w : World} (S : World → Prop) (k : Nat) (hm : P.follows .mixedOrders = true)
  (h : wpAnyK P .any ops Q S k ops.size (Array.replicate ops.size false) a w.drew) : (Code.region id ops true).wp P Q a w :=
 wp_region_any hm (wpAny_of_K _ _ _ _ h)

end

end Go.Proofs.YtcklgafpgdhnaaaGreatDoor

namespace Go.Proofs.YtcklgafpgdhnaaaGreatDoor
open Go.RowKit

theorem wp_region_S {P : Program} {ops : Array Oper} {Q : Exit → Act → World → Prop} {id : Nat} {a : Act} {w : World} (S : World → Prop) (hm : P.follows .mixedOrders = true)
  (h : wpAnyH P .any ops Q S ops.size (Array.replicate ops.size false) a w.drew) : (Code.region id ops true).wp P Q a w := wp_region_held hm h
theorem exec_box {P : Program} {o : Oper} {a : Act} {w : World} (t : TypeId) (x : Operand) (ho : o.op = .box t x) (cs : Array Value) (hx : a.eval x = .agg cs) :
  (execOp a.eval o).run P w = .ok (.value (.pointer (some ⟨w.heap.size, 0, none⟩))) (w.alloc (.cells cs t)) := by
 simp [execOp, ho, hx, Instr.box, newVar, newRow, Value.cells]
theorem exec_build {P : Program} {o : Oper} {a : Act} {w : World} (t : TypeId) (x y : Operand) (i j : Nat) (ho : o.op = .build t #[(i, x), (j, y)]) (vx vy v : Value) (hx : a.eval x = vx) (hy : a.eval y = vy) (hr : (Instr.build t #[(i, vx), (j, vy)]).run P w = .ok v w) :
  (execOp a.eval o).run P w = .ok (.value v) w := by
 simp [execOp, ho, hx, hy, hr]
theorem exec_slice {P : Program} {o : Oper} {a : Act} {w : World} (t : TypeId) (x : Operand) (lo hi mx : Option Operand) (ho : o.op = .slice t x lo hi mx) (vx : Value) (vl vh vm : Option Value) (hx : a.eval x = vx) (h1 : lo.map a.eval = vl) (h2 : hi.map a.eval = vh) (h3 : mx.map a.eval = vm) (r : Value) (hr : (Instr.sliceAt t vx vl vh vm).run P w = .ok r w) :
  (execOp a.eval o).run P w = .ok (.value r) w := by
 subst hx h1 h2 h3
 simp [execOp, ho, hr]
theorem exec_append2 {P : Program} {o : Oper} {a : Act} {w w' : World} (x y : Operand) (t u : TypeId) (ho : o.op = .call { callee := .builtin .append, args := #[x, y], argTypes := #[t, u] }) (vx vy : Value) (hx : a.eval x = vx) (hy : a.eval y = vy) (v : Value)
  (hrun : (Builtin.append_ #[t, u] o.type #[vx, vy]).run P w = .ok v w') : (execOp a.eval o).run P w = .ok (.value v) w' := by
 simp [execOp, ho, resolve, invoke, builtin, hx, hy, hrun, Result.andThen]
theorem exec_clear {P : Program} {o : Oper} {a : Act} {w w' : World} (x : Operand) (t : TypeId) (ho : o.op = .call { callee := .builtin .clear, args := #[x], argTypes := #[t] }) (vx : Value) (hx : a.eval x = vx) (v : Value)
  (hrun : (Builtin.clear_ #[t] o.type #[vx]).run P w = .ok v w') : (execOp a.eval o).run P w = .ok (.value v) w' := by
 simp [execOp, ho, resolve, invoke, builtin, hx, hrun, Result.andThen]
theorem exec_copy2 {P : Program} {o : Oper} {a : Act} {w w' : World} (x y : Operand) (t u : TypeId) (ho : o.op = .call { callee := .builtin .copy, args := #[x, y], argTypes := #[t, u] }) (vx vy : Value) (hx : a.eval x = vx) (hy : a.eval y = vy) (v : Value)
  (hrun : (Builtin.copy_ #[t, u] o.type #[vx, vy]).run P w = .ok v w') : (execOp a.eval o).run P w = .ok (.value v) w' := by
 simp [execOp, ho, resolve, invoke, builtin, hx, hy, hrun, Result.andThen]
theorem exec_len {P : Program} {o : Oper} {a : Act} {w : World} (x : Operand) (t e : TypeId) (ho : o.op = .call { callee := .builtin .len, args := #[x], argTypes := #[t] }) (ao : Option Addr) (n cap : Nat) (hx : a.eval x = .slice ao n cap) (hu : P.underlying t = some (.slice e)) :
  (execOp a.eval o).run P w = .ok (.value (.int .i64 n)) w := by
 have hl : (Builtin.len_ #[t] o.type #[.slice ao n cap]).run P w = .ok (goInt n) w := by
  simp [Builtin.len_, run_underlying hu]
 simp [execOp, ho, resolve, invoke, builtin, hx, hl, goInt]
theorem wpOp_valW {P : Program} {ops : Array Oper} {Q : Exit → Act → World → Prop} {i : Nat} {o : Oper} {K : Act → World → Prop} {a : Act} {w : World} (ho : ops[i]? = some o) (hw : Region.wanted o (yielded ops a.tmps) = true) (v : Value) (w' : World)
  (hrun : (execOp a.eval o).run P w = .ok (.value v) w') (h : K (a.put o.dst v) w') : wpOp P ops Q i K a w :=
 wpOp_step ho fun K' hK => by rw [if_pos hw]; unfold Oper.wp; rw [hrun]; exact hK _ _ h

section
variable {P : Program} {ops : Array Oper} {Q : Exit → Act → World → Prop} {md : Region.Mode} {S : World → Prop}
def okH (md : Region.Mode) (ops : Array Oper) (listed : Array Bool) (i : Nat) : Bool := Region.noSelect ops && Region.free md ops listed i && (Region.ready md ops listed).contains i
theorem ht {i : Nat} {oi : Oper} {v : Value} {fuel : Nat} {listed : Array Bool} {a : Act} {w : World} (hi : ops[i]? = some oi) (hc : okH md ops listed i = true) (hg : Region.wanted oi (yielded ops a.tmps) = true)
  (hy : ∀ W, S W → (execOp a.eval oi).run P W = .ok (.value v) W) (hQ : ∀ c a w, Q (.panic c) (a.put oi.dst v) w → Q (.panic c) a w) (hS : S w)
  (h : wpAnyH P md ops Q S fuel (listed.setIfInBounds i true) (a.put oi.dst v) w) : wpAnyH P md ops Q S (fuel + 1) listed a w := by
 simp only [okH, Bool.and_eq_true] at hc
 exact wpAnyH_take hi hc.1.1 hc.1.2 hc.2 hQ (Or.inl ⟨hg, hy⟩) hS h
end

end Go.Proofs.YtcklgafpgdhnaaaGreatDoor

namespace Go.Proofs.YtcklgafpgdhnaaaGreatDoor
open Go.RowKit

theorem zc_write : Tryz.zeroCells94 = (wcells 0 (zl 128)).toArray := by kernel_rfl
theorem zc_write' (i : Int) : Tryz.zeroCells94.setIfInBounds 0 (.int .i64 i) = (wcells i (zl 128)).toArray := by rw [zc_write]; simp [wcells]
theorem iwrite : (Tryz.prog.info? 94).map (fun i => (i.zero, i.size, i.bytes)) = some (some (.agg (wcells 0 (zl 128)).toArray), 129, 136) := by kernel_rfl
theorem swrites : (Tryz.prog.info? 89).map (·.size) = some 1 := by kernel_rfl
theorem splice_wcells (i : Int) (B : List UInt8) (h : B.length = 128) : splice (wcells i (zl 128)) 1 (u8s B) = wcells i (u8s B) := by
 simp [splice, wcells, length_u8s, h, zl]
theorem grown_kept {w w' : World} {row : Option Nat} (h : w.grownBy w' row) (S : List Nat) (hr : ∀ k, row = some k → k ∈ S) : Kept S w w' :=
 ⟨h.os, h.tape, h.output, h.size, fun k hk hn => h.block k hk fun e => hn (hr k e.symm)⟩
theorem owns_one {w : World} {base e size n : Nat} {v : Value} {xs : List Value} (h : w.ownsRow base e size v n xs) : v.oneCell' = true := by
 obtain ⟨_, ⟨rfl, _⟩ | ⟨g, cap, cur, rfl, _⟩⟩ := h <;> rfl

theorem append_owns {P : Program} (w : World) (t e : TypeId) (i : TypeInfo) (z : Value) (size bytes : Nat) (ht : P.underlying t = some (.slice e)) (hi : P.info? e = some i) (hz : i.zero = some z) (hs : i.size = size) (hb : i.bytes = bytes) (hzs : z.cells.size = size) (h0 : 0 < size)
  (v : Value) (n : Nat) (xs : List Value) (hown : w.ownsRow 0 e size v n xs) (a : Addr) (m c : Nat) (news : List Value) (hl : news.length = m * size) (hnews : ∀ j u, news[j]? = some u → w.cell? (a.add j) = some u) (h1 : ∀ u ∈ news, u.oneCell' = true)
  (h63 : n + m ≤ maxLen) (hbytes : (n + m) * bytes ≤ 140737488355328) :
  ∃ v' w', (Builtin.append_ #[t, t] t #[v, .slice (some a) m c]).run P w = .ok v' w' ∧ w'.ownsRow 0 e size v' (n + m) (xs ++ news) ∧ Kept v.ownBlock.toList w w' ∧ ∀ y, v'.ownBlock = some y → v.ownBlock = some y ∨ w.heap.size ≤ y := by
 obtain ⟨v', w', hr, ho, hg, _⟩ := run_append_own (P := P) w 0 t t e i z size bytes ht hi hz hs hb hzs h0 v n xs hown a m c news hl hnews h1 h63 hbytes (Nat.zero_le _)
 refine ⟨v', w', hr, ho, grown_kept hg _ (by intro x hx; rw [hx]; simp), fun y hy => ?_⟩
 obtain ⟨hx, ⟨rfl, rfl⟩ | ⟨g, cap, cur, rfl, hB, hh, h2, h3, h4, h5⟩⟩ := hown
 ·have hnil : xs = [] := List.eq_nil_of_length_eq_zero (by rw [hx, Nat.zero_mul])
  obtain ⟨v2, w2, hr2, ho2, _⟩ := run_append_own (P := P) w w.heap.size t t e i z size bytes ht hi hz hs hb hzs h0 (.slice none 0 0) 0 [] (World.ownsRow_nil _ _ _ _) a m c news hl hnews h1 h63 hbytes (Nat.le_refl _)
  rw [hr] at hr2
  cases hr2
  exact Or.inr (ho2.lt y hy).1
 ·by_cases hroom : n + m ≤ cap
  ·obtain ⟨w2, hr2, _⟩ := run_append_own_spare (P := P) w 0 t t e i size ht hi hs g n cap xs ⟨hx, Or.inr ⟨g, cap, cur, rfl, hB, hh, h2, h3, h4, h5⟩⟩ a m c news hl hnews h1 hroom
   rw [hr] at hr2
   cases hr2
   exact Or.inl hy
  ·subst hs hb
   have holds : ∀ j u, xs[j]? = some u → w.cell? ((⟨g, 0, none⟩ : Addr).add j) = some u := by
    intro j u hj
    rw [add_lit, cell_of_row _ _ _ _ _ _ hh]
    have hjl := (List.getElem?_eq_some_iff.1 hj).1
    rw [← h5, List.getElem?_take, if_pos (by omega)] at hj
    simpa using hj
   have hr2 := run_append_grow (P := P) w t t e i z ht hi hz ⟨g, 0, none⟩ n cap xs hx holds a m c news hl hnews (by omega) (by unfold maxLen at h63; omega) (growslice_fits (by omega) hbytes)
   rw [hr] at hr2
   cases hr2
   simp only [Value.ownBlock, Option.some.injEq] at hy
   exact Or.inr (Nat.le_of_eq hy)

def Dv.put (D : Dv) (i : Nat) (B : List UInt8) : Dv := { D.tick with q := D.q ++ [(i, B)], wr := wrap64 (D.wr + 1) }
def WriteR (a : Nat) (bv : Value) (n : Nat) (cv : Value) (D : Dv) (i : Nat) (B : List UInt8) (w : World) (e : Ending) (w' : World) : Prop :=
 if D.bad then e = .returned eIO ∧ DQ w' a bv n cv D.tick ∧ Kept [a] w w' else
  e = .returned .nilIface ∧ ∃ cv', DQ w' a bv n cv' (D.put i B) ∧ Kept (dfoot a bv cv) w w' ∧ ∀ y, cv'.ownBlock = some y → cv.ownBlock = some y ∨ w.heap.size ≤ y

theorem Write_any (a : Nat) (bv : Value) (n s : Nat) (cv : Value) (D : Dv) (B : List UInt8) (t' : TypeId) (i : Nat) (w : World) (h : DQ w a bv n cv D) (hi : i < n) (hB : B.length = 128)
  (hs : w.heap[s]? = some (.cells (u8s B).toArray t' (0, 0))) (hsa : s ≠ a) (hq : D.q.length ≤ 1000000) :
  Calls Tryz.prog 223 #[.pointer (some ⟨a, 0, none⟩), .int .i64 i, .slice (some ⟨s, 0, none⟩) 128 128] w (WriteR a bv n cv D i B w) := by
 go_enter Tryz.func223, Tryz.ntmps223
 go_wp2_with fail
 refine (fails_any a _ _ D w h.d).mono ?_
 rintro e w1 ⟨rfl, hd1, hk1, -⟩
 have h1 : DQ w1 a bv n cv D.tick := h.upd hk1 hd1 rfl rfl
 cases hb : D.bad with
 | true =>
  have FIN : Hid (WriteR a bv n cv D i B w (.returned eIO) w1) := by show WriteR a bv n cv D i B w (.returned eIO) w1; unfold WriteR; rw [hb]; exact ⟨rfl, h1, hk1⟩
  go_wp2
  go_ret
  exact FIN.out
 | false =>
 obtain ⟨bp, bc, rfl⟩ := owns_slice h.b
 go_wp2_with fail
 refine (none_any a _ n _ _ _ i w1 hd1 (by omega) (by omega)).mono ?_
 rintro e w2 ⟨rfl, rfl⟩
 have hs2 := hk1.get hs (by simpa using hsa)
 have hla := lt_heap hd1
 have hls := lt_heap hs2
 go_wp2_with (first
  | (refine wpList_alloc_k rfl 94 rfl _ (zwrite _) ?_; intro w3 hn3 hk3 _; have hs3 := hk3.get hs2 (by simp))
  | (refine wpList_store_k rfl 94 (.tmp 7) (.tmp 17) rfl w2.heap.size (wcells i (zl 128)).toArray rfl (by simp only [Act.eval]; exact congrArg Value.agg (zc_write' i)) 94 _ hn3 (by rw [swrite]; simp [wcells, zl]) (by simp [wcells, zl]) (all_of (one_wcells _ _ (one_zl _))) ?_; intro w4 hn4 hk4; have hs4 := hk4.get hs3 (by simp; omega))
  | (refine upon_copy_k 60 60 5 Tryz.underlying60 su8 w2.heap.size 1 128 128 ⟨s, 0, none⟩ 128 128 (wcells i (zl 128)) 94 hn4 (u8s B) (by rw [length_u8s, hB]; exact (Nat.min_self 128).symm) (row_src hs4) (by simp [wcells, zl, length_u8s, hB]) (one_u8s _) ?_; intro w5 hg5 hk5))
 rw [splice_wcells _ _ (by rw [hB])] at hg5
 have own : ∀ y ∈ [w2.heap.size], y ∈ ([] : List Nat) ∨ w2.heap.size ≤ y := by intro y hy; simp at hy; subst hy; exact Or.inr (Nat.le_refl _)
 have K5 : Kept [] w2 w5 := (hk3.trans2 hk4 own).trans2 hk5 own
 have h5 : DQ w5 a (.slice bp n bc) n cv D.tick := h1.k0 K5
 have hwl : (wc (i, B)).length = 129 := by simp [wc, wcells, length_u8s, hB]
 have hS : w5.drew.heap[w2.heap.size]? = some (.cells (wc (i, B)).toArray 94 (0, 0)) ∧ DC w5.drew a (.slice bp n bc) cv D.tick := ⟨hg5, h5.d⟩
 refine wp_region_K (fun W => W.heap[w2.heap.size]? = some (.cells (wc (i, B)).toArray 94 (0, 0)) ∧ DC W a (.slice bp n bc) cv D.tick) 10 (by kernel_rfl) ?_
 refine kt (i := 0) (v := .pointer (some ⟨a, 0, none⟩)) rfl (by kernel_rfl) (by rfl) (fun W hW => by rfl) (fun _ _ _ h => h) hS ?_
 refine kt (i := 1) (v := .pointer (some ⟨a, 0, none⟩)) rfl (by kernel_rfl) (by rfl) (fun W hW => by rfl) (fun _ _ _ h => h) hS ?_
 refine kt (i := 2) (v := .pointer (some ⟨a, 0, none⟩)) rfl (by kernel_rfl) (by rfl) (fun W hW => by rfl) (fun _ _ _ h => h) hS ?_
 refine kt (i := 3) (v := .pointer (some ⟨a, 1, none⟩)) rfl (by kernel_rfl) (by rfl) (fun W hW => by rfl) (fun _ _ _ h => h) hS ?_
 refine kt (i := 4) (v := cv) rfl (by kernel_rfl) (by rfl) (fun W hW => exec_load 89 (.tmp 25) rfl ⟨a, 1, none⟩ rfl _ (run_load1 Tryz.underlying89 rfl (cellAt hW.2 rfl))) (fun _ _ _ h => h) hS ?_
 refine kt (i := 5) (v := .agg (wc (i, B)).toArray) rfl (by kernel_rfl) (by rfl) (fun W hW => exec_load 94 (.tmp 7) rfl _ rfl _ (run_loadVar_row W _ _ _ _ _ _ hW.1 Tryz.underlying94 rfl (by rw [swrite]; simp [hwl]))) (fun _ _ _ h => h) hS ?_
 obtain ⟨ie, hie, hz1, hz2, hz3⟩ := info_parts iwrite
 have hbs := run_build1 (P := Tryz.prog) w5.drew 89 94 (wc (i, B)).toArray ie _ Tryz.underlying89 hie hz1 (by rw [hz2]; simp [hwl]) (by simp [hwl]) (by simp [hwl])
 have K6 : Kept [] w5 (w5.drew.alloc (.cells (wc (i, B)).toArray 94)) := (Kept.refl [] w5).drew.alloc _
 have h6 := h5.k0 K6
 have n6 := heap_alloc_new w5.drew (.cells (wc (i, B)).toArray 94)
 have g6 := K6.get hg5 (by simp)
 obtain ⟨v', w8, hr8, hown8, k8, hwh⟩ := append_owns (P := Tryz.prog) (w5.drew.alloc (.cells (wc (i, B)).toArray 94)) 89 94 ie _ 129 136 Tryz.underlying89 hie hz1 hz2 hz3 (by simp [Value.cells, wcells, zl]) (by omega) cv D.q.length (fl (D.q.map wc)) h6.o ⟨w5.heap.size, 0, none⟩ 1 1 (wc (i, B)) (by simp [hwl]) (row_src n6) (one_wc _) (by unfold maxLen; omega) (by omega)
 have nca := h6.nq
 have d8 : DC w8 a (.slice bp n bc) cv D.tick := k8.get h6.d (by intro hx; exact (nca a (by simpa using hx)).1 rfl)
 have b8 := owns_kept h6.b k8 (by intro y hy hx; exact (nca y (by simpa using hx)).2 hy)
 have ncb : ∀ y, cv.ownBlock = some y → y < w2.heap.size := fun y hy => h1.lt y (by simp [dfoot, hy])
 have g8 := k8.get g6 (by intro hx; have := ncb w2.heap.size (by simpa using hx); omega)
 have v1 := owns_one hown8
 simp only [Act.put, zA, zB, zC, zD, zE, zF]
 refine K_one (i := 6) (by kernel_rfl) (wpOp_val rfl rfl (.slice (some ⟨w5.heap.size, 0, none⟩) 1 1) _ (exec_buildSlice 89 1 (.tmp 27) rfl (.agg (wc (i, B)).toArray) rfl _ hbs) ⟨fun _ => ⟨g6, h6.d⟩, ?_⟩)
 simp only [Act.put, zA, zB, zC, zD, zE, zF]
 refine K_one (i := 7) (by kernel_rfl) (wpOp_val rfl rfl v' w8 (exec_append (.tmp 26) (.tmp 28) 89 rfl cv (.slice (some ⟨w5.heap.size, 0, none⟩) 1 1) rfl rfl _ hr8) ⟨fun _ => ⟨g8, d8⟩, ?_⟩)
 simp only [Act.put, zA, zB, zC, zD, zE, zF]
 refine K_one (i := 8) (by kernel_rfl) (wpOp_val rfl rfl (.pointer (some ⟨a, 0, none⟩)) w8 rfl ⟨fun _ => ⟨g8, d8⟩, ?_⟩)
 simp only [Act.put, zA, zB, zC, zD, zE, zF]
 refine K_one (i := 9) (by kernel_rfl) (wpOp_val rfl rfl (.pointer (some ⟨a, 1, none⟩)) w8 rfl ⟨fun _ => ⟨g8, d8⟩, ?_⟩)
 simp only [Act.put, zA, zB, zC, zD, zE, zF]
 refine K_one (i := 10) (by kernel_rfl) (wpOp_skip rfl rfl _ (exec_store 89 (.tmp 31) (.tmp 29) rfl ⟨a, 1, none⟩ rfl v' rfl (run_store1 swrites v1 d8 (by simp [dcells]))) ⟨fun hx => absurd rfl hx, ?_⟩)
 simp only [Act.put, zA, zB, zC]
 refine wpAnyK_done (by kernel_rfl) ?_ _
 have d9 := setCellAt (i := 1) v' d8
 have k9 : Kept [a] w8 (w8.setCell ⟨a, 1, none⟩ v') := (Kept.refl _ _).setCell (Or.inl (by simp)) _
 have nv : ∀ y, v'.ownBlock = some y → y ≠ a := by
  intro y hy
  obtain ⟨cs, fr, hh⟩ := owns_tag hown8 hy
  exact ne_tag hh d8 (by decide)
 have o9 := owns_kept hown8 k9 fun y hy => by simpa using nv y hy
 have b9 := owns_kept b8 k9 fun y hy => by simpa using h.nb y hy
 generalize w8.setCell ⟨a, 1, none⟩ v' = w9 at *
 have e3 : w9.cell? ⟨a, 3, none⟩ = some (.int .i64 D.wr) := cellAt d9 rfl
 have f3 : w9.frozen? ⟨a, 3, none⟩ = false := frozen_of_row _ _ _ _ _ d9
 have d10 := setCellAt (i := 3) (.int .i64 (wrap64 (D.wr + 1))) d9
 have k10 : Kept [a] w9 (w9.setCell ⟨a, 3, none⟩ (.int .i64 (wrap64 (D.wr + 1)))) := (Kept.refl _ _).setCell (Or.inl (by simp)) _
 have FIN : Hid (WriteR a (.slice bp n bc) n cv D i B w (.returned .nilIface) (w9.setCell ⟨a, 3, none⟩ (.int .i64 (wrap64 (D.wr + 1))))) := by
  show WriteR _ _ _ _ _ _ _ _ _ _
  unfold WriteR
  rw [hb]
  refine ⟨rfl, v', ⟨d10, owns_kept b9 k10 fun y hy => by simpa using h.nb y hy, ?_, ?_, fun e => by simp [Dv.put] at e⟩, ?_, ?_⟩
  ·have o10 := owns_kept o9 k10 fun y hy => by simpa using nv y hy
   have e1 : fl (D.q.map wc) ++ wc (i, B) = fl ((D.put i B).q.map wc) := by simp [Dv.put, fl]
   have e2 : D.q.length + 1 = (D.put i B).q.length := by simp [Dv.put]
   rw [e1, e2] at o10
   exact o10
  ·intro x hx
   simp only [Dv.put, List.mem_append, List.mem_singleton] at hx
   rcases hx with hx | rfl
   ·exact h.q x hx
   ·exact ⟨hi, hB⟩
  ·have sub : ∀ S : List Nat, (∀ y ∈ S, y ∈ dfoot a (.slice bp n bc) cv) → ∀ y ∈ S, y ∈ dfoot a (.slice bp n bc) cv ∨ w.heap.size ≤ y := fun S hS y hy => Or.inl (hS y hy)
   refine ((((hk1.mono (by simp [dfoot])).trans2 K5 (by simp)).trans2 K6 (by simp)).trans2 k8 (sub _ (by intro y hy; simp [dfoot] at hy ⊢; simp [hy]))).trans2 (k9.trans k10) (sub _ (by simp [dfoot]))
  ·intro y hy
   have := hk1.size; have := K5.size; have := K6.size
   exact (hwh y hy).imp id fun h => by omega
 clear d10
 go_wp2
 go_ret
 exact FIN.out

end Go.Proofs.YtcklgafpgdhnaaaGreatDoor
