import Derived.Test.YtcklgafpgdhnaaaGreatDoorPtao
set_option maxRecDepth 100000
set_option maxHeartbeats 4000000
open List renaming getElem_toArray → zA, getElem_cons_succ → zB, getElem_cons_zero → zC, setIfInBounds_toArray → zD, set_cons_succ → zE, set_cons_zero → zF
namespace Go.Proofs.YtcklgafpgdhnaaaGreatDoor
open Go.RowKit

structure Op6 where
 K : Int
 X : Int
 A : Int
 B : Int
 s : ByteArray
 t : ByteArray

def Op6.cells (o : Op6) : List Value := [.int .i64 o.K, .int .i64 o.X, .int .i64 o.A, .int .i64 o.B, .string o.s, .string o.t]
theorem Op6.opc (o : Op6) : o.cells.toArray = opc o.K o.X o.A o.B o.s o.t := rfl
def Op6.ok (o : Op6) : Prop := I64 o.K ∧ I64 o.X ∧ I64 o.A ∧ I64 o.B

def Scr (w : World) (ad : Addr) (os : List Op6) : Prop := ∀ (i : Nat) (o : Op6), os[i]? = some o → ∀ (j : Nat) (v : Value), o.cells[j]? = some v → w.cell? ((ad.add (i * 6)).add j) = some v

theorem Scr.below {w w' : World} {ad : Addr} {os : List Op6} (h : Scr w ad os) (hk : Kept [] w w') : Scr w' ad os := by
 intro i o hi j v hv
 have := h i o hi j v hv
 rw [World.cell?_of_block (w := w) (hk.block _ (block_lt_of_cell this) (by simp))]
 exact this

theorem sop : (Tryz.prog.info? 64).map (·.size) = some 6 := by kernel_rfl

theorem Scr.load {w : World} {ad : Addr} {os : List Op6} (h : Scr w ad os) {i : Nat} {o : Op6} (hi : os[i]? = some o) : (loadVar 64 (ad.add (i * 6))).run Tryz.prog w = .ok (.agg (opc o.K o.X o.A o.B o.s o.t)) w := by
 have hl := run_loadCells_list (P := Tryz.prog) w (ad.add (i * 6)) o.cells (h i o hi)
 have hs := sop
 cases hq : Tryz.prog.info? 64 with
 | none => simp [hq] at hs
 | some ie =>
  have hsz : ie.size = 6 := by simpa [hq] using hs
  have hagg : (isAgg 64).run Tryz.prog w = .ok true w := by
   unfold isAgg
   rw [Sem.run_bind, run_underlying Tryz.underlying64 w]
   rfl
  have hl6 : (loadCells (ad.add (i * 6)) 6).run Tryz.prog w = .ok o.cells.toArray w := hl
  simp [loadVar, Sem.run_bind, hagg, sizeOf, typeInfo, hq, hsz, hl6, Op6.opc]

theorem exec_indexA {P : Program} {o : Oper} {a : Act} {w : World} (t : TypeId) (x ix : Operand) (ho : o.op = .indexAddr t x ix) (ad : Addr) (n cap i k : Nat) (hx : a.eval x = .slice (some ad) n cap) (hix : a.eval ix = .int .i64 i)
  (e : TypeId) (hu : P.underlying t = some (.slice e)) (hs : (P.info? e).map (·.size) = some k) (hi : i < n) :
  (execOp a.eval o).run P w = .ok (.value (.pointer (some (ad.add (i * k))))) w := by
 cases hq : P.info? e with
 | none => simp [hq] at hs
 | some ie =>
  have hsz : ie.size = k := by simpa [hq] using hs
  simp [execOp, ho, hx, hix, Instr.indexAt, asIntOf, run_underlying hu, sizeOf, typeInfo, hq, hsz, Result.andThen, hi]

theorem WI.init (I : Iface) (w : World) (hG : Glob w) : WI I w.heap.size (w.alloc (.cells #[.slice none 0 0, .slice none 0 0] 104)) w.heap.size [] 0 := by
 have k := (Kept.refl [] w).alloc (.cells #[.slice none 0 0, .slice none 0 0] 104)
 refine ⟨hG.kept k (by simp), hG.lt, k.size, Nat.le_refl _, ⟨_, _, [], heap_alloc_new _ _, World.ownsRow_nil _ _ _ _, by simp, World.ownsRow_nil _ _ _ _⟩, by simp, by simp⟩

theorem upTo_some (I : Iface) (ad : Addr) (cap : Nat) (os : List Op6) (w : World) (hG : Glob w) (h : Scr w ad os) (hlen : os.length ≤ 16384) (hK : ∀ o ∈ os, Kd o.K ∧ o.ok) :
  Calls Tryz.prog 38 #[.slice (some ad) os.length cap] w fun e w' => e = .returned (.int .i64 (-1)) ∧ Kept [] w w' := by
 have hI0 := WI.init I w hG
 have hk0 := (Kept.refl [] w).alloc (.cells #[.slice none 0 0, .slice none 0 0] 104)
 go_enter Tryz.func38, Tryz.ntmps38
 go_wp2
 go_loopw [4] (fun i wr => ∃ (k : Nat) (ds : List Dk) (j : Nat), k ≤ os.length ∧ i = .int .i64 k ∧ WI I w.heap.size wr w.heap.size ds j ∧ ds.length ≤ k ∧ j ≤ k ∧ (∀ d ∈ ds, d.le k) ∧ Kept [] w wr) (fun i _ => os.length - (intOf i).toNat)
 case atStart => exact ⟨0, [], 0, Nat.zero_le _, rfl, hI0, Nat.le_refl _, Nat.le_refl _, by simp, hk0⟩
 case round =>
  obtain ⟨k, ds, j, hk, rfl, hI, h1, h2, h3, hkr⟩ := hrel
  by_cases hlt : k < os.length
  ·obtain ⟨o, ho⟩ : ∃ o, os[k]? = some o := ⟨_, List.getElem?_eq_getElem hlt⟩
   have hsc := h.below hkr
   have hload := hsc.load ho
   obtain ⟨hKd, hoK, hoX, hoA, hoB⟩ := hK o (List.mem_of_getElem? ho)
   have HS : Hid (Calls Tryz.prog 63 #[.pointer (some ⟨w.heap.size, 0, none⟩), .agg (opc o.K o.X o.A o.B o.s o.t)] wr (StepR I w.heap.size w.heap.size (k + 1) true wr)) :=
    step_any I w.heap.size o.K o.X o.A o.B o.s o.t w.heap.size j k ds wr hI h1 h2 h3 (by omega) hKd hoX hoA hoB
   clear hI h1 h2 h3 hsc hoK hoX hoA hoB hKd
   go_wp2_with (first
    | (refine wpList_val rfl _ _ (exec_indexA 22 (.tmp 15) (.tmp 16) rfl ad os.length cap k 6 rfl rfl 64 Tryz.underlying22 sop hlt) ?_)
    | (refine wpList_load_seg rfl 64 (.tmp 17) rfl (ad.add (k * 6)) rfl _ hload ?_)
    | (go_at_call 63; refine HS.out.mono ?_; rintro e w2 ⟨rfl, ds', j', hI2, h12, h22, h32, hB2⟩; have hk2 : Kept [] w w2 := Kept.of_below (hkr.below.trans hB2); clear hB2 hload))
   go_roundw
   case rel => exact ⟨k + 1, ds', j', by omega, by go_num, hI2, h12, h22, h32, hk2⟩
   case measure => simp [intOf]; omega
  ·have hge : ¬ (k : Int) < (os.length : Int) := by omega
   go_wp2
   go_ret
   exact ⟨rfl, hkr⟩

end Go.Proofs.YtcklgafpgdhnaaaGreatDoor

namespace Go.Proofs.YtcklgafpgdhnaaaGreatDoor
open Go.RowKit

theorem upTo_none (ao : Option Addr) (cap : Nat) (w : World) :
  Calls Tryz.prog 38 #[.slice ao 0 cap] w fun e w' => e = .returned (.int .i64 (-1)) ∧ Kept [] w w' := by
 go_enter Tryz.func38, Tryz.ntmps38
 go_wp2
 refine wp_loop_rounds 1 ?_
 rw [rounds_succ]
 go_wp2
 go_ret
 exact ⟨rfl, (Kept.refl [] w).alloc _⟩

def SmallR (n : Nat) (w : World) (e : Ending) (w' : World) : Prop := ∃ b, e = .returned (.bool b) ∧ (b = true → n ≤ 16384) ∧ Kept [] w w'

theorem small_none (ao : Option Addr) (cap : Nat) (w : World) : Calls Tryz.prog 37 #[.slice ao 0 cap] w (SmallR 0 w) := by
 go_enter Tryz.func37, Tryz.ntmps37
 go_wp2
 refine wp_loop_rounds 1 ?_
 rw [rounds_succ]
 go_wp2
 go_ret
 exact ⟨_, rfl, fun _ => Nat.zero_le _, Kept.refl [] w⟩

theorem exec_lenS {P : Program} {o : Oper} {a : Act} {w : World} (x : Operand) (t : TypeId) (ho : o.op = .call { callee := .builtin .len, args := #[x], argTypes := #[t] }) (b : ByteArray) (hx : a.eval x = .string b) (hu : P.underlying t = some .string) :
  (execOp a.eval o).run P w = .ok (.value (.int .i64 b.size)) w := by
 have hl : (Builtin.len_ #[t] o.type #[.string b]).run P w = .ok (goInt b.size) w := by
  simp [Builtin.len_, run_underlying hu]
 simp [execOp, ho, resolve, invoke, builtin, hx, hl, goInt]

theorem exec_add {o : Oper} {a : Act} {w : World} (x y : Operand) (ho : o.op = .binOp .add 3 x y 3) (m n : Int) (hx : a.eval x = .int .i64 m) (hy : a.eval y = .int .i64 n) :
  (execOp a.eval o).run Tryz.prog w = .ok (.value (.int .i64 (IntKind.i64.wrap (m + n)))) w := by
 have hb : (binOp .add 3 (.int .i64 m) (.int .i64 n)).run Tryz.prog w = .ok (.int .i64 (IntKind.i64.wrap (m + n))) w := by
  simp [go_sem]
 have hg : (eqGuard .add 3 x y (.int .i64 m) (.int .i64 n)).run Tryz.prog w = .ok () w := by simp [eqGuard]
 simp [execOp, ho, hx, hy, hb, hg]

theorem small_some (ad : Addr) (cap : Nat) (os : List Op6) (w : World) (h : Scr w ad os) :
  Calls Tryz.prog 37 #[.slice (some ad) os.length cap] w (SmallR os.length w) := by
 by_cases hbig : (16384 : Int) < (os.length : Int)
 ·go_enter Tryz.func37, Tryz.ntmps37
  go_wp2
  go_ret
  exact ⟨false, rfl, (fun h => by cases h), Kept.refl [] w⟩
 have hd : decide ((16384 : Int) < (os.length : Int)) = false := by simpa using hbig
 go_enter Tryz.func37, Tryz.ntmps37
 go_wp2
 go_loopw [3, 4] (fun n i wr => ∃ (k : Nat) (m : Int), k ≤ os.length ∧ i = .int .i64 k ∧ n = .int .i64 m ∧ Kept [] w wr) (fun _ i _ => os.length - (intOf i).toNat)
 case atStart => exact ⟨0, _, Nat.zero_le _, rfl, rfl, Kept.refl [] w⟩
 case round =>
  obtain ⟨k, m, hk, rfl, rfl, hkr⟩ := hrel
  by_cases hlt : k < os.length
  ·obtain ⟨o, ho⟩ : ∃ o, os[k]? = some o := ⟨_, List.getElem?_eq_getElem hlt⟩
   have hsc := h.below hkr.drew
   have l4 := hsc k o ho 4 _ rfl
   have l5 := hsc k o ho 5 _ rfl
   go_wp2
   refine wp_region_S (fun W => W = wr.drew) (by kernel_rfl) ?_
   refine wpAnyH_take (i := 0) (v := .int .i64 m) rfl (by kernel_rfl) (by kernel_rfl) (by kernel_rfl) (fun _ _ _ h => h) (Or.inl ⟨by rfl, fun W hW => by rfl⟩) rfl ?_
   simp only [Act.put, zA, zC, zD, zE, zF]
   refine wpAnyH_take (i := 1) (v := .slice (some ad) os.length cap) rfl (by kernel_rfl) (by kernel_rfl) (by kernel_rfl) (fun _ _ _ h => h) (Or.inl ⟨by rfl, fun W hW => by rfl⟩) rfl ?_
   simp only [Act.put, zA, zB, zC, zD, zE, zF]
   refine wpAnyH_take (i := 2) (v := .int .i64 k) rfl (by kernel_rfl) (by kernel_rfl) (by kernel_rfl) (fun _ _ _ h => h) (Or.inl ⟨by rfl, fun W hW => by rfl⟩) rfl ?_
   simp only [Act.put, zA, zB, zC, zD, zE, zF]
   refine wpAnyH_take (i := 3) (v := .pointer (some (ad.add (k * 6)))) rfl (by kernel_rfl) (by kernel_rfl) (by kernel_rfl) (fun _ _ _ h => h) (Or.inl ⟨by rfl, fun W hW => exec_indexA 22 (.tmp 17) (.tmp 18) rfl ad os.length cap k 6 rfl rfl 64 Tryz.underlying22 sop hlt⟩) rfl ?_
   simp only [Act.put, zA, zB, zC, zD, zE, zF]
   refine wpAnyH_take (i := 4) (v := .pointer (some ((ad.add (k * 6)).add 4))) rfl (by kernel_rfl) (by kernel_rfl) (by kernel_rfl) (fun _ _ _ h => h) (Or.inl ⟨by rfl, fun W hW => exec_field 64 (.tmp 19) 4 rfl (ad.add (k * 6)) rfl 4 (by rfl)⟩) rfl ?_
   simp only [Act.put, zA, zB, zC, zD, zE, zF]
   refine wpAnyH_take (i := 5) (v := .string o.s) rfl (by kernel_rfl) (by kernel_rfl) (by kernel_rfl) (fun _ _ _ h => h) (Or.inl ⟨by rfl, fun W hW => exec_load 9 (.tmp 20) rfl _ rfl _ (run_load1 Tryz.underlying9 rfl (by rw [hW]; exact l4))⟩) rfl ?_
   simp only [Act.put, zA, zB, zC, zD, zE, zF]
   refine wpAnyH_take (i := 6) (v := .int .i64 o.s.size) rfl (by kernel_rfl) (by kernel_rfl) (by kernel_rfl) (fun _ _ _ h => h) (Or.inl ⟨by rfl, fun W hW => exec_lenS (.tmp 21) 9 rfl _ rfl Tryz.underlying9⟩) rfl ?_
   simp only [Act.put, zA, zB, zC, zD, zE, zF]
   refine wpAnyH_take (i := 7) (v := .int .i64 (IntKind.i64.wrap (m + o.s.size))) rfl (by kernel_rfl) (by kernel_rfl) (by kernel_rfl) (fun _ _ _ h => h) (Or.inl ⟨by rfl, fun W hW => exec_add (.tmp 16) (.tmp 22) rfl _ _ rfl rfl⟩) rfl ?_
   simp only [Act.put, zA, zB, zC, zD, zE, zF]
   refine wpAnyH_take (i := 8) (v := .slice (some ad) os.length cap) rfl (by kernel_rfl) (by kernel_rfl) (by kernel_rfl) (fun _ _ _ h => h) (Or.inl ⟨by rfl, fun W hW => by rfl⟩) rfl ?_
   simp only [Act.put, zA, zB, zC, zD, zE, zF]
   refine wpAnyH_take (i := 9) (v := .int .i64 k) rfl (by kernel_rfl) (by kernel_rfl) (by kernel_rfl) (fun _ _ _ h => h) (Or.inl ⟨by rfl, fun W hW => by rfl⟩) rfl ?_
   simp only [Act.put, zA, zB, zC, zD, zE, zF]
   refine wpAnyH_take (i := 10) (v := .pointer (some (ad.add (k * 6)))) rfl (by kernel_rfl) (by kernel_rfl) (by kernel_rfl) (fun _ _ _ h => h) (Or.inl ⟨by rfl, fun W hW => exec_indexA 22 (.tmp 24) (.tmp 25) rfl ad os.length cap k 6 rfl rfl 64 Tryz.underlying22 sop hlt⟩) rfl ?_
   simp only [Act.put, zA, zB, zC, zD, zE, zF]
   refine wpAnyH_take (i := 11) (v := .pointer (some ((ad.add (k * 6)).add 5))) rfl (by kernel_rfl) (by kernel_rfl) (by kernel_rfl) (fun _ _ _ h => h) (Or.inl ⟨by rfl, fun W hW => exec_field 64 (.tmp 26) 5 rfl (ad.add (k * 6)) rfl 5 (by rfl)⟩) rfl ?_
   simp only [Act.put, zA, zB, zC, zD, zE, zF]
   refine wpAnyH_take (i := 12) (v := .string o.t) rfl (by kernel_rfl) (by kernel_rfl) (by kernel_rfl) (fun _ _ _ h => h) (Or.inl ⟨by rfl, fun W hW => exec_load 9 (.tmp 27) rfl _ rfl _ (run_load1 Tryz.underlying9 rfl (by rw [hW]; exact l5))⟩) rfl ?_
   simp only [Act.put, zA, zB, zC, zD, zE, zF]
   refine wpAnyH_take (i := 13) (v := .int .i64 o.t.size) rfl (by kernel_rfl) (by kernel_rfl) (by kernel_rfl) (fun _ _ _ h => h) (Or.inl ⟨by rfl, fun W hW => exec_lenS (.tmp 28) 9 rfl _ rfl Tryz.underlying9⟩) rfl ?_
   simp only [Act.put, zA, zB, zC, zD, zE, zF]
   refine wpAnyH_take (i := 14) (v := .int .i64 (IntKind.i64.wrap (IntKind.i64.wrap (m + o.s.size) + o.t.size))) rfl (by kernel_rfl) (by kernel_rfl) (by kernel_rfl) (fun _ _ _ h => h) (Or.inl ⟨by rfl, fun W hW => exec_add (.tmp 23) (.tmp 29) rfl _ _ rfl rfl⟩) rfl ?_
   simp only [Act.put, zA, zB, zC, zD, zE, zF]
   refine wpAnyH_take (i := 15) (v := .int .i64 (IntKind.i64.wrap (IntKind.i64.wrap (m + o.s.size) + o.t.size))) rfl (by kernel_rfl) (by kernel_rfl) (by kernel_rfl) (fun _ _ _ h => h) (Or.inl ⟨by rfl, fun W hW => by rfl⟩) rfl ?_
   simp only [Act.put, zA, zB, zC, zD, zE, zF]
   refine wpAnyH_done (by kernel_rfl) ?_ _
   have hk2 := hkr.drew
   generalize IntKind.i64.wrap (IntKind.i64.wrap (m + o.s.size) + o.t.size) = m2 at *
   clear l4 l5 hsc
   generalize wr.drew = w2 at *
   by_cases hm : 16384 < m2
   ·go_wp2
    go_ret
    exact ⟨false, rfl, (fun h => by cases h), hk2⟩
   ·have hdm : decide (16384 < m2) = false := by simpa using hm
    go_wp2
    go_roundw
    case rel => exact ⟨k + 1, m2, by omega, by go_num, rfl, hk2⟩
    case measure => simp [intOf]; omega
  ·have hge : ¬ (k : Int) < (os.length : Int) := by omega
   go_wp2
   go_ret
   exact ⟨true, rfl, fun _ => by omega, hkr⟩

end Go.Proofs.YtcklgafpgdhnaaaGreatDoor

namespace Go.Proofs.YtcklgafpgdhnaaaGreatDoor
open Go.RowKit

def flat (os : List Op6) : List Value := os.flatMap Op6.cells
theorem length_cells (o : Op6) : o.cells.length = 6 := rfl
theorem length_flat (os : List Op6) : (flat os).length = os.length * 6 := by
 induction os with
 | nil => rfl
 | cons o r ih =>
  have : flat (o :: r) = o.cells ++ flat r := rfl
  rw [this, List.length_append, ih, length_cells, List.length_cons]
  omega
theorem flat_get (os : List Op6) : ∀ (i : Nat) (o : Op6), os[i]? = some o → ∀ (j : Nat) (v : Value), o.cells[j]? = some v → (flat os)[i * 6 + j]? = some v := by
 induction os with
 | nil => intro i o h; simp at h
 | cons x r ih =>
  intro i o h j v hv
  have hj : j < 6 := by have := (List.getElem?_eq_some_iff.1 hv).1; rwa [length_cells] at this
  have e : flat (x :: r) = x.cells ++ flat r := rfl
  rw [e]
  cases i with
  | zero =>
   simp at h; subst h
   rw [List.getElem?_append_left (by rw [length_cells]; omega)]
   simpa using hv
  | succ i =>
   rw [List.getElem?_append_right (by rw [length_cells]; omega), length_cells]
   have := ih i o (by simpa using h) j v hv
   rw [show (i + 1) * 6 + j - 6 = i * 6 + j by omega]
   exact this
theorem flat_snoc (os : List Op6) (o : Op6) : flat os ++ o.cells = flat (os ++ [o]) := by simp [flat]
theorem one_cells (o : Op6) : ∀ v ∈ o.cells, v.oneCell' = true := by
 intro v hv
 simp only [Op6.cells, List.mem_cons, List.not_mem_nil, or_false] at hv
 rcases hv with rfl | rfl | rfl | rfl | rfl | rfl <;> rfl

theorem Scr.of_owns {w : World} {base g cap : Nat} {os : List Op6} (h : w.ownsRow base 64 6 (.slice (some ⟨g, 0, none⟩) os.length cap) os.length (flat os)) : Scr w ⟨g, 0, none⟩ os := by
 obtain ⟨_, ⟨h0, _⟩ | ⟨g', cap', cur, e, _, hh, _, _, _, htk⟩⟩ := h
 ·cases h0
 cases e
 intro i o hi j v hv
 have hj : j < 6 := by have := (List.getElem?_eq_some_iff.1 hv).1; rwa [length_cells] at this
 have hil : i < os.length := (List.getElem?_eq_some_iff.1 hi).1
 have hf := flat_get os i o hi j v hv
 rw [← htk, List.getElem?_take, if_pos (by omega)] at hf
 rw [add_lit, add_lit, Nat.zero_add, cell_of_row _ _ _ _ _ _ hh]
 simpa using hf

theorem iop : (Tryz.prog.info? 64).map (fun i => (i.zero, i.size, i.bytes)) = some (some (.agg #[.int .i64 0, .int .i64 0, .int .i64 0, .int .i64 0, .string ⟨#[]⟩, .string ⟨#[]⟩]), 6, 64) := by kernel_rfl

def KdC (w : World) (kb : Nat) (ks : List Int) : Prop := w.heap[kb]? = some (.cells (ks.map (Value.int .i64)).toArray 3 (0, 0))

def TrueR (w : World) (e : Ending) (w' : World) : Prop := e = .returned (.bool true) ∧ Kept [] w w'

def PR (w : World) (os : List Op6) (v i : Value) (wr : World) : Prop := ∃ (k : Nat) (fs : List Op6), k ≤ os.length ∧ i = .int .i64 k ∧ fs.length ≤ k ∧ (∀ o ∈ fs, Kd o.K ∧ o.ok) ∧ wr.ownsRow w.heap.size 64 6 v fs.length (flat fs) ∧ Kept [] w wr

def InI (K : Int) (ks : List Int) (W : World) (b i : Value) (wr : World) : Prop := ∃ (m : Nat), m ≤ ks.length ∧ i = .int .i64 m ∧ b = .bool (decide (K < 4) || (ks.take m).contains K) ∧ wr = W

theorem contains_snoc (l : List Int) (a K : Int) : (l ++ [a]).contains K = (l.contains K || K == a) := by
 by_cases h : K = a <;> simp [h]

theorem plays_some (I : Iface) (ad : Addr) (cap kb kn kcap : Nat) (ks : List Int) (hks : ∀ k ∈ ks, Kd k) (hkn : ks.length = kn) (hkl : ks.length ≤ 100) (os : List Op6) (w : World) (hG : Glob w) (h : Scr w ad os) (hok : ∀ o ∈ os, o.ok) (hkb : KdC w kb ks) :
  Calls Tryz.prog 15 #[.slice (some ad) os.length cap, .slice (some ⟨kb, 0, none⟩) kn kcap] w (TrueR w) := by
 subst hkn
 obtain ⟨ie, hie, hz1, hz2, hz3⟩ := info_parts iop
 go_enter Tryz.func15, Tryz.ntmps15
 go_wp2_with fail
 refine (small_some ad cap os w h).mono ?_
 rintro e w1 ⟨b, rfl, hb, hk1⟩
 cases b with
 | false =>
  go_wp2
  go_ret
  exact ⟨rfl, hk1⟩
 | true =>
  have hlen := hb rfl
  clear hb
  go_wp2
  go_loopw [6, 7] (fun v i wr => PR w os v i wr) (fun _ i _ => os.length - (intOf i).toNat)
  case atStart => exact ⟨0, [], Nat.zero_le _, rfl, Nat.le_refl _, by simp, World.ownsRow_nil _ _ _ _, hk1⟩
  case round =>
   obtain ⟨k, fs, hk, rfl, hfl, hfK, hown, hkr⟩ := hrel
   by_cases hlt : k < os.length
   ·obtain ⟨o, ho⟩ : ∃ o, os[k]? = some o := ⟨_, List.getElem?_eq_getElem hlt⟩
    have hsc := h.below hkr
    have hload := hsc.load ho
    have hoko := hok o (List.mem_of_getElem? ho)
    have l0 := hsc k o ho 0 _ rfl
    have hkb' : KdC wr kb ks := hkr.get hkb (by simp)
    have hbl : w.heap.size ≤ wr.heap.size := hkr.size
    have hbs := run_build1 (P := Tryz.prog) wr 22 64 o.cells.toArray ie _ Tryz.underlying22 hie hz1 hz2 (by simp [length_cells]) (by simp [length_cells])
    have ke : ∀ (m : Nat) (x : Int), ks[m]? = some x → wr.cell? ⟨kb, m, none⟩ = some (.int .i64 x) := by
     intro m x hx
     exact cellAt hkb' (by simp [hx])
    have HGO : Hid (∀ (v4 : Value) (w4 : World), w4.ownsRow w.heap.size 64 6 v4 (fs.length + 1) (flat fs ++ o.cells) → Kept [] w w4 → Kd o.K → PR w os v4 (.int .i64 ((k : Int) + 1)) w4) := by
     intro v4 w4 h1 h2 h3
     refine ⟨k + 1, fs ++ [o], by omega, by simp, by simp; omega, ?_, by rw [flat_snoc] at h1; simpa using h1, h2⟩
     intro x hx
     rcases List.mem_append.1 hx with hx | hx
     ·exact hfK x hx
     ·simp at hx; subst hx; exact ⟨h3, hoko⟩
    have HNO : Hid (PR w os u6 (.int .i64 ((k : Int) + 1)) wr) := ⟨k + 1, fs, by omega, by simp, by omega, hfK, hown, hkr⟩
    have HKE : Hid _ := ke
    clear hsc hkb' hfK ke
    have hin0 : ∀ (b : Bool), b = decide (o.K < 4) → InI o.K ks wr (.bool b) (.int .i64 0) wr := by
     intro b hb; exact ⟨0, Nat.zero_le _, rfl, by rw [hb]; simp, rfl⟩
    go_wp2_with (first
     | (refine wpList_val rfl _ _ (exec_indexA 22 (.tmp 21) (.tmp 22) rfl ad os.length cap k 6 rfl rfl 64 Tryz.underlying22 sop hlt) ?_)
     | (refine wpList_val rfl _ _ (exec_field 64 (.tmp 23) 0 rfl (ad.add (k * 6)) rfl 0 (by rfl)) ?_)
     | (refine wpList_load_seg rfl 3 (.tmp 24) rfl _ rfl _ (run_load1 Tryz.underlying3 rfl l0) ?_))
    generalize hW : wr = W0 at *
    have HW : Hid _ := hW
    clear hW
    go_loopw [9, 10] (fun b i wr2 => InI o.K ks W0 b i wr2) (fun _ i _ => ks.length - (intOf i).toNat)
    case atStart => exact hin0 _ rfl
    case round =>
     obtain ⟨m, hm, rfl, rfl, ew⟩ := hrel
     subst ew
     have STEP : Hid (∀ x, ks[m]? = some x → (decide (o.K < 4) || (ks.take (m + 1)).contains o.K) = ((decide (o.K < 4) || (ks.take m).contains o.K) || o.K == x)) := by
      intro x hx
      rw [take_snoc ks m x hx, contains_snoc, Bool.or_assoc]
     have LAST : Hid (m = ks.length → (decide (o.K < 4) || (ks.take m).contains o.K) = true → Kd o.K) := by
      intro hml hb
      subst hml
      rw [List.take_length, Bool.or_eq_true, decide_eq_true_eq, List.contains_iff_mem] at hb
      rcases hb with hb | hb
      ·exact Or.inl hb
      ·exact hks _ hb
     generalize hbb : (decide (o.K < 4) || (ks.take m).contains o.K) = bb at *
     by_cases hml : m < ks.length
     ·obtain ⟨x, hx⟩ : ∃ x, ks[m]? = some x := ⟨_, List.getElem?_eq_getElem hml⟩
      have cx := HKE.out m x hx
      have st := STEP.out x hx
      clear hbb STEP
      have HST : Hid _ := st
      clear st
      cases bb with
      | true =>
       go_wp2
       go_roundw
       case rel => exact ⟨m + 1, by omega, by go_num, by rw [HST.out]; rfl, rfl⟩
       case measure => simp [intOf]; omega
      | false =>
       go_wp2
       go_roundw
       case rel => exact ⟨m + 1, by omega, by go_num, by rw [HST.out]; rfl, rfl⟩
       case measure => simp [intOf]; omega
     ·have hge : ¬ (m : Int) < (ks.length : Int) := by omega
      clear hbb STEP
      cases bb with
      | true =>
       have hKd := LAST.out (by omega) rfl
       go_wp2_with (first
        | (refine wpList_val rfl _ _ (exec_indexA 22 (.tmp 45) (.tmp 46) rfl ad os.length cap k 6 rfl rfl 64 Tryz.underlying22 sop hlt) ?_)
        | (refine wpList_load_seg rfl 64 (.tmp 47) rfl _ rfl _ hload ?_)
        | (refine wpList_new rfl _ _ (exec_buildSlice 22 1 (.tmp 48) rfl (.agg o.cells.toArray) rfl _ hbs) ?_; intro w3 n3 k3 _; have own3 := owns_kept hown k3 (by simp); have hb3 := k3.size)
        | (at_builtin; refine wpList_append_own _ rfl (.tmp 44) (.tmp 49) 22 rfl w.heap.size 64 ie _ 6 64 Tryz.underlying22 hie hz1 hz2 hz3 rfl (by decide) u6 fs.length (flat fs) rfl own3 ⟨_, 0, none⟩ 1 1 o.cells rfl rfl (row_src n3) (one_cells o) (by unfold maxLen; omega) (by omega) (by omega) ?_; intro v4 w4 hown4 hgr4 _; have k4 := grown_kept hgr4 u6.ownBlock.toList (by intro x hx; rw [hx]; simp); have k04 : Kept [] w w4 := (hkr.trans k3).trans2 k4 (by intro x hx; simp at hx; exact Or.inr (own3.lt x hx).1); have hP := HGO.out v4 w4 hown4 k04 hKd; clear hown4 hgr4 k4 own3 n3))
       go_roundw
       case rel => exact hP
       case measure => simp [intOf]; omega
      | false =>
       go_wp2
       go_roundw
       case rel => exact HNO.out
       case measure => simp [intOf]; omega
   ·have hge : ¬ (k : Int) < (os.length : Int) := by omega
    have hGr := hG.kept hkr (by simp)
    have HU : Hid (Calls Tryz.prog 38 #[u6] wr fun e w' => e = .returned (.int .i64 (-1)) ∧ Kept [] wr w') := by
     obtain ⟨p, c, rfl⟩ := owns_len hown
     by_cases h0 : fs.length = 0
     ·rw [h0]; exact upTo_none p c wr
     ·have hown' := hown
      obtain ⟨_, ⟨_, hz⟩ | ⟨g, cap', cur, e, _⟩⟩ := hown'
      ·omega
      ·cases e
       exact upTo_some I ⟨g, 0, none⟩ c fs wr hGr (Scr.of_owns hown) (by omega) hfK
    clear hown hfK hGr
    go_wp2_with (first | (go_at_call 38; refine HU.out.mono ?_; rintro e w2 ⟨rfl, hk2⟩))
    go_ret
    exact ⟨rfl, hkr.trans hk2⟩

end Go.Proofs.YtcklgafpgdhnaaaGreatDoor

namespace Go.Proofs.YtcklgafpgdhnaaaGreatDoor
open Go.RowKit

theorem plays_none (ao : Option Addr) (cap : Nat) (kv : Value) (w : World) : Calls Tryz.prog 15 #[.slice ao 0 cap, kv] w (TrueR w) := by
 go_enter Tryz.func15, Tryz.ntmps15
 go_wp2_with fail
 refine (small_none ao cap w).mono ?_
 rintro e w1 ⟨b, rfl, hb, hk1⟩
 cases b with
 | false =>
  go_wp2
  go_ret
  exact ⟨rfl, hk1⟩
 | true =>
  go_wp2
  refine wp_loop_rounds 1 ?_
  rw [rounds_succ]
  go_wp2_with (first | (go_at_call 38; refine (upTo_none _ _ _).mono ?_; rintro e w2 ⟨rfl, hk2⟩))
  go_ret
  exact ⟨rfl, hk1.trans hk2⟩

theorem Opens_some (I : Iface) (ad : Addr) (cap : Nat) (os : List Op6) (w : World) (hG : Glob w) (h : Scr w ad os) (hok : ∀ o ∈ os, o.ok) :
  Calls Tryz.prog 3 #[.slice (some ad) os.length cap] w (TrueR w) := by
 have k1 := (Kept.refl [] w).alloc (.cells #[.int .i64 5, .int .i64 10, .int .i64 11] 3)
 have n1 := heap_alloc_new w (.cells #[.int .i64 5, .int .i64 10, .int .i64 11] 3)
 have HP : Hid (Calls _ _ _ _ _) := plays_some I ad cap w.heap.size 3 3 [5, 10, 11] (by simp [Kd]) rfl (by simp) os _ (hG.kept k1 (by simp)) (h.below k1) hok n1
 clear n1
 go_enter Tryz.func3, Tryz.ntmps3
 go_wp2_with (first | (go_at_call 15; refine HP.out.mono ?_; rintro e w2 ⟨rfl, hk2⟩))
 go_ret
 exact ⟨rfl, k1.trans hk2⟩

theorem Opens_none (ao : Option Addr) (cap : Nat) (w : World) : Calls Tryz.prog 3 #[.slice ao 0 cap] w (TrueR w) := by
 have k1 := (Kept.refl [] w).alloc (.cells #[.int .i64 5, .int .i64 10, .int .i64 11] 3)
 have HP : Hid (∀ kv W, Calls Tryz.prog 15 #[.slice ao 0 cap, kv] W (TrueR W)) := fun kv W => plays_none ao cap kv W
 go_enter Tryz.func3, Tryz.ntmps3
 go_wp2_with (first | (go_at_call 15; refine (HP.out _ _).mono ?_; rintro e w2 ⟨rfl, hk2⟩))
 go_ret
 exact ⟨rfl, k1.trans hk2⟩

theorem Maps_some (I : Iface) (ad : Addr) (cap : Nat) (os : List Op6) (w : World) (hG : Glob w) (h : Scr w ad os) (hok : ∀ o ∈ os, o.ok) :
  Calls Tryz.prog 4 #[.slice (some ad) os.length cap] w (TrueR w) := by
 have k1 := (Kept.refl [] w).alloc (.cells #[.int .i64 10, .int .i64 11, .int .i64 12, .int .i64 13, .int .i64 14, .int .i64 15, .int .i64 17] 3)
 have n1 := heap_alloc_new w (.cells #[.int .i64 10, .int .i64 11, .int .i64 12, .int .i64 13, .int .i64 14, .int .i64 15, .int .i64 17] 3)
 have HP : Hid (Calls _ _ _ _ _) := plays_some I ad cap w.heap.size 7 7 [10, 11, 12, 13, 14, 15, 17] (by simp [Kd]) rfl (by simp) os _ (hG.kept k1 (by simp)) (h.below k1) hok n1
 clear n1
 go_enter Tryz.func4, Tryz.ntmps4
 go_wp2_with (first | (go_at_call 15; refine HP.out.mono ?_; rintro e w2 ⟨rfl, hk2⟩))
 go_ret
 exact ⟨rfl, k1.trans hk2⟩

theorem Maps_none (ao : Option Addr) (cap : Nat) (w : World) : Calls Tryz.prog 4 #[.slice ao 0 cap] w (TrueR w) := by
 have k1 := (Kept.refl [] w).alloc (.cells #[.int .i64 10, .int .i64 11, .int .i64 12, .int .i64 13, .int .i64 14, .int .i64 15, .int .i64 17] 3)
 have HP : Hid (∀ kv W, Calls Tryz.prog 15 #[.slice ao 0 cap, kv] W (TrueR W)) := fun kv W => plays_none ao cap kv W
 go_enter Tryz.func4, Tryz.ntmps4
 go_wp2_with (first | (go_at_call 15; refine (HP.out _ _).mono ?_; rintro e w2 ⟨rfl, hk2⟩))
 go_ret
 exact ⟨rfl, k1.trans hk2⟩

end Go.Proofs.YtcklgafpgdhnaaaGreatDoor
