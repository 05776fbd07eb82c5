import Derived.Test.YtnofaofjgjgkgaaGreatDoorLawJ
namespace Go.Proofs.YtnofaofjgjgkgaaGreatDoor
open Go.RowKit

/-- a step of a script -/
structure Op6 where
  K : Int
  X : Int
  A : Int
  B : Int
  s : ByteArray
  t : ByteArray

def Op6.cells (o : Op6) : List Value := [.int .i64 o.K, .int .i64 o.X, .int .i64 o.A, .int .i64 o.B, .string o.s, .string o.t]
theorem Op6.opc (o : Op6) : o.cells.toArray = opc o.K o.X o.A o.B o.s o.t := rfl
/-- its numbers are of 64 bits -/
def Op6.ok (o : Op6) : Prop := I64 o.K ∧ I64 o.X ∧ I64 o.A ∧ I64 o.B

/-- a script in memory -/
def Scr (w : World) (ad : Addr) (os : List Op6) : Prop := ∀ (i : Nat) (o : Op6), os[i]? = some o → ∀ (j : Nat) (v : Value), o.cells[j]? = some v → w.cell? ((ad.add (i * 6)).add j) = some v

theorem Scr.below {w w' : World} {ad : Addr} {os : List Op6} (h : Scr w ad os) (hk : Kept [] w w') : Scr w' ad os := by
  intro i o hi j v hv
  have := h i o hi j v hv
  rw [World.cell?_of_block (w := w) (hk.block _ (block_lt_of_cell this) (by simp))]
  exact this

theorem sop : (Tryz.prog.info? 27).map (·.size) = some 6 := by kernel_rfl

theorem Scr.load {w : World} {ad : Addr} {os : List Op6} (h : Scr w ad os) {i : Nat} {o : Op6} (hi : os[i]? = some o) : (loadVar 27 (ad.add (i * 6))).run Tryz.prog w = .ok (.agg (opc o.K o.X o.A o.B o.s o.t)) w := by
  have hl := run_loadCells_list (P := Tryz.prog) w (ad.add (i * 6)) o.cells (h i o hi)
  have hs := sop
  cases hq : Tryz.prog.info? 27 with
  | none => simp [hq] at hs
  | some ie =>
    have hsz : ie.size = 6 := by simpa [hq] using hs
    have hagg : (isAgg 27).run Tryz.prog w = .ok true w := by
      unfold isAgg
      rw [Sem.run_bind, run_underlying Tryz.underlying27 w]
      rfl
    have hl6 : (loadCells (ad.add (i * 6)) 6).run Tryz.prog w = .ok o.cells.toArray w := hl
    simp [loadVar, Sem.run_bind, hagg, sizeOf, typeInfo, hq, hsz, hl6, Op6.opc]

theorem exec_indexA {P : Program} {o : Oper} {a : Act} {w : World} (t : TypeId) (x ix : Operand) (ho : o.op = .indexAddr t x ix) (ad : Addr) (n cap i k : Nat) (hx : a.eval x = .slice (some ad) n cap) (hix : a.eval ix = .int .i64 i)
    (e : TypeId) (hu : P.underlying t = some (.slice e)) (hs : (P.info? e).map (·.size) = some k) (hi : i < n) :
    (execOp a.eval o).run P w = .ok (.value (.pointer (some (ad.add (i * k))))) w := by
  cases hq : P.info? e with
  | none => simp [hq] at hs
  | some ie =>
    have hsz : ie.size = k := by simpa [hq] using hs
    simp [execOp, ho, hx, hix, Instr.indexAt, asIntOf, run_underlying hu, sizeOf, typeInfo, hq, hsz, Result.andThen, hi]

/-- the script's world at its beginning -/
theorem WI.init (w : World) (hG : Glob w) : WI w.heap.size (w.alloc (.cells #[.slice none 0 0, .slice none 0 0] 32)) w.heap.size [] 0 := by
  have k := (Kept.refl [] w).alloc (.cells #[.slice none 0 0, .slice none 0 0] 32)
  refine ⟨hG.kept k (by simp), hG.lt, k.size, Nat.le_refl _, ⟨_, _, [], heap_alloc_new _ _, World.ownsRow_nil _ _ _ _, by simp, World.ownsRow_nil _ _ _ _⟩, by simp, by simp⟩

set_option maxRecDepth 100000 in
set_option maxHeartbeats 1000000 in
theorem upTo_some (ad : Addr) (cap : Nat) (os : List Op6) (w : World) (hG : Glob w) (h : Scr w ad os) (hlen : os.length ≤ 16384) (hK : ∀ o ∈ os, Kd o.K ∧ o.ok) :
    Calls Tryz.prog 10 #[.slice (some ad) os.length cap] w fun e w' => e = .returned (.int .i64 (-1)) ∧ Kept [] w w' := by
  have hI0 := WI.init w hG
  have hk0 := (Kept.refl [] w).alloc (.cells #[.slice none 0 0, .slice none 0 0] 32)
  go_enter Tryz.func10, Tryz.ntmps10
  go_wp2
  go_loopw [4] (fun i wr => ∃ (k : Nat) (ds : List Dk) (j : Nat), k ≤ os.length ∧ i = .int .i64 k ∧ WI w.heap.size wr w.heap.size ds j ∧ ds.length ≤ k ∧ j ≤ k ∧ (∀ d ∈ ds, d.k ≤ k) ∧ Kept [] w wr) (fun i _ => os.length - (intOf i).toNat)
  case atStart => exact ⟨0, [], 0, Nat.zero_le _, rfl, hI0, Nat.le_refl _, Nat.le_refl _, by simp, hk0⟩
  case round =>
    obtain ⟨k, ds, j, hk, rfl, hI, h1, h2, h3, hkr⟩ := hrel
    by_cases hlt : k < os.length
    · obtain ⟨o, ho⟩ : ∃ o, os[k]? = some o := ⟨_, List.getElem?_eq_getElem hlt⟩
      have hsc := h.below hkr
      have hload := hsc.load ho
      obtain ⟨hKd, hoK, hoX, hoA, hoB⟩ := hK o (List.mem_of_getElem? ho)
      have HS : Hid (Calls Tryz.prog 11 #[.pointer (some ⟨w.heap.size, 0, none⟩), .agg (opc o.K o.X o.A o.B o.s o.t)] wr (StepR w.heap.size w.heap.size (k + 1) true wr)) :=
        step_any w.heap.size o.K o.X o.A o.B o.s o.t w.heap.size j k ds wr hI h1 h2 h3 (by omega) hKd hoX hoA hoB
      clear hI h1 h2 h3 hsc hoK hoX hoA hoB hKd
      go_wp2_with (first
        | (refine wpList_val rfl _ _ (exec_indexA 22 (.tmp 15) (.tmp 16) rfl ad os.length cap k 6 rfl rfl 27 Tryz.underlying22 sop hlt) ?_)
        | (refine wpList_load_seg rfl 27 (.tmp 17) rfl (ad.add (k * 6)) rfl _ hload ?_)
        | (go_at_call 11; refine HS.out.mono ?_; rintro e w2 ⟨rfl, ds', j', hI2, h12, h22, h32, hB2⟩; have hk2 : Kept [] w w2 := Kept.of_below (hkr.below.trans hB2); clear hB2 hload))
      go_roundw
      case rel => exact ⟨k + 1, ds', j', by omega, by go_num, hI2, h12, h22, h32, hk2⟩
      case measure => simp [intOf]; omega
    · have hge : ¬ (k : Int) < (os.length : Int) := by omega
      go_wp2
      go_ret
      exact ⟨rfl, hkr⟩

end Go.Proofs.YtnofaofjgjgkgaaGreatDoor
