import Derived.Test.YtnofaofjgjgkgaaGreatDoorStoD
import Derived.RangeFuncNested
import Derived.RangeFuncBound
import Derived.RangeFuncCalls
import Derived.RangeFuncLeaves
import Derived.Shelf.Abstract
import Derived.OwnWalkIn
import Derived.TacticsInMore
import Derived.LoopNIn
import Derived.LoopIn
namespace Go.Proofs.YtnofaofjgjgkgaaGreatDoor
open Go.RowKit Go.Shelf


theorem All_in (F : Fence) (n : Nat) (h : F.fn 65) (hro : F.round = none) (s lo hi : Value) (w : World) :
    CallsIn F n Tryz.prog 65 #[s, lo, hi] w fun e w' => e = .returned (.func (.func 80) #[] #[]) ∧ w' = w := by
  refine callsIn_of_wp Tryz.func65 rfl h ?_ hro
  simp only [Tryz.ntmps65, List.size_toArray, List.length_cons, List.length_nil, Nat.reduceAdd, Nat.reduceSub, Array.replicate_succ, Array.replicate_zero, List.push_toArray, List.append_toArray, List.nil_append, List.cons_append]
  gi_wp2
  go_ret
  exact ⟨rfl, rfl⟩

def noEnc : Empty → Array Value := fun _ => #[.nilIface, .nilIface]

theorem All1_stops (F : Fence) (n : Nat) (h : F.fn 80) (hro : F.round = none) (n₀ : Nat) (w : World) :
    SeqStopsK F n Tryz.prog 80 #[] noEnc (Below n₀) (fun _ => True) (fun _ => True) 0 w := by
  intro l J Jx W _ _ _ _ h0
  refine callsIn_of_wp Tryz.func80 rfl h ?_ hro
  simp only [Tryz.ntmps80, List.size_toArray, List.length_cons, List.length_nil, Nat.reduceAdd, Nat.reduceSub, Array.replicate_succ, Array.replicate_zero, List.push_toArray, List.append_toArray, List.nil_append, List.cons_append]
  gi_wp2
  go_end0
  exact ⟨⟨_, rfl⟩, .inl ⟨[], trivial, h0⟩⟩

theorem row_own {W W' : World} {row : Option Nat} {b : Nat} {cs : Array Value} {t : TypeId} {fr : Nat × Nat} (h : W.heap[b]? = some (.cells cs t fr)) (hg : W.grownBy W' row)
    (hr : ∀ r, row = some r → ∃ o : Obj, W.heap[r]? = some o ∧ o.isCells = false) : W'.heap[b]? = some (.cells cs t fr) := by
  refine (hg.block b (lt_heap h) ?_).trans h
  intro e
  obtain ⟨o, ho, hc⟩ := hr b e.symm
  rw [h] at ho
  cases ho
  cases hc

/-- the variables of Scan, in a world that they came to -/
def ScanV (w W : World) : Prop := W.heap[w.heap.size + 1]? = some (.cells #[.slice none 0 0] 80 (0, 0)) ∧ W.heap[w.heap.size + 1 + 1]? = some (.cells #[.nilIface] 52 (0, 0)) ∧ W.heap[w.heap.size + 1 + 1 + 1]? = some (.cells #[.slice none 0 0] 80 (0, 0))

theorem ScanV.init (w : World) : ScanV w ((((w.alloc (.cells #[.int .i64 1048576] 3)).alloc (.cells #[.slice none 0 0] 80)).alloc (.cells #[.nilIface] 52)).alloc (.cells #[.slice none 0 0] 80)) := by
  have z1 := heap_alloc_new (w.alloc (.cells #[.int .i64 1048576] 3)) (.cells #[.slice none 0 0] 80)
  have z2 := heap_alloc_new ((w.alloc (.cells #[.int .i64 1048576] 3)).alloc (.cells #[.slice none 0 0] 80)) (.cells #[.nilIface] 52)
  have z3 := heap_alloc_new (((w.alloc (.cells #[.int .i64 1048576] 3)).alloc (.cells #[.slice none 0 0] 80)).alloc (.cells #[.nilIface] 52)) (.cells #[.slice none 0 0] 80)
  simp only [World.size_alloc] at z1 z2 z3
  refine ⟨((Kept.refl [] _).alloc _).get (((Kept.refl [] _).alloc _).get z1 (by simp)) (by simp), ((Kept.refl [] _).alloc _).get z2 (by simp), z3⟩

set_option maxRecDepth 100000 in
set_option maxHeartbeats 2000000 in
theorem Scan_in (F : Fence) (n : Nat) (hS : F.fn 46) (hA : F.fn 65) (hA1 : F.fn 80) (hro : F.round = none) (hn : 3 ≤ n) (s lo hi : Value) (w : World) :
    CallsIn F n Tryz.prog 46 #[s, lo, hi, .int .i64 1048576] w fun e w' => e = .returned (.tuple #[.slice none 0 0, .nilIface]) ∧ Below w.heap.size w w' := by
  have h1 : 1 ≤ n := by omega
  refine callsIn_of_wp_marks Tryz.func46 rfl hS ?_ hro
  simp only [Tryz.ntmps46, List.size_toArray, List.length_cons, List.length_nil, Nat.reduceAdd, Nat.reduceSub, Array.replicate_succ, Array.replicate_zero, List.push_toArray, List.append_toArray, List.nil_append, List.cons_append]
  gi_wp2_with (gi_at_call 65; refine (All_in F (n - 1) hA hro _ _ _ _).mono ?_; rintro e w' ⟨rfl, rfl⟩)
  have hV0 := ScanV.init w
  have hB0 : Below w.heap.size w ((((w.alloc (.cells #[.int .i64 1048576] 3)).alloc (.cells #[.slice none 0 0] 80)).alloc (.cells #[.nilIface] 52)).alloc (.cells #[.slice none 0 0] 80)) :=
    (((((Kept.refl [] w).alloc _).alloc _).alloc _).alloc _).below
  refine wpIn_rangeFunc_ownF (α := Empty) hro h1 (gf := 80) (lb := #[]) rfl hA1 (enters_of Tryz.func80 (by kernel_rfl) rfl)
    (All1_stops F (n - 1) hA1 hro w.heap.size _) belowK_t (belowK_b (by simp; omega)) (Below.refl _ _) (fun _ => rfl)
    (fun _ W => ScanV w W ∧ Below w.heap.size w W)
    (fun _ _ _ => False)
    (OwnFrom.and (Own.from (fun s A B row hs hg hr => ⟨row_own hs.1 hg hr, row_own hs.2.1 hg hr, row_own hs.2.2 hg hr⟩) _) (ownFrom_below (Nat.le_refl _) (by simp; omega)))
    (fun _ _ _ _ _ hs _ _ => hs)
    ⟨hV0, hB0⟩ (fun x => x.elim) ?assign ?body ?done ?stop
  case assign => intro l x; exact x.elim
  case body => intro l pre x; exact x.elim
  case done =>
    rintro D ys W hD _ ⟨⟨v1, v2, v3⟩, hB⟩ hK
    have a3 : W.cell? ⟨w.heap.size + 1 + 1 + 1, 0, none⟩ = some (.slice none 0 0) := cellAt v3 rfl
    have a1 : W.cell? ⟨w.heap.size + 1, 0, none⟩ = some (.slice none 0 0) := cellAt v1 rfl
    have g1 : W.frozen? ⟨w.heap.size + 1, 0, none⟩ = false := frozen_of_row _ _ _ _ _ v1
    have k1 : Kept [w.heap.size + 1] W (W.setCell ⟨w.heap.size + 1, 0, none⟩ (.slice none 0 0)) := (Kept.refl _ _).setCell (Or.inl (by simp)) _
    have u1 := setCellAt (i := 0) (.slice none 0 0) v1
    have u2 := k1.get v2 (by simp)
    have a2 : (W.setCell ⟨w.heap.size + 1, 0, none⟩ (.slice none 0 0)).cell? ⟨w.heap.size + 1 + 1, 0, none⟩ = some .nilIface := cellAt u2 rfl
    have g2 : (W.setCell ⟨w.heap.size + 1, 0, none⟩ (.slice none 0 0)).frozen? ⟨w.heap.size + 1 + 1, 0, none⟩ = false := frozen_of_row _ _ _ _ _ u2
    have k2 : Kept [w.heap.size + 1 + 1] (W.setCell ⟨w.heap.size + 1, 0, none⟩ (.slice none 0 0)) ((W.setCell ⟨w.heap.size + 1, 0, none⟩ (.slice none 0 0)).setCell ⟨w.heap.size + 1 + 1, 0, none⟩ .nilIface) := (Kept.refl _ _).setCell (Or.inl (by simp)) _
    have t1 := k2.get u1 (by simp)
    have t2 := setCellAt (i := 0) .nilIface u2
    have hB2 := (hB.setCell (p := ⟨w.heap.size + 1, 0, none⟩) (by simp) (.slice none 0 0)).setCell (p := ⟨w.heap.size + 1 + 1, 0, none⟩) (by simp; omega) .nilIface
    have hK2 := ((KeepsOthers.setCell W ⟨w.heap.size + 1, 0, none⟩ (.slice none 0 0)).trans (KeepsOthers.setCell _ ⟨w.heap.size + 1 + 1, 0, none⟩ .nilIface)).same D _ hK rfl
    clear v1 v2 v3 u1 u2 k1 k2 hK
    gi_wp2
    refine ⟨by simp, .inl ⟨_, _, rfl, run_takeDeferred hK2, ?_⟩⟩
    have c1 := cell_kept (cellAt (j := 0) t1 rfl) (grownBy_putObj' _ D (.deferred none)) (fun r e => by cases e; exact ⟨_, hK2, rfl⟩)
    have c2 := cell_kept (cellAt (j := 0) t2 rfl) (grownBy_putObj' _ D (.deferred none)) (fun r e => by cases e; exact ⟨_, hK2, rfl⟩)
    refine ⟨.tuple #[.slice none 0 0, .nilIface], ?_, rfl, hB2.trans (belowK_b (w := w) (Nat.le_refl _) _ D _ _ (by simp at hD; omega) hK2 rfl rfl)⟩
    simp [results, Tryz.f46, go_sem, c1, c2]
  case stop =>
    rintro D c pre W _ _ h _
    exact h.elim

theorem Scan_any (s lo hi : Value) (w : World) :
    Calls Tryz.prog 46 #[s, lo, hi, .int .i64 1048576] w fun e w' => e = .returned (.tuple #[.slice none 0 0, .nilIface]) ∧ Kept [] w w' :=
  ((callsIn_wide (n := 3)).1 (Scan_in Fence.wide 3 trivial trivial trivial rfl (by omega) s lo hi w)).mono fun _ _ h => ⟨h.1, Kept.of_below h.2⟩

end Go.Proofs.YtnofaofjgjgkgaaGreatDoor
