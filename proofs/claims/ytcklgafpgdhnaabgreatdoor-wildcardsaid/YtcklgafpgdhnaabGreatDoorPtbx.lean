import Derived.Test.YtcklgafpgdhnaabGreatDoorPtbv
import Derived.Test.YtcklgafpgdhnaabGreatDoorPtbw
import Derived.Test.YtcklgafpgdhnaabGreatDoorPtbo
import Derived.Test.YtcklgafpgdhnaabGreatDoorPtad
set_option maxRecDepth 100000
set_option maxHeartbeats 4000000
open List renaming getElem_toArray → zA, getElem_cons_succ → zB, getElem_cons_zero → zC, setIfInBounds_toArray → zD, set_cons_succ → zE, set_cons_zero → zF
namespace Go.Proofs.YtcklgafpgdhnaabGreatDoor
open Go.RowKit Go.Shelf
attribute [local go_sem] Oper.semAt_some

def SceI (w : World) (MO : Int) (pre : List Value) (A : World) : Prop := pre = [] ∧ ScV w MO (.slice none 0 0) A
def SceX (w : World) (c : Code) (_ : List Value) (A : World) : Prop := c = .ret ∧ ∃ err, A.heap[w.heap.size + 1]? = some (.cells #[.slice none 0 0] 25 (0, 0)) ∧ A.heap[w.heap.size + 1 + 1]? = some (.cells #[err] 35 (0, 0)) ∧ Chain A err 5 ∧ Below w.heap.size w A
theorem Chain.gr {w w' : World} {err : Value} {x : Int} {B : Nat} (h : Chain w err x) (g : Gr B w w') : Chain w' err x := by
 obtain ⟨f1, f2, o1, o2, rfl, h1, h2⟩ := h.ex
 exact ⟨f1, f2, o1, o2, rfl, g.row _ _ _ _ h1, g.row _ _ _ _ h2⟩

theorem Scan_closed (x : Nat) (lo hi : ByteArray) (mm : Int) (w : World) (h : Shut x w) :
  Calls Tryz.prog 25 #[.pointer (some ⟨x, 0, none⟩), .string lo, .string hi, .int .i64 mm] w fun e w' => ∃ err, e = .returned (.tuple #[.slice none 0 0, err]) ∧ Chain w' err 5 ∧ Kept [] w w' := by
 refine (callsIn_wide (n := 1)).1 (callsIn_of_wp_marks Tryz.func25 rfl trivial ?_ rfl)
 simp only [Tryz.ntmps25, List.size_toArray, List.length_cons, List.length_nil, Nat.reduceAdd, Nat.reduceSub, Array.replicate_succ, Array.replicate_zero, List.push_toArray, List.append_toArray, List.nil_append, List.cons_append]
 refine wpIn_mono (Q := NoP _) ?_ NoP.of
 refine wpIn_wide.2 ?_
 by_cases hm : mm < 1
 ·go_wp2_with (first | (go_at_call 51; refine (SAll_any x lo hi _).mono ?_; rintro e w1 ⟨rfl, hb1, hs1, hk1⟩))
  have hV0 := ScV.new w (0)
  obtain ⟨W0, eW0⟩ : ∃ W0, W0 = (((w.alloc (.cells #[.int .i64 (0)] 3)).alloc (.cells #[.slice none 0 0] 25)).alloc (.cells #[.nilIface] 35)).alloc (.cells #[.slice none 0 0] 25) := ⟨_, rfl⟩
  have s0 : W0.heap.size = w.heap.size + 1 + 1 + 1 + 1 := by rw [eW0, World.size_alloc, World.size_alloc, World.size_alloc, World.size_alloc]
  have k0 : Kept [] w W0 := by rw [eW0]; exact ((((Kept.refl [] w).alloc _).alloc _).alloc _).alloc _
  rw [← eW0] at hb1 hs1 hk1 hV0
  rw [s0] at hb1 hs1
  obtain ⟨MO, eMO⟩ : ∃ MO : Int, MO = (0) := ⟨_, rfl⟩
  rw [← eMO] at hV0
  have hV1 := hV0.gr (Nat.le_refl _) (Gr.of (B := w.heap.size) hk1)
  have K1 := k0.trans hk1
  have hit := SAll1_itrC [] x (w.heap.size + 1 + 1 + 1 + 1) (w.heap.size + 1 + 1 + 1 + 1 + 1) (w.heap.size + 1 + 1 + 1 + 1 + 1 + 1) lo hi w1 hb1 (K1.get h (by simp))
  have hge1 : w.heap.size + 7 ≤ w1.heap.size := by omega
  clear eW0 hV0 eMO hb1 hs1
  refine rangeO (α := Value) rfl (fun _ _ => by kernel_rfl) hit (fun _ => rfl)
   (SceI w MO) (SceX w) ?_ ?_ ⟨rfl, hV1⟩
   (fun p a' A => ∃ q, a' = { tmps := #[.pointer (some ⟨x, 0, none⟩), .string lo, .string hi, .int .i64 mm, undef, undef, undef, .pointer (some ⟨w.heap.size, 0, none⟩), .pointer (some ⟨w.heap.size + 1, 0, none⟩), .pointer (some ⟨w.heap.size + 1 + 1, 0, none⟩), .pointer (some ⟨w.heap.size + 1 + 1 + 1, 0, none⟩), .pointer (some ⟨q, 0, none⟩), p, .int .i64 mm, .bool true, .pointer (some ⟨x, 0, none⟩), .string lo, .string hi, .func (.func 85) #[] #[.pointer (some ⟨w.heap.size + 1 + 1 + 1 + 1, 0, none⟩), .pointer (some ⟨w.heap.size + 1 + 1 + 1 + 1 + 1, 0, none⟩), .pointer (some ⟨w.heap.size + 1 + 1 + 1 + 1 + 1 + 1, 0, none⟩)], .agg #[.string ⟨#[]⟩, .string ⟨#[]⟩], p, undef, undef, undef, undef, undef, undef, undef, undef, undef, undef, undef, undef], defers := [] }) ?_ ?_ ?assign ?body ?done ?stop
  ·rintro s A A' ⟨h1, h2⟩ hg
   exact ⟨h1, h2.gr (by omega) hg⟩
  ·rintro c s A A' ⟨h0, err, h1, h2, h3, h4⟩ hg
   exact ⟨h0, err, hg.row _ _ _ _ h1, hg.row _ _ _ _ h2, h3.gr hg, h4.trans ⟨hg.os, hg.tape, hg.output, by have := h4.size; have := hg.size; omega, fun k hk => hg.low k (Nat.lt_of_lt_of_le hk h4.size) (by omega)⟩⟩
  ·rintro p a' _ A A' ⟨q, h1⟩ hg
   exact ⟨q, h1⟩
  ·intro p _ A A' h hg; exact h.gr hg
  case assign =>
   rintro m l1 pre p A K _ hch hK
   obtain ⟨f1, f2, o1, o2, rfl, -, -⟩ := hch.ex
   clear hch
   dsimp only [encE]
   gi_wp2
   exact hK _ _ ((Kept.refl [] A).alloc _) ⟨A.heap.size, rfl⟩
  case body =>
   rintro m l1 pre p a' A ⟨rfl, hV⟩ hch ⟨q, rfl⟩ hlen
   have hAs := hV.bl.size
   have HC : Hid (Chain A p 5) := hch
   obtain ⟨f1, f2, o1, o2, rfl, hf1, hf2⟩ := hch.ex
   have c1 : A.cell? ⟨w.heap.size + 1, 0, none⟩ = some (.slice none 0 0) := cellAt hV.ro rfl
   have g1 : A.frozen? ⟨w.heap.size + 1, 0, none⟩ = false := frozen_of_row _ _ _ _ _ hV.ro
   have k1 : Kept [w.heap.size + 1] A (A.setCell ⟨w.heap.size + 1, 0, none⟩ (.slice none 0 0)) := (Kept.refl _ _).setCell (Or.inl (by simp)) _
   have u1 := setCellAt (i := 0) (.slice none 0 0) hV.ro
   have u2 := k1.get hV.re (by simp)
   have c2 : (A.setCell ⟨w.heap.size + 1, 0, none⟩ (.slice none 0 0)).cell? ⟨w.heap.size + 1 + 1, 0, none⟩ = some .nilIface := cellAt u2 rfl
   have g2 : (A.setCell ⟨w.heap.size + 1, 0, none⟩ (.slice none 0 0)).frozen? ⟨w.heap.size + 1 + 1, 0, none⟩ = false := frozen_of_row _ _ _ _ _ u2
   have k2 : Kept [w.heap.size + 1 + 1] (A.setCell ⟨w.heap.size + 1, 0, none⟩ (.slice none 0 0)) ((A.setCell ⟨w.heap.size + 1, 0, none⟩ (.slice none 0 0)).setCell ⟨w.heap.size + 1 + 1, 0, none⟩ (.iface 98 (.pointer (some ⟨f1, 0, none⟩)))) := (Kept.refl _ _).setCell (Or.inl (by simp)) _
   have t1 := k2.get u1 (by simp)
   have t2 := setCellAt (i := 0) (.iface 98 (.pointer (some ⟨f1, 0, none⟩))) u2
   have hB2 := (hV.bl.setCell (p := ⟨w.heap.size + 1, 0, none⟩) (by simp) (.slice none 0 0)).setCell (p := ⟨w.heap.size + 1 + 1, 0, none⟩) (by simp; omega) (.iface 98 (.pointer (some ⟨f1, 0, none⟩)))
   have nq1 : ∀ (f : Nat) (cs : Array Value), A.heap[f]? = some (.cells cs 101 (0, 0)) → ((A.setCell ⟨w.heap.size + 1, 0, none⟩ (.slice none 0 0)).setCell ⟨w.heap.size + 1 + 1, 0, none⟩ (.iface 98 (.pointer (some ⟨f1, 0, none⟩)))).heap[f]? = some (.cells cs 101 (0, 0)) := by
    intro f cs hf
    refine k2.get (k1.get hf ?_) ?_
    ·intro hm
     simp at hm
     rw [hm, hV.ro] at hf
     cases hf
    ·intro hm
     simp at hm
     rw [hm, hV.re] at hf
     cases hf
   have hKF : KeepsFrom w1.heap.size A ((A.setCell ⟨w.heap.size + 1, 0, none⟩ (.slice none 0 0)).setCell ⟨w.heap.size + 1 + 1, 0, none⟩ (.iface 98 (.pointer (some ⟨f1, 0, none⟩)))) := by
    refine ⟨Nat.le_trans k1.size k2.size, fun y o hy ho hc => ?_⟩
    have h2 := (k1.block y (lt_heap ho) (by simp; omega)).trans ho
    exact (k2.block y (lt_heap h2) (by simp; omega)).trans h2
   have FIN : Hid (KeepsFrom w1.heap.size A ((A.setCell ⟨w.heap.size + 1, 0, none⟩ (.slice none 0 0)).setCell ⟨w.heap.size + 1 + 1, 0, none⟩ (.iface 98 (.pointer (some ⟨f1, 0, none⟩)))) ∧ SceX w .ret ([] ++ [.iface 98 (.pointer (some ⟨f1, 0, none⟩))]) ((A.setCell ⟨w.heap.size + 1, 0, none⟩ (.slice none 0 0)).setCell ⟨w.heap.size + 1 + 1, 0, none⟩ (.iface 98 (.pointer (some ⟨f1, 0, none⟩))))) := ⟨hKF, rfl, _, t1, t2, ⟨f1, f2, o1, o2, rfl, nq1 _ _ hf1, nq1 _ _ hf2⟩, hB2⟩
   clear hV HC hch hf1 hf2 k1 k2 u1 u2 t1 t2 hB2 nq1 hKF
   gi_wp2
   exact FIN.out
  case done =>
   rintro D xs A hD ⟨e, rfl⟩ ⟨h1, _⟩ hdf
   cases h1
  case stop =>
   rintro D c pre A hD hpre ⟨rfl, err, h1, h2, h3, h4⟩ hdf
   have c1 := cell_kept (cellAt (j := 0) h1 rfl) (grownBy_putObj' _ D (.deferred none)) (fun r e => by cases e; exact ⟨_, hdf, rfl⟩)
   have c2 := cell_kept (cellAt (j := 0) h2 rfl) (grownBy_putObj' _ D (.deferred none)) (fun r e => by cases e; exact ⟨_, hdf, rfl⟩)
   have FIN : Hid (Chain (A.putObj D (.deferred none)) err 5 ∧ Kept [] w (A.putObj D (.deferred none))) := ⟨h3.gr (Gr.put (B := 0) _ (Nat.zero_le _) hdf rfl), Kept.of_below (h4.trans (belowK_b (w := w) (Nat.le_refl _) _ D _ _ (by omega) hdf rfl rfl))⟩
   go_wp2
   refine ⟨by simp, .inl ⟨_, _, rfl, run_takeDeferred hdf, ?_⟩⟩
   refine ⟨.tuple #[.slice none 0 0, err], ?_, err, rfl, FIN.out⟩
   simp [results, Tryz.f25, go_sem, c1, c2]
 ·go_wp2_with (first | (go_at_call 51; refine (SAll_any x lo hi _).mono ?_; rintro e w1 ⟨rfl, hb1, hs1, hk1⟩))
  have hV0 := ScV.new w (mm)
  obtain ⟨W0, eW0⟩ : ∃ W0, W0 = (((w.alloc (.cells #[.int .i64 (mm)] 3)).alloc (.cells #[.slice none 0 0] 25)).alloc (.cells #[.nilIface] 35)).alloc (.cells #[.slice none 0 0] 25) := ⟨_, rfl⟩
  have s0 : W0.heap.size = w.heap.size + 1 + 1 + 1 + 1 := by rw [eW0, World.size_alloc, World.size_alloc, World.size_alloc, World.size_alloc]
  have k0 : Kept [] w W0 := by rw [eW0]; exact ((((Kept.refl [] w).alloc _).alloc _).alloc _).alloc _
  rw [← eW0] at hb1 hs1 hk1 hV0
  rw [s0] at hb1 hs1
  obtain ⟨MO, eMO⟩ : ∃ MO : Int, MO = (mm) := ⟨_, rfl⟩
  rw [← eMO] at hV0
  have hV1 := hV0.gr (Nat.le_refl _) (Gr.of (B := w.heap.size) hk1)
  have K1 := k0.trans hk1
  have hit := SAll1_itrC [] x (w.heap.size + 1 + 1 + 1 + 1) (w.heap.size + 1 + 1 + 1 + 1 + 1) (w.heap.size + 1 + 1 + 1 + 1 + 1 + 1) lo hi w1 hb1 (K1.get h (by simp))
  have hge1 : w.heap.size + 7 ≤ w1.heap.size := by omega
  clear eW0 hV0 eMO hb1 hs1
  refine rangeO (α := Value) rfl (fun _ _ => by kernel_rfl) hit (fun _ => rfl)
   (SceI w MO) (SceX w) ?_ ?_ ⟨rfl, hV1⟩
   (fun p a' A => ∃ q, a' = { tmps := #[.pointer (some ⟨x, 0, none⟩), .string lo, .string hi, .int .i64 mm, undef, undef, undef, .pointer (some ⟨w.heap.size, 0, none⟩), .pointer (some ⟨w.heap.size + 1, 0, none⟩), .pointer (some ⟨w.heap.size + 1 + 1, 0, none⟩), .pointer (some ⟨w.heap.size + 1 + 1 + 1, 0, none⟩), .pointer (some ⟨q, 0, none⟩), p, .int .i64 mm, .bool false, .pointer (some ⟨x, 0, none⟩), .string lo, .string hi, .func (.func 85) #[] #[.pointer (some ⟨w.heap.size + 1 + 1 + 1 + 1, 0, none⟩), .pointer (some ⟨w.heap.size + 1 + 1 + 1 + 1 + 1, 0, none⟩), .pointer (some ⟨w.heap.size + 1 + 1 + 1 + 1 + 1 + 1, 0, none⟩)], .agg #[.string ⟨#[]⟩, .string ⟨#[]⟩], p, undef, undef, undef, undef, undef, undef, undef, undef, undef, undef, undef, undef], defers := [] }) ?_ ?_ ?assign ?body ?done ?stop
  ·rintro s A A' ⟨h1, h2⟩ hg
   exact ⟨h1, h2.gr (by omega) hg⟩
  ·rintro c s A A' ⟨h0, err, h1, h2, h3, h4⟩ hg
   exact ⟨h0, err, hg.row _ _ _ _ h1, hg.row _ _ _ _ h2, h3.gr hg, h4.trans ⟨hg.os, hg.tape, hg.output, by have := h4.size; have := hg.size; omega, fun k hk => hg.low k (Nat.lt_of_lt_of_le hk h4.size) (by omega)⟩⟩
  ·rintro p a' _ A A' ⟨q, h1⟩ hg
   exact ⟨q, h1⟩
  ·intro p _ A A' h hg; exact h.gr hg
  case assign =>
   rintro m l1 pre p A K _ hch hK
   obtain ⟨f1, f2, o1, o2, rfl, -, -⟩ := hch.ex
   clear hch
   dsimp only [encE]
   gi_wp2
   exact hK _ _ ((Kept.refl [] A).alloc _) ⟨A.heap.size, rfl⟩
  case body =>
   rintro m l1 pre p a' A ⟨rfl, hV⟩ hch ⟨q, rfl⟩ hlen
   have hAs := hV.bl.size
   have HC : Hid (Chain A p 5) := hch
   obtain ⟨f1, f2, o1, o2, rfl, hf1, hf2⟩ := hch.ex
   have c1 : A.cell? ⟨w.heap.size + 1, 0, none⟩ = some (.slice none 0 0) := cellAt hV.ro rfl
   have g1 : A.frozen? ⟨w.heap.size + 1, 0, none⟩ = false := frozen_of_row _ _ _ _ _ hV.ro
   have k1 : Kept [w.heap.size + 1] A (A.setCell ⟨w.heap.size + 1, 0, none⟩ (.slice none 0 0)) := (Kept.refl _ _).setCell (Or.inl (by simp)) _
   have u1 := setCellAt (i := 0) (.slice none 0 0) hV.ro
   have u2 := k1.get hV.re (by simp)
   have c2 : (A.setCell ⟨w.heap.size + 1, 0, none⟩ (.slice none 0 0)).cell? ⟨w.heap.size + 1 + 1, 0, none⟩ = some .nilIface := cellAt u2 rfl
   have g2 : (A.setCell ⟨w.heap.size + 1, 0, none⟩ (.slice none 0 0)).frozen? ⟨w.heap.size + 1 + 1, 0, none⟩ = false := frozen_of_row _ _ _ _ _ u2
   have k2 : Kept [w.heap.size + 1 + 1] (A.setCell ⟨w.heap.size + 1, 0, none⟩ (.slice none 0 0)) ((A.setCell ⟨w.heap.size + 1, 0, none⟩ (.slice none 0 0)).setCell ⟨w.heap.size + 1 + 1, 0, none⟩ (.iface 98 (.pointer (some ⟨f1, 0, none⟩)))) := (Kept.refl _ _).setCell (Or.inl (by simp)) _
   have t1 := k2.get u1 (by simp)
   have t2 := setCellAt (i := 0) (.iface 98 (.pointer (some ⟨f1, 0, none⟩))) u2
   have hB2 := (hV.bl.setCell (p := ⟨w.heap.size + 1, 0, none⟩) (by simp) (.slice none 0 0)).setCell (p := ⟨w.heap.size + 1 + 1, 0, none⟩) (by simp; omega) (.iface 98 (.pointer (some ⟨f1, 0, none⟩)))
   have nq1 : ∀ (f : Nat) (cs : Array Value), A.heap[f]? = some (.cells cs 101 (0, 0)) → ((A.setCell ⟨w.heap.size + 1, 0, none⟩ (.slice none 0 0)).setCell ⟨w.heap.size + 1 + 1, 0, none⟩ (.iface 98 (.pointer (some ⟨f1, 0, none⟩)))).heap[f]? = some (.cells cs 101 (0, 0)) := by
    intro f cs hf
    refine k2.get (k1.get hf ?_) ?_
    ·intro hm
     simp at hm
     rw [hm, hV.ro] at hf
     cases hf
    ·intro hm
     simp at hm
     rw [hm, hV.re] at hf
     cases hf
   have hKF : KeepsFrom w1.heap.size A ((A.setCell ⟨w.heap.size + 1, 0, none⟩ (.slice none 0 0)).setCell ⟨w.heap.size + 1 + 1, 0, none⟩ (.iface 98 (.pointer (some ⟨f1, 0, none⟩)))) := by
    refine ⟨Nat.le_trans k1.size k2.size, fun y o hy ho hc => ?_⟩
    have h2 := (k1.block y (lt_heap ho) (by simp; omega)).trans ho
    exact (k2.block y (lt_heap h2) (by simp; omega)).trans h2
   have FIN : Hid (KeepsFrom w1.heap.size A ((A.setCell ⟨w.heap.size + 1, 0, none⟩ (.slice none 0 0)).setCell ⟨w.heap.size + 1 + 1, 0, none⟩ (.iface 98 (.pointer (some ⟨f1, 0, none⟩)))) ∧ SceX w .ret ([] ++ [.iface 98 (.pointer (some ⟨f1, 0, none⟩))]) ((A.setCell ⟨w.heap.size + 1, 0, none⟩ (.slice none 0 0)).setCell ⟨w.heap.size + 1 + 1, 0, none⟩ (.iface 98 (.pointer (some ⟨f1, 0, none⟩))))) := ⟨hKF, rfl, _, t1, t2, ⟨f1, f2, o1, o2, rfl, nq1 _ _ hf1, nq1 _ _ hf2⟩, hB2⟩
   clear hV HC hch hf1 hf2 k1 k2 u1 u2 t1 t2 hB2 nq1 hKF
   gi_wp2
   exact FIN.out
  case done =>
   rintro D xs A hD ⟨e, rfl⟩ ⟨h1, _⟩ hdf
   cases h1
  case stop =>
   rintro D c pre A hD hpre ⟨rfl, err, h1, h2, h3, h4⟩ hdf
   have c1 := cell_kept (cellAt (j := 0) h1 rfl) (grownBy_putObj' _ D (.deferred none)) (fun r e => by cases e; exact ⟨_, hdf, rfl⟩)
   have c2 := cell_kept (cellAt (j := 0) h2 rfl) (grownBy_putObj' _ D (.deferred none)) (fun r e => by cases e; exact ⟨_, hdf, rfl⟩)
   have FIN : Hid (Chain (A.putObj D (.deferred none)) err 5 ∧ Kept [] w (A.putObj D (.deferred none))) := ⟨h3.gr (Gr.put (B := 0) _ (Nat.zero_le _) hdf rfl), Kept.of_below (h4.trans (belowK_b (w := w) (Nat.le_refl _) _ D _ _ (by omega) hdf rfl rfl))⟩
   go_wp2
   refine ⟨by simp, .inl ⟨_, _, rfl, run_takeDeferred hdf, ?_⟩⟩
   refine ⟨.tuple #[.slice none 0 0, err], ?_, err, rfl, FIN.out⟩
   simp [results, Tryz.f25, go_sem, c1, c2]

end Go.Proofs.YtcklgafpgdhnaabGreatDoor

namespace Go.Proofs.YtcklgafpgdhnaabGreatDoor

theorem sum_ge3 (l : List Pr) (h : ∀ p ∈ l, okp p) : 3 * l.length ≤ (l.map psz).sum := by
 induction l with
 | nil => simp
 | cons p r ih =>
  have h1 := ih fun q hq => h q (by simp [hq])
  have h2 := (h p (by simp)).1
  simp only [List.map_cons, List.sum_cons, List.length_cons]
  have h3 : psz p = 2 + p.1.size + p.2.size := rfl
  omega
theorem flat_cnt : ∀ (h : Nat) (f : ByteArray) (n : Nd h), WFN h f n → FullN h n → sizeN h n ≤ 122 → (flatN h n).length ≤ 41 * cntN h n
 | 0, f, l, hw, _, hs => by
  have h1 := sum_ge3 l fun p hp => (hw.2 p hp).2
  have hs' : (List.map psz l).sum ≤ 122 := hs
  show List.length (α := Pr) l ≤ 41 * 1
  omega
 | h + 1, f, ks, hw, hf, _ => by
  obtain ⟨_, hk⟩ := (WFN_succ h f ks).1 hw
  have hf' := (FullN_succ h ks).1 hf
  have key : ∀ (l : List (Kid h)), (∀ a ∈ l, WFN h a.1 a.2 ∧ Rt h a.2 ∧ FullN h a.2) → (flatK h l).length ≤ 41 * (List.map (fun k : Kid h => cntN h k.2) l).sum := by
   intro l
   induction l with
   | nil => intro _; simp [flatK]
   | cons a r ih =>
    intro hl
    have h1 := ih fun b hb => hl b (by simp [hb])
    obtain ⟨ha, hr, hff⟩ := hl a (by simp)
    have h2 := flat_cnt h a.1 a.2 ha hff hr.2
    rw [flatK_cons, List.length_append]
    simp only [List.map_cons, List.sum_cons]
    omega
  have h1 := key ks fun a ha => ⟨hk.all a ha, hf' a ha⟩
  show (flatK h ks).length ≤ 41 * (1 + (List.map (fun k : Kid h => cntN h k.2) ks).sum)
  omega
theorem nil_flat : ∀ (h : Nat) (n : Nd h), nilN h n = true → flatN h n = []
 | 0, l, e => by
  have : List.isEmpty (α := Pr) l = true := e
  exact List.isEmpty_iff.1 this
 | _ + 1, _, e => by cases e
theorem flatT_cnt (t : Tr) (ht : TW t) : (flatT t).length ≤ 41 * cntT t := by
 unfold cntT
 split
 ·rename_i e
  unfold flatT
  rw [nil_flat _ _ e]
  simp
 ·exact flat_cnt t.h nil8 t.n ht.wf ht.full ht.hi

end Go.Proofs.YtcklgafpgdhnaabGreatDoor

namespace Go.Proofs.YtcklgafpgdhnaabGreatDoor
open Go.RowKit

def cntU : (d : Nat) → UNd d → Nat
 | 0, _ => 0
 | _ + 1, .inl _ => 1
 | d + 1, .inr ks => 1 + (ks.map fun k => cntU d k.2).sum
theorem rdU_us {n : Nat} {lk : Nat → List UInt8} : ∀ {d i : Nat} {us us' : List Nat} {u : UNd d}, rdU n lk d i us = some (u, us') → us.Nodup → (∀ y ∈ us, y < n) → us'.Nodup ∧ (∀ y ∈ us', y < n) ∧ us'.length = us.length + cntU d u
 | 0, _, _, _, _, h, _, _ => by cases h
 | d + 1, i, us, us', u, h, hn, hu => by
  rw [rdU] at h
  split at h
  ·rename_i hi
   have hn1 : (i :: us).Nodup := List.nodup_cons.2 ⟨hi.2, hn⟩
   have hu1 : ∀ y ∈ i :: us, y < n := by
    intro y hy
    rcases List.mem_cons.1 hy with rfl | hy
    ·exact hi.1
    ·exact hu y hy
   split at h
   ·cases h
   ·cases h
    exact ⟨hn1, hu1, rfl⟩
   ·rename_i ks hdec
    split at h
    ·cases h
    ·rename_i bs us2 e2
     cases h
     have key : ∀ (ks : List (ByteArray × Nat)) (s s' : List Nat) (bs : List (KidOf (UNd d))), mapO (rdK n lk d) ks s = some (bs, s') → s.Nodup → (∀ y ∈ s, y < n) → s'.Nodup ∧ (∀ y ∈ s', y < n) ∧ s'.length = s.length + (bs.map fun k => cntU d k.2).sum := by
      intro ks
      induction ks with
      | nil => intro s s' bs h h1 h2; cases h; exact ⟨h1, h2, rfl⟩
      | cons k r ih =>
       intro s s' bs h h1 h2
       simp only [mapO] at h
       split at h
       ·cases h
       ·rename_i b s1 e1
        split at h
        ·cases h
        ·rename_i bs2 s2 e3
         cases h
         unfold rdK at e1
         split at e1
         ·cases e1
         ·rename_i u2 us3 e4
          cases e1
          obtain ⟨g1, g2, g3⟩ := rdU_us e4 h1 h2
          obtain ⟨f1, f2, f3⟩ := ih _ _ _ e3 g1 g2
          refine ⟨f1, f2, ?_⟩
          simp only [List.map_cons, List.sum_cons]
          omega
     obtain ⟨g1, g2, g3⟩ := key _ (i :: us) us' bs e2 hn1 hu1
     refine ⟨g1, g2, ?_⟩
     simp only [cntU]
     simp only [List.length_cons] at g3
     omega
  ·cases h
theorem Rep.cnt : ∀ {d : Nat} {u : UNd d} {h : Nat} {n : Nd h}, Rep d u h n → cntN h n = cntU d u
 | 0, _, _, _, hr => hr.elim
 | _ + 1, .inl _, 0, _, _ => rfl
 | _ + 1, .inl _, _ + 1, _, hr => hr.elim
 | _ + 1, .inr _, 0, _, hr => hr.elim
 | d + 1, .inr ks, h + 1, (ns : List (Kid h)), hr => by
  have hr : F2 (fun (k : KidOf (UNd d)) (k' : Kid h) => (k'.1 = k.1 ∧ k'.3 = k.3) ∧ Rep d k.2 h k'.2) ks ns := hr
  show 1 + (List.map (fun k : Kid h => cntN h k.2) ns).sum = 1 + (ks.map fun k => cntU d k.2).sum
  have : List.map (fun k : Kid h => cntN h k.2) ns = ks.map fun k => cntU d k.2 := by
   refine List.ext_getElem? fun i => ?_
   rw [List.getElem?_map, List.getElem?_map]
   cases hk : ks[i]? with
   | none =>
    have : ns[i]? = none := by
     rw [List.getElem?_eq_none_iff] at hk ⊢
     rw [← hr.1]
     exact hk
    rw [this]
    rfl
   | some k =>
    have hi : i < ns.length := by rw [← hr.1]; exact (List.getElem?_eq_some_iff.1 hk).1
    rw [List.getElem?_eq_getElem hi]
    simp only [Option.map_some]
    rw [Rep.cnt (hr.2 i k _ hk (List.getElem?_eq_getElem hi)).2]
  rw [this]
theorem rdT_cnt {n : Nat} {lk : Nat → List UInt8} {root : Nat} {t : Tr} (hn : 2 ≤ n) (h : rdT n lk root = some t) : cntT t + 2 ≤ n := by
 by_cases h0 : root = 0
 ·subst h0
  rw [rdT_zero] at h
  cases h
  exact hn
 ·simp only [rdT, if_neg h0] at h
  split at h
  ·cases h
  ·rename_i u us' e1
   split at h
   ·cases h
   ·rename_i x e2
    cases h
    obtain ⟨hh, nn, rfl, hr, _, _, _, _, _, hnl⟩ := snd_ok n u nil8 nil8 x e2 (rdU_ok e1)
    obtain ⟨g1, g2, g3⟩ := rdU_us e1 (by decide) (by simp; omega)
    have hl := nodup_len n us' g1 g2
    have e := hr.to
    show cntT ⟨hh, toN n u hh, root⟩ + 2 ≤ n
    rw [← e]
    unfold cntT
    simp only [hnl, hr.cnt]
    simp at g3 ⊢
    omega
theorem rdT_len {n : Nat} {lk : Nat → List UInt8} {root : Nat} {t : Tr} (hn : 2 ≤ n) (hn4 : n ≤ 400) (h : rdT n lk root = some t) : (flatT t).length ≤ 19000 := by
 have h1 := rdT_cnt hn h
 have h2 := flatT_cnt t (rdT_tw h).1
 omega

end Go.Proofs.YtcklgafpgdhnaabGreatDoor

namespace Go.Proofs.YtcklgafpgdhnaabGreatDoor
open Go.RowKit

theorem rdH_lt {i : Nat} {B : List UInt8} {x : Nat × Nat} (h : rdH i B = some x) : x.2 < 65536 := by
 unfold rdH at h
 split at h
 ·cases h
  have h1 := leNum_lt ((B.drop 16).take 2)
  have h2 : ((B.drop 16).take 2).length ≤ 2 := by simp; omega
  have h3 : 2 ^ (8 * ((B.drop 16).take 2).length) ≤ 2 ^ (8 * 2) := Nat.pow_le_pow_right (by omega) (by omega)
  have h4 : 2 ^ (8 * 2) = 65536 := by decide
  show leNum ((B.drop 16).take 2) < 65536
  omega
 ·cases h
theorem newest_lt (D : Dv) : (newestD D).1.2 < 65536 := by
 unfold newestD
 cases h0 : rdH 0 (D.view 0) with
 | none =>
  cases h1 : rdH 1 (D.view 1) with
  | none => decide
  | some y => exact rdH_lt h1
 | some x =>
  cases h1 : rdH 1 (D.view 1) with
  | none => exact rdH_lt h0
  | some y =>
   simp only [nwst]
   split
   ·exact rdH_lt h1
   ·exact rdH_lt h0
def treeD (n : Nat) (D : Dv) : Option Tr := rdT n D.view (newestD D).1.2
theorem Open_all (a : Nat) (bv : Value) (n : Nat) (cv : Value) (D : Dv) (w : World) (h : DQ w a bv n cv D) (hn8 : 8 ≤ n) (hn : n ≤ 400) (hq : D.q.length < 1000000) (hT : Tab w) :
  Calls Tryz.prog 37 #[.iface 23 (.pointer (some ⟨a, 0, none⟩))] w (OpenR a bv n cv D (newestD D) (treeD n D) w) :=
 Open_any a bv n cv D (treeD n D) w h hn8 hn hq (Or.inr hT) fun v W D1 hv hd hq1 _ hTT => by
  have e : treeD n D = rdT n D1.view (newestD D).1.2 := by
   unfold treeD
   rw [show D1.view = D.view from funext fun i => hq1.view i]
  rw [e]
  exact SRead_any v a n _ bv cv D1 W hv hd hn8 (by omega) (by rw [hq1.q]; omega) (hTT hT) (newest_lt D)
def OpnR (a : Nat) (bv : Value) (n : Nat) (cv : Value) (w : World) (e : Ending) (w' : World) : Prop := (∃ D', DQ w' a bv n cv D') ∧
 ((∃ err, e = .returned (.tuple #[.pointer none, err]) ∧ Chain w' err 7 ∧ Kept [a] w w') ∨
  ∃ x v c r t, e = .returned (.tuple #[.pointer (some ⟨x, 0, none⟩), .nilIface]) ∧ Rec x v a n c r t w' ∧ c.s = 1 ∧ TW t ∧ (flatT t).length ≤ 19000 ∧ w.heap.size ≤ x ∧ Kept [a] w w')
theorem POpen_good (a : Nat) (bv : Value) (n : Nat) (cv : Value) (D : Dv) (w : World) (h : DQ w a bv n cv D) (hn8 : 8 ≤ n) (hn : n ≤ 400) (hq : D.q.length < 1000000) (hT : Tab w) (hg : Good D) :
  Calls Tryz.prog 17 #[.pointer (some ⟨a, 0, none⟩)] w (OpnR a bv n cv w) := by
 refine POpen_of a w _ ((Open_all a bv n cv D w h hn8 hn hq hT).mono ?_)
 rintro e w' ⟨o, pv, err, D', rfl, hc, hd, hk, ⟨_, he, _⟩ | ⟨rfl, _, rfl, _⟩ | ⟨rfl, _, _, t, r, x, v, ht, rfl, hr, hx⟩⟩
 ·exact absurd hg he.bad
 ·exact ⟨_, _, rfl, ⟨D', hd⟩, Or.inl ⟨err, rfl, hc, hk⟩⟩
 ·have he : err = .nilIface := hc
  subst he
  exact ⟨_, _, rfl, ⟨D', hd⟩, Or.inr ⟨x, v, _, r, t, rfl, hr, rfl, (rdT_tw ht).1, rdT_len (by omega) hn ht, hx, hk⟩⟩

end Go.Proofs.YtcklgafpgdhnaabGreatDoor

namespace Go.Proofs.YtcklgafpgdhnaabGreatDoor
open Go.RowKit

theorem kpick_any (c : Int) (n : Nat) (w : World) (hn : 0 < n) (hb : (n : Int) ≤ 4294967296) (h1 : -9223372036854775808 ≤ c) (h2 : c ≤ 9223372036854775807) :
  Calls Tryz.prog 10 #[.int .i64 c, .int .i64 n] w fun e w' => e = .returned (.int .i64 (pk c n)) ∧ w' = w := by
 by_cases hc : c < 0
 ·have hp : (pk c n : Int) = (-(c + 1)) % n := by unfold pk; rw [if_pos hc]; have := Int.emod_nonneg (-(c + 1)) (show (n : Int) ≠ 0 by omega); omega
  have H : Hid (-((c + 1).tmod n) = (pk c n : Int)) := by show _ = _; rw [hp, ← Int.neg_tmod, Int.tmod_eq_emod_of_nonneg (by omega)]
  clear hp
  have hnz : ¬ (n : Int) = 0 := by omega
  go_enter Tryz.func10, Tryz.ntmps10
  go_wp2
  go_ret
  exact ⟨ret_int H.out, rfl⟩
 ·have hp : (pk c n : Int) = c % n := by unfold pk; rw [if_neg hc]; have := Int.emod_nonneg c (show (n : Int) ≠ 0 by omega); omega
  have H : Hid ((pk c n : Int) = c % n) := hp
  clear hp
  have hnz : ¬ (n : Int) = 0 := by omega
  go_enter Tryz.func10, Tryz.ntmps10
  go_wp2
  go_ret
  exact ⟨ret_int H.out.symm, rfl⟩

end Go.Proofs.YtcklgafpgdhnaabGreatDoor
