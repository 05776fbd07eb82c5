import Derived.Test.YtcklgafpgdhnaaaGreatDoorPtbq
import Derived.Test.YtcklgafpgdhnaaaGreatDoorPtbr
import Derived.Test.YtcklgafpgdhnaaaGreatDoorPtbm
set_option maxRecDepth 100000
set_option maxHeartbeats 4000000
open List renaming getElem_toArray → zA, getElem_cons_succ → zB, getElem_cons_zero → zC, setIfInBounds_toArray → zD, set_cons_succ → zE, set_cons_zero → zF
namespace Go.Proofs.YtcklgafpgdhnaaaGreatDoor
open Go.RowKit Go.Shelf
attribute [local go_sem] Oper.semAt_some

def SceI (w : World) (MO : Int) (pre : List Value) (A : World) : Prop := pre = [] ∧ ScV w MO (.slice none 0 0) A
def SceX (w : World) (c : Code) (_ : List Value) (A : World) : Prop := c = .ret ∧ ∃ err, A.heap[w.heap.size + 1]? = some (.cells #[.slice none 0 0] 28 (0, 0)) ∧ A.heap[w.heap.size + 1 + 1]? = some (.cells #[err] 35 (0, 0)) ∧ Chain A err 5 ∧ Below w.heap.size w A
theorem Chain.gr {w w' : World} {err : Value} {x : Int} {B : Nat} (h : Chain w err x) (g : Gr B w w') : Chain w' err x := by
 obtain ⟨f1, f2, o1, o2, rfl, h1, h2⟩ := h.ex
 exact ⟨f1, f2, o1, o2, rfl, g.row _ _ _ _ h1, g.row _ _ _ _ h2⟩

theorem Scan_closed (x : Nat) (lo hi : ByteArray) (mm : Int) (w : World) (h : Shut x w) :
  Calls Tryz.prog 19 #[.pointer (some ⟨x, 0, none⟩), .string lo, .string hi, .int .i64 mm] w fun e w' => ∃ err, e = .returned (.tuple #[.slice none 0 0, err]) ∧ Chain w' err 5 ∧ Kept [] w w' := by
 refine (callsIn_wide (n := 1)).1 (callsIn_of_wp_marks Tryz.func19 rfl trivial ?_ rfl)
 simp only [Tryz.ntmps19, List.size_toArray, List.length_cons, List.length_nil, Nat.reduceAdd, Nat.reduceSub, Array.replicate_succ, Array.replicate_zero, List.push_toArray, List.append_toArray, List.nil_append, List.cons_append]
 refine wpIn_mono (Q := NoP _) ?_ NoP.of
 refine wpIn_wide.2 ?_
 by_cases hm : mm < 1
 ·go_wp2_with (first | (go_at_call 41; refine (SAll_any x lo hi _).mono ?_; rintro e w1 ⟨rfl, hb1, hs1, hk1⟩))
  have hV0 := ScV.new w (0)
  obtain ⟨W0, eW0⟩ : ∃ W0, W0 = (((w.alloc (.cells #[.int .i64 (0)] 3)).alloc (.cells #[.slice none 0 0] 28)).alloc (.cells #[.nilIface] 35)).alloc (.cells #[.slice none 0 0] 28) := ⟨_, rfl⟩
  have s0 : W0.heap.size = w.heap.size + 1 + 1 + 1 + 1 := by rw [eW0, World.size_alloc, World.size_alloc, World.size_alloc, World.size_alloc]
  have k0 : Kept [] w W0 := by rw [eW0]; exact ((((Kept.refl [] w).alloc _).alloc _).alloc _).alloc _
  rw [← eW0] at hb1 hs1 hk1 hV0
  rw [s0] at hb1 hs1
  obtain ⟨MO, eMO⟩ : ∃ MO : Int, MO = (0) := ⟨_, rfl⟩
  rw [← eMO] at hV0
  have hV1 := hV0.gr (Nat.le_refl _) (Gr.of (B := w.heap.size) hk1)
  have K1 := k0.trans hk1
  have hit := SAll1_itrC [] x (w.heap.size + 1 + 1 + 1 + 1) (w.heap.size + 1 + 1 + 1 + 1 + 1) (w.heap.size + 1 + 1 + 1 + 1 + 1 + 1) lo hi w1 hb1 (K1.get h (by simp))
  have hge1 : w.heap.size + 7 ≤ w1.heap.size := by omega
  clear eW0 hV0 eMO hb1 hs1
  refine rangeO (α := Value) rfl (fun _ _ => by kernel_rfl) hit (fun _ => rfl)
   (SceI w MO) (SceX w) ?_ ?_ ⟨rfl, hV1⟩
   (fun p a' A => ∃ q, a' = { tmps := #[.pointer (some ⟨x, 0, none⟩), .string lo, .string hi, .int .i64 mm, undef, undef, undef, .pointer (some ⟨w.heap.size, 0, none⟩), .pointer (some ⟨w.heap.size + 1, 0, none⟩), .pointer (some ⟨w.heap.size + 1 + 1, 0, none⟩), .pointer (some ⟨w.heap.size + 1 + 1 + 1, 0, none⟩), .pointer (some ⟨q, 0, none⟩), p, .int .i64 mm, .bool true, .pointer (some ⟨x, 0, none⟩), .string lo, .string hi, .func (.func 64) #[] #[.pointer (some ⟨w.heap.size + 1 + 1 + 1 + 1, 0, none⟩), .pointer (some ⟨w.heap.size + 1 + 1 + 1 + 1 + 1, 0, none⟩), .pointer (some ⟨w.heap.size + 1 + 1 + 1 + 1 + 1 + 1, 0, none⟩)], .agg #[.string ⟨#[]⟩, .string ⟨#[]⟩], p, undef, undef, undef, undef, undef, undef, undef, undef, undef, undef, undef, undef], defers := [] }) ?_ ?_ ?assign ?body ?done ?stop
  ·rintro s A A' ⟨h1, h2⟩ hg
   exact ⟨h1, h2.gr (by omega) hg⟩
  ·rintro c s A A' ⟨h0, err, h1, h2, h3, h4⟩ hg
   exact ⟨h0, err, hg.row _ _ _ _ h1, hg.row _ _ _ _ h2, h3.gr hg, h4.trans ⟨hg.os, hg.tape, hg.output, by have := h4.size; have := hg.size; omega, fun k hk => hg.low k (Nat.lt_of_lt_of_le hk h4.size) (by omega)⟩⟩
  ·rintro p a' _ A A' ⟨q, h1⟩ hg
   exact ⟨q, h1⟩
  ·intro p _ A A' h hg; exact h.gr hg
  case assign =>
   rintro m l1 pre p A K _ hch hK
   obtain ⟨f1, f2, o1, o2, rfl, -, -⟩ := hch.ex
   clear hch
   dsimp only [encE]
   gi_wp2
   exact hK _ _ ((Kept.refl [] A).alloc _) ⟨A.heap.size, rfl⟩
  case body =>
   rintro m l1 pre p a' A ⟨rfl, hV⟩ hch ⟨q, rfl⟩ hlen
   have hAs := hV.bl.size
   have HC : Hid (Chain A p 5) := hch
   obtain ⟨f1, f2, o1, o2, rfl, hf1, hf2⟩ := hch.ex
   have c1 : A.cell? ⟨w.heap.size + 1, 0, none⟩ = some (.slice none 0 0) := cellAt hV.ro rfl
   have g1 : A.frozen? ⟨w.heap.size + 1, 0, none⟩ = false := frozen_of_row _ _ _ _ _ hV.ro
   have k1 : Kept [w.heap.size + 1] A (A.setCell ⟨w.heap.size + 1, 0, none⟩ (.slice none 0 0)) := (Kept.refl _ _).setCell (Or.inl (by simp)) _
   have u1 := setCellAt (i := 0) (.slice none 0 0) hV.ro
   have u2 := k1.get hV.re (by simp)
   have c2 : (A.setCell ⟨w.heap.size + 1, 0, none⟩ (.slice none 0 0)).cell? ⟨w.heap.size + 1 + 1, 0, none⟩ = some .nilIface := cellAt u2 rfl
   have g2 : (A.setCell ⟨w.heap.size + 1, 0, none⟩ (.slice none 0 0)).frozen? ⟨w.heap.size + 1 + 1, 0, none⟩ = false := frozen_of_row _ _ _ _ _ u2
   have k2 : Kept [w.heap.size + 1 + 1] (A.setCell ⟨w.heap.size + 1, 0, none⟩ (.slice none 0 0)) ((A.setCell ⟨w.heap.size + 1, 0, none⟩ (.slice none 0 0)).setCell ⟨w.heap.size + 1 + 1, 0, none⟩ (.iface 111 (.pointer (some ⟨f1, 0, none⟩)))) := (Kept.refl _ _).setCell (Or.inl (by simp)) _
   have t1 := k2.get u1 (by simp)
   have t2 := setCellAt (i := 0) (.iface 111 (.pointer (some ⟨f1, 0, none⟩))) u2
   have hB2 := (hV.bl.setCell (p := ⟨w.heap.size + 1, 0, none⟩) (by simp) (.slice none 0 0)).setCell (p := ⟨w.heap.size + 1 + 1, 0, none⟩) (by simp; omega) (.iface 111 (.pointer (some ⟨f1, 0, none⟩)))
   have nq1 : ∀ (f : Nat) (cs : Array Value), A.heap[f]? = some (.cells cs 114 (0, 0)) → ((A.setCell ⟨w.heap.size + 1, 0, none⟩ (.slice none 0 0)).setCell ⟨w.heap.size + 1 + 1, 0, none⟩ (.iface 111 (.pointer (some ⟨f1, 0, none⟩)))).heap[f]? = some (.cells cs 114 (0, 0)) := by
    intro f cs hf
    refine k2.get (k1.get hf ?_) ?_
    ·intro hm
     simp at hm
     rw [hm, hV.ro] at hf
     cases hf
    ·intro hm
     simp at hm
     rw [hm, hV.re] at hf
     cases hf
   have hKF : KeepsFrom w1.heap.size A ((A.setCell ⟨w.heap.size + 1, 0, none⟩ (.slice none 0 0)).setCell ⟨w.heap.size + 1 + 1, 0, none⟩ (.iface 111 (.pointer (some ⟨f1, 0, none⟩)))) := by
    refine ⟨Nat.le_trans k1.size k2.size, fun y o hy ho hc => ?_⟩
    have h2 := (k1.block y (lt_heap ho) (by simp; omega)).trans ho
    exact (k2.block y (lt_heap h2) (by simp; omega)).trans h2
   have FIN : Hid (KeepsFrom w1.heap.size A ((A.setCell ⟨w.heap.size + 1, 0, none⟩ (.slice none 0 0)).setCell ⟨w.heap.size + 1 + 1, 0, none⟩ (.iface 111 (.pointer (some ⟨f1, 0, none⟩)))) ∧ SceX w .ret ([] ++ [.iface 111 (.pointer (some ⟨f1, 0, none⟩))]) ((A.setCell ⟨w.heap.size + 1, 0, none⟩ (.slice none 0 0)).setCell ⟨w.heap.size + 1 + 1, 0, none⟩ (.iface 111 (.pointer (some ⟨f1, 0, none⟩))))) := ⟨hKF, rfl, _, t1, t2, ⟨f1, f2, o1, o2, rfl, nq1 _ _ hf1, nq1 _ _ hf2⟩, hB2⟩
   clear hV HC hch hf1 hf2 k1 k2 u1 u2 t1 t2 hB2 nq1 hKF
   gi_wp2
   exact FIN.out
  case done =>
   rintro D xs A hD ⟨e, rfl⟩ ⟨h1, _⟩ hdf
   cases h1
  case stop =>
   rintro D c pre A hD hpre ⟨rfl, err, h1, h2, h3, h4⟩ hdf
   have c1 := cell_kept (cellAt (j := 0) h1 rfl) (grownBy_putObj' _ D (.deferred none)) (fun r e => by cases e; exact ⟨_, hdf, rfl⟩)
   have c2 := cell_kept (cellAt (j := 0) h2 rfl) (grownBy_putObj' _ D (.deferred none)) (fun r e => by cases e; exact ⟨_, hdf, rfl⟩)
   have FIN : Hid (Chain (A.putObj D (.deferred none)) err 5 ∧ Kept [] w (A.putObj D (.deferred none))) := ⟨h3.gr (Gr.put (B := 0) _ (Nat.zero_le _) hdf rfl), Kept.of_below (h4.trans (belowK_b (w := w) (Nat.le_refl _) _ D _ _ (by omega) hdf rfl rfl))⟩
   go_wp2
   refine ⟨by simp, .inl ⟨_, _, rfl, run_takeDeferred hdf, ?_⟩⟩
   refine ⟨.tuple #[.slice none 0 0, err], ?_, err, rfl, FIN.out⟩
   simp [results, Tryz.f19, go_sem, c1, c2]
 ·go_wp2_with (first | (go_at_call 41; refine (SAll_any x lo hi _).mono ?_; rintro e w1 ⟨rfl, hb1, hs1, hk1⟩))
  have hV0 := ScV.new w (mm)
  obtain ⟨W0, eW0⟩ : ∃ W0, W0 = (((w.alloc (.cells #[.int .i64 (mm)] 3)).alloc (.cells #[.slice none 0 0] 28)).alloc (.cells #[.nilIface] 35)).alloc (.cells #[.slice none 0 0] 28) := ⟨_, rfl⟩
  have s0 : W0.heap.size = w.heap.size + 1 + 1 + 1 + 1 := by rw [eW0, World.size_alloc, World.size_alloc, World.size_alloc, World.size_alloc]
  have k0 : Kept [] w W0 := by rw [eW0]; exact ((((Kept.refl [] w).alloc _).alloc _).alloc _).alloc _
  rw [← eW0] at hb1 hs1 hk1 hV0
  rw [s0] at hb1 hs1
  obtain ⟨MO, eMO⟩ : ∃ MO : Int, MO = (mm) := ⟨_, rfl⟩
  rw [← eMO] at hV0
  have hV1 := hV0.gr (Nat.le_refl _) (Gr.of (B := w.heap.size) hk1)
  have K1 := k0.trans hk1
  have hit := SAll1_itrC [] x (w.heap.size + 1 + 1 + 1 + 1) (w.heap.size + 1 + 1 + 1 + 1 + 1) (w.heap.size + 1 + 1 + 1 + 1 + 1 + 1) lo hi w1 hb1 (K1.get h (by simp))
  have hge1 : w.heap.size + 7 ≤ w1.heap.size := by omega
  clear eW0 hV0 eMO hb1 hs1
  refine rangeO (α := Value) rfl (fun _ _ => by kernel_rfl) hit (fun _ => rfl)
   (SceI w MO) (SceX w) ?_ ?_ ⟨rfl, hV1⟩
   (fun p a' A => ∃ q, a' = { tmps := #[.pointer (some ⟨x, 0, none⟩), .string lo, .string hi, .int .i64 mm, undef, undef, undef, .pointer (some ⟨w.heap.size, 0, none⟩), .pointer (some ⟨w.heap.size + 1, 0, none⟩), .pointer (some ⟨w.heap.size + 1 + 1, 0, none⟩), .pointer (some ⟨w.heap.size + 1 + 1 + 1, 0, none⟩), .pointer (some ⟨q, 0, none⟩), p, .int .i64 mm, .bool false, .pointer (some ⟨x, 0, none⟩), .string lo, .string hi, .func (.func 64) #[] #[.pointer (some ⟨w.heap.size + 1 + 1 + 1 + 1, 0, none⟩), .pointer (some ⟨w.heap.size + 1 + 1 + 1 + 1 + 1, 0, none⟩), .pointer (some ⟨w.heap.size + 1 + 1 + 1 + 1 + 1 + 1, 0, none⟩)], .agg #[.string ⟨#[]⟩, .string ⟨#[]⟩], p, undef, undef, undef, undef, undef, undef, undef, undef, undef, undef, undef, undef], defers := [] }) ?_ ?_ ?assign ?body ?done ?stop
  ·rintro s A A' ⟨h1, h2⟩ hg
   exact ⟨h1, h2.gr (by omega) hg⟩
  ·rintro c s A A' ⟨h0, err, h1, h2, h3, h4⟩ hg
   exact ⟨h0, err, hg.row _ _ _ _ h1, hg.row _ _ _ _ h2, h3.gr hg, h4.trans ⟨hg.os, hg.tape, hg.output, by have := h4.size; have := hg.size; omega, fun k hk => hg.low k (Nat.lt_of_lt_of_le hk h4.size) (by omega)⟩⟩
  ·rintro p a' _ A A' ⟨q, h1⟩ hg
   exact ⟨q, h1⟩
  ·intro p _ A A' h hg; exact h.gr hg
  case assign =>
   rintro m l1 pre p A K _ hch hK
   obtain ⟨f1, f2, o1, o2, rfl, -, -⟩ := hch.ex
   clear hch
   dsimp only [encE]
   gi_wp2
   exact hK _ _ ((Kept.refl [] A).alloc _) ⟨A.heap.size, rfl⟩
  case body =>
   rintro m l1 pre p a' A ⟨rfl, hV⟩ hch ⟨q, rfl⟩ hlen
   have hAs := hV.bl.size
   have HC : Hid (Chain A p 5) := hch
   obtain ⟨f1, f2, o1, o2, rfl, hf1, hf2⟩ := hch.ex
   have c1 : A.cell? ⟨w.heap.size + 1, 0, none⟩ = some (.slice none 0 0) := cellAt hV.ro rfl
   have g1 : A.frozen? ⟨w.heap.size + 1, 0, none⟩ = false := frozen_of_row _ _ _ _ _ hV.ro
   have k1 : Kept [w.heap.size + 1] A (A.setCell ⟨w.heap.size + 1, 0, none⟩ (.slice none 0 0)) := (Kept.refl _ _).setCell (Or.inl (by simp)) _
   have u1 := setCellAt (i := 0) (.slice none 0 0) hV.ro
   have u2 := k1.get hV.re (by simp)
   have c2 : (A.setCell ⟨w.heap.size + 1, 0, none⟩ (.slice none 0 0)).cell? ⟨w.heap.size + 1 + 1, 0, none⟩ = some .nilIface := cellAt u2 rfl
   have g2 : (A.setCell ⟨w.heap.size + 1, 0, none⟩ (.slice none 0 0)).frozen? ⟨w.heap.size + 1 + 1, 0, none⟩ = false := frozen_of_row _ _ _ _ _ u2
   have k2 : Kept [w.heap.size + 1 + 1] (A.setCell ⟨w.heap.size + 1, 0, none⟩ (.slice none 0 0)) ((A.setCell ⟨w.heap.size + 1, 0, none⟩ (.slice none 0 0)).setCell ⟨w.heap.size + 1 + 1, 0, none⟩ (.iface 111 (.pointer (some ⟨f1, 0, none⟩)))) := (Kept.refl _ _).setCell (Or.inl (by simp)) _
   have t1 := k2.get u1 (by simp)
   have t2 := setCellAt (i := 0) (.iface 111 (.pointer (some ⟨f1, 0, none⟩))) u2
   have hB2 := (hV.bl.setCell (p := ⟨w.heap.size + 1, 0, none⟩) (by simp) (.slice none 0 0)).setCell (p := ⟨w.heap.size + 1 + 1, 0, none⟩) (by simp; omega) (.iface 111 (.pointer (some ⟨f1, 0, none⟩)))
   have nq1 : ∀ (f : Nat) (cs : Array Value), A.heap[f]? = some (.cells cs 114 (0, 0)) → ((A.setCell ⟨w.heap.size + 1, 0, none⟩ (.slice none 0 0)).setCell ⟨w.heap.size + 1 + 1, 0, none⟩ (.iface 111 (.pointer (some ⟨f1, 0, none⟩)))).heap[f]? = some (.cells cs 114 (0, 0)) := by
    intro f cs hf
    refine k2.get (k1.get hf ?_) ?_
    ·intro hm
     simp at hm
     rw [hm, hV.ro] at hf
     cases hf
    ·intro hm
     simp at hm
     rw [hm, hV.re] at hf
     cases hf
   have hKF : KeepsFrom w1.heap.size A ((A.setCell ⟨w.heap.size + 1, 0, none⟩ (.slice none 0 0)).setCell ⟨w.heap.size + 1 + 1, 0, none⟩ (.iface 111 (.pointer (some ⟨f1, 0, none⟩)))) := by
    refine ⟨Nat.le_trans k1.size k2.size, fun y o hy ho hc => ?_⟩
    have h2 := (k1.block y (lt_heap ho) (by simp; omega)).trans ho
    exact (k2.block y (lt_heap h2) (by simp; omega)).trans h2
   have FIN : Hid (KeepsFrom w1.heap.size A ((A.setCell ⟨w.heap.size + 1, 0, none⟩ (.slice none 0 0)).setCell ⟨w.heap.size + 1 + 1, 0, none⟩ (.iface 111 (.pointer (some ⟨f1, 0, none⟩)))) ∧ SceX w .ret ([] ++ [.iface 111 (.pointer (some ⟨f1, 0, none⟩))]) ((A.setCell ⟨w.heap.size + 1, 0, none⟩ (.slice none 0 0)).setCell ⟨w.heap.size + 1 + 1, 0, none⟩ (.iface 111 (.pointer (some ⟨f1, 0, none⟩))))) := ⟨hKF, rfl, _, t1, t2, ⟨f1, f2, o1, o2, rfl, nq1 _ _ hf1, nq1 _ _ hf2⟩, hB2⟩
   clear hV HC hch hf1 hf2 k1 k2 u1 u2 t1 t2 hB2 nq1 hKF
   gi_wp2
   exact FIN.out
  case done =>
   rintro D xs A hD ⟨e, rfl⟩ ⟨h1, _⟩ hdf
   cases h1
  case stop =>
   rintro D c pre A hD hpre ⟨rfl, err, h1, h2, h3, h4⟩ hdf
   have c1 := cell_kept (cellAt (j := 0) h1 rfl) (grownBy_putObj' _ D (.deferred none)) (fun r e => by cases e; exact ⟨_, hdf, rfl⟩)
   have c2 := cell_kept (cellAt (j := 0) h2 rfl) (grownBy_putObj' _ D (.deferred none)) (fun r e => by cases e; exact ⟨_, hdf, rfl⟩)
   have FIN : Hid (Chain (A.putObj D (.deferred none)) err 5 ∧ Kept [] w (A.putObj D (.deferred none))) := ⟨h3.gr (Gr.put (B := 0) _ (Nat.zero_le _) hdf rfl), Kept.of_below (h4.trans (belowK_b (w := w) (Nat.le_refl _) _ D _ _ (by omega) hdf rfl rfl))⟩
   go_wp2
   refine ⟨by simp, .inl ⟨_, _, rfl, run_takeDeferred hdf, ?_⟩⟩
   refine ⟨.tuple #[.slice none 0 0, err], ?_, err, rfl, FIN.out⟩
   simp [results, Tryz.f19, go_sem, c1, c2]

end Go.Proofs.YtcklgafpgdhnaaaGreatDoor

namespace Go.Proofs.YtcklgafpgdhnaaaGreatDoor

theorem sum_ge3 (l : List Pr) (h : ∀ p ∈ l, okp p) : 3 * l.length ≤ (l.map psz).sum := by
 induction l with
 | nil => simp
 | cons p r ih =>
  have h1 := ih fun q hq => h q (by simp [hq])
  have h2 := (h p (by simp)).1
  simp only [List.map_cons, List.sum_cons, List.length_cons]
  have h3 : psz p = 2 + p.1.size + p.2.size := rfl
  omega
theorem flat_cnt : ∀ (h : Nat) (f : ByteArray) (n : Nd h), WFN h f n → FullN h n → sizeN h n ≤ 122 → (flatN h n).length ≤ 41 * cntN h n
 | 0, f, l, hw, _, hs => by
  have h1 := sum_ge3 l fun p hp => (hw.2 p hp).2
  have hs' : (List.map psz l).sum ≤ 122 := hs
  show List.length (α := Pr) l ≤ 41 * 1
  omega
 | h + 1, f, ks, hw, hf, _ => by
  obtain ⟨_, hk⟩ := (WFN_succ h f ks).1 hw
  have hf' := (FullN_succ h ks).1 hf
  have key : ∀ (l : List (Kid h)), (∀ a ∈ l, WFN h a.1 a.2 ∧ Rt h a.2 ∧ FullN h a.2) → (flatK h l).length ≤ 41 * (List.map (fun k : Kid h => cntN h k.2) l).sum := by
   intro l
   induction l with
   | nil => intro _; simp [flatK]
   | cons a r ih =>
    intro hl
    have h1 := ih fun b hb => hl b (by simp [hb])
    obtain ⟨ha, hr, hff⟩ := hl a (by simp)
    have h2 := flat_cnt h a.1 a.2 ha hff hr.2
    rw [flatK_cons, List.length_append]
    simp only [List.map_cons, List.sum_cons]
    omega
  have h1 := key ks fun a ha => ⟨hk.all a ha, hf' a ha⟩
  show (flatK h ks).length ≤ 41 * (1 + (List.map (fun k : Kid h => cntN h k.2) ks).sum)
  omega
theorem nil_flat : ∀ (h : Nat) (n : Nd h), nilN h n = true → flatN h n = []
 | 0, l, e => by
  have : List.isEmpty (α := Pr) l = true := e
  exact List.isEmpty_iff.1 this
 | _ + 1, _, e => by cases e
theorem flatT_cnt (t : Tr) (ht : TW t) : (flatT t).length ≤ 41 * cntT t := by
 unfold cntT
 split
 ·rename_i e
  unfold flatT
  rw [nil_flat _ _ e]
  simp
 ·exact flat_cnt t.h nil8 t.n ht.wf ht.full ht.hi

end Go.Proofs.YtcklgafpgdhnaaaGreatDoor

namespace Go.Proofs.YtcklgafpgdhnaaaGreatDoor
open Go.RowKit

theorem vb_new (w : World) (x : Nat) (k : ByteArray) : Bx2 w.heap.size (w.heap.size + 1) x k ((((w.alloc (.cells #[.pointer (some ⟨x, 0, none⟩)] 27)).alloc (.cells #[.string k] 9)).alloc (.cells #[.string ⟨#[]⟩] 9)).alloc (.cells #[.bool false] 4)) ∧ VB (w.heap.size + 1 + 1) (w.heap.size + 1 + 1 + 1) ⟨#[]⟩ false ((((w.alloc (.cells #[.pointer (some ⟨x, 0, none⟩)] 27)).alloc (.cells #[.string k] 9)).alloc (.cells #[.string ⟨#[]⟩] 9)).alloc (.cells #[.bool false] 4)) ∧ Kept [] w ((((w.alloc (.cells #[.pointer (some ⟨x, 0, none⟩)] 27)).alloc (.cells #[.string k] 9)).alloc (.cells #[.string ⟨#[]⟩] 9)).alloc (.cells #[.bool false] 4)) := by
 have h2 := bx2_new w x k
 have ka := fun (W : World) (o : Obj) => (Kept.refl [] W).alloc o
 have z2 := heap_alloc_new ((w.alloc (.cells #[.pointer (some ⟨x, 0, none⟩)] 27)).alloc (.cells #[.string k] 9)) (.cells #[.string ⟨#[]⟩] 9)
 have z3 := heap_alloc_new (((w.alloc (.cells #[.pointer (some ⟨x, 0, none⟩)] 27)).alloc (.cells #[.string k] 9)).alloc (.cells #[.string ⟨#[]⟩] 9)) (.cells #[.bool false] 4)
 simp only [World.size_alloc] at z2 z3
 exact ⟨(h2.k (ka _ _)).k (ka _ _), ⟨(ka _ _).get z2 (by simp), z3⟩, ((((Kept.refl [] w).alloc _).alloc _).alloc _).alloc _⟩
theorem get_mem {k v : ByteArray} : ∀ {l : List Pr}, getL k l = some v → ∃ p ∈ l, p.2 = v
 | [], h => by simp [getL] at h
 | p :: r, h => by
  unfold getL at h
  split at h
  ·cases h; exact ⟨p, by simp, rfl⟩
  ·obtain ⟨q, hq, e⟩ := get_mem h
   exact ⟨q, by simp [hq], e⟩
theorem get_size (t : Tr) (ht : TW t) (k : ByteArray) : ((getL k (flatT t)).getD ⟨#[]⟩).size ≤ 1000 := by
 cases h : getL k (flatT t) with
 | none => show (⟨#[]⟩ : ByteArray).size ≤ 1000; decide
 | some v =>
  obtain ⟨p, hp, rfl⟩ := get_mem h
  have := (ht.wf.keys p hp).2.2.2
  show p.2.size ≤ 1000
  omega
theorem Get_yes (x v a n : Nat) (c : Hd) (r : Value) (t : Tr) (k : ByteArray) (w : World) (h : Rec x v a n c r t w) (ht : TW t) (hk : keyOk k) :
  Calls Tryz.prog 20 #[.pointer (some ⟨x, 0, none⟩), .string k] w fun e w' => ∃ err, e = .returned (.tuple #[.string ((getL k (flatT t)).getD ⟨#[]⟩), .bool (getL k (flatT t)).isSome, err]) ∧ err = .nilIface ∧ Kept [] w w' := by
 obtain ⟨hb, hv, k4⟩ := vb_new w x k
 refine Get_of x k _ _ (fun err _ => err = .nilIface) (fun _ _ _ h _ => h) (get_size t ht k) w fun b => ?_
 refine catch_yes b _ _ (fun _ _ => by kernel_rfl) [w.heap.size + 1 + 1, w.heap.size + 1 + 1 + 1] _ _ ?_ (fun W W' T h1 h2 h3 => h1.err h2 h3) fun W kW => ?_
 ·intro y hy
  simp at hy
  rw [World.size_alloc, World.size_alloc, World.size_alloc, World.size_alloc]
  omega
 ·exact Get1_yes _ _ _ _ x v a n c r t k W (hb.k kW) (hv.k kW) (by omega) ((h.k k4).k kW) ht hk
theorem Get_closed (x : Nat) (k : ByteArray) (w : World) (h : Shut x w) :
  Calls Tryz.prog 20 #[.pointer (some ⟨x, 0, none⟩), .string k] w fun e w' => ∃ err, e = .returned (.tuple #[.string ⟨#[]⟩, .bool false, err]) ∧ Chain w' err 5 ∧ Kept [] w w' := by
 obtain ⟨hb, hv, k4⟩ := vb_new w x k
 refine Get_of x k _ _ (fun err W => Chain W err 5) (fun _ _ _ h k => h.k k) (by decide) w fun b => ?_
 refine (catch_no b _ _ (fun _ _ => by kernel_rfl) 5 (VB (w.heap.size + 1 + 1) (w.heap.size + 1 + 1 + 1) ⟨#[]⟩ false) _ (fun W W' T h1 h2 h3 => h1.err h2 h3) fun W kW => ?_).mono fun e w' ⟨err, h1, h2, h3⟩ => ⟨err, h1, h2, h3.mono (by simp)⟩
 exact Get1_closed _ _ _ _ x k W (hb.k kW) (hv.k kW) (kW.get (k4.get h (by simp)) (by simp))
theorem Get_key (x v a n : Nat) (c : Hd) (r : Value) (t : Tr) (k : ByteArray) (w : World) (h : Rec x v a n c r t w) (hk : ¬ keyOk k) :
  Calls Tryz.prog 20 #[.pointer (some ⟨x, 0, none⟩), .string k] w fun e w' => ∃ err, e = .returned (.tuple #[.string ⟨#[]⟩, .bool false, err]) ∧ Chain w' err 1 ∧ Kept [] w w' := by
 obtain ⟨hb, hv, k4⟩ := vb_new w x k
 refine Get_of x k _ _ (fun err W => Chain W err 1) (fun _ _ _ h k => h.k k) (by decide) w fun b => ?_
 refine (catch_no b _ _ (fun _ _ => by kernel_rfl) 1 (VB (w.heap.size + 1 + 1) (w.heap.size + 1 + 1 + 1) ⟨#[]⟩ false) _ (fun W W' T h1 h2 h3 => h1.err h2 h3) fun W kW => ?_).mono fun e w' ⟨err, h1, h2, h3⟩ => ⟨err, h1, h2, h3.mono (by simp)⟩
 exact Get1_key _ _ _ _ x k W (hb.k kW) (hv.k kW) ((h.k k4).k kW) hk

end Go.Proofs.YtcklgafpgdhnaaaGreatDoor
