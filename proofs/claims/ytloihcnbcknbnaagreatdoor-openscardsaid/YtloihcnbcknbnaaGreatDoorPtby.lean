import Derived.Test.YtloihcnbcknbnaaGreatDoorPtbw
namespace Go.Proofs.YtloihcnbcknbnaaGreatDoor
open Go.RowKit Go.Shelf
attribute [local go_sem] Oper.semAt_some

def SceI (w : World) (MO : Int) (pre : List Value) (A : World) : Prop := pre = [] ∧ ScV w MO (.slice none 0 0) A
def SceX (w : World) (c : Code) (_ : List Value) (A : World) : Prop := c = .ret ∧ ∃ err, A.heap[w.heap.size + 1]? = some (.cells #[.slice none 0 0] 28 (0, 0)) ∧ A.heap[w.heap.size + 1 + 1]? = some (.cells #[err] 35 (0, 0)) ∧ Chain A err 5 ∧ Below w.heap.size w A
theorem Chain.gr {w w' : World} {err : Value} {x : Int} {B : Nat} (h : Chain w err x) (g : Gr B w w') : Chain w' err x := by
  obtain ⟨f1, f2, o1, o2, rfl, h1, h2⟩ := h.ex
  exact ⟨f1, f2, o1, o2, rfl, g.row _ _ _ _ h1, g.row _ _ _ _ h2⟩

set_option maxRecDepth 100000 in
set_option maxHeartbeats 4000000 in
theorem Scan_closed (x : Nat) (lo hi : ByteArray) (mm : Int) (w : World) (h : Shut x w) :
    Calls Tryz.prog 17 #[.pointer (some ⟨x, 0, none⟩), .string lo, .string hi, .int .i64 mm] w fun e w' => ∃ err, e = .returned (.tuple #[.slice none 0 0, err]) ∧ Chain w' err 5 ∧ Kept [] w w' := by
  refine (callsIn_wide (n := 1)).1 (callsIn_of_wp_marks Tryz.func17 rfl trivial ?_ rfl)
  simp only [Tryz.ntmps17, List.size_toArray, List.length_cons, List.length_nil, Nat.reduceAdd, Nat.reduceSub, Array.replicate_succ, Array.replicate_zero, List.push_toArray, List.append_toArray, List.nil_append, List.cons_append]
  refine wpIn_mono (Q := NoP _) ?_ NoP.of
  refine wpIn_wide.2 ?_
  by_cases hm : mm < 1
  · go_wp2_with (first | (go_at_call 38; refine (SAll_any x lo hi _).mono ?_; rintro e w1 ⟨rfl, hb1, hs1, hk1⟩))
    have hV0 := ScV.new w (0)
    obtain ⟨W0, eW0⟩ : ∃ W0, W0 = (((w.alloc (.cells #[.int .i64 (0)] 3)).alloc (.cells #[.slice none 0 0] 28)).alloc (.cells #[.nilIface] 35)).alloc (.cells #[.slice none 0 0] 28) := ⟨_, rfl⟩
    have s0 : W0.heap.size = w.heap.size + 1 + 1 + 1 + 1 := by rw [eW0, World.size_alloc, World.size_alloc, World.size_alloc, World.size_alloc]
    have k0 : Kept [] w W0 := by rw [eW0]; exact ((((Kept.refl [] w).alloc _).alloc _).alloc _).alloc _
    rw [← eW0] at hb1 hs1 hk1 hV0
    rw [s0] at hb1 hs1
    obtain ⟨MO, eMO⟩ : ∃ MO : Int, MO = (0) := ⟨_, rfl⟩
    rw [← eMO] at hV0
    have hV1 := hV0.gr (Nat.le_refl _) (Gr.of (B := w.heap.size) hk1)
    have K1 := k0.trans hk1
    have hit := SAll1_itrC [] x (w.heap.size + 1 + 1 + 1 + 1) (w.heap.size + 1 + 1 + 1 + 1 + 1) (w.heap.size + 1 + 1 + 1 + 1 + 1 + 1) lo hi w1 hb1 (K1.get h (by simp))
    have hge1 : w.heap.size + 7 ≤ w1.heap.size := by omega
    clear eW0 hV0 eMO hb1 hs1
    refine rangeO (α := Value) rfl (fun _ _ => by kernel_rfl) hit (fun _ => rfl)
      (SceI w MO) (SceX w) ?_ ?_ ⟨rfl, hV1⟩
      (fun p a' A => ∃ q, a' = { tmps := #[.pointer (some ⟨x, 0, none⟩), .string lo, .string hi, .int .i64 mm, undef, undef, undef, .pointer (some ⟨w.heap.size, 0, none⟩), .pointer (some ⟨w.heap.size + 1, 0, none⟩), .pointer (some ⟨w.heap.size + 1 + 1, 0, none⟩), .pointer (some ⟨w.heap.size + 1 + 1 + 1, 0, none⟩), .pointer (some ⟨q, 0, none⟩), p, .int .i64 mm, .bool true, .pointer (some ⟨x, 0, none⟩), .string lo, .string hi, .func (.func 57) #[] #[.pointer (some ⟨w.heap.size + 1 + 1 + 1 + 1, 0, none⟩), .pointer (some ⟨w.heap.size + 1 + 1 + 1 + 1 + 1, 0, none⟩), .pointer (some ⟨w.heap.size + 1 + 1 + 1 + 1 + 1 + 1, 0, none⟩)], .agg #[.string ⟨#[]⟩, .string ⟨#[]⟩], p, undef, undef, undef, undef, undef, undef, undef, undef, undef, undef, undef, undef], defers := [] }) ?_ ?_ ?assign ?body ?done ?stop
    · rintro s A A' ⟨h1, h2⟩ hg
      exact ⟨h1, h2.gr (by omega) hg⟩
    · rintro c s A A' ⟨h0, err, h1, h2, h3, h4⟩ hg
      exact ⟨h0, err, hg.row _ _ _ _ h1, hg.row _ _ _ _ h2, h3.gr hg, h4.trans ⟨hg.os, hg.tape, hg.output, by have := h4.size; have := hg.size; omega, fun k hk => hg.low k (Nat.lt_of_lt_of_le hk h4.size) (by omega)⟩⟩
    · rintro p a' _ A A' ⟨q, h1⟩ hg
      exact ⟨q, h1⟩
    · intro p _ A A' h hg; exact h.gr hg
    case assign =>
      rintro m l1 pre p A K _ hch hK
      obtain ⟨f1, f2, o1, o2, rfl, -, -⟩ := hch.ex
      clear hch
      dsimp only [encE]
      gi_wp2
      exact hK _ _ ((Kept.refl [] A).alloc _) ⟨A.heap.size, rfl⟩
    case body =>
      rintro m l1 pre p a' A ⟨rfl, hV⟩ hch ⟨q, rfl⟩ hlen
      have hAs := hV.bl.size
      have HC : Hid (Chain A p 5) := hch
      obtain ⟨f1, f2, o1, o2, rfl, hf1, hf2⟩ := hch.ex
      have c1 : A.cell? ⟨w.heap.size + 1, 0, none⟩ = some (.slice none 0 0) := cellAt hV.ro rfl
      have g1 : A.frozen? ⟨w.heap.size + 1, 0, none⟩ = false := frozen_of_row _ _ _ _ _ hV.ro
      have k1 : Kept [w.heap.size + 1] A (A.setCell ⟨w.heap.size + 1, 0, none⟩ (.slice none 0 0)) := (Kept.refl _ _).setCell (Or.inl (by simp)) _
      have u1 := setCellAt (i := 0) (.slice none 0 0) hV.ro
      have u2 := k1.get hV.re (by simp)
      have c2 : (A.setCell ⟨w.heap.size + 1, 0, none⟩ (.slice none 0 0)).cell? ⟨w.heap.size + 1 + 1, 0, none⟩ = some .nilIface := cellAt u2 rfl
      have g2 : (A.setCell ⟨w.heap.size + 1, 0, none⟩ (.slice none 0 0)).frozen? ⟨w.heap.size + 1 + 1, 0, none⟩ = false := frozen_of_row _ _ _ _ _ u2
      have k2 : Kept [w.heap.size + 1 + 1] (A.setCell ⟨w.heap.size + 1, 0, none⟩ (.slice none 0 0)) ((A.setCell ⟨w.heap.size + 1, 0, none⟩ (.slice none 0 0)).setCell ⟨w.heap.size + 1 + 1, 0, none⟩ (.iface 103 (.pointer (some ⟨f1, 0, none⟩)))) := (Kept.refl _ _).setCell (Or.inl (by simp)) _
      have t1 := k2.get u1 (by simp)
      have t2 := setCellAt (i := 0) (.iface 103 (.pointer (some ⟨f1, 0, none⟩))) u2
      have hB2 := (hV.bl.setCell (p := ⟨w.heap.size + 1, 0, none⟩) (by simp) (.slice none 0 0)).setCell (p := ⟨w.heap.size + 1 + 1, 0, none⟩) (by simp; omega) (.iface 103 (.pointer (some ⟨f1, 0, none⟩)))
      have nq1 : ∀ (f : Nat) (cs : Array Value), A.heap[f]? = some (.cells cs 106 (0, 0)) → ((A.setCell ⟨w.heap.size + 1, 0, none⟩ (.slice none 0 0)).setCell ⟨w.heap.size + 1 + 1, 0, none⟩ (.iface 103 (.pointer (some ⟨f1, 0, none⟩)))).heap[f]? = some (.cells cs 106 (0, 0)) := by
        intro f cs hf
        refine k2.get (k1.get hf ?_) ?_
        · intro hm
          simp at hm
          rw [hm, hV.ro] at hf
          cases hf
        · intro hm
          simp at hm
          rw [hm, hV.re] at hf
          cases hf
      have hKF : KeepsFrom w1.heap.size A ((A.setCell ⟨w.heap.size + 1, 0, none⟩ (.slice none 0 0)).setCell ⟨w.heap.size + 1 + 1, 0, none⟩ (.iface 103 (.pointer (some ⟨f1, 0, none⟩)))) := by
        refine ⟨Nat.le_trans k1.size k2.size, fun y o hy ho hc => ?_⟩
        have h2 := (k1.block y (lt_heap ho) (by simp; omega)).trans ho
        exact (k2.block y (lt_heap h2) (by simp; omega)).trans h2
      have FIN : Hid (KeepsFrom w1.heap.size A ((A.setCell ⟨w.heap.size + 1, 0, none⟩ (.slice none 0 0)).setCell ⟨w.heap.size + 1 + 1, 0, none⟩ (.iface 103 (.pointer (some ⟨f1, 0, none⟩)))) ∧ SceX w .ret ([] ++ [.iface 103 (.pointer (some ⟨f1, 0, none⟩))]) ((A.setCell ⟨w.heap.size + 1, 0, none⟩ (.slice none 0 0)).setCell ⟨w.heap.size + 1 + 1, 0, none⟩ (.iface 103 (.pointer (some ⟨f1, 0, none⟩))))) := ⟨hKF, rfl, _, t1, t2, ⟨f1, f2, o1, o2, rfl, nq1 _ _ hf1, nq1 _ _ hf2⟩, hB2⟩
      clear hV HC hch hf1 hf2 k1 k2 u1 u2 t1 t2 hB2 nq1 hKF
      gi_wp2
      exact FIN.out
    case done =>
      rintro D xs A hD ⟨e, rfl⟩ ⟨h1, _⟩ hdf
      cases h1
    case stop =>
      rintro D c pre A hD hpre ⟨rfl, err, h1, h2, h3, h4⟩ hdf
      have c1 := cell_kept (cellAt (j := 0) h1 rfl) (grownBy_putObj' _ D (.deferred none)) (fun r e => by cases e; exact ⟨_, hdf, rfl⟩)
      have c2 := cell_kept (cellAt (j := 0) h2 rfl) (grownBy_putObj' _ D (.deferred none)) (fun r e => by cases e; exact ⟨_, hdf, rfl⟩)
      have FIN : Hid (Chain (A.putObj D (.deferred none)) err 5 ∧ Kept [] w (A.putObj D (.deferred none))) := ⟨h3.gr (Gr.put (B := 0) _ (Nat.zero_le _) hdf rfl), Kept.of_below (h4.trans (belowK_b (w := w) (Nat.le_refl _) _ D _ _ (by omega) hdf rfl rfl))⟩
      go_wp2
      refine ⟨by simp, .inl ⟨_, _, rfl, run_takeDeferred hdf, ?_⟩⟩
      refine ⟨.tuple #[.slice none 0 0, err], ?_, err, rfl, FIN.out⟩
      simp [results, Tryz.f17, go_sem, c1, c2]
  · go_wp2_with (first | (go_at_call 38; refine (SAll_any x lo hi _).mono ?_; rintro e w1 ⟨rfl, hb1, hs1, hk1⟩))
    have hV0 := ScV.new w (mm)
    obtain ⟨W0, eW0⟩ : ∃ W0, W0 = (((w.alloc (.cells #[.int .i64 (mm)] 3)).alloc (.cells #[.slice none 0 0] 28)).alloc (.cells #[.nilIface] 35)).alloc (.cells #[.slice none 0 0] 28) := ⟨_, rfl⟩
    have s0 : W0.heap.size = w.heap.size + 1 + 1 + 1 + 1 := by rw [eW0, World.size_alloc, World.size_alloc, World.size_alloc, World.size_alloc]
    have k0 : Kept [] w W0 := by rw [eW0]; exact ((((Kept.refl [] w).alloc _).alloc _).alloc _).alloc _
    rw [← eW0] at hb1 hs1 hk1 hV0
    rw [s0] at hb1 hs1
    obtain ⟨MO, eMO⟩ : ∃ MO : Int, MO = (mm) := ⟨_, rfl⟩
    rw [← eMO] at hV0
    have hV1 := hV0.gr (Nat.le_refl _) (Gr.of (B := w.heap.size) hk1)
    have K1 := k0.trans hk1
    have hit := SAll1_itrC [] x (w.heap.size + 1 + 1 + 1 + 1) (w.heap.size + 1 + 1 + 1 + 1 + 1) (w.heap.size + 1 + 1 + 1 + 1 + 1 + 1) lo hi w1 hb1 (K1.get h (by simp))
    have hge1 : w.heap.size + 7 ≤ w1.heap.size := by omega
    clear eW0 hV0 eMO hb1 hs1
    refine rangeO (α := Value) rfl (fun _ _ => by kernel_rfl) hit (fun _ => rfl)
      (SceI w MO) (SceX w) ?_ ?_ ⟨rfl, hV1⟩
      (fun p a' A => ∃ q, a' = { tmps := #[.pointer (some ⟨x, 0, none⟩), .string lo, .string hi, .int .i64 mm, undef, undef, undef, .pointer (some ⟨w.heap.size, 0, none⟩), .pointer (some ⟨w.heap.size + 1, 0, none⟩), .pointer (some ⟨w.heap.size + 1 + 1, 0, none⟩), .pointer (some ⟨w.heap.size + 1 + 1 + 1, 0, none⟩), .pointer (some ⟨q, 0, none⟩), p, .int .i64 mm, .bool false, .pointer (some ⟨x, 0, none⟩), .string lo, .string hi, .func (.func 57) #[] #[.pointer (some ⟨w.heap.size + 1 + 1 + 1 + 1, 0, none⟩), .pointer (some ⟨w.heap.size + 1 + 1 + 1 + 1 + 1, 0, none⟩), .pointer (some ⟨w.heap.size + 1 + 1 + 1 + 1 + 1 + 1, 0, none⟩)], .agg #[.string ⟨#[]⟩, .string ⟨#[]⟩], p, undef, undef, undef, undef, undef, undef, undef, undef, undef, undef, undef, undef], defers := [] }) ?_ ?_ ?assign ?body ?done ?stop
    · rintro s A A' ⟨h1, h2⟩ hg
      exact ⟨h1, h2.gr (by omega) hg⟩
    · rintro c s A A' ⟨h0, err, h1, h2, h3, h4⟩ hg
      exact ⟨h0, err, hg.row _ _ _ _ h1, hg.row _ _ _ _ h2, h3.gr hg, h4.trans ⟨hg.os, hg.tape, hg.output, by have := h4.size; have := hg.size; omega, fun k hk => hg.low k (Nat.lt_of_lt_of_le hk h4.size) (by omega)⟩⟩
    · rintro p a' _ A A' ⟨q, h1⟩ hg
      exact ⟨q, h1⟩
    · intro p _ A A' h hg; exact h.gr hg
    case assign =>
      rintro m l1 pre p A K _ hch hK
      obtain ⟨f1, f2, o1, o2, rfl, -, -⟩ := hch.ex
      clear hch
      dsimp only [encE]
      gi_wp2
      exact hK _ _ ((Kept.refl [] A).alloc _) ⟨A.heap.size, rfl⟩
    case body =>
      rintro m l1 pre p a' A ⟨rfl, hV⟩ hch ⟨q, rfl⟩ hlen
      have hAs := hV.bl.size
      have HC : Hid (Chain A p 5) := hch
      obtain ⟨f1, f2, o1, o2, rfl, hf1, hf2⟩ := hch.ex
      have c1 : A.cell? ⟨w.heap.size + 1, 0, none⟩ = some (.slice none 0 0) := cellAt hV.ro rfl
      have g1 : A.frozen? ⟨w.heap.size + 1, 0, none⟩ = false := frozen_of_row _ _ _ _ _ hV.ro
      have k1 : Kept [w.heap.size + 1] A (A.setCell ⟨w.heap.size + 1, 0, none⟩ (.slice none 0 0)) := (Kept.refl _ _).setCell (Or.inl (by simp)) _
      have u1 := setCellAt (i := 0) (.slice none 0 0) hV.ro
      have u2 := k1.get hV.re (by simp)
      have c2 : (A.setCell ⟨w.heap.size + 1, 0, none⟩ (.slice none 0 0)).cell? ⟨w.heap.size + 1 + 1, 0, none⟩ = some .nilIface := cellAt u2 rfl
      have g2 : (A.setCell ⟨w.heap.size + 1, 0, none⟩ (.slice none 0 0)).frozen? ⟨w.heap.size + 1 + 1, 0, none⟩ = false := frozen_of_row _ _ _ _ _ u2
      have k2 : Kept [w.heap.size + 1 + 1] (A.setCell ⟨w.heap.size + 1, 0, none⟩ (.slice none 0 0)) ((A.setCell ⟨w.heap.size + 1, 0, none⟩ (.slice none 0 0)).setCell ⟨w.heap.size + 1 + 1, 0, none⟩ (.iface 103 (.pointer (some ⟨f1, 0, none⟩)))) := (Kept.refl _ _).setCell (Or.inl (by simp)) _
      have t1 := k2.get u1 (by simp)
      have t2 := setCellAt (i := 0) (.iface 103 (.pointer (some ⟨f1, 0, none⟩))) u2
      have hB2 := (hV.bl.setCell (p := ⟨w.heap.size + 1, 0, none⟩) (by simp) (.slice none 0 0)).setCell (p := ⟨w.heap.size + 1 + 1, 0, none⟩) (by simp; omega) (.iface 103 (.pointer (some ⟨f1, 0, none⟩)))
      have nq1 : ∀ (f : Nat) (cs : Array Value), A.heap[f]? = some (.cells cs 106 (0, 0)) → ((A.setCell ⟨w.heap.size + 1, 0, none⟩ (.slice none 0 0)).setCell ⟨w.heap.size + 1 + 1, 0, none⟩ (.iface 103 (.pointer (some ⟨f1, 0, none⟩)))).heap[f]? = some (.cells cs 106 (0, 0)) := by
        intro f cs hf
        refine k2.get (k1.get hf ?_) ?_
        · intro hm
          simp at hm
          rw [hm, hV.ro] at hf
          cases hf
        · intro hm
          simp at hm
          rw [hm, hV.re] at hf
          cases hf
      have hKF : KeepsFrom w1.heap.size A ((A.setCell ⟨w.heap.size + 1, 0, none⟩ (.slice none 0 0)).setCell ⟨w.heap.size + 1 + 1, 0, none⟩ (.iface 103 (.pointer (some ⟨f1, 0, none⟩)))) := by
        refine ⟨Nat.le_trans k1.size k2.size, fun y o hy ho hc => ?_⟩
        have h2 := (k1.block y (lt_heap ho) (by simp; omega)).trans ho
        exact (k2.block y (lt_heap h2) (by simp; omega)).trans h2
      have FIN : Hid (KeepsFrom w1.heap.size A ((A.setCell ⟨w.heap.size + 1, 0, none⟩ (.slice none 0 0)).setCell ⟨w.heap.size + 1 + 1, 0, none⟩ (.iface 103 (.pointer (some ⟨f1, 0, none⟩)))) ∧ SceX w .ret ([] ++ [.iface 103 (.pointer (some ⟨f1, 0, none⟩))]) ((A.setCell ⟨w.heap.size + 1, 0, none⟩ (.slice none 0 0)).setCell ⟨w.heap.size + 1 + 1, 0, none⟩ (.iface 103 (.pointer (some ⟨f1, 0, none⟩))))) := ⟨hKF, rfl, _, t1, t2, ⟨f1, f2, o1, o2, rfl, nq1 _ _ hf1, nq1 _ _ hf2⟩, hB2⟩
      clear hV HC hch hf1 hf2 k1 k2 u1 u2 t1 t2 hB2 nq1 hKF
      gi_wp2
      exact FIN.out
    case done =>
      rintro D xs A hD ⟨e, rfl⟩ ⟨h1, _⟩ hdf
      cases h1
    case stop =>
      rintro D c pre A hD hpre ⟨rfl, err, h1, h2, h3, h4⟩ hdf
      have c1 := cell_kept (cellAt (j := 0) h1 rfl) (grownBy_putObj' _ D (.deferred none)) (fun r e => by cases e; exact ⟨_, hdf, rfl⟩)
      have c2 := cell_kept (cellAt (j := 0) h2 rfl) (grownBy_putObj' _ D (.deferred none)) (fun r e => by cases e; exact ⟨_, hdf, rfl⟩)
      have FIN : Hid (Chain (A.putObj D (.deferred none)) err 5 ∧ Kept [] w (A.putObj D (.deferred none))) := ⟨h3.gr (Gr.put (B := 0) _ (Nat.zero_le _) hdf rfl), Kept.of_below (h4.trans (belowK_b (w := w) (Nat.le_refl _) _ D _ _ (by omega) hdf rfl rfl))⟩
      go_wp2
      refine ⟨by simp, .inl ⟨_, _, rfl, run_takeDeferred hdf, ?_⟩⟩
      refine ⟨.tuple #[.slice none 0 0, err], ?_, err, rfl, FIN.out⟩
      simp [results, Tryz.f17, go_sem, c1, c2]

end Go.Proofs.YtloihcnbcknbnaaGreatDoor
