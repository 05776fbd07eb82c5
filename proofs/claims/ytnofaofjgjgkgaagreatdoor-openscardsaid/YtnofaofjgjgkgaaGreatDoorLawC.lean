import Derived.Test.YtnofaofjgjgkgaaGreatDoorLawB3
namespace Go.Proofs.YtnofaofjgjgkgaaGreatDoor
open Go.RowKit

theorem wpList_store_seg {P : Program} {ops : Array Oper} {Q : Exit → Act → World → Prop} {rest : List Oper} {o : Oper} {a : Act} {w : World} (hgd : o.guard = none) (ty : TypeId) (x y : Operand) (ho : o.op = .store ty x y) (ad : Addr) (hx : a.eval x = .pointer (some ad)) (v : Value) (hy : a.eval y = v) (w' : World)
    (hrun : (storeVar ty ad v).run P w = .ok () w') (h : wpList P ops Q rest (a.put o.dst undef) w') : wpList P ops Q (o :: rest) a w :=
  wpList_skip hgd w' (exec_store ty x y ho ad hx v hy hrun) h

theorem LD.store {w : World} {q a : Nat} {n : Int} {may were s : Value} (h : LD w q a n may were s) (p1 p2 : Option Addr) (l1 q1 l2 q2 : Nat) :
    (storeVar 40 ⟨q, 1, none⟩ (.agg (rcells n (.slice p1 l1 q1) false (.slice p2 l2 q2) false false))).run Tryz.prog w = .ok () (w.setRow q (ldl a n (.slice p1 l1 q1) (.slice p2 l2 q2) s).toArray) := by
  have := run_storeVar_seg (P := Tryz.prog) w q 1 43 40 (ldl a n may were s) [.int .i64 n, .slice p1 l1 q1, .bool false, .slice p2 l2 q2, .bool false, .bool false] h srd (by simp [ldl]) (by simp [Value.oneCell'])
  simpa [splice, ldl, rcells] using this
theorem LD.stored {w : World} {q a : Nat} {n : Int} {may were s : Value} (h : LD w q a n may were s) (m2 w2 : Value) : LD (w.setRow q (ldl a n m2 w2 s).toArray) q a n m2 w2 s := setRow_heap w q _ _ _ _ h

set_option maxRecDepth 100000 in
set_option maxHeartbeats 1000000 in
theorem formatted_no (q a g n : Nat) (may were s : Value) (hs : ∃ p, s = .pointer p) (L : List UInt8) (c wr t : Int) (w : World) (hG : Glob w) (hq : LD w q a n may were s) (h : Dev w a g n L c wr t) (hn : n < 8 ∨ 400 < n) :
    Calls Tryz.prog 14 #[.pointer (some ⟨q, 0, none⟩)] w (OpenedR q a n may were (DevC a g n L wr t) w) := by
  obtain ⟨ps, rfl⟩ := hs
  have c7 : w.cell? ⟨q, 7, none⟩ = some (.pointer ps) := cellAt hq rfl
  have f7 : w.frozen? ⟨q, 7, none⟩ = false := frozen_of_row _ _ _ _ _ hq
  have hq1 := hq.setS (.pointer none)
  have k1 : Kept [q] w (w.setCell ⟨q, 7, none⟩ (.pointer none)) := (Kept.refl _ _).setCell (Or.inl (by simp)) _
  obtain ⟨nqa, nqg⟩ := hq.ne_dev h
  have hq0 := hG.ld hq
  have h1 := h.kept k1 (by simpa using nqa.symm) (by simpa using nqg.symm)
  have hG1 := hG.kept k1 (by simpa using hq0.symm)
  have c0 : (w.setCell ⟨q, 7, none⟩ (.pointer none)).cell? ⟨q, 0, none⟩ = some (.pointer (some ⟨a, 0, none⟩)) := cellAt hq1 rfl
  have HO : Hid (Calls Tryz.prog 27 #[.pointer (some ⟨a, 0, none⟩)] (w.setCell ⟨q, 7, none⟩ (.pointer none)) (Gives 8 [] Always (w.setCell ⟨q, 7, none⟩ (.pointer none)))) :=
    PFormat_of a _ _ ((Format_no a n n _ _ c wr t _ h1.d hn).mono (by rintro e w' ⟨err, rfl, r⟩; exact ⟨_, rfl, err, rfl, r⟩))
  have cw0 : w.cell? ⟨q, 0, none⟩ = some (.pointer (some ⟨a, 0, none⟩)) := cellAt hq rfl
  have hfit : decide (8 ≤ n ∧ n ≤ 400) = false := by simp; omega
  clear hG hq h
  generalize hw1 : w.setCell ⟨q, 7, none⟩ (.pointer none) = w1 at *
  have HW : Hid _ := hw1
  clear hw1 hn
  go_enter Tryz.func14, Tryz.ntmps14
  go_wp2_with (first
    | (go_at_call 26; rw [HW.out]; refine (DTold_any a _ _ _ _ _ _ (Dev.d (by assumption))).mono ?_; rintro e w' ⟨rfl, rfl⟩)
    | (go_at_call 27; refine HO.out.mono ?_; rintro e w2 ⟨err, rfl, hc2, _, hk2⟩)
    | (go_at_call 28; refine (PTold_chain _ _ _ (hG1.kept hk2 (by simp)) hc2).mono ?_; rintro e w3 ⟨rfl, hk3⟩; have hq3 : LD w3 q a n may were (.pointer none) := (hk2.trans hk3).get hq1 (by simp); have hl3 := hq3.load; have h3 := h1.kept (hk2.trans hk3) (by simp) (by simp))
    | (refine wpList_load_seg rfl 40 (.tmp 24) rfl ⟨q, 1, none⟩ rfl _ hl3 ?_)
    | (go_at_call 29; refine (Fits_any n _ _ _ _ _ _).mono ?_; rintro e w4 ⟨rfl, hk4⟩; rw [hfit]; have hq4 : LD w4 q a n may were (.pointer none) := hk4.get hq3 (by simp); have h4 := h3.kept hk4 (by simp) (by simp))
    | (go_at_call 30; refine (num_any _ _).mono ?_; rintro e w' ⟨rfl, rfl⟩))
  go_ret
  exact ⟨rfl, ⟨_, hq4⟩, ⟨c, h4⟩, (k1.mono (by simp)).trans (((hk2.trans hk3).trans hk4).mono (by simp))⟩

/-- what a Format leaves of a disk of the script -/
def FormedR (q a g n k : Nat) (w : World) (e : Ending) (w' : World) : Prop :=
  e = .returned (.bool true) ∧ (∃ may were, LD w' q a n may were (.pointer none) ∧ Maps w' may 1 ∧ Maps w' were (k + 1)) ∧ (∃ t, Formed a g n k t w') ∧ Kept [q, a, g] w w'

set_option maxRecDepth 100000 in
set_option maxHeartbeats 1000000 in
theorem formatted_fits (q a g n k m : Nat) (may were s : Value) (hs : ∃ p, s = .pointer p) (L : List UInt8) (c wr t : Int) (w : World) (hG : Glob w) (hq : LD w q a n may were s) (h : Dev w a g n L c wr t) (hn8 : 8 ≤ n) (hn : n ≤ 400) (hk : k ≤ 20000) (hS : St k L) (hm : Maps w may m) (hm1 : m ≤ 1) (hw : Maps w were k) :
    Calls Tryz.prog 14 #[.pointer (some ⟨q, 0, none⟩)] w (FormedR q a g n k w) := by
  obtain ⟨ps, rfl⟩ := hs
  have c7 : w.cell? ⟨q, 7, none⟩ = some (.pointer ps) := cellAt hq rfl
  have f7 : w.frozen? ⟨q, 7, none⟩ = false := frozen_of_row _ _ _ _ _ hq
  have hq1 := hq.setS (.pointer none)
  have k1 : Kept [q] w (w.setCell ⟨q, 7, none⟩ (.pointer none)) := (Kept.refl _ _).setCell (Or.inl (by simp)) _
  have m1 := owns_kept hm k1 (by intro b hb; simpa using maps_ne hm hq (by decide) b hb)
  have ma := maps_ne hm h.d (by decide)
  have mg := maps_ne hm h.b (by decide)
  have u1 := owns_kept hw k1 (by intro b hb; simpa using maps_ne hw hq (by decide) b hb)
  have ua := maps_ne hw h.d (by decide)
  have ug := maps_ne hw h.b (by decide)
  obtain ⟨nqa, nqg⟩ := hq.ne_dev h
  have hq0 := hG.ld hq
  have h1 := h.kept k1 (by simpa using nqa.symm) (by simpa using nqg.symm)
  have c0 : (w.setCell ⟨q, 7, none⟩ (.pointer none)).cell? ⟨q, 0, none⟩ = some (.pointer (some ⟨a, 0, none⟩)) := cellAt hq1 rfl
  have HO : Hid (Calls Tryz.prog 27 #[.pointer (some ⟨a, 0, none⟩)] (w.setCell ⟨q, 7, none⟩ (.pointer none)) fun e w' => e = .returned .nilIface ∧ Formed a g n k t w' ∧ Kept [a, g] (w.setCell ⟨q, 7, none⟩ (.pointer none)) w') :=
    PFormat_of a _ _ ((Format_fits a g n k L c wr t _ h1 hn8 hn (by omega) hS).mono (by rintro e w' ⟨rfl, r⟩; exact ⟨_, rfl, rfl, r⟩))
  have cw0 : w.cell? ⟨q, 0, none⟩ = some (.pointer (some ⟨a, 0, none⟩)) := cellAt hq rfl
  have hfit : decide (8 ≤ n ∧ n ≤ 400) = true := by simp; omega
  clear hG hq h hm hw hS
  generalize hw1 : w.setCell ⟨q, 7, none⟩ (.pointer none) = w1 at *
  have HW : Hid _ := hw1
  clear hw1 hn hn8
  go_enter Tryz.func14, Tryz.ntmps14
  go_wp2_with (first
    | (go_at_call 26; rw [HW.out]; refine (DTold_any a _ _ _ _ _ _ (Dev.d (by assumption))).mono ?_; rintro e w' ⟨rfl, rfl⟩)
    | (go_at_call 27; refine HO.out.mono ?_; rintro e w2 ⟨rfl, hF2, hk2⟩; have hq2 : LD w2 q a n may were (.pointer none) := hk2.get hq1 (by simp; exact ⟨nqa, nqg⟩); have hl2 := hq2.load; have m2 := owns_kept m1 hk2 (by intro b hb; simp; exact ⟨ma b hb, mg b hb⟩); have u2 := owns_kept u1 hk2 (by intro b hb; simp; exact ⟨ua b hb, ug b hb⟩))
    | (go_at_call 28; refine (PTold_nil _).mono ?_; rintro e w' ⟨rfl, rfl⟩)
    | (refine wpList_load_seg rfl 40 (.tmp 24) rfl ⟨q, 1, none⟩ rfl _ hl2 ?_)
    | (go_at_call 29; refine (Fits_any n _ _ _ _ _ _).mono ?_; rintro e w4 ⟨rfl, hk4⟩; rw [hfit]; have hq4 : LD w4 q a n may were (.pointer none) := hk4.get hq2 (by simp); have hl4 := hq4.load; have hF4 := hF2.kept hk4 (by simp) (by simp); have m4 := owns_kept m2 hk4 (by simp); have u4 := owns_kept u2 hk4 (by simp); clear hF2 hl2 hq2 m2 u2)
    | (refine wpList_load_seg rfl 40 (.tmp 37) rfl ⟨q, 1, none⟩ rfl _ hl4 ?_)
    | (go_at_call 31; refine (Only_any n may were m k false false false _ m4 u4 (by omega) (by omega)).mono ?_; rintro e w5 ⟨v1, v2, rfl, m5, u5, hk5⟩; obtain ⟨p1, l1, q1, rfl⟩ := owns_slice m5; obtain ⟨p2, l2, q2, rfl⟩ := owns_slice u5; have hq5 : LD w5 q a n may were (.pointer none) := hk5.get hq4 (by simp); have hst := hq5.store p1 p2 l1 q1 l2 q2; have hq6 := hq5.stored (.slice p1 l1 q1) (.slice p2 l2 q2); have k6 : Kept [q] w5 (w5.setRow q (ldl a n (.slice p1 l1 q1) (.slice p2 l2 q2) (.pointer none)).toArray) := (Kept.refl _ _).setRow (Or.inl (by simp)) _; generalize hw6 : w5.setRow q (ldl a n (.slice p1 l1 q1) (.slice p2 l2 q2) (.pointer none)).toArray = w6 at *; clear hw6; have c65 : w6.cell? ⟨q, 5, none⟩ = some (.bool false) := cellAt hq6 rfl; have f65 : w6.frozen? ⟨q, 5, none⟩ = false := frozen_of_row _ _ _ _ _ hq6; have hq7 := setCellAt (i := 5) (.bool false) hq6; have c76 : (w6.setCell ⟨q, 5, none⟩ (.bool false)).cell? ⟨q, 6, none⟩ = some (.bool false) := cellAt hq7 rfl; have f76 : (w6.setCell ⟨q, 5, none⟩ (.bool false)).frozen? ⟨q, 6, none⟩ = false := frozen_of_row _ _ _ _ _ hq7; have c66 : w6.cell? ⟨q, 6, none⟩ = some (.bool false) := cellAt hq6 rfl; have f66 : w6.frozen? ⟨q, 6, none⟩ = false := frozen_of_row _ _ _ _ _ hq6; clear hl4)
    | (refine wpList_store_seg rfl 40 (.tmp 42) (.tmp 40) rfl ⟨q, 1, none⟩ rfl _ rfl _ hst ?_))
  go_ret
  have hq8 := setCellAt (i := 6) (.bool false) hq7
  have k8 : Kept [q] w5 ((w6.setCell ⟨q, 5, none⟩ (.bool false)).setCell ⟨q, 6, none⟩ (.bool false)) := (k6.setCell (p := ⟨q, 5, none⟩) (Or.inl (by simp)) _).setCell (p := ⟨q, 6, none⟩) (Or.inl (by simp)) _
  have hF8 := (hF4.kept hk5 (by simp) (by simp)).kept k8 (by simpa using nqa.symm) (by simpa using nqg.symm)
  have m8 := owns_kept m5 k8 (by intro b hb; simpa using maps_ne m5 hq5 (by decide) b hb)
  have u8 := owns_kept u5 k8 (by intro b hb; simpa using maps_ne u5 hq5 (by decide) b hb)
  refine ⟨rfl, ⟨_, _, hq8, m8, u8⟩, ⟨t, hF8⟩, ?_⟩
  exact (((k1.mono (by simp)).trans (hk2.mono (by simp))).trans ((hk4.trans hk5).mono (by simp))).trans (k8.mono (by simp))

end Go.Proofs.YtnofaofjgjgkgaaGreatDoor
