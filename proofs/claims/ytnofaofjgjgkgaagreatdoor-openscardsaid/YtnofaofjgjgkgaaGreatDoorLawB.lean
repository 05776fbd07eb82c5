import Derived.Test.YtnofaofjgjgkgaaGreatDoorLawA
namespace Go.Proofs.YtnofaofjgjgkgaaGreatDoor
open Go.RowKit

theorem Glob.ne {w : World} {b : Nat} {cs : Array Value} {t : TypeId} {fr : Nat × Nat} (hg : Glob w) (h : w.heap[b]? = some (.cells cs t fr)) (hc : ∀ v, cs[0]? = some v → ∀ i u, v ≠ .iface i u) : b ≠ 0 := by
  intro e
  subst e
  unfold Glob at hg
  rw [cell_of_row _ _ _ _ _ _ h] at hg
  exact hc _ hg _ _ rfl

theorem Glob.ld {w : World} {q a : Nat} {n : Int} {may were s : Value} (hg : Glob w) (h : LD w q a n may were s) : q ≠ 0 := by
  refine hg.ne h ?_
  intro v hv i u e
  subst e
  simp [ldl] at hv
theorem Glob.dev {w : World} {a g n : Nat} {L : List UInt8} {c wr t : Int} (hg : Glob w) (h : Dev w a g n L c wr t) : a ≠ 0 ∧ g ≠ 0 := by
  constructor
  · refine hg.ne h.d ?_
    intro v hv i u e
    subst e
    simp [dcells] at hv
  · refine hg.ne h.b ?_
    intro v hv i u e
    subst e
    simp [u8s] at hv

theorem LD.setS {w : World} {q a : Nat} {n : Int} {may were s : Value} (h : LD w q a n may were s) (s' : Value) : LD (w.setCell ⟨q, 7, none⟩ s') q a n may were s' := setCellAt (i := 7) s' h
theorem LD.ne_dev {w : World} {q a a' g n' : Nat} {n : Int} {may were s : Value} {L : List UInt8} {c wr t : Int} (h : LD w q a n may were s) (d : Dev w a' g n' L c wr t) : q ≠ a' ∧ q ≠ g :=
  ⟨ne_tag h d.d (by decide), ne_tag h d.b (by decide)⟩
theorem maps_ne {w : World} {v : Value} {k q : Nat} {cs : Array Value} {t : TypeId} {fr : Nat × Nat} (hm : Maps w v k) (hq : w.heap[q]? = some (.cells cs t fr)) (ht : t ≠ 60) : ∀ b, v.ownBlock = some b → b ≠ q := by
  intro b hb e
  subst e
  obtain ⟨_, ⟨rfl, _⟩ | ⟨g, cap, cur, rfl, _, hh, _⟩⟩ := hm
  · cases hb
  · cases hb
    rw [hq] at hh
    simp only [Option.some.injEq, Obj.cells.injEq] at hh
    exact ht hh.2.1

def OpenedR (q a : Nat) (n : Int) (may were : Value) (R : World → Prop) (w : World) (e : Ending) (w' : World) : Prop := e = .returned (.bool true) ∧ (∃ s, LD w' q a n may were (.pointer s)) ∧ R w' ∧ Kept [q, a] w w'

set_option maxRecDepth 100000 in
set_option maxHeartbeats 4000000 in
theorem opened_no (q a g n : Nat) (may were s : Value) (hs : ∃ p, s = .pointer p) (L : List UInt8) (c wr t : Int) (w : World) (hG : Glob w) (hq : LD w q a n may were s) (h : Dev w a g n L c wr t) (hn : n < 8 ∨ 400 < n) :
    Calls Tryz.prog 15 #[.pointer (some ⟨q, 0, none⟩)] w (OpenedR q a n may were (DevC a g n L wr t) w) := by
  obtain ⟨ps, rfl⟩ := hs
  have c7 : w.cell? ⟨q, 7, none⟩ = some (.pointer ps) := cellAt hq rfl
  have f7 : w.frozen? ⟨q, 7, none⟩ = false := frozen_of_row _ _ _ _ _ hq
  have hq1 := hq.setS (.pointer none)
  have k1 : Kept [q] w (w.setCell ⟨q, 7, none⟩ (.pointer none)) := (Kept.refl _ _).setCell (Or.inl (by simp)) _
  obtain ⟨nqa, nqg⟩ := hq.ne_dev h
  have hq0 := hG.ld hq
  have h1 := h.kept k1 (by simpa using nqa.symm) (by simpa using nqg.symm)
  have hG1 := hG.kept k1 (by simpa using hq0.symm)
  have c0 : (w.setCell ⟨q, 7, none⟩ (.pointer none)).cell? ⟨q, 0, none⟩ = some (.pointer (some ⟨a, 0, none⟩)) := cellAt hq1 rfl
  have HO : Hid (Calls Tryz.prog 35 #[.pointer (some ⟨a, 0, none⟩)] (w.setCell ⟨q, 7, none⟩ (.pointer none)) (OpenNo 8 [] Always (w.setCell ⟨q, 7, none⟩ (.pointer none)))) :=
    POpen_of a _ _ ((Open_no a n n _ _ c wr t _ h1.d hn).mono (by rintro e w' ⟨err, rfl, r⟩; exact ⟨_, _, rfl, err, rfl, r⟩))
  have cw0 : w.cell? ⟨q, 0, none⟩ = some (.pointer (some ⟨a, 0, none⟩)) := cellAt hq rfl
  have hfit : decide (8 ≤ n ∧ n ≤ 400) = false := by simp; omega
  clear hG hq h
  generalize hw1 : w.setCell ⟨q, 7, none⟩ (.pointer none) = w1 at *
  have HW : Hid _ := hw1
  clear hw1 hn
  go_enter Tryz.func15, Tryz.ntmps15
  go_wp2_with (first
    | (go_at_call 26; try rw [HW.out]; refine (DTold_any a _ _ _ _ _ _ (Dev.d (by assumption))).mono ?_; rintro e w' ⟨rfl, rfl⟩)
    | (go_at_call 33; refine (DWrites_any a _ _ _ _ _ _ (Dev.d (by assumption))).mono ?_; rintro e w' ⟨rfl, rfl⟩)
    | (go_at_call 34; refine (DPending_any a _ _ _ _ _ _ _ _ (Dev.d (by assumption))).mono ?_; rintro e w' ⟨rfl, rfl⟩)
    | (go_at_call 35; refine HO.out.mono ?_; rintro e w2 ⟨err, rfl, hc2, _, hk2⟩)
    | (go_at_call 28; refine (PTold_chain _ _ _ (hG1.kept hk2 (by simp)) hc2).mono ?_; rintro e w3 ⟨rfl, hk3⟩; have hq3 : LD w3 q a n may were (.pointer none) := (hk2.trans hk3).get hq1 (by simp); have hl3 := hq3.load; have h3 := h1.kept (hk2.trans hk3) (by simp) (by simp))
    | (refine wpList_load_seg rfl 40 (.tmp 41) rfl ⟨q, 1, none⟩ rfl _ hl3 ?_)
    | (go_at_call 29; refine (Fits_any n _ _ _ _ _ _).mono ?_; rintro e w4 ⟨rfl, hk4⟩; rw [hfit]; have hq4 : LD w4 q a n may were (.pointer none) := hk4.get hq3 (by simp); have h4 := h3.kept hk4 (by simp) (by simp); have d4 : w4.cell? ⟨q, 0, none⟩ = some (.pointer (some ⟨a, 0, none⟩)) := cellAt hq4 rfl)
    | (go_at_call 30; refine (num_any _ _).mono ?_; rintro e w' ⟨rfl, rfl⟩))
  go_ret
  exact ⟨rfl, ⟨_, hq4⟩, ⟨c, h4⟩, (k1.mono (by simp)).trans (((hk2.trans hk3).trans hk4).mono (by simp))⟩

end Go.Proofs.YtnofaofjgjgkgaaGreatDoor
