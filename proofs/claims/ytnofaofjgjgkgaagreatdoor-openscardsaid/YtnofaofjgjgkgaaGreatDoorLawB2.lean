import Derived.Test.YtnofaofjgjgkgaaGreatDoorLawB
namespace Go.Proofs.YtnofaofjgjgkgaaGreatDoor
open Go.RowKit

set_option maxRecDepth 100000 in
set_option maxHeartbeats 400000 in
theorem opened_none (q a g n : Nat) (were s : Value) (hs : ∃ p, s = .pointer p) (L : List UInt8) (c wr t : Int) (w : World) (hG : Glob w) (hq : LD w q a n (.slice none 0 0) were s) (h : Dev w a g n L c wr t) (hn8 : 8 ≤ n) (hn : n ≤ 400) (hS : St 0 L) :
    Calls Tryz.prog 15 #[.pointer (some ⟨q, 0, none⟩)] w (OpenedR q a n (.slice none 0 0) were (DevC a g n L wr t) w) := by
  obtain ⟨ps, rfl⟩ := hs
  have c7 : w.cell? ⟨q, 7, none⟩ = some (.pointer ps) := cellAt hq rfl
  have f7 : w.frozen? ⟨q, 7, none⟩ = false := frozen_of_row _ _ _ _ _ hq
  have hq1 := hq.setS (.pointer none)
  have k1 : Kept [q] w (w.setCell ⟨q, 7, none⟩ (.pointer none)) := (Kept.refl _ _).setCell (Or.inl (by simp)) _
  have ha0 := (hG.dev h).1
  obtain ⟨nqa, nqg⟩ := hq.ne_dev h
  have hq0 := hG.ld hq
  have h1 := h.kept k1 (by simpa using nqa.symm) (by simpa using nqg.symm)
  have hG1 := hG.kept k1 (by simpa using hq0.symm)
  have c0 : (w.setCell ⟨q, 7, none⟩ (.pointer none)).cell? ⟨q, 0, none⟩ = some (.pointer (some ⟨a, 0, none⟩)) := cellAt hq1 rfl
  have HO : Hid (Calls Tryz.prog 35 #[.pointer (some ⟨a, 0, none⟩)] (w.setCell ⟨q, 7, none⟩ (.pointer none)) (OpenNo 7 [a] (DevC a g n L wr t) (w.setCell ⟨q, 7, none⟩ (.pointer none)))) :=
    POpen_of a _ _ ((Open_none a g n L c wr t _ h1 hn8 hn hS).mono (by rintro e w' ⟨err, rfl, r⟩; exact ⟨_, _, rfl, err, rfl, r⟩))
  have cw0 : w.cell? ⟨q, 0, none⟩ = some (.pointer (some ⟨a, 0, none⟩)) := cellAt hq rfl
  have hfit : decide (8 ≤ n ∧ n ≤ 400) = true := by simp; omega
  clear hG hq h
  generalize hw1 : w.setCell ⟨q, 7, none⟩ (.pointer none) = w1 at *
  have HW : Hid _ := hw1
  clear hw1 hn hn8 hS
  go_enter Tryz.func15, Tryz.ntmps15
  go_wp2_with (first
    | (go_at_call 26; rw [HW.out]; refine (DTold_any a _ _ _ _ _ _ (Dev.d (by assumption))).mono ?_; rintro e w' ⟨rfl, rfl⟩)
    | (go_at_call 33; refine (DWrites_any a _ _ _ _ _ _ (Dev.d (by assumption))).mono ?_; rintro e w' ⟨rfl, rfl⟩)
    | (go_at_call 34; refine (DPending_any a _ _ _ _ _ _ _ _ (Dev.d (by assumption))).mono ?_; rintro e w' ⟨rfl, rfl⟩)
    | (go_at_call 35; refine HO.out.mono ?_; rintro e w2 ⟨err, rfl, hc2, ⟨c2, h2⟩, hk2⟩)
    | (go_at_call 28; refine (PTold_chain _ _ _ (hG1.kept hk2 (by simpa using ha0.symm)) hc2).mono ?_; rintro e w3 ⟨rfl, hk3⟩; have hq2 : LD w2 q a n (.slice none 0 0) were (.pointer none) := hk2.get hq1 (by simpa using nqa); have hq3 : LD w3 q a n (.slice none 0 0) were (.pointer none) := hk3.get hq2 (by simp); have hl3 := hq3.load; have h3 := h2.kept hk3 (by simp) (by simp))
    | (refine wpList_load_seg rfl 40 (.tmp 41) rfl ⟨q, 1, none⟩ rfl _ hl3 ?_)
    | (go_at_call 29; refine (Fits_any n _ _ _ _ _ _).mono ?_; rintro e w4 ⟨rfl, hk4⟩; rw [hfit]; have hq4 : LD w4 q a n (.slice none 0 0) were (.pointer none) := hk4.get hq3 (by simp); have h4 := h3.kept hk4 (by simp) (by simp); have d4 : w4.cell? ⟨q, 0, none⟩ = some (.pointer (some ⟨a, 0, none⟩)) := cellAt hq4 rfl; have d42 : w4.cell? ⟨q, 2, none⟩ = some (.slice none 0 0) := cellAt hq4 rfl; have d43 : w4.cell? ⟨q, 3, none⟩ = some (.bool false) := cellAt hq4 rfl; have d45 : w4.cell? ⟨q, 5, none⟩ = some (.bool false) := cellAt hq4 rfl)
    | (go_at_call 30; refine (num_any _ _).mono ?_; rintro e w' ⟨rfl, rfl⟩))
  refine (DTold_any a _ _ _ wr t _ h4.d).mono ?_
  rintro e w5 ⟨rfl, rfl⟩
  go_wp2_with fail
  refine (num_any _ _).mono ?_
  rintro e w6 ⟨rfl, rfl⟩
  go_wp2
  go_ret
  exact ⟨rfl, ⟨_, hq4⟩, ⟨c2, h4⟩, ((k1.mono (by simp)).trans (hk2.mono (by simp))).trans ((hk3.trans hk4).mono (by simp))⟩


end Go.Proofs.YtnofaofjgjgkgaaGreatDoor
