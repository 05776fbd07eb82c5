import Derived.Test.YtnofaofjgjgkgaaGreatDoorLawB2
namespace Go.Proofs.YtnofaofjgjgkgaaGreatDoor
open Go.RowKit

set_option maxRecDepth 100000 in
set_option maxHeartbeats 400000 in
theorem opened_fits (q a g n k : Nat) (may were s : Value) (hs : ∃ p, s = .pointer p) (L : List UInt8) (c wr t : Int) (w : World) (hG : Glob w) (hq : LD w q a n may were s) (h : Dev w a g n L c wr t) (hn8 : 8 ≤ n) (hn : n ≤ 400) (hk0 : 0 < k) (hk : k ≤ 50000) (hS : St k L) (hm : Maps w may 1) :
    Calls Tryz.prog 15 #[.pointer (some ⟨q, 0, none⟩)] w (OpenedR q a n may were (DevC a g n L wr t) w) := by
  obtain ⟨ps, rfl⟩ := hs
  have c7 : w.cell? ⟨q, 7, none⟩ = some (.pointer ps) := cellAt hq rfl
  have f7 : w.frozen? ⟨q, 7, none⟩ = false := frozen_of_row _ _ _ _ _ hq
  have hq1 := hq.setS (.pointer none)
  have k1 : Kept [q] w (w.setCell ⟨q, 7, none⟩ (.pointer none)) := (Kept.refl _ _).setCell (Or.inl (by simp)) _
  have nm := maps_ne hm hq (by decide)
  have na := maps_ne hm h.d (by decide)
  have hm1 := owns_kept hm k1 (by intro b hb; simpa using nm b hb)
  obtain ⟨nqa, nqg⟩ := hq.ne_dev h
  have hq0 := hG.ld hq
  have h1 := h.kept k1 (by simpa using nqa.symm) (by simpa using nqg.symm)
  have hG1 := hG.kept k1 (by simpa using hq0.symm)
  have c0 : (w.setCell ⟨q, 7, none⟩ (.pointer none)).cell? ⟨q, 0, none⟩ = some (.pointer (some ⟨a, 0, none⟩)) := cellAt hq1 rfl
  have HO : Hid (Calls Tryz.prog 35 #[.pointer (some ⟨a, 0, none⟩)] (w.setCell ⟨q, 7, none⟩ (.pointer none)) (OpenOk a g n L wr t (w.setCell ⟨q, 7, none⟩ (.pointer none)))) :=
    POpen_of a _ _ ((Open_fits a g n k L c wr t _ h1 hn8 hn hk hk0 hS).mono (by rintro e w' ⟨st, c', rfl, r⟩; exact ⟨_, _, rfl, st, c', rfl, r⟩))
  have cw0 : w.cell? ⟨q, 0, none⟩ = some (.pointer (some ⟨a, 0, none⟩)) := cellAt hq rfl
  have hfit : decide (8 ≤ n ∧ n ≤ 400) = true := by simp; omega
  clear hG hq h
  generalize hw1 : w.setCell ⟨q, 7, none⟩ (.pointer none) = w1 at *
  have HW : Hid _ := hw1
  clear hw1 hn hn8 hS hk hk0
  go_enter Tryz.func15, Tryz.ntmps15
  go_wp2_with (first
    | (go_at_call 26; rw [HW.out]; refine (DTold_any a _ _ _ _ _ _ (Dev.d (by assumption))).mono ?_; rintro e w' ⟨rfl, rfl⟩)
    | (go_at_call 33; refine (DWrites_any a _ _ _ _ _ _ (Dev.d (by assumption))).mono ?_; rintro e w' ⟨rfl, rfl⟩)
    | (go_at_call 34; refine (DPending_any a _ _ _ _ _ _ _ _ (Dev.d (by assumption))).mono ?_; rintro e w' ⟨rfl, rfl⟩)
    | (go_at_call 35; refine HO.out.mono ?_; rintro e w2 ⟨st, c2, rfl, h2, hk2⟩; have hq2 : LD w2 q a n may were (.pointer none) := hk2.get hq1 (by simpa using nqa); have hl2 := hq2.load; have hm2 := owns_kept hm1 hk2 (by intro b hb; simpa using na b hb))
    | (go_at_call 28; refine (PTold_nil _).mono ?_; rintro e w' ⟨rfl, rfl⟩)
    | (refine wpList_load_seg rfl 40 (.tmp 41) rfl ⟨q, 1, none⟩ rfl _ hl2 ?_)
    | (go_at_call 29; refine (Fits_any n _ _ _ _ _ _).mono ?_; rintro e w4 ⟨rfl, hk4⟩; rw [hfit]; have hq4 : LD w4 q a n may were (.pointer none) := hk4.get hq2 (by simp); have hm4 := owns_kept hm2 hk4 (by simp); have h4 := h2.kept hk4 (by simp) (by simp); have d4 : w4.cell? ⟨q, 0, none⟩ = some (.pointer (some ⟨a, 0, none⟩)) := cellAt hq4 rfl)
    | (go_at_call 30; refine (num_any _ _).mono ?_; rintro e w' ⟨rfl, rfl⟩))
  refine (DTold_any a _ _ _ wr t _ h4.d).mono ?_
  rintro e w5 ⟨rfl, rfl⟩
  go_wp2_with fail
  refine (num_any _ _).mono ?_
  rintro e w6 ⟨rfl, rfl⟩
  go_wp2_with fail
  refine (found_any q a n may were (.pointer none) _ ⟨_, rfl⟩ _ _ _ _ _ _ hq4 hm4 h4.d).mono ?_
  rintro e w7 ⟨rfl, ⟨s5, hq5⟩, hk5⟩
  go_wp2
  go_ret
  exact ⟨rfl, ⟨_, hq5⟩, ⟨c2, h4.kept hk5 (by simpa using nqa.symm) (by simpa using nqg.symm)⟩, (((k1.mono (by simp)).trans (hk2.mono (by simp))).trans (hk4.mono (by simp))).trans (hk5.mono (by simp))⟩

end Go.Proofs.YtnofaofjgjgkgaaGreatDoor
