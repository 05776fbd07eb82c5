import Derived.Test.YtcklgafpgdhnaaaGreatDoorPtak
set_option maxRecDepth 100000
set_option maxHeartbeats 4000000
open List renaming getElem_toArray → zA, getElem_cons_succ → zB, getElem_cons_zero → zC, setIfInBounds_toArray → zD, set_cons_succ → zE, set_cons_zero → zF
namespace Go.Proofs.YtcklgafpgdhnaaaGreatDoor
open Go.RowKit

theorem LD.setS {w : World} {q a : Nat} {n : Int} {may were s : Value} (h : LD w q a n may were s) (s' : Value) : LD (w.setCell ⟨q, 7, none⟩ s') q a n may were s' := setCellAt (i := 7) s' h
theorem LD.ne_dev {w : World} {q a a' g n' : Nat} {n : Int} {may were s : Value} {L : List UInt8} {c wr t : Int} (h : LD w q a n may were s) (d : Dev w a' g n' L c wr t) : q ≠ a' ∧ q ≠ g :=
 ⟨ne_tag h d.d (by decide), ne_tag h d.b (by decide)⟩
theorem maps_ne {w : World} {v : Value} {k q : Nat} {cs : Array Value} {t : TypeId} {fr : Nat × Nat} (hm : Maps w v k) (hq : w.heap[q]? = some (.cells cs t fr)) (ht : t ≠ 189) : ∀ b, v.ownBlock = some b → b ≠ q := by
 intro b hb e
 subst e
 obtain ⟨_, ⟨rfl, _⟩ | ⟨g, cap, cur, rfl, _, hh, _⟩⟩ := hm
 ·cases hb
 ·cases hb
  rw [hq] at hh
  simp only [Option.some.injEq, Obj.cells.injEq] at hh
  exact ht hh.2.1

def NoneR (q a g n : Nat) (may were : Value) (L : List UInt8) (wr t : Int) (w : World) (e : Ending) (w' : World) : Prop :=
 e = .returned (.bool true) ∧ LD w' q a n may were (.pointer none) ∧ (∃ c, Dev w' a g n L c wr t) ∧ Kept [q, a] w w'

theorem open_no (I : Iface) (q a g n : Nat) (may were s : Value) (hs : ∃ p, s = .pointer p) (L : List UInt8) (c wr t : Int) (w : World) (hG : Glob w) (hq : LD w q a n may were s) (h : Dev w a g n L c wr t) (hn : n < 8 ∨ 400 < n) :
  Calls Tryz.prog 99 #[.pointer (some ⟨q, 0, none⟩)] w (NoneR q a g n may were L wr t w) := by
 obtain ⟨ps, rfl⟩ := hs
 have c7 : w.cell? ⟨q, 7, none⟩ = some (.pointer ps) := cellAt hq rfl
 have f7 : w.frozen? ⟨q, 7, none⟩ = false := frozen_of_row _ _ _ _ _ hq
 have hq1 := hq.setS (.pointer none)
 have k1 : Kept [q] w (w.setCell ⟨q, 7, none⟩ (.pointer none)) := (Kept.refl _ _).setCell (Or.inl (by simp)) _
 have ha0 := (hG.dev h).1
 obtain ⟨nqa, nqg⟩ := hq.ne_dev h
 have hq0 := hG.ld hq
 have h1 := h.kept k1 (by simpa using nqa.symm) (by simpa using nqg.symm)
 have hG1 := hG.kept k1 (by simpa using hq0.symm)
 have c0 : (w.setCell ⟨q, 7, none⟩ (.pointer none)).cell? ⟨q, 0, none⟩ = some (.pointer (some ⟨a, 0, none⟩)) := cellAt hq1 rfl
 have HO : Hid (Calls _ _ _ _ _) := I.opnNo _ a g n L c wr t h1 hn
 have cw0 : w.cell? ⟨q, 0, none⟩ = some (.pointer (some ⟨a, 0, none⟩)) := cellAt hq rfl
 have hfit : decide (8 ≤ n ∧ n ≤ 400) = false := by simp; omega
 clear hG hq h
 generalize hw1 : w.setCell ⟨q, 7, none⟩ (.pointer none) = w1 at *
 have HW : Hid _ := hw1
 clear hw1
 clear hn
 go_enter Tryz.func99, Tryz.ntmps99
 go_wp2_with (first
  | (go_at_call 130; try rw [HW.out]; refine (DTold_o a _ _ _ _ _ _ _ (Dev.d (by assumption))).mono ?_; rintro e w' ⟨rfl, rfl⟩)
  | (go_at_call 30; refine (DWrites_o a _ _ _ _ _ _ _ (Dev.d (by assumption))).mono ?_; rintro e w' ⟨rfl, rfl⟩)
  | (go_at_call 31; refine (DPending_o a _ _ _ _ _ _ _ _ _ (Dev.d (by assumption))).mono ?_; rintro e w' ⟨rfl, rfl⟩)
  | (go_at_call 34; refine HO.out.mono ?_; rintro e w2 ⟨err, rfl, hc2, hk2⟩)
  | (go_at_call 131; refine (hc2 _ (Kept.refl _ _) (hG1.kept hk2 (by simp))).mono ?_; rintro e w3 ⟨rfl, hk3⟩; have hq3 : LD w3 q a n may were (.pointer none) := (hk2.trans hk3).get hq1 (by simp); have hl3 := hq3.load; have h3 := h1.kept (hk2.trans hk3) (by simp) (by simp))
  | (refine wpList_load_seg rfl 151 (.tmp 41) rfl ⟨q, 1, none⟩ rfl _ hl3 ?_)
  | (go_at_call 132; refine (Fits_any n _ _ _ _ _ _).mono ?_; rintro e w4 ⟨rfl, hk4⟩; rw [hfit]; have hq4 : LD w4 q a n may were (.pointer none) := hk4.get hq3 (by simp); have h4 := h3.kept hk4 (by simp) (by simp); have d4 : w4.cell? ⟨q, 0, none⟩ = some (.pointer (some ⟨a, 0, none⟩)) := cellAt hq4 rfl)
  | (go_at_call 133; refine (num_any _ _).mono ?_; rintro e w' ⟨rfl, rfl⟩))
 go_ret
 exact ⟨rfl, hq4, ⟨c, h4⟩, (k1.mono (by simp)).trans (((hk2.trans hk3).trans hk4).mono (by simp))⟩

theorem open_none (I : Iface) (q a g n : Nat) (were s : Value) (hs : ∃ p, s = .pointer p) (L : List UInt8) (c wr t : Int) (w : World) (hG : Glob w) (hq : LD w q a n (.slice none 0 0) were s) (h : Dev w a g n L c wr t) (hn8 : 8 ≤ n) (hn : n ≤ 400) (hS : I.DS 0 L) :
  Calls Tryz.prog 99 #[.pointer (some ⟨q, 0, none⟩)] w (NoneR q a g n (.slice none 0 0) were L wr t w) := by
 obtain ⟨ps, rfl⟩ := hs
 have c7 : w.cell? ⟨q, 7, none⟩ = some (.pointer ps) := cellAt hq rfl
 have f7 : w.frozen? ⟨q, 7, none⟩ = false := frozen_of_row _ _ _ _ _ hq
 have hq1 := hq.setS (.pointer none)
 have k1 : Kept [q] w (w.setCell ⟨q, 7, none⟩ (.pointer none)) := (Kept.refl _ _).setCell (Or.inl (by simp)) _
 have ha0 := (hG.dev h).1
 obtain ⟨nqa, nqg⟩ := hq.ne_dev h
 have hq0 := hG.ld hq
 have h1 := h.kept k1 (by simpa using nqa.symm) (by simpa using nqg.symm)
 have hG1 := hG.kept k1 (by simpa using hq0.symm)
 have c0 : (w.setCell ⟨q, 7, none⟩ (.pointer none)).cell? ⟨q, 0, none⟩ = some (.pointer (some ⟨a, 0, none⟩)) := cellAt hq1 rfl
 have HO : Hid (Calls _ _ _ _ _) := I.opnNone _ a g n L c wr t h1 hn8 hn hS
 have cw0 : w.cell? ⟨q, 0, none⟩ = some (.pointer (some ⟨a, 0, none⟩)) := cellAt hq rfl
 have hfit : decide (8 ≤ n ∧ n ≤ 400) = true := by simp; omega
 clear hG hq h
 generalize hw1 : w.setCell ⟨q, 7, none⟩ (.pointer none) = w1 at *
 have HW : Hid _ := hw1
 clear hw1
 clear hn hn8 hS
 go_enter Tryz.func99, Tryz.ntmps99
 go_wp2_with (first
  | (go_at_call 130; rw [HW.out]; refine (DTold_o a _ _ _ _ _ _ _ (Dev.d (by assumption))).mono ?_; rintro e w' ⟨rfl, rfl⟩)
  | (go_at_call 30; refine (DWrites_o a _ _ _ _ _ _ _ (Dev.d (by assumption))).mono ?_; rintro e w' ⟨rfl, rfl⟩)
  | (go_at_call 31; refine (DPending_o a _ _ _ _ _ _ _ _ _ (Dev.d (by assumption))).mono ?_; rintro e w' ⟨rfl, rfl⟩)
  | (go_at_call 34; refine HO.out.mono ?_; rintro e w2 ⟨err, rfl, hc2, ⟨c2, h2⟩, hk2⟩)
  | (go_at_call 131; refine (hc2 _ (Kept.refl _ _) (hG1.kept hk2 (by simpa using ha0.symm))).mono ?_; rintro e w3 ⟨rfl, hk3⟩; have hq2 : LD w2 q a n (.slice none 0 0) were (.pointer none) := hk2.get hq1 (by simpa using nqa); have hq3 : LD w3 q a n (.slice none 0 0) were (.pointer none) := hk3.get hq2 (by simp); have hl3 := hq3.load; have h3 := h2.kept hk3 (by simp) (by simp))
  | (refine wpList_load_seg rfl 151 (.tmp 41) rfl ⟨q, 1, none⟩ rfl _ hl3 ?_)
  | (go_at_call 132; refine (Fits_any n _ _ _ _ _ _).mono ?_; rintro e w4 ⟨rfl, hk4⟩; rw [hfit]; have hq4 : LD w4 q a n (.slice none 0 0) were (.pointer none) := hk4.get hq3 (by simp); have h4 := h3.kept hk4 (by simp) (by simp); have d4 : w4.cell? ⟨q, 0, none⟩ = some (.pointer (some ⟨a, 0, none⟩)) := cellAt hq4 rfl; have d42 : w4.cell? ⟨q, 2, none⟩ = some (.slice none 0 0) := cellAt hq4 rfl; have d43 : w4.cell? ⟨q, 3, none⟩ = some (.bool false) := cellAt hq4 rfl; have d45 : w4.cell? ⟨q, 5, none⟩ = some (.bool false) := cellAt hq4 rfl)
  | (go_at_call 133; refine (num_any _ _).mono ?_; rintro e w' ⟨rfl, rfl⟩))
 refine (DTold_o a _ _ _ _ wr t _ h4.d).mono ?_
 rintro e w5 ⟨rfl, rfl⟩
 go_wp2_with fail
 refine (num_any _ _).mono ?_
 rintro e w6 ⟨rfl, rfl⟩
 go_wp2
 go_ret
 exact ⟨rfl, hq4, ⟨c2, h4⟩, ((k1.mono (by simp)).trans (hk2.mono (by simp))).trans ((hk3.trans hk4).mono (by simp))⟩

def OpndR (I : Iface) (q a g n : Nat) (may were : Value) (L : List UInt8) (wr t : Int) (w : World) (e : Ending) (w' : World) : Prop :=
 e = .returned (.bool true) ∧ ∃ s o, s.a = a ∧ s.g = g ∧ s.n = n ∧ s.mo = 0 ∧ o.ch = 0 ∧ o.xs = [] ∧ o.lv = .slice none 0 0 ∧ o.wv = .slice none 0 0 ∧ w.heap.size ≤ o.b ∧ LD w' q a n may were (.pointer (some ⟨o.b, 0, none⟩)) ∧ (∃ c, Dev w' a g n L c wr t) ∧ I.SI w' s ∧ OI w' s o ∧
  (∀ y ∈ s.fp, w.heap.size ≤ y) ∧ Kept [q, a] w w'

theorem open_fits (I : Iface) (q a g n k : Nat) (may were s : Value) (hs : ∃ p, s = .pointer p) (L : List UInt8) (c wr t : Int) (w : World) (hG : Glob w) (hq : LD w q a n may were s) (h : Dev w a g n L c wr t) (hn8 : 8 ≤ n) (hn : n ≤ 400) (hk0 : 0 < k) (hk : k ≤ 50000) (hS : I.DS k L) (hm : Maps w may 1) :
  Calls Tryz.prog 99 #[.pointer (some ⟨q, 0, none⟩)] w (OpndR I q a g n may were L wr t w) := by
 obtain ⟨ps, rfl⟩ := hs
 have c7 : w.cell? ⟨q, 7, none⟩ = some (.pointer ps) := cellAt hq rfl
 have f7 : w.frozen? ⟨q, 7, none⟩ = false := frozen_of_row _ _ _ _ _ hq
 have hq1 := hq.setS (.pointer none)
 have k1 : Kept [q] w (w.setCell ⟨q, 7, none⟩ (.pointer none)) := (Kept.refl _ _).setCell (Or.inl (by simp)) _
 have ha0 := (hG.dev h).1
 obtain ⟨nqa, nqg⟩ := hq.ne_dev h
 have hq0 := hG.ld hq
 have h1 := h.kept k1 (by simpa using nqa.symm) (by simpa using nqg.symm)
 have hG1 := hG.kept k1 (by simpa using hq0.symm)
 have c0 : (w.setCell ⟨q, 7, none⟩ (.pointer none)).cell? ⟨q, 0, none⟩ = some (.pointer (some ⟨a, 0, none⟩)) := cellAt hq1 rfl
 have nm := maps_ne hm hq (by decide)
 have na := maps_ne hm h.d (by decide)
 have hm1 := owns_kept hm k1 (by intro b hb; simpa using nm b hb)
 have HO : Hid (Calls _ _ _ _ _) := I.opn _ a g n k L c wr t h1 hn8 hn hk0 hk hS
 have hlg := hG.lt
 have zk := k1.size
 have cw0 : w.cell? ⟨q, 0, none⟩ = some (.pointer (some ⟨a, 0, none⟩)) := cellAt hq rfl
 have hfit : decide (8 ≤ n ∧ n ≤ 400) = true := by simp; omega
 clear hG hq h
 generalize hw1 : w.setCell ⟨q, 7, none⟩ (.pointer none) = w1 at *
 have HW : Hid _ := hw1
 clear hw1
 clear hn hn8 hS hk hk0
 go_enter Tryz.func99, Tryz.ntmps99
 go_wp2_with (first
  | (go_at_call 130; rw [HW.out]; refine (DTold_o a _ _ _ _ _ _ _ (Dev.d (by assumption))).mono ?_; rintro e w' ⟨rfl, rfl⟩)
  | (go_at_call 30; refine (DWrites_o a _ _ _ _ _ _ _ (Dev.d (by assumption))).mono ?_; rintro e w' ⟨rfl, rfl⟩)
  | (go_at_call 31; refine (DPending_o a _ _ _ _ _ _ _ _ _ (Dev.d (by assumption))).mono ?_; rintro e w' ⟨rfl, rfl⟩)
  | (go_at_call 34; refine HO.out.mono ?_; rintro e w2 ⟨st, rfl, hSI, sa, sg, sn, scl, sl, smo, sfp, ⟨c2, h2⟩, hk2⟩; have hq2 : LD w2 q a n may were (.pointer none) := hk2.get hq1 (by simpa using nqa); have hl2 := hq2.load; have hm2 := owns_kept hm1 hk2 (by intro b hb; simpa using na b hb); have hG2 := hG1.kept hk2 (by simpa using ha0.symm))
  | (go_at_call 131; refine (PTold_nil _).mono ?_; rintro e w' ⟨rfl, hw'⟩; rw [hw']; clear hw' w')
  | (refine wpList_load_seg rfl 151 (.tmp 41) rfl ⟨q, 1, none⟩ rfl _ hl2 ?_)
  | (go_at_call 132; refine (Fits_any n _ _ _ _ _ _).mono ?_; rintro e w4 ⟨rfl, hk4⟩; rw [hfit]; have hq4 : LD w4 q a n may were (.pointer none) := hk4.get hq2 (by simp); have hm4 := owns_kept hm2 hk4 (by simp); have h4 := h2.kept hk4 (by simp) (by simp); have d4 : w4.cell? ⟨q, 0, none⟩ = some (.pointer (some ⟨a, 0, none⟩)) := cellAt hq4 rfl; have hG4 := hG2.kept hk4 (by simp); have hSI4 := I.kept hSI hk4 (by simp) (by simp))
  | (go_at_call 133; refine (num_any _ _).mono ?_; rintro e w' ⟨rfl, hw'⟩; rw [hw']; clear hw' w'))
 refine (DTold_o a _ _ _ _ wr t _ h4.d).mono ?_
 rintro e w5 ⟨rfl, rfl⟩
 go_wp2_with fail
 refine (num_any _ _).mono ?_
 rintro e w6 ⟨rfl, rfl⟩
 go_wp2_with fail
 subst sa; subst sg; subst sn
 have gfp : 1 ∉ st.fp := fun hx => by have := sfp _ hx; omega
 refine (found_any I st q st.n may were (.pointer none) L c2 wr t _ hG4 gfp hq4 hm4 h4 hSI4 scl sl smo).mono ?_
 rintro e w7 ⟨rfl, s7, o7, ea, eg, en, em, ech, exs, elv, ewv, hb7, hq7, hd7, hs7, ho7, hf7, hk7⟩
 go_wp2
 go_ret
 have z2 := hk2.size
 have z4 := hk4.size
 refine ⟨rfl, s7, o7, ea, eg, en, em, ech, exs, elv, ewv, by omega, hq7, hd7, hs7, ho7, ?_, ?_⟩
 ·intro y hy
  rcases hf7 y hy with e | e
  ·have := sfp y e; omega
  ·omega
 ·refine ((((k1.mono (by simp)).trans (hk2.mono (by simp))).trans (hk4.mono (by simp))).trans2 hk7 ?_ : Kept [q, st.a] _ _)
  intro x hx
  rcases List.mem_cons.1 hx with rfl | hx
  ·left; simp
  rcases List.mem_cons.1 hx with rfl | hx
  ·left; simp
  ·right; have := sfp x hx; omega

end Go.Proofs.YtcklgafpgdhnaaaGreatDoor

namespace Go.Proofs.YtcklgafpgdhnaaaGreatDoor
open Go.RowKit

theorem LD.store {w : World} {q a : Nat} {n : Int} {may were s : Value} (h : LD w q a n may were s) (p1 p2 : Option Addr) (l1 q1 l2 q2 : Nat) :
  (storeVar 151 ⟨q, 1, none⟩ (.agg (rcells n (.slice p1 l1 q1) false (.slice p2 l2 q2) false false))).run Tryz.prog w = .ok () (w.setRow q (ldl a n (.slice p1 l1 q1) (.slice p2 l2 q2) s).toArray) := by
 have := run_storeVar_seg (P := Tryz.prog) w q 1 154 151 (ldl a n may were s) [.int .i64 n, .slice p1 l1 q1, .bool false, .slice p2 l2 q2, .bool false, .bool false] h srd (by simp [ldl]) (by simp [Value.oneCell'])
 simpa [splice, ldl, rcells] using this
theorem LD.stored {w : World} {q a : Nat} {n : Int} {may were s : Value} (h : LD w q a n may were s) (m2 w2 : Value) : LD (w.setRow q (ldl a n m2 w2 s).toArray) q a n m2 w2 s := setRow_heap w q _ _ _ _ h

theorem format_no (I : Iface) (q a g n : Nat) (may were s : Value) (hs : ∃ p, s = .pointer p) (L : List UInt8) (c wr t : Int) (w : World) (hG : Glob w) (hq : LD w q a n may were s) (h : Dev w a g n L c wr t) (hn : n < 8 ∨ 400 < n) :
  Calls Tryz.prog 98 #[.pointer (some ⟨q, 0, none⟩)] w (NoneR q a g n may were L wr t w) := by
 obtain ⟨ps, rfl⟩ := hs
 have c7 : w.cell? ⟨q, 7, none⟩ = some (.pointer ps) := cellAt hq rfl
 have f7 : w.frozen? ⟨q, 7, none⟩ = false := frozen_of_row _ _ _ _ _ hq
 have hq1 := hq.setS (.pointer none)
 have k1 : Kept [q] w (w.setCell ⟨q, 7, none⟩ (.pointer none)) := (Kept.refl _ _).setCell (Or.inl (by simp)) _
 have ha0 := (hG.dev h).1
 obtain ⟨nqa, nqg⟩ := hq.ne_dev h
 have hq0 := hG.ld hq
 have h1 := h.kept k1 (by simpa using nqa.symm) (by simpa using nqg.symm)
 have hG1 := hG.kept k1 (by simpa using hq0.symm)
 have c0 : (w.setCell ⟨q, 7, none⟩ (.pointer none)).cell? ⟨q, 0, none⟩ = some (.pointer (some ⟨a, 0, none⟩)) := cellAt hq1 rfl
 have HO : Hid (Calls _ _ _ _ _) := I.fmtNo _ a g n L c wr t h1 hn
 have cw0 : w.cell? ⟨q, 0, none⟩ = some (.pointer (some ⟨a, 0, none⟩)) := cellAt hq rfl
 have hfit : decide (8 ≤ n ∧ n ≤ 400) = false := by simp; omega
 clear hG hq h
 generalize hw1 : w.setCell ⟨q, 7, none⟩ (.pointer none) = w1 at *
 have HW : Hid _ := hw1
 clear hw1 hn
 go_enter Tryz.func98, Tryz.ntmps98
 go_wp2_with (first
  | (go_at_call 130; rw [HW.out]; refine (DTold_o a _ _ _ _ _ _ _ (Dev.d (by assumption))).mono ?_; rintro e w' ⟨rfl, rfl⟩)
  | (go_at_call 33; refine HO.out.mono ?_; rintro e w2 ⟨err, rfl, hc2, hk2⟩)
  | (go_at_call 131; refine (hc2 _ (Kept.refl _ _) (hG1.kept hk2 (by simp))).mono ?_; rintro e w3 ⟨rfl, hk3⟩; have hq3 : LD w3 q a n may were (.pointer none) := (hk2.trans hk3).get hq1 (by simp); have hl3 := hq3.load; have h3 := h1.kept (hk2.trans hk3) (by simp) (by simp))
  | (refine wpList_load_seg rfl 151 (.tmp 24) rfl ⟨q, 1, none⟩ rfl _ hl3 ?_)
  | (go_at_call 132; refine (Fits_any n _ _ _ _ _ _).mono ?_; rintro e w4 ⟨rfl, hk4⟩; rw [hfit]; have hq4 : LD w4 q a n may were (.pointer none) := hk4.get hq3 (by simp); have h4 := h3.kept hk4 (by simp) (by simp))
  | (go_at_call 133; refine (num_any _ _).mono ?_; rintro e w' ⟨rfl, rfl⟩))
 go_ret
 exact ⟨rfl, hq4, ⟨c, h4⟩, (k1.mono (by simp)).trans (((hk2.trans hk3).trans hk4).mono (by simp))⟩

def FmtR (I : Iface) (q a g n k : Nat) (t : Int) (w : World) (e : Ending) (w' : World) : Prop :=
 e = .returned (.bool true) ∧ (∃ may were, LD w' q a n may were (.pointer none) ∧ Maps w' may 1 ∧ Maps w' were (k + 1)) ∧ (∃ L c wr, Dev w' a g n L c wr t ∧ I.DS (k + 1) L) ∧ Kept [q, a, g] w w'

theorem format_fits (I : Iface) (q a g n k m : Nat) (may were s : Value) (hs : ∃ p, s = .pointer p) (L : List UInt8) (c wr t : Int) (w : World) (hG : Glob w) (hq : LD w q a n may were s) (h : Dev w a g n L c wr t) (hn8 : 8 ≤ n) (hn : n ≤ 400) (hk : k ≤ 20000) (hS : I.DS k L) (hm : Maps w may m) (hm1 : m ≤ 1) (hw : Maps w were k) :
  Calls Tryz.prog 98 #[.pointer (some ⟨q, 0, none⟩)] w (FmtR I q a g n k t w) := by
 obtain ⟨ps, rfl⟩ := hs
 have c7 : w.cell? ⟨q, 7, none⟩ = some (.pointer ps) := cellAt hq rfl
 have f7 : w.frozen? ⟨q, 7, none⟩ = false := frozen_of_row _ _ _ _ _ hq
 have hq1 := hq.setS (.pointer none)
 have k1 : Kept [q] w (w.setCell ⟨q, 7, none⟩ (.pointer none)) := (Kept.refl _ _).setCell (Or.inl (by simp)) _
 have ha0 := (hG.dev h).1
 obtain ⟨nqa, nqg⟩ := hq.ne_dev h
 have hq0 := hG.ld hq
 have m1 := owns_kept hm k1 (by intro b hb; simpa using maps_ne hm hq (by decide) b hb)
 have ma := maps_ne hm h.d (by decide)
 have mg := maps_ne hm h.b (by decide)
 have u1 := owns_kept hw k1 (by intro b hb; simpa using maps_ne hw hq (by decide) b hb)
 have ua := maps_ne hw h.d (by decide)
 have ug := maps_ne hw h.b (by decide)
 have h1 := h.kept k1 (by simpa using nqa.symm) (by simpa using nqg.symm)
 have hG1 := hG.kept k1 (by simpa using hq0.symm)
 have c0 : (w.setCell ⟨q, 7, none⟩ (.pointer none)).cell? ⟨q, 0, none⟩ = some (.pointer (some ⟨a, 0, none⟩)) := cellAt hq1 rfl
 have HO : Hid (Calls _ _ _ _ _) := I.fmt _ a g n k L c wr t h1 hn8 hn (by omega) hS
 have cw0 : w.cell? ⟨q, 0, none⟩ = some (.pointer (some ⟨a, 0, none⟩)) := cellAt hq rfl
 have hfit : decide (8 ≤ n ∧ n ≤ 400) = true := by simp; omega
 clear hG hq h hm hw hS
 generalize hw1 : w.setCell ⟨q, 7, none⟩ (.pointer none) = w1 at *
 have HW : Hid _ := hw1
 clear hw1 hn hn8
 go_enter Tryz.func98, Tryz.ntmps98
 go_wp2_with (first
  | (go_at_call 130; rw [HW.out]; refine (DTold_o a _ _ _ _ _ _ _ (Dev.d (by assumption))).mono ?_; rintro e w' ⟨rfl, rfl⟩)
  | (go_at_call 33; refine HO.out.mono ?_; rintro e w2 ⟨rfl, ⟨L2, c2, wr2, h2', hS2⟩, hk2⟩; have hq2 : LD w2 q a n may were (.pointer none) := hk2.get hq1 (by simp; exact ⟨nqa, nqg⟩); have hl2 := hq2.load; have m2 := owns_kept m1 hk2 (by intro b hb; simp; exact ⟨ma b hb, mg b hb⟩); have u2 := owns_kept u1 hk2 (by intro b hb; simp; exact ⟨ua b hb, ug b hb⟩))
  | (go_at_call 131; refine (PTold_nil _).mono ?_; rintro e w' ⟨rfl, rfl⟩)
  | (refine wpList_load_seg rfl 151 (.tmp 24) rfl ⟨q, 1, none⟩ rfl _ hl2 ?_)
  | (go_at_call 132; refine (Fits_any n _ _ _ _ _ _).mono ?_; rintro e w4 ⟨rfl, hk4⟩; rw [hfit]; have hq4 : LD w4 q a n may were (.pointer none) := hk4.get hq2 (by simp); have hl4 := hq4.load; have hF4 := h2'.kept hk4 (by simp) (by simp); have m4 := owns_kept m2 hk4 (by simp); have u4 := owns_kept u2 hk4 (by simp); clear hl2 hq2 m2 u2)
  | (refine wpList_load_seg rfl 151 (.tmp 37) rfl ⟨q, 1, none⟩ rfl _ hl4 ?_)
  | (go_at_call 134; refine (Only_any n may were m k false false false _ m4 u4 (by omega) (by omega)).mono ?_; rintro e w5 ⟨v1, v2, rfl, m5, u5, hk5⟩; obtain ⟨p1, l1, q1, rfl⟩ := owns_sl m5; obtain ⟨p2, l2, q2, rfl⟩ := owns_sl u5; have hq5 : LD w5 q a n may were (.pointer none) := hk5.get hq4 (by simp); have hst := hq5.store p1 p2 l1 q1 l2 q2; have hq6 := hq5.stored (.slice p1 l1 q1) (.slice p2 l2 q2); have k6 : Kept [q] w5 (w5.setRow q (ldl a n (.slice p1 l1 q1) (.slice p2 l2 q2) (.pointer none)).toArray) := (Kept.refl _ _).setRow (Or.inl (by simp)) _; generalize hw6 : w5.setRow q (ldl a n (.slice p1 l1 q1) (.slice p2 l2 q2) (.pointer none)).toArray = w6 at *; clear hw6; have c65 : w6.cell? ⟨q, 5, none⟩ = some (.bool false) := cellAt hq6 rfl; have f65 : w6.frozen? ⟨q, 5, none⟩ = false := frozen_of_row _ _ _ _ _ hq6; have hq7 := setCellAt (i := 5) (.bool false) hq6; have c76 : (w6.setCell ⟨q, 5, none⟩ (.bool false)).cell? ⟨q, 6, none⟩ = some (.bool false) := cellAt hq7 rfl; have f76 : (w6.setCell ⟨q, 5, none⟩ (.bool false)).frozen? ⟨q, 6, none⟩ = false := frozen_of_row _ _ _ _ _ hq7; have c66 : w6.cell? ⟨q, 6, none⟩ = some (.bool false) := cellAt hq6 rfl; have f66 : w6.frozen? ⟨q, 6, none⟩ = false := frozen_of_row _ _ _ _ _ hq6; clear hl4)
  | (refine wpList_store_seg rfl 151 (.tmp 42) (.tmp 40) rfl ⟨q, 1, none⟩ rfl _ rfl _ hst ?_))
 go_ret
 have hq8 := setCellAt (i := 6) (.bool false) hq7
 have k8 : Kept [q] w5 ((w6.setCell ⟨q, 5, none⟩ (.bool false)).setCell ⟨q, 6, none⟩ (.bool false)) := (k6.setCell (p := ⟨q, 5, none⟩) (Or.inl (by simp)) _).setCell (p := ⟨q, 6, none⟩) (Or.inl (by simp)) _
 have hF8 := (hF4.kept hk5 (by simp) (by simp)).kept k8 (by simpa using nqa.symm) (by simpa using nqg.symm)
 have m8 := owns_kept m5 k8 (by intro b hb; simpa using maps_ne m5 hq5 (by decide) b hb)
 have u8 := owns_kept u5 k8 (by intro b hb; simpa using maps_ne u5 hq5 (by decide) b hb)
 refine ⟨rfl, ⟨_, _, hq8, m8, u8⟩, ⟨L2, c2, wr2, hF8, hS2⟩, ?_⟩
 exact (((k1.mono (by simp)).trans (hk2.mono (by simp))).trans ((hk4.trans hk5).mono (by simp))).trans (k8.mono (by simp))

end Go.Proofs.YtcklgafpgdhnaaaGreatDoor

namespace Go.Proofs.YtcklgafpgdhnaaaGreatDoor
open Go.RowKit

structure Dk where
 q : Nat
 a : Nat
 g : Nat
 n : Nat
 k : Nat
 st : Option (Sx × Ox)

def stPtr : Option (Sx × Ox) → Option Addr
 | none => none
 | some (_, o) => some ⟨o.b, 0, none⟩
def stFoot : Option (Sx × Ox) → List Nat
 | none => []
 | some (s, o) => o.b :: (s.fp ++ o.lv.ownBlock.toList ++ o.wv.ownBlock.toList)
def Dk.foot (d : Dk) : List Nat := d.q :: d.a :: d.g :: stFoot d.st

def Dk.le (d : Dk) (N : Nat) : Prop := d.k ≤ N ∧ ∀ s o, d.st = some (s, o) → s.mo ≤ N ∧ o.ch ≤ N ∧ o.xs.length ≤ 2 * N

structure DI (I : Iface) (w : World) (d : Dk) : Prop where
 lt : d.n < 1000
 no : ¬ (8 ≤ d.n ∧ d.n ≤ 400) → d.k = 0
 ex : ∃ may were m L c wr t, LD w d.q d.a d.n may were (.pointer (stPtr d.st)) ∧ Maps w may m ∧ m ≤ 1 ∧ (d.k = 0 → may = .slice none 0 0) ∧ (0 < d.k → m = 1) ∧ Maps w were d.k ∧ Dev w d.a d.g d.n L c wr t ∧ (8 ≤ d.n ∧ d.n ≤ 400 → I.DS d.k L)
 st : ∀ s o, d.st = some (s, o) → I.SI w s ∧ OI w s o ∧ s.a = d.a ∧ s.g = d.g ∧ s.n = d.n

def wTags : List TypeId := [195, 28, 154, 104, 3, 148, 91, 92]
def rTags : List TypeId := [224, 41, 189]
def Wr (I : Iface) (w : World) (y : Nat) : Prop := (∃ cs t fr, w.heap[y]? = some (.cells cs t fr) ∧ t ∈ wTags) ∨ ∃ s, I.SI w s ∧ y ∈ s.fp

theorem Wr.ne {I : Iface} {w : World} {y : Nat} {cs : Array Value} {t : TypeId} {fr : Nat × Nat} (h : Wr I w y) (hy : w.heap[y]? = some (.cells cs t fr)) (ht : t ∈ rTags) : False := by
 have e1 : ∀ t ∈ rTags, t ∉ wTags := by decide
 have e2 : ∀ t ∈ rTags, t ∈ lawTags := by decide
 rcases h with ⟨cs', t', fr', h', ht'⟩ | ⟨s, hs, hx⟩
 ·rw [hy] at h'; cases h'; exact e1 _ ht ht'
 ·obtain ⟨o, ho, hn⟩ := I.fp hs y hx
  rw [hy] at ho; cases ho
  exact hn _ _ _ rfl (e2 _ ht)
theorem Wr.law {I : Iface} {w : World} {y : Nat} (h : Wr I w y) : LT w y ∨ ∃ s, I.SI w s ∧ y ∈ s.fp := by
 have e1 : ∀ t ∈ wTags, t ∈ lawTags := by decide
 rcases h with ⟨cs, t, fr, h, ht⟩ | h
 ·exact Or.inl ⟨cs, t, fr, h, e1 t ht⟩
 ·exact Or.inr h
theorem Wr.of {I : Iface} {w : World} {y : Nat} {cs : Array Value} {t : TypeId} {fr : Nat × Nat} (h : w.heap[y]? = some (.cells cs t fr)) (ht : t ∈ wTags) : Wr I w y := Or.inl ⟨cs, t, fr, h, ht⟩
theorem Wr.row {I : Iface} {w : World} {base e n k : Nat} {v : Value} {xs : List Value} (h : w.ownsRow base e k v n xs) (he : e ∈ wTags) {g : Nat} (hg : v.ownBlock = some g) : Wr I w g := by
 obtain ⟨cs, fr, hh⟩ := owns_tag h hg
 exact Or.inl ⟨cs, e, fr, hh, he⟩
theorem Wr.lt {I : Iface} {w : World} {y : Nat} (h : Wr I w y) : y < w.heap.size := by
 rcases h with ⟨cs, t, fr, h, _⟩ | ⟨s, hs, hx⟩
 ·exact lt_heap h
 ·obtain ⟨o, ho, _⟩ := I.fp hs y hx
  exact lt_heap ho
theorem row_stays {I : Iface} {w w' : World} {S : List Nat} {base e n k : Nat} {v : Value} {xs : List Value} (h : w.ownsRow base e k v n xs) (hk : Kept S w w') (hS : ∀ y ∈ S, Wr I w y) (he : e ∈ rTags) : w'.ownsRow base e k v n xs := by
 refine owns_kept h hk ?_
 intro g hg hx
 obtain ⟨cs, fr, hh⟩ := owns_tag h hg
 exact (hS g hx).ne hh he

theorem DI.foot {I : Iface} {w : World} {d : Dk} (h : DI I w d) : ∀ y ∈ d.foot, Wr I w y := by
 obtain ⟨may, were, m, L, c, wr, t, h1, h2, h3, h4, h5, h6, h7, h8⟩ := h.ex
 intro y hy
 rcases List.mem_cons.1 hy with rfl | hy
 ·exact Wr.of h1 (by decide)
 rcases List.mem_cons.1 hy with rfl | hy
 ·exact Wr.of h7.d (by decide)
 rcases List.mem_cons.1 hy with rfl | hy
 ·exact Wr.of h7.b (by decide)
 cases hst : d.st with
 | none => rw [hst] at hy; cases hy
 | some so =>
  obtain ⟨s, o⟩ := so
  rw [hst] at hy
  obtain ⟨s1, s2, _⟩ := h.st s o hst
  rcases List.mem_cons.1 hy with rfl | hy
  ·exact Wr.of s2.r (by decide)
  rcases List.mem_append.1 hy with hy | hy
  ·rcases List.mem_append.1 hy with hy | hy
   ·exact Or.inr ⟨s, s1, hy⟩
   ·exact Wr.row s2.h.lists (by decide) (by simpa using hy)
  ·exact Wr.row s2.h.want (by decide) (by simpa using hy)

theorem DI.kept {I : Iface} {S : List Nat} {w w' : World} {d : Dk} (h : DI I w d) (hk : Kept S w w') (h1 : ∀ y ∈ S, y ∉ d.foot) (h2 : ∀ y ∈ S, Wr I w y) : DI I w' d := by
 obtain ⟨may, were, m, L, c, wr, t, e1, e2, e3, e4, e5, e6, e7, e8⟩ := h.ex
 have nf : ∀ y ∈ d.foot, y ∉ S := fun y hy hx => h1 y hx hy
 refine ⟨h.lt, h.no, ⟨may, were, m, L, c, wr, t, hk.get e1 (nf _ (by simp [Dk.foot])), row_stays e2 hk h2 (by decide), e3, e4, e5, row_stays e6 hk h2 (by decide), e7.kept hk (nf _ (by simp [Dk.foot])) (nf _ (by simp [Dk.foot])), e8⟩, ?_⟩
 intro s o hst
 obtain ⟨s1, s2, s3⟩ := h.st s o hst
 have mf : ∀ y, y ∈ stFoot (some (s, o)) → y ∈ d.foot := by
  intro y hy; simp only [Dk.foot, hst]; exact List.mem_cons_of_mem _ (List.mem_cons_of_mem _ (List.mem_cons_of_mem _ hy))
 refine ⟨I.kept s1 hk (fun y hy hx => h1 y hy (mf y (List.mem_cons_of_mem _ (List.mem_append_left _ (List.mem_append_left _ hx))))) (fun y hy => (h2 y hy).law), ⟨hk.get s2.r (nf _ (mf _ List.mem_cons_self)), row_stays s2.v hk h2 (by decide), ?_, s2.m⟩, s3⟩
 refine ⟨owns_kept s2.h.lists hk ?_, owns_kept s2.h.want hk ?_, s2.h.apart, ?_⟩
 ·intro g hg; exact nf _ (mf _ (List.mem_cons_of_mem _ (List.mem_append_left _ (List.mem_append_right _ (by simpa using hg)))))
 ·intro g hg; exact nf _ (mf _ (List.mem_cons_of_mem _ (List.mem_append_right _ (by simpa using hg))))
 ·intro x hx
  obtain ⟨a1, a2, a3⟩ := s2.h.all x hx
  exact ⟨row_stays a1 hk h2 (by decide), row_stays a2 hk h2 (by decide), a3⟩

def Apart (d e : Dk) : Prop := ∀ y ∈ d.foot, y ∉ e.foot

def ptrs (ds : List Dk) : List Value := ds.map fun d => .pointer (some ⟨d.q, 0, none⟩)
theorem length_ptrs (ds : List Dk) : (ptrs ds).length = ds.length := by simp [ptrs]

def WC (w : World) (p : Nat) (kv dv : Value) : Prop := w.heap[p]? = some (.cells #[kv, dv] 104 (0, 0))

structure WI (I : Iface) (B : Nat) (w : World) (p : Nat) (ds : List Dk) (j : Nat) : Prop where
 glob : Glob w
 pos : 1 < B
 size : B ≤ w.heap.size
 pB : B ≤ p
 ex : ∃ kv dv xs, WC w p kv dv ∧ w.ownsRow B 3 1 kv j xs ∧ (∀ v ∈ xs, v.oneCell' = true) ∧ w.ownsRow B 148 1 dv ds.length (ptrs ds)
 all : ∀ d ∈ ds, DI I w d ∧ ∀ y ∈ d.foot, B ≤ y
 apart : ds.Pairwise Apart

theorem Kept.belowB {S : List Nat} {w w' : World} {B : Nat} (h : Kept S w w') (hB : B ≤ w.heap.size) (hS : ∀ x ∈ S, B ≤ x) : Below B w w' :=
 ⟨h.os, h.tape, h.output, h.size, fun k hk => h.block k (by omega) (fun hx => by have := hS k hx; omega)⟩

theorem owns_row {w : World} {base e n b : Nat} {v : Value} {xs : List Value} (h : w.ownsRow base e 1 v n xs) (hb : v.ownBlock = some b) : ∃ cs fr, w.heap[b]? = some (.cells cs e fr) := owns_tag h hb

theorem ne_row {w : World} {a b : Nat} {t1 t2 : TypeId} (h1 : ∃ cs fr, w.heap[a]? = some (.cells cs t1 fr)) (h2 : ∃ cs fr, w.heap[b]? = some (.cells cs t2 fr)) (ht : t1 ≠ t2) : a ≠ b := ne_rows h1 h2 ht

theorem DI.not_foot {I : Iface} {w : World} {d : Dk} (h : DI I w d) {y : Nat} {cs : Array Value} {t : TypeId} {fr : Nat × Nat} (hy : w.heap[y]? = some (.cells cs t fr)) (ht : t ∈ [104, 3, 148]) : y ∉ d.foot := by
 obtain ⟨may, were, m, L, c, wr, tt, e1, e2, e3, e4, e5, e6, e7, e8⟩ := h.ex
 have key : ∀ t ∈ [104, 3, 148], t ≠ 154 ∧ t ≠ 91 ∧ t ≠ 92 ∧ t ≠ 195 ∧ t ≠ 28 ∧ t ∈ lawTags := by decide
 obtain ⟨n1, n2, n3, n4, n5, n6⟩ := key t ht
 intro hx
 rcases List.mem_cons.1 hx with rfl | hx
 ·exact ne_tag hy e1 n1 rfl
 rcases List.mem_cons.1 hx with rfl | hx
 ·exact ne_tag hy e7.d n2 rfl
 rcases List.mem_cons.1 hx with rfl | hx
 ·exact ne_tag hy e7.b n3 rfl
 cases hst : d.st with
 | none => rw [hst] at hx; cases hx
 | some so =>
  obtain ⟨s, o⟩ := so
  rw [hst] at hx
  obtain ⟨s1, s2, _⟩ := h.st s o hst
  rcases List.mem_cons.1 hx with rfl | hx
  ·exact ne_tag hy s2.r n4 rfl
  rcases List.mem_append.1 hx with hx | hx
  ·rcases List.mem_append.1 hx with hx | hx
   ·exact I.ne s1 ⟨_, _, _, hy, n6⟩ hx
   ·exact ne_rows ⟨_, _, hy⟩ (owns_tag s2.h.lists (by simpa using hx)) n5 rfl
  ·exact ne_rows ⟨_, _, hy⟩ (owns_tag s2.h.want (by simpa using hx)) n5 rfl

theorem WI.kept {I : Iface} {B p j : Nat} {w w' : World} {ds : List Dk} (h : WI I B w p ds j) (hk : Kept [] w w') : WI I B w' p ds j := by
 obtain ⟨kv, dv, xs, h1, h2, h3, h4⟩ := h.ex
 refine ⟨h.glob.kept hk (by simp), h.pos, Nat.le_trans h.size hk.size, h.pB, ⟨kv, dv, xs, hk.get h1 (by simp), owns_kept h2 hk (by simp), h3, owns_kept h4 hk (by simp)⟩, ?_, h.apart⟩
 intro d hd
 obtain ⟨e1, e2⟩ := h.all d hd
 exact ⟨e1.kept hk (by simp) (by simp), e2⟩

theorem WI.disk {I : Iface} {B p j : Nat} {w w' : World} {ds : List Dk} (h : WI I B w p ds j) (i : Nat) (d d' : Dk) (hi : ds[i]? = some d) (hk : Kept d.foot w w') (hd' : DI I w' d') (eq : d'.q = d.q) (hf : ∀ y ∈ d'.foot, y ∈ d.foot ∨ w.heap.size ≤ y) : WI I B w' p (ds.set i d') j ∧ Below B w w' := by
 obtain ⟨kv, dv, xs, h1, h2, h3, h4⟩ := h.ex
 have hil : i < ds.length := (List.getElem?_eq_some_iff.1 hi).1
 have hmem : d ∈ ds := List.mem_of_getElem? hi
 obtain ⟨di, bf⟩ := h.all d hmem
 have wf := di.foot
 have hp' : ptrs (ds.set i d') = ptrs ds := by
  apply List.ext_getElem?
  intro m
  simp only [ptrs, List.getElem?_map]
  by_cases hm : i = m
  ·subst hm
   rw [List.getElem?_set_self hil, hi]
   simp [eq]
  ·rw [List.getElem?_set_ne hm]
 have bf' : ∀ y ∈ d'.foot, B ≤ y := by
  intro y hy
  rcases hf y hy with e | e
  ·exact bf y e
  ·exact Nat.le_trans h.size e
 have apd : ∀ (m : Nat) (e : Dk), ds[m]? = some e → i ≠ m → (∀ y ∈ d.foot, y ∉ e.foot) := by
  intro m e hm hne
  have hml : m < ds.length := (List.getElem?_eq_some_iff.1 hm).1
  have hpw := List.pairwise_iff_getElem.1 h.apart
  have e1 : ds[i] = d := (List.getElem?_eq_some_iff.1 hi).2
  have e2 : ds[m] = e := (List.getElem?_eq_some_iff.1 hm).2
  rcases Nat.lt_or_gt_of_ne hne with hlt | hlt
  ·have := hpw i m hil hml hlt; rwa [e1, e2] at this
  ·have := hpw m i hml hil hlt
   rw [e1, e2] at this
   intro y hy hx; exact this y hx hy
 have apd' : ∀ (m : Nat) (e : Dk), ds[m]? = some e → i ≠ m → (∀ y ∈ d'.foot, y ∉ e.foot) := by
  intro m e hm hne y hy hx
  rcases hf y hy with hh | hh
  ·exact apd m e hm hne y hh hx
  ·have := ((h.all e (List.mem_of_getElem? hm)).1.foot y hx).lt; omega
 refine ⟨⟨h.glob.kept hk (fun hx => by have := bf 1 hx; have := h.pos; omega), h.pos, Nat.le_trans h.size hk.size, h.pB, ⟨kv, dv, xs, hk.get h1 (di.not_foot h1 (by decide)), owns_kept h2 hk ?_, h3, ?_⟩, ?_, ?_⟩, hk.belowB h.size bf⟩
 ·intro b hb; obtain ⟨cs, fr, hh⟩ := owns_tag h2 hb; exact di.not_foot hh (by decide)
 ·rw [hp', List.length_set]
  refine owns_kept h4 hk ?_
  intro b hb; obtain ⟨cs, fr, hh⟩ := owns_tag h4 hb; exact di.not_foot hh (by decide)
 ·intro e he
  rw [List.mem_iff_getElem?] at he
  obtain ⟨m, hm⟩ := he
  by_cases hne : i = m
  ·subst hne
   rw [List.getElem?_set_self hil] at hm
   cases hm
   exact ⟨hd', bf'⟩
  ·rw [List.getElem?_set_ne hne] at hm
   obtain ⟨ei, be⟩ := h.all e (List.mem_of_getElem? hm)
   exact ⟨ei.kept hk (apd m e hm hne) wf, be⟩
 ·rw [List.pairwise_iff_getElem]
  have hpw := List.pairwise_iff_getElem.1 h.apart
  intro x y hx hy hxy
  rw [List.length_set] at hx hy
  have := hpw x y hx hy hxy
  have gx := List.getElem?_eq_getElem hx
  have gy := List.getElem?_eq_getElem hy
  rw [List.getElem_set, List.getElem_set]
  split <;> split
  ·omega
  ·subst_vars
   exact apd' y ds[y] gy (by omega)
  ·subst_vars
   intro z hz hz'
   exact apd' x ds[x] gx (by omega) z hz' hz
  ·exact this

theorem WI.keep {I : Iface} {B p j j' : Nat} {w w' : World} {ds : List Dk} {kv dv kv' : Value} {xs xs' : List Value} (h : WI I B w p ds j) (hw : WC w p kv dv) (hd : w.ownsRow B 148 1 dv ds.length (ptrs ds)) (ho : w.ownsRow B 3 1 kv j xs)
  (hk : Kept (p :: kv.ownBlock.toList) w w') (hw' : WC w' p kv' dv) (ho' : w'.ownsRow B 3 1 kv' j' xs') (h1 : ∀ v ∈ xs', v.oneCell' = true) : WI I B w' p ds j' ∧ Below B w w' := by
 have hrp : ∃ cs fr, w.heap[p]? = some (.cells cs 104 fr) := ⟨_, _, hw⟩
 have hrk : ∀ x ∈ kv.ownBlock.toList, ∃ cs fr, w.heap[x]? = some (.cells cs 3 fr) := by
  intro x hx; simp at hx; exact owns_row ho hx
 have hS : ∀ x ∈ p :: kv.ownBlock.toList, B ≤ x := by
  intro x hx
  rcases List.mem_cons.1 hx with rfl | hx
  ·exact h.pB
  ·simp at hx; exact (ho.lt x hx).1
 have hne : ∀ {t : TypeId} {b : Nat}, (∃ cs fr, w.heap[b]? = some (.cells cs t fr)) → t ≠ 104 → t ≠ 3 → b ∉ p :: kv.ownBlock.toList := by
  intro t b hb t1 t2 hx
  rcases List.mem_cons.1 hx with rfl | hx
  ·exact ne_row hb hrp t1 rfl
  ·exact ne_row hb (hrk b hx) t2 rfl
 have wS : ∀ x ∈ p :: kv.ownBlock.toList, Wr I w x := by
  intro x hx
  rcases List.mem_cons.1 hx with rfl | hx
  ·exact Wr.of hw (by decide)
  ·obtain ⟨cs, fr, hh⟩ := hrk x hx; exact Wr.of hh (by decide)
 refine ⟨⟨h.glob.kept hk (fun hx => by have := hS 1 hx; have := h.pos; omega), h.pos, Nat.le_trans h.size hk.size, h.pB, ⟨kv', dv, xs', hw', ho', h1, owns_kept hd hk (fun b hb => hne (owns_row hd hb) (by decide) (by decide))⟩, ?_, h.apart⟩, hk.belowB h.size hS⟩
 intro d hd
 obtain ⟨e1, e2⟩ := h.all d hd
 refine ⟨e1.kept hk ?_ wS, e2⟩
 intro y hy
 rcases List.mem_cons.1 hy with rfl | hy
 ·exact e1.not_foot hw (by decide)
 ·obtain ⟨cs, fr, hh⟩ := hrk y hy; exact e1.not_foot hh (by decide)

theorem WI.more {I : Iface} {B p j : Nat} {w w' : World} {ds : List Dk} {kv dv dv' : Value} {xs : List Value} (h : WI I B w p ds j) (hw : WC w p kv dv) (hd : w.ownsRow B 148 1 dv ds.length (ptrs ds)) (ho : w.ownsRow B 3 1 kv j xs) (h1 : ∀ v ∈ xs, v.oneCell' = true)
  (hk : Kept (p :: dv.ownBlock.toList) w w') (hw' : WC w' p kv dv') (d : Dk) (hd' : w'.ownsRow B 148 1 dv' (ds.length + 1) (ptrs (ds ++ [d]))) (hdi : DI I w d) (bf : ∀ y ∈ d.foot, B ≤ y) (hap : ∀ e ∈ ds, Apart e d) : WI I B w' p (ds ++ [d]) j ∧ Below B w w' := by
 have hrp : ∃ cs fr, w.heap[p]? = some (.cells cs 104 fr) := ⟨_, _, hw⟩
 have hrk : ∀ x ∈ dv.ownBlock.toList, ∃ cs fr, w.heap[x]? = some (.cells cs 148 fr) := by
  intro x hx; simp at hx; exact owns_row hd hx
 have hS : ∀ x ∈ p :: dv.ownBlock.toList, B ≤ x := by
  intro x hx
  rcases List.mem_cons.1 hx with rfl | hx
  ·exact h.pB
  ·simp at hx; exact (hd.lt x hx).1
 have hne : ∀ {t : TypeId} {b : Nat}, (∃ cs fr, w.heap[b]? = some (.cells cs t fr)) → t ≠ 104 → t ≠ 148 → b ∉ p :: dv.ownBlock.toList := by
  intro t b hb t1 t2 hx
  rcases List.mem_cons.1 hx with rfl | hx
  ·exact ne_row hb hrp t1 rfl
  ·exact ne_row hb (hrk b hx) t2 rfl
 have wS : ∀ x ∈ p :: dv.ownBlock.toList, Wr I w x := by
  intro x hx
  rcases List.mem_cons.1 hx with rfl | hx
  ·exact Wr.of hw (by decide)
  ·obtain ⟨cs, fr, hh⟩ := hrk x hx; exact Wr.of hh (by decide)
 have nS : ∀ (e : Dk), DI I w e → ∀ y ∈ p :: dv.ownBlock.toList, y ∉ e.foot := by
  intro e he y hy
  rcases List.mem_cons.1 hy with rfl | hy
  ·exact he.not_foot hw (by decide)
  ·obtain ⟨cs, fr, hh⟩ := hrk y hy; exact he.not_foot hh (by decide)
 refine ⟨⟨h.glob.kept hk (fun hx => by have := hS 1 hx; have := h.pos; omega), h.pos, Nat.le_trans h.size hk.size, h.pB, ⟨kv, dv', xs, hw', owns_kept ho hk (fun b hb => hne (owns_row ho hb) (by decide) (by decide)), h1, by simpa using hd'⟩, ?_, ?_⟩, hk.belowB h.size hS⟩
 ·intro e he
  rcases List.mem_append.1 he with he | he
  ·obtain ⟨e1, e2⟩ := h.all e he
   exact ⟨e1.kept hk (nS e e1) wS, e2⟩
  ·simp at he; subst he
   exact ⟨hdi.kept hk (nS _ hdi) wS, bf⟩
 ·rw [List.pairwise_append]
  exact ⟨h.apart, by simp, fun e he d' hd' => by simp at hd'; subst hd'; exact hap e he⟩

end Go.Proofs.YtcklgafpgdhnaaaGreatDoor

namespace Go.Proofs.YtcklgafpgdhnaaaGreatDoor
open Go.RowKit

def DR (I : Iface) (d : Dk) (w : World) (e : Ending) (w' : World) : Prop :=
 e = .returned (.bool true) ∧ ∃ d' : Dk, d'.q = d.q ∧ DI I w' d' ∧ (∀ y ∈ d'.foot, y ∈ d.foot ∨ w.heap.size ≤ y) ∧ (∀ N, d.le N → d'.le (N + 1)) ∧ Kept d.foot w w'

def DRS (I : Iface) (d : Dk) (w : World) (e : Ending) (w' : World) : Prop :=
 e = .returned (.bool true) ∧ ∃ (d' : Dk) (s' : Sx) (o' : Ox), d'.st = some (s', o') ∧ d'.q = d.q ∧ DI I w' d' ∧ (∀ y ∈ d'.foot, y ∈ d.foot ∨ w.heap.size ≤ y) ∧ (∀ N, d.le N → d'.le (N + 1)) ∧ Kept d.foot w w'
theorem DRS.dr {I : Iface} {d : Dk} {w w' : World} {e : Ending} (h : DRS I d w e w') : DR I d w e w' := by
 obtain ⟨rfl, d', s', o', _, r⟩ := h
 exact ⟨rfl, d', r⟩

theorem foot_qa (d : Dk) : ∀ y ∈ [d.q, d.a], y ∈ d.foot := by
 intro y hy; simp at hy; rcases hy with rfl | rfl <;> simp [Dk.foot]
theorem foot_qag (d : Dk) : ∀ y ∈ [d.q, d.a, d.g], y ∈ d.foot := by
 intro y hy; simp at hy; rcases hy with rfl | rfl | rfl <;> simp [Dk.foot]

theorem DR.ofNone {I : Iface} {d : Dk} {w w' : World} {e : Ending} {may were : Value} {m : Nat} {L : List UInt8} {wr t : Int} (h : DI I w d) (h2 : Maps w may m) (h3 : m ≤ 1) (h4 : d.k = 0 → may = .slice none 0 0) (h5 : 0 < d.k → m = 1) (h6 : Maps w were d.k) (h8 : 8 ≤ d.n ∧ d.n ≤ 400 → I.DS d.k L)
  (hr : NoneR d.q d.a d.g d.n may were L wr t w e w') : DR I d w e w' := by
 obtain ⟨rfl, hq, ⟨c, hd⟩, hk⟩ := hr
 have wf : ∀ y ∈ [d.q, d.a], Wr I w y := fun y hy => h.foot y (foot_qa d y hy)
 refine ⟨rfl, { d with st := none }, rfl, ⟨h.lt, h.no, ⟨may, were, m, L, c, wr, t, hq, row_stays h2 hk wf (by decide), h3, h4, h5, row_stays h6 hk wf (by decide), hd, h8⟩, by intro s o hst; cases hst⟩, ?_, ?_, hk.mono (foot_qa d)⟩
 ·intro y hy
  left
  exact foot_qag d y (by simpa [Dk.foot, stFoot] using hy)
 ·intro N hN
  exact ⟨Nat.le_succ_of_le hN.1, by intro s o hst; cases hst⟩

theorem opened_DI (I : Iface) (d : Dk) (w : World) (hG : Glob w) (h : DI I w d) (hk : d.k ≤ 20000) : Calls Tryz.prog 99 #[.pointer (some ⟨d.q, 0, none⟩)] w (DR I d w) := by
 obtain ⟨may, were, m, L, c, wr, t, h1, h2, h3, h4, h5, h6, h7, h8⟩ := h.ex
 by_cases hf : 8 ≤ d.n ∧ d.n ≤ 400
 ·by_cases hk0 : 0 < d.k
  ·have := h5 hk0; subst this
   refine (open_fits I d.q d.a d.g d.n d.k may were _ ⟨_, rfl⟩ L c wr t w hG h1 h7 hf.1 hf.2 hk0 (by omega) (h8 hf) h2).mono ?_
   rintro e w' ⟨rfl, s, o, ea, eg, en, em, ech, exs, elv, ewv, hb, hq, ⟨c', hd⟩, hs, ho, hfp, hK⟩
   have wf : ∀ y ∈ [d.q, d.a], Wr I w y := fun y hy => h.foot y (foot_qa d y hy)
   refine ⟨rfl, { d with st := some (s, o) }, rfl, ⟨h.lt, h.no, ⟨may, were, 1, L, c', wr, t, hq, row_stays h2 hK wf (by decide), h3, h4, h5, row_stays h6 hK wf (by decide), hd, h8⟩, ?_⟩, ?_, ?_, hK.mono (foot_qa d)⟩
   ·intro s' o' hst; cases hst; exact ⟨hs, ho, ea, eg, en⟩
   ·intro y hy
    simp only [Dk.foot, stFoot, elv, ewv, Value.ownBlock, Option.toList, List.append_nil, List.mem_cons] at hy
    rcases hy with rfl | rfl | rfl | rfl | hy
    ·left; simp [Dk.foot]
    ·left; simp [Dk.foot]
    ·left; simp [Dk.foot]
    ·right; exact hb
    ·right; exact hfp y hy
   ·intro N hN
    refine ⟨Nat.le_succ_of_le hN.1, ?_⟩
    intro s' o' hst; cases hst
    rw [em, ech, exs]
    exact ⟨by omega, by omega, by simp⟩
  ·have e0 : d.k = 0 := by omega
   have hm := h4 e0
   subst hm
   have hS := h8 hf
   rw [e0] at hS
   exact (open_none I d.q d.a d.g d.n were _ ⟨_, rfl⟩ L c wr t w hG h1 h7 hf.1 hf.2 hS).mono fun e w' hr => DR.ofNone h h2 h3 h4 h5 h6 h8 hr
 ·exact (open_no I d.q d.a d.g d.n may were _ ⟨_, rfl⟩ L c wr t w hG h1 h7 (by omega)).mono fun e w' hr => DR.ofNone h h2 h3 h4 h5 h6 h8 hr

theorem formatted_DI (I : Iface) (d : Dk) (w : World) (hG : Glob w) (h : DI I w d) (hk : d.k ≤ 20000) : Calls Tryz.prog 98 #[.pointer (some ⟨d.q, 0, none⟩)] w (DR I d w) := by
 obtain ⟨may, were, m, L, c, wr, t, h1, h2, h3, h4, h5, h6, h7, h8⟩ := h.ex
 by_cases hf : 8 ≤ d.n ∧ d.n ≤ 400
 ·refine (format_fits I d.q d.a d.g d.n d.k m may were _ ⟨_, rfl⟩ L c wr t w hG h1 h7 hf.1 hf.2 hk (h8 hf) h2 h3 h6).mono ?_
  rintro e w' ⟨rfl, ⟨may', were', hq, hm, hu⟩, ⟨L', c', wr', hd, hS⟩, hK⟩
  refine ⟨rfl, { d with k := d.k + 1, st := none }, rfl, ⟨h.lt, fun hn => absurd hf hn, ⟨may', were', 1, L', c', wr', t, hq, hm, Nat.le_refl _, by simp, by simp, hu, hd, fun _ => hS⟩, by intro s o hst; cases hst⟩, ?_, ?_, hK.mono (foot_qag d)⟩
  ·intro y hy
   left
   exact foot_qag d y (by simpa [Dk.foot, stFoot] using hy)
  ·intro N hN
   exact ⟨Nat.succ_le_succ hN.1, by intro s o hst; cases hst⟩
 ·exact (format_no I d.q d.a d.g d.n may were _ ⟨_, rfl⟩ L c wr t w hG h1 h7 (by omega)).mono fun e w' hr => DR.ofNone h h2 h3 h4 h5 h6 h8 hr

theorem DR.ofStore {I : Iface} {d : Dk} {s : Sx} {o : Ox} {w w' : World} {e : Ending} {may were : Value} {m : Nat} {L : List UInt8} {wr t : Int} (h : DI I w d) (hst : d.st = some (s, o)) (h2 : Maps w may m) (h3 : m ≤ 1) (h4 : d.k = 0 → may = .slice none 0 0) (h5 : 0 < d.k → m = 1) (h6 : Maps w were d.k) (h8 : 8 ≤ d.n ∧ d.n ≤ 400 → I.DS d.k L)
  (hr : DiskR I s o w d.q d.n may were L wr t e w') : DRS I d w e w' := by
 obtain ⟨s1, s2, ea, eg, en⟩ := h.st s o hst
 obtain ⟨rfl, s', o', eb, ex, e2, e3, e4, hq, ⟨c, hd⟩, hs, ho, hfp, hlv, hwv, hxs, hmo, hch, hk⟩ := hr
 have sub : ∀ y ∈ o.b :: s.a :: (s.fp ++ o.lv.ownBlock.toList ++ o.wv.ownBlock.toList), y ∈ d.foot := by
  intro y hy
  simp only [Dk.foot, hst, stFoot]
  rcases List.mem_cons.1 hy with rfl | hy
  ·exact List.mem_cons_of_mem _ (List.mem_cons_of_mem _ (List.mem_cons_of_mem _ List.mem_cons_self))
  rcases List.mem_cons.1 hy with rfl | hy
  ·rw [ea]; exact List.mem_cons_of_mem _ List.mem_cons_self
  ·exact List.mem_cons_of_mem _ (List.mem_cons_of_mem _ (List.mem_cons_of_mem _ (List.mem_cons_of_mem _ hy)))
 have wf := fun y hy => h.foot y (sub y hy)
 rw [ea] at hq hd
 rw [eg, en] at hd
 refine ⟨rfl, { d with st := some (s', o') }, s', o', rfl, rfl, ⟨h.lt, h.no, ⟨may, were, m, L, c, wr, t, by simp only [stPtr, eb]; exact hq, row_stays h2 hk wf (by decide), h3, h4, h5, row_stays h6 hk wf (by decide), hd, h8⟩, ?_⟩, ?_, ?_, hk.mono sub⟩
 ·intro s'' o'' hst'; cases hst'; exact ⟨hs, ho, by rw [e2, ea], by rw [e3, eg], by rw [e4, en]⟩
 ·intro y hy
  have m4 : ∀ {y}, y ∈ s.fp ++ o.lv.ownBlock.toList ++ o.wv.ownBlock.toList → y ∈ d.foot := fun hy => sub _ (List.mem_cons_of_mem _ (List.mem_cons_of_mem _ hy))
  simp only [Dk.foot, stFoot] at hy
  rcases List.mem_cons.1 hy with rfl | hy
  ·left; simp [Dk.foot]
  rcases List.mem_cons.1 hy with rfl | hy
  ·left; simp [Dk.foot]
  rcases List.mem_cons.1 hy with rfl | hy
  ·left; simp [Dk.foot]
  rcases List.mem_cons.1 hy with rfl | hy
  ·left; rw [eb]; exact sub _ List.mem_cons_self
  rcases List.mem_append.1 hy with hy | hy
  ·rcases List.mem_append.1 hy with hy | hy
   ·rcases hfp y hy with e | e
    ·exact Or.inl (m4 (List.mem_append_left _ (List.mem_append_left _ e)))
    ·exact Or.inr e
   ·rcases hlv y (by simpa using hy) with e | e
    ·exact Or.inl (m4 (List.mem_append_left _ (List.mem_append_right _ (by simpa using e))))
    ·exact Or.inr e
  ·rcases hwv y (by simpa using hy) with e | e
   ·exact Or.inl (m4 (List.mem_append_right _ (by simpa using e)))
   ·exact Or.inr e
 ·intro N hN
  obtain ⟨a1, a2, a3⟩ := hN.2 s o hst
  refine ⟨Nat.le_succ_of_le hN.1, ?_⟩
  intro s'' o'' hst'; cases hst'
  exact ⟨by omega, by omega, by omega⟩

section
variable (I : Iface) (d : Dk) (s : Sx) (o : Ox) (w : World) (hG : Glob w) (h : DI I w d) (hst : d.st = some (s, o)) (hgf : 1 ∉ s.fp) (N : Nat) (hle : d.le N) (hN : N ≤ 20000)
include hG h hst hgf hle hN

theorem got_DI (k : ByteArray) : Calls Tryz.prog 101 #[.pointer (some ⟨d.q, 0, none⟩), .string k] w (DRS I d w) := by
 obtain ⟨may, were, m, L, c, wr, t, h1, h2, h3, h4, h5, h6, h7, h8⟩ := h.ex
 obtain ⟨s1, s2, ea, eg, en⟩ := h.st s o hst
 obtain ⟨b1, b2, b3⟩ := hle.2 s o hst
 have := s2.m
 rw [← ea] at h1
 rw [← ea, ← eg, ← en] at h7
 rw [hst] at h1
 exact (got_any I s o d.q d.n may were L c wr t k w hG hgf h1 h7 s1 s2 (by omega)).mono fun e w' hr => DR.ofStore h hst h2 h3 h4 h5 h6 h8 hr

theorem scanned_DI (lo hi : ByteArray) (mm : Int) : Calls Tryz.prog 102 #[.pointer (some ⟨d.q, 0, none⟩), .string lo, .string hi, .int .i64 mm] w (DRS I d w) := by
 obtain ⟨may, were, m, L, c, wr, t, h1, h2, h3, h4, h5, h6, h7, h8⟩ := h.ex
 obtain ⟨s1, s2, ea, eg, en⟩ := h.st s o hst
 obtain ⟨b1, b2, b3⟩ := hle.2 s o hst
 have := s2.m
 rw [← ea] at h1
 rw [← ea, ← eg, ← en] at h7
 rw [hst] at h1
 exact (scanned_any I s o d.q d.n may were L c wr t lo hi mm w hG hgf h1 h7 s1 s2 (by omega) (by omega)).mono fun e w' hr => DR.ofStore h hst h2 h3 h4 h5 h6 h8 hr

omit hle hN in
theorem closed_DI : Calls Tryz.prog 104 #[.pointer (some ⟨d.q, 0, none⟩)] w (DRS I d w) := by
 obtain ⟨may, were, m, L, c, wr, t, h1, h2, h3, h4, h5, h6, h7, h8⟩ := h.ex
 obtain ⟨s1, s2, ea, eg, en⟩ := h.st s o hst
 rw [← ea] at h1
 rw [← ea, ← eg, ← en] at h7
 rw [hst] at h1
 exact (closed_any I s o d.q d.n may were L c wr t w hG hgf h1 h7 s1 s2).mono fun e w' hr => DR.ofStore h hst h2 h3 h4 h5 h6 h8 hr

theorem put_DI (k v : ByteArray) : Calls Tryz.prog 100 #[.pointer (some ⟨d.q, 0, none⟩), .string k, .string v, .bool false] w (DRS I d w) := by
 obtain ⟨may, were, m, L, c, wr, t, h1, h2, h3, h4, h5, h6, h7, h8⟩ := h.ex
 obtain ⟨s1, s2, ea, eg, en⟩ := h.st s o hst
 obtain ⟨b1, b2, b3⟩ := hle.2 s o hst
 have := s2.m
 rw [← ea] at h1
 rw [← ea, ← eg, ← en] at h7
 rw [hst] at h1
 exact (changed_put I s o d.q d.n may were L c wr t k v w hG hgf h1 h7 s1 s2 (by omega) (by omega) (by omega) (by rw [en])).mono fun e w' hr => DR.ofStore h hst h2 h3 h4 h5 h6 h8 hr

theorem del_DI (k v : ByteArray) : Calls Tryz.prog 100 #[.pointer (some ⟨d.q, 0, none⟩), .string k, .string v, .bool true] w (DRS I d w) := by
 obtain ⟨may, were, m, L, c, wr, t, h1, h2, h3, h4, h5, h6, h7, h8⟩ := h.ex
 obtain ⟨s1, s2, ea, eg, en⟩ := h.st s o hst
 obtain ⟨b1, b2, b3⟩ := hle.2 s o hst
 have := s2.m
 rw [← ea] at h1
 rw [← ea, ← eg, ← en] at h7
 rw [hst] at h1
 exact (changed_del I s o d.q d.n may were L c wr t k v w hG hgf h1 h7 s1 s2 (by omega) (by omega) (by omega) (by rw [en])).mono fun e w' hr => DR.ofStore h hst h2 h3 h4 h5 h6 h8 hr
end

end Go.Proofs.YtcklgafpgdhnaaaGreatDoor
