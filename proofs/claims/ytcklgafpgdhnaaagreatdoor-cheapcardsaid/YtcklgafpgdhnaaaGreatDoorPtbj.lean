import Derived.Test.YtcklgafpgdhnaaaGreatDoorPtbh
import Derived.Test.YtcklgafpgdhnaaaGreatDoorPtbi
import Derived.Test.YtcklgafpgdhnaaaGreatDoorPtax
set_option maxRecDepth 100000
set_option maxHeartbeats 4000000
open List renaming getElem_toArray → zA, getElem_cons_succ → zB, getElem_cons_zero → zC, setIfInBounds_toArray → zD, set_cons_succ → zE, set_cons_zero → zF
namespace Go.Proofs.YtcklgafpgdhnaaaGreatDoor
open Go.RowKit

def FmS : (h : Nat) → Nd h → Prop
 | 0, _ => True
 | h + 1, ks => ∀ k : Kid h, List.Mem k ks → k.1.size ≤ 8 ∧ FmS h k.2
def LiesT (lk : Nat → List UInt8) (t : Tr) : Prop := nilN t.h t.n = true ∨ (lk t.pl = encN (nbN t.h t.n) ∧ LiesN lk t.h t.n)
structure StK (n : Nat) (lk : Nat → List UInt8) (lt t : Tr) : Prop where
 tw : TW t
 ltw : TW lt
 lies : LiesT lk lt
 us : (usL lt).Nodup
 ub : ∀ p ∈ preT lt, p < n
 g : Gl lk t.h (rtK t)
 pls : ∀ b ∈ plsK t.h (rtK t), b ∈ preT lt
 nd : (plsK t.h (rtK t)).Nodup
 fm : FmS lt.h lt.n
theorem StK.chg {n : Nat} {lk : Nat → List UInt8} {lt t : Tr} {F : List Pr → List Pr} {k : ByteArray} (h : StK n lk lt t) (hF : OpAt F k) : StK n lk lt (chgT F k t) :=
 ⟨(chgT_ok hF t h.tw).1, h.ltw, h.lies, h.us, h.ub, chgT_G (Gl_kp lk) hF t h.tw h.g, fun b hb => h.pls b ((chgT_pls hF t h.tw h.g).subset hb), h.nd.sublist (chgT_pls hF t h.tw h.g), h.fm⟩
theorem ck_of {lk : Nat → List UInt8} : ∀ (h : Nat) (f : ByteArray) (n : Nd h), WFN h f n → FullN h n → sizeN h n ≤ 122 → GlN lk h n → (∀ b ∈ plsN h n, b < 65536) → CkN h n
 | 0, f, l, hw, _, hs, _, _ => ⟨fun p hp => ⟨(hw.2 p hp).2.2.1, (hw.2 p hp).2.2.2⟩, hs⟩
 | h + 1, f, (ks : List (Kid h)), hw, hf, hs, hg, hb => by
  refine CkN_succ.2 ⟨hs, fun k hk => ?_⟩
  have hg := GlN_succ.1 hg k hk
  have hf := (FullN_succ h ks).1 hf k hk
  have hw := ((WFN_succ h f ks).1 hw).2.all k hk
  have hb' : ∀ b ∈ plsK h k, b < 65536 := fun b hb1 => hb b (by rw [plsN_succ]; exact List.mem_flatMap.2 ⟨k, hk, hb1⟩)
  refine ⟨hg.1, ?_, fun hz => ck_of h k.1 k.2 hw hf.2 hf.1.2 hg.2.1 fun b hb1 => hb' b (by unfold plsK; rw [if_pos hz]; exact hb1)⟩
  by_cases hz : k.3 = 0
  ·omega
  ·exact hb' _ (by unfold plsK; rw [if_neg hz]; simp)
theorem StK.lyp {n : Nat} {lk : Nat → List UInt8} {c : Hd} {t : Tr} (h : StK n lk c.lt t) (hn : n ≤ 65536) : LyP c t n := by
 refine ⟨h.us, h.ub, ⟨show nil8.size ≤ 8 by decide, ?_, fun hz => ck_of t.h nil8 t.n h.tw.wf h.tw.full h.tw.hi h.g.2.1 fun b hb => ?_⟩⟩
 ·show t.pl < 65536
  by_cases hz : t.pl = 0
  ·omega
  ·have := h.ub _ (h.pls t.pl (by unfold plsK rtK; rw [if_neg hz]; simp))
   omega
 ·have := h.ub _ (h.pls b (by unfold plsK; rw [if_pos (show (rtK t).3 = 0 from hz)]; exact hb))
  omega

theorem FmS_succ {h : Nat} {ks : List (Kid h)} : FmS (h + 1) ks ↔ ∀ k ∈ ks, k.1.size ≤ 8 ∧ FmS h k.2 := Iff.rfl
theorem FmS_er : ∀ (h : Nat) (n : Nd h), FmS h (erN h n) ↔ FmS h n
 | 0, _ => Iff.rfl
 | h + 1, (ks : List (Kid h)) => by
  show (∀ k ∈ ks.map (erK h), k.1.size ≤ 8 ∧ FmS h k.2) ↔ ∀ k ∈ ks, k.1.size ≤ 8 ∧ FmS h k.2
  constructor
  ·intro H k hk
   have := H _ (List.mem_map.2 ⟨k, hk, rfl⟩)
   exact ⟨this.1, (FmS_er h k.2).1 this.2⟩
  ·intro H k hk
   obtain ⟨k0, hk0, rfl⟩ := List.mem_map.1 hk
   exact ⟨(H k0 hk0).1, (FmS_er h k0.2).2 (H k0 hk0).2⟩
theorem GlN.frs {lk : Nat → List UInt8} : ∀ {h : Nat} {n : Nd h}, GlN lk h n → FmS h n
 | 0, _, _ => trivial
 | _ + 1, _, g => FmS_succ.2 fun k hk => ⟨(GlN_succ.1 g k hk).1, GlN.frs (GlN_succ.1 g k hk).2.1⟩
theorem gl_of_lies {lk : Nat → List UInt8} : ∀ {h : Nat} {n : Nd h}, LiesN lk h n → 0 ∉ preN h n → FmS h n → GlN lk h n ∧ allpl h n
 | 0, _, _, _, _ => ⟨trivial, trivial⟩
 | h + 1, (ks : List (Kid h)), hl, h0, hf => by
  have h0 : 0 ∉ ks.flatMap (preK h) := h0
  have key : ∀ k ∈ ks, k.3 ≠ 0 ∧ 0 ∉ preN h k.2 := by
   intro k hk
   have : 0 ∉ preK h k := fun hm => h0 (List.mem_flatMap.2 ⟨k, hk, hm⟩)
   unfold preK at this
   simp only [List.mem_cons, not_or] at this
   exact ⟨fun e => this.1 e.symm, this.2⟩
  refine ⟨GlN_succ.2 fun k hk => ?_, fun k hk => (key k hk).1⟩
  have h1 := LiesN_succ.1 hl k hk
  have h2 := FmS_succ.1 hf k hk
  have h3 := gl_of_lies h1.2 (key k hk).2 h2.2
  exact ⟨h2.1, h3.1, fun _ => ⟨h1.1, h3.2⟩⟩
structure Whl (n : Nat) (lk : Nat → List UInt8) (t : Tr) : Prop where
 tw : TW t
 nil : nilN t.h t.n = false
 at_ : lk t.pl = encN (nbN t.h t.n)
 lies : LiesN lk t.h t.n
 nd : (t.pl :: preN t.h t.n).Nodup
 off : ∀ b ∈ t.pl :: preN t.h t.n, 2 ≤ b ∧ b < n
 frs : FmS t.h t.n
theorem us_nodup {l : List Nat} (h : l.Nodup) (h2 : ∀ b ∈ l, 2 ≤ b) : (l.reverse ++ [1, 0]).Nodup := by
 refine List.nodup_append.2 ⟨((List.reverse_perm l).nodup_iff).2 h, by decide, ?_⟩
 intro a ha b hb e
 subst e
 have := h2 a (List.mem_reverse.1 ha)
 simp at hb
 omega
theorem Whl.pre {n : Nat} {lk : Nat → List UInt8} {t : Tr} (h : Whl n lk t) : preT t = t.pl :: preN t.h t.n := by unfold preT; rw [h.nil]; rfl
theorem Whl.stk {n : Nat} {lk : Nat → List UInt8} {t : Tr} (h : Whl n lk t) : StK n lk t t := by
 have h0 : 0 ∉ preN t.h t.n := fun hm => by have := h.off 0 (List.mem_cons_of_mem _ hm); omega
 have hp : t.pl ≠ 0 := by have := h.off t.pl (by simp); omega
 have hg := gl_of_lies h.lies h0 h.frs
 have hk : plsK t.h (rtK t) = preT t := by rw [h.pre]; unfold plsK rtK; rw [if_neg hp]
 refine ⟨h.tw, h.tw, Or.inr ⟨h.at_, h.lies⟩, ?_, ?_, ⟨show nil8.size ≤ 8 by decide, hg.1, fun _ => ⟨h.at_, hg.2⟩⟩, ?_, ?_, h.frs⟩
 ·unfold usL
  rw [h.pre]
  exact us_nodup h.nd fun b hb => (h.off b hb).1
 ·rw [h.pre]
  exact fun b hb => (h.off b hb).2
 ·rw [hk]
  exact fun b hb => hb
 ·rw [hk, h.pre]
  exact h.nd

end Go.Proofs.YtcklgafpgdhnaaaGreatDoor

namespace Go.Proofs.YtcklgafpgdhnaaaGreatDoor
open Go.RowKit

theorem pls_sub {lt : Tr} {b : Nat} (h : b ∈ preT lt) : b ∈ usL lt := List.mem_append_left _ (List.mem_reverse.2 h)
theorem us_two {lt : Tr} (h : (usL lt).Nodup) {b : Nat} (hb : b ∈ preT lt) : 2 ≤ b := by
  have := (List.nodup_append.1 h).2.2 b (List.mem_reverse.2 hb)
  rcases Nat.lt_or_ge b 2 with h2 | h2
  · exact absurd rfl (this b (by have : b = 0 ∨ b = 1 := by omega
                                 rcases this with rfl | rfl <;> simp))
  · exact h2
theorem nil_tree {t : Tr} (h : nilN t.h t.n = true) (ht : TW t) : t = ⟨0, ([] : List Pr), 0⟩ := by
  have hp := ht.nil h
  obtain ⟨hh, nn, pl⟩ := t
  cases hh with
  | zero =>
    have h' : List.isEmpty (α := Pr) nn = true := h
    have : nn = ([] : List Pr) := List.isEmpty_iff.1 h'
    subst this
    have hp : pl = 0 := hp
    rw [hp]
  | succ h => cases h
theorem StK.none (n : Nat) (lk : Nat → List UInt8) : StK n lk ⟨0, ([] : List Pr), 0⟩ ⟨0, ([] : List Pr), 0⟩ := by
  have ht : TW ⟨0, ([] : List Pr), 0⟩ := ⟨⟨List.Pairwise.nil, fun p hp => by cases hp⟩, trivial, by decide, (fun h => by cases h), fun _ => rfl⟩
  exact ⟨ht, ht, Or.inl rfl, (show ([1, 0] : List Nat).Nodup by decide), (fun p hp => absurd (show p ∈ ([] : List Nat) from hp) List.not_mem_nil), ⟨show nil8.size ≤ 8 by decide, trivial, fun h => absurd rfl h⟩, (fun b hb => absurd (show b ∈ ([] : List Nat) from hb) List.not_mem_nil), List.nodup_nil, trivial⟩
theorem StK.sync {n : Nat} {lk lk' : Nat → List UInt8} {c : Hd} {t : Tr} (h : StK n lk c.lt t) (hb : Bd n (sysL c t).2) (hold : ∀ b ∈ preT c.lt, lk' b = lk b) (hnew : ∀ x ∈ (sysL c t).2.ws, lk' x.1 = x.2) : StK n lk' (sysL c t).1 (sysL c t).1 := by
  cases hn : nilN t.h t.n with
  | true =>
    have e := nil_tree hn h.tw
    subst e
    exact StK.none n lk'
  | false =>
    by_cases hz : t.pl = 0
    · have hEq : sysL c t = (⟨t.h, (layN t.h t.n ⟨usL c.lt, []⟩).1, tk (layN t.h t.n ⟨usL c.lt, []⟩).2.us⟩, (layN t.h t.n ⟨usL c.lt, []⟩).2.step (encN (nbN t.h (layN t.h t.n ⟨usL c.lt, []⟩).1))) := by
        unfold sysL
        rw [layT_nd hn, show layK t.h ⟨nil8, t.n, t.pl⟩ ⟨usL c.lt, []⟩ = _ from layK_new (k := rtK t) hz ⟨usL c.lt, []⟩]
        rfl
      rw [hEq] at hb hnew ⊢
      have hpl : plsK t.h (rtK t) = plsN t.h t.n := by unfold plsK; rw [if_pos (show (rtK t).3 = 0 from hz)]; rfl
      have hL := lay_ok lk lk' (preT c.lt) hold t.h t.n ⟨usL c.lt, []⟩ h.g.2.1.pl (by rw [← hpl]; exact h.nd) (fun b hb1 => h.pls b (by rw [hpl]; exact hb1)) (fun b hb1 => pls_sub hb1) (fun x hx => hnew x (by show x ∈ (layN t.h t.n ⟨usL c.lt, []⟩).2.ws ++ _; exact List.mem_append_left _ hx))
      have hE := of_er (lay_er t.h t.n ⟨usL c.lt, []⟩)
      have hS := (lay_stp t.h t.n ⟨usL c.lt, []⟩).1
      have hin : ∀ b ∈ preN t.h (layN t.h t.n ⟨usL c.lt, []⟩).1, 2 ≤ b ∧ b ∈ (layN t.h t.n ⟨usL c.lt, []⟩).2.us := by
        intro b hb1
        rcases hL.mem b hb1 with h1 | ⟨h1, h2⟩
        · have h3 := h.pls b (by rw [hpl]; exact h1)
          exact ⟨us_two h.us h3, hS.us b (pls_sub h3)⟩
        · refine ⟨?_, h1⟩
          rcases Nat.lt_or_ge b 2 with h3 | h3
          · exact absurd (show b ∈ usL c.lt from List.mem_append_right _ (by have : b = 0 ∨ b = 1 := by omega
                                                                             rcases this with rfl | rfl <;> simp)) h2
          · exact h3
      have htk := tk_not (layN t.h t.n ⟨usL c.lt, []⟩).2.us
      refine Whl.stk ⟨⟨hE.2.2.2.2.1 _ h.tw.wf, hE.2.2.2.2.2 h.tw.full, ?_, ?_, ?_⟩, ?_, ?_, hL.lies, ?_, ?_, ?_⟩
      · show sizeN t.h (layN t.h t.n ⟨usL c.lt, []⟩).1 ≤ 122
        rw [hE.2.1]
        exact h.tw.hi
      · intro h0
        show 22 ≤ sizeN t.h (layN t.h t.n ⟨usL c.lt, []⟩).1
        rw [hE.2.1]
        exact h.tw.two h0
      · intro h1
        have h1 : nilN t.h (layN t.h t.n ⟨usL c.lt, []⟩).1 = true := h1
        rw [hE.2.2.2.1, hn] at h1
        cases h1
      · show nilN t.h (layN t.h t.n ⟨usL c.lt, []⟩).1 = false
        rw [hE.2.2.2.1]
        exact hn
      · exact hnew (tk (layN t.h t.n ⟨usL c.lt, []⟩).2.us, encN (nbN t.h (layN t.h t.n ⟨usL c.lt, []⟩).1)) (List.mem_append_right _ (List.mem_cons_self ..))
      · exact List.nodup_cons.2 ⟨fun hm => htk (hin _ hm).2, hL.nd⟩
      · intro b hb1
        rcases List.mem_cons.1 hb1 with e | hb1
        · subst e
          refine ⟨?_, hb _ (List.mem_cons_self ..)⟩
          rcases Nat.lt_or_ge (tk (layN t.h t.n ⟨usL c.lt, []⟩).2.us) 2 with h3 | h3
          · refine absurd (hS.us _ ?_) htk
            refine List.mem_append_right _ ?_
            have : tk (layN t.h t.n ⟨usL c.lt, []⟩).2.us = 0 ∨ tk (layN t.h t.n ⟨usL c.lt, []⟩).2.us = 1 := by omega
            rcases this with e | e <;> rw [e] <;> simp
          · exact h3
        · exact ⟨(hin b hb1).1, hb b (List.mem_cons_of_mem _ (hin b hb1).2)⟩
      · exact (FmS_er _ _).1 (by rw [lay_er]; exact (FmS_er _ _).2 h.g.2.1.frs)
    · have hEq : sysL c t = (⟨t.h, t.n, t.pl⟩, ⟨usL c.lt, []⟩) := by
        unfold sysL
        rw [layT_nd hn, show layK t.h ⟨nil8, t.n, t.pl⟩ ⟨usL c.lt, []⟩ = _ from layK_old (k := rtK t) hz ⟨usL c.lt, []⟩]
        rfl
      rw [hEq]
      have hg := h.g.2.2 hz
      have hl := h.g.2.1.lies hg.2
      have hk : plsK t.h (rtK t) = t.pl :: preN t.h t.n := by unfold plsK; rw [if_neg (show (rtK t).3 ≠ 0 from hz)]; rfl
      have hin : ∀ b ∈ t.pl :: preN t.h t.n, b ∈ preT c.lt := fun b hb1 => h.pls b (by rw [hk]; exact hb1)
      refine Whl.stk (t := ⟨t.h, t.n, t.pl⟩) ⟨h.tw, hn, ?_, hl.1.agree fun b hb1 => hold b (hin b (List.mem_cons_of_mem _ hb1)), by rw [← hk]; exact h.nd, fun b hb1 => ⟨us_two h.us (hin b hb1), h.ub b (hin b hb1)⟩, h.g.2.1.frs⟩
      show lk' t.pl = _
      rw [hold t.pl (hin t.pl (by simp))]
      exact hg.1

end Go.Proofs.YtcklgafpgdhnaaaGreatDoor

namespace Go.Proofs.YtcklgafpgdhnaaaGreatDoor
open Go.RowKit

theorem spl_get {α : Type} {l cs : List α} {o : Nat} (h : o + cs.length ≤ l.length) (j : Nat) : (splice l o cs)[j]? = if j < o then l[j]? else if j < o + cs.length then cs[j - o]? else l[j]? := by
 unfold splice
 by_cases h1 : j < o
 ·rw [if_pos h1, List.getElem?_append_left (by rw [List.length_take]; omega), List.getElem?_take, if_pos h1]
 ·rw [if_neg h1, List.getElem?_append_right (by rw [List.length_take]; omega), List.length_take, Nat.min_eq_left (by omega)]
  by_cases h2 : j < o + cs.length
  ·rw [if_pos h2, List.getElem?_append_left (by omega)]
  ·rw [if_neg h2, List.getElem?_append_right (by omega), List.getElem?_drop]
   congr 1
   omega
theorem spl_mid {α : Type} {l cs : List α} {o : Nat} (h : o + cs.length ≤ l.length) (m : Nat) (hm : m = cs.length) : ((splice l o cs).drop o).take m = cs := by
 subst hm
 apply List.ext_getElem?
 intro j
 rw [List.getElem?_take, List.getElem?_drop, spl_get h]
 by_cases hj : j < cs.length
 ·rw [if_pos hj, if_neg (by omega), if_pos (by omega)]
  congr 1
  omega
 ·rw [if_neg hj, List.getElem?_eq_none (by omega)]
theorem spl_off {α : Type} {l cs : List α} {o p m : Nat} (h : o + cs.length ≤ l.length) (hp : p + m ≤ o ∨ o + cs.length ≤ p) : ((splice l o cs).drop p).take m = (l.drop p).take m := by
 apply List.ext_getElem?
 intro j
 rw [List.getElem?_take, List.getElem?_take, List.getElem?_drop, List.getElem?_drop, spl_get h]
 by_cases hj : j < m
 ·rw [if_pos hj, if_pos hj]
  rcases hp with hp | hp
  ·rw [if_pos (by omega)]
  ·rw [if_neg (by omega), if_neg (by omega)]
 ·rw [if_neg hj, if_neg hj]
theorem sec_turn (t r : Nat) : ((sec t r).drop 8).take 8 = bytesOf t 8 := by
 unfold sec sealL
 rw [length_sec2, spl_off (by rw [length_bytesOf, length_sec2]; omega) (Or.inl (by omega))]
 unfold sec2
 rw [spl_off (by rw [length_bytesOf, length_sec1]; omega) (Or.inl (by omega))]
 unfold sec1
 exact spl_mid (by rw [length_bytesOf, length_sec0]; omega) _ (by rw [length_bytesOf])
theorem sec_root (t r : Nat) : ((sec t r).drop 16).take 2 = bytesOf r 2 := by
 unfold sec sealL
 rw [length_sec2, spl_off (by rw [length_bytesOf, length_sec2]; omega) (Or.inl (by omega))]
 unfold sec2
 exact spl_mid (by rw [length_bytesOf, length_sec1]; omega) _ (by rw [length_bytesOf])
theorem sec_mark (t r : Nat) : (sec t r).take 8 = markL := by
 have h : ((sec t r).drop 0).take 8 = markL := by
  unfold sec sealL
  rw [length_sec2, spl_off (by rw [length_bytesOf, length_sec2]; omega) (Or.inl (by omega))]
  unfold sec2
  rw [spl_off (by rw [length_bytesOf, length_sec1]; omega) (Or.inl (by omega))]
  unfold sec1
  rw [spl_off (by rw [length_bytesOf, length_sec0]; omega) (Or.inl (by omega))]
  decide
 simpa using h
theorem blk_sec (t r : Nat) : (blk t r).take 32 = sec t r := by
 have h : ((blk t r).drop 0).take 32 = sec t r := spl_mid (by rw [length_sec, List.length_replicate]; omega) _ (by rw [length_sec])
 simpa using h
theorem take_in {α : Type} (B : List α) (p m k : Nat) (h : p + m ≤ k) : (B.drop p).take m = ((B.take k).drop p).take m := by
 rw [List.drop_take, List.take_take, Nat.min_eq_left (by omega)]
theorem rdH_sec {t r : Nat} {B : List UInt8} (hB : B.take 32 = sec t r) (ht : t < 18446744073709551616) (hr : r < 65536) : rdH (t % 2) B = some (t, r) := by
 unfold rdH
 rw [take_in B 8 8 32 (by omega), take_in B 16 2 32 (by omega), hB, sec_turn, sec_root, leNum_bytesOf, leNum_bytesOf, show t % 2 ^ (8 * 8) = t from Nat.mod_eq_of_lt (by simpa using ht), show r % 2 ^ (8 * 2) = r from Nat.mod_eq_of_lt (by simpa using hr), if_pos ⟨rfl, rfl⟩]
theorem rdH_blk {t r : Nat} (ht : t < 18446744073709551616) (hr : r < 65536) : rdH (t % 2) (blk t r) = some (t, r) := rdH_sec (blk_sec t r) ht hr
theorem rdH_some {i t r : Nat} {B : List UInt8} (h : rdH i B = some (t, r)) : t % 2 = i ∧ B.take 32 = sec t r := by
 unfold rdH at h
 split at h
 ·rename_i hc
  simp only [Option.some.injEq, Prod.mk.injEq] at h
  rw [h.1, h.2] at hc
  exact ⟨hc.1, hc.2.symm⟩
 ·cases h
theorem rdH_none {i : Nat} {B : List UInt8} (h : B.take 8 ≠ markL) : rdH i B = none := by
 cases hc : rdH i B with
 | none => rfl
 | some x =>
  obtain ⟨t, r⟩ := x
  have h2 := (rdH_some hc).2
  have h3 := sec_mark t r
  rw [← h2, List.take_take, Nat.min_eq_left (by omega)] at h3
  exact absurd h3 h
theorem block_set {L B : List UInt8} {n i : Nat} (hL : L.length = n * 128) (hi : i < n) (hB : B.length = 128) (j : Nat) : blockOf (setBlock L i B) j = if j = i then B else blockOf L j := by
 have hn : i * 128 + 128 ≤ n * 128 := by omega
 unfold blockOf setBlock
 by_cases h : j = i
 ·subst h
  rw [if_pos rfl]
  exact spl_mid (by rw [hB, hL]; omega) _ hB.symm
 ·rw [if_neg h]
  exact spl_off (by rw [hB, hL]; omega) (by rw [hB]; omega)

end Go.Proofs.YtcklgafpgdhnaaaGreatDoor

namespace Go.Proofs.YtcklgafpgdhnaaaGreatDoor
open Go.RowKit

theorem lay_view {n : Nat} {L : List UInt8} {q : List Wt} (hL : L.length = n * 128) (hq : Fit n q) (i : Nat) : blockOf (lay L q) i = vf (blockOf L i) i q := by
 induction q generalizing L with
 | nil => rfl
 | cons x r ih =>
  have hx := hq x (by simp)
  have h1 := ih (L := setBlock L x.1 x.2) (length_setBlock L x.2 n x.1 hL hx.1 hx.2) (fun y hy => hq y (by simp [hy]))
  show blockOf (lay (setBlock L x.1 x.2) r) i = vf (if x.1 = i then x.2 else blockOf L i) i r
  rw [h1, block_set hL hx.1 hx.2]
  by_cases e : x.1 = i
  ·rw [if_pos e, if_pos e.symm]
  ·rw [if_neg e, if_neg fun h => e h.symm]
theorem Fl.view {n : Nat} {D E : Dv} (h : Fl D E) (hL : D.L.length = n * 128) (hq : Fit n D.q) (i : Nat) : E.view i = D.view i := by
 unfold Dv.view
 rw [h.q, h.L]
 exact lay_view hL hq i
theorem Wn.view {D E : Dv} {i : Nat} {B : List UInt8} (h : Wn D i B E) (j : Nat) : E.view j = if i = j then B else D.view j := by
 unfold Dv.view
 rw [h.q, h.L, vf_snoc]
theorem vf_other {b : List UInt8} {i : Nat} {q : List Wt} (h : ∀ x ∈ q, x.1 ≠ i) : vf b i q = b := by
 induction q generalizing b with
 | nil => rfl
 | cons x r ih =>
  show vf (if x.1 = i then x.2 else b) i r = b
  rw [if_neg (h x (by simp))]
  exact ih fun y hy => h y (by simp [hy])
theorem vf_app (b : List UInt8) (i : Nat) (q r : List Wt) : vf b i (q ++ r) = vf (vf b i q) i r := by simp [vf, List.foldl_append]
theorem vf_in {b : List UInt8} {q : List Wt} {x : Wt} (hn : (q.map fun y => y.1).Nodup) (hx : x ∈ q) : vf b x.1 q = x.2 := by
 induction q generalizing b with
 | nil => cases hx
 | cons y r ih =>
  rw [List.map_cons, List.nodup_cons] at hn
  show vf (if y.1 = x.1 then y.2 else b) x.1 r = x.2
  rcases List.mem_cons.1 hx with e | hx
  ·subst e
   rw [if_pos rfl]
   exact vf_other fun z hz e => hn.1 (List.mem_map.2 ⟨z, hz, e⟩)
  ·exact ih hn.2 hx
theorem Wrs.other {D E : Dv} {ws : List (Nat × List UInt8)} (h : Wrs D ws E) {i : Nat} (hi : ∀ x ∈ ws, x.1 ≠ i) : E.view i = D.view i := by
 unfold Dv.view
 rw [h.q, h.L, vf_app]
 exact vf_other hi
theorem Wrs.at {D E : Dv} {ws : List (Nat × List UInt8)} (h : Wrs D ws E) (hn : (ws.map fun y => y.1).Nodup) {x : Nat × List UInt8} (hx : x ∈ ws) : E.view x.1 = x.2 := by
 unfold Dv.view
 rw [h.q, vf_app]
 exact vf_in hn hx
theorem Stp.ws {s s' : Ls} (h : Stp s s') : ∃ ws, s'.ws = s.ws ++ ws ∧ s'.us = (ws.map fun x => x.1).reverse ++ s.us ∧ (ws.map fun x => x.1).Nodup ∧ ∀ x ∈ ws, x.1 ∉ s.us := by
 induction h with
 | refl => exact ⟨[], by simp, by simp, List.nodup_nil, fun x hx => by cases hx⟩
 | step _ B ih =>
  rename_i s2 _
  obtain ⟨ws, e1, e2, h1, h2⟩ := ih
  have hno := tk_not s2.us
  have hin : ∀ y, y ∈ (ws.map fun x => x.1).reverse ++ _ → y ∈ s2.us := fun y hy => by rw [e2]; exact hy
  refine ⟨ws ++ [(tk s2.us, B)], ?_, ?_, ?_, ?_⟩
  ·simp [Ls.step, e1]
  ·simp [Ls.step, e2]
  ·rw [List.map_append, List.nodup_append]
   refine ⟨h1, by simp, ?_⟩
   intro a ha b hb e
   simp at hb
   subst hb
   subst e
   exact hno (hin _ (List.mem_append_left _ (List.mem_reverse.2 ha)))
  ·intro x hx
   rcases List.mem_append.1 hx with hx | hx
   ·exact h2 x hx
   ·simp at hx
    subst hx
    intro hm
    exact hno (hin _ (List.mem_append_right _ hm))
theorem sys_ws (c : Hd) (t : Tr) : ((sysL c t).2.ws.map fun x => x.1).Nodup ∧ ∀ x ∈ (sysL c t).2.ws, x.1 ∉ usL c.lt := by
 obtain ⟨ws, e1, _, h1, h2⟩ := (layT_stp t ⟨usL c.lt, []⟩).1.ws
 have e : (sysL c t).2.ws = ws := by
  have : (sysL c t).2.ws = [] ++ ws := e1
  rw [this]; rfl
 rw [e]
 exact ⟨h1, h2⟩

end Go.Proofs.YtcklgafpgdhnaaaGreatDoor

namespace Go.Proofs.YtcklgafpgdhnaaaGreatDoor
open Go.RowKit

theorem Sy0.view {c : Hd} {n : Nat} {D D0 : Dv} (h : Sy0 c D D0) (hL : D.L.length = n * 128) (hq : Fit n D.q) : (∀ b, D0.view b = D.view b) ∧ D0.L.length = n * 128 ∧ Fit n D0.q := by
 rcases h with ⟨_, h⟩ | ⟨_, rfl⟩
 ·refine ⟨h.view hL hq, by rw [h.L]; exact length_lay hL hq, ?_⟩
  rw [h.q]
  exact fun x hx => by cases hx
 ·exact ⟨fun _ => rfl, hL, hq⟩
theorem sync_disk {n : Nat} {c : Hd} {t : Tr} {D D0 D' : Dv} {tu' ro' : Nat} (h : StK n D.view c.lt t) (hn : 2 ≤ n) (hL : D.L.length = n * 128) (hq : Fit n D.q) (h0 : Sy0 c D D0) (hk : SyOk c t D0 tu' ro' D') (hb : Bd n (sysL c t).2) (hfr : FrW c.lt n (sysL c t).2.ws) :
  StK n D'.view (sysL c t).1 (sysL c t).1 := by
 obtain ⟨hv, hL0, hq0⟩ := h0.view hL hq
 obtain ⟨hws1, hws2⟩ := sys_ws c t
 have h1 : ∀ {D1 : Dv}, Wrs D0 (sysL c t).2.ws D1 → (∀ b ∈ usL c.lt, D1.view b = D.view b) ∧ (∀ x ∈ (sysL c t).2.ws, D1.view x.1 = x.2) ∧ D1.L.length = n * 128 ∧ Fit n D1.q := by
  intro D1 hw
  refine ⟨fun b hb1 => ?_, fun x hx => hw.at hws1 hx, by rw [hw.L]; exact hL0, ?_⟩
  ·rw [hw.other fun x hx e => hws2 x hx (by rw [e]; exact hb1), hv]
  ·rw [hw.q]
   intro x hx
   rcases List.mem_append.1 hx with hx | hx
   ·exact hq0 x hx
   ·exact (hfr x hx).2
 rcases hk with ⟨_, _, _, hw⟩ | ⟨_, _, _, D1, D2, D3, hw, hf1, hwn, hf2⟩
 ·obtain ⟨a1, a2, _, _⟩ := h1 hw
  exact h.sync hb (fun b hb1 => a1 b (pls_sub hb1)) a2
 ·obtain ⟨a1, a2, a3, a4⟩ := h1 hw
  have hL2 : D2.L.length = n * 128 := by rw [hf1.L]; exact length_lay a3 a4
  have hi : nxt c.tu % 2 < 2 := Nat.mod_lt _ (by omega)
  have hq3 : Fit n D3.q := by
   rw [hwn.q, hf1.q]
   intro x hx
   simp at hx
   subst hx
   exact ⟨by show nxt c.tu % 2 < n; omega, length_blk _ _⟩
  have hv' : ∀ b, 2 ≤ b → D'.view b = D1.view b := by
   intro b hb1
   rw [hf2.view (by rw [hwn.L]; exact hL2) hq3, hwn.view, if_neg (by omega), hf1.view a3 a4]
  refine h.sync hb (fun b hb1 => ?_) fun x hx => ?_
  ·rw [hv' b (us_two h.us hb1)]
   exact a1 b (pls_sub hb1)
  ·have hx2 : 2 ≤ x.1 := by
    rcases Nat.lt_or_ge x.1 2 with h3 | h3
    ·refine absurd (List.mem_append_right _ ?_) (hws2 x hx)
     have : x.1 = 0 ∨ x.1 = 1 := by omega
     rcases this with e | e <;> rw [e] <;> simp
    ·exact h3
   rw [hv' x.1 hx2]
   exact a2 x hx

end Go.Proofs.YtcklgafpgdhnaaaGreatDoor

namespace Go.Proofs.YtcklgafpgdhnaaaGreatDoor
open Go.RowKit

theorem Sy0.good {c : Hd} {D D0 : Dv} (h : Sy0 c D D0) : Good D0 ↔ Good D := by
 rcases h with ⟨_, h⟩ | ⟨_, rfl⟩
 ·exact h.good
 ·exact Iff.rfl
theorem Sync_good (x v a n : Nat) (bv cv : Value) (c : Hd) (r : Value) (t : Tr) (D : Dv) (w : World) (hR : Rec x v a n c r t w) (hs : c.s = 1 ∨ c.s = 2) (hd : DQ w a bv n cv D) (hk : StK n D.view c.lt t) (hg : Good D) (hn8 : 8 ≤ n) (hn : n ≤ 400) (hq : D.q.length ≤ 800000) (htu : (nxt c.tu : Int) < 18446744073709551616) (hroom : cntT c.lt + 2 + cntT t ≤ n) :
  Calls Tryz.prog 28 #[.pointer (some ⟨x, 0, none⟩)] w fun e w' => e = .returned .nilIface ∧ Kept (x :: dfoot a bv cv) w w' ∧ ∃ cv' D' r' tu' ro' D0, DQ w' a bv n cv' D' ∧ Rec x v a n ⟨2, tu', ro', (sysL c t).1, r'⟩ r' (sysL c t).1 w' ∧ StK n D'.view (sysL c t).1 (sysL c t).1 ∧ Good D' ∧ Sy0 c D D0 ∧ SyOk c t D0 tu' ro' D' ∧ FrW c.lt n (sysL c t).2.ws := by
 have hb := sys_room (c := c) (t := t) (by omega) hk.ub hroom
 refine (Sync_any x v a n bv cv c r t D w hR hs hd (hk.lyp (by omega)) hn8 hn hq htu (Or.inl hg)).mono ?_
 rintro e w' ⟨o, err, rfl, hc, ⟨cv', D', hd', hcase⟩, hkk⟩
 rcases hcase with ⟨rfl, D0, r', tu', ro', h0, hok, hfr, _, hrec⟩ | ⟨q, tu', ro', rfl, _, hbad⟩
 ·have he : err = .nilIface := hc
  subst he
  have hg' : Good D' := by
   rcases hok with ⟨_, _, _, hw⟩ | ⟨_, _, _, D1, D2, D3, hw, hf1, hwn, hf2⟩
   ·exact hw.good.2 (h0.good.2 hg)
   ·exact hf2.good.2 (hwn.good.2 (hf1.good.2 (hw.good.2 (h0.good.2 hg))))
  exact ⟨rfl, hkk, cv', D', r', tu', ro', D0, hd', hrec, sync_disk hk (by omega) hd.l hd.q h0 hok hb hfr, hg', h0, hok, hfr⟩
 ·exfalso
  rcases hbad with ⟨_, _, he⟩ | ⟨D0, h0, hbad⟩
  ·exact he.bad hg
  ·have hg0 := h0.good.2 hg
   rcases hbad with ⟨ws, D1, _, hw, ⟨_, he⟩ | ⟨_, _, hno⟩⟩ | ⟨_, _, D1, D2, hw, hf, he | ⟨D3, hwn, he⟩⟩
   ·exact he.bad (hw.good.2 hg0)
   ·exact hno hb
   ·exact he.bad (hf.good.2 (hw.good.2 hg0))
   ·exact he.bad (hwn.good.2 (hf.good.2 (hw.good.2 hg0)))

theorem sys_flat (c : Hd) (t : Tr) : flatT (sysL c t).1 = flatT t ∧ cntT (sysL c t).1 = cntT t := by
 unfold sysL
 cases hn : nilN t.h t.n with
 | true =>
  have e : (layT t ⟨usL c.lt, []⟩).1 = t := by unfold layT; simp [hn]
  rw [e]
  exact ⟨rfl, rfl⟩
 | false =>
  rw [layT_nd hn]
  by_cases hz : t.pl = 0
  ·rw [show layK t.h ⟨nil8, t.n, t.pl⟩ ⟨usL c.lt, []⟩ = _ from layK_new (k := rtK t) hz ⟨usL c.lt, []⟩]
   have hE := of_er (lay_er t.h t.n ⟨usL c.lt, []⟩)
   refine ⟨hE.1, ?_⟩
   unfold cntT
   show (if nilN t.h (layN t.h t.n ⟨usL c.lt, []⟩).1 = true then 0 else cntN t.h (layN t.h t.n ⟨usL c.lt, []⟩).1) = _
   rw [hE.2.2.2.1, hE.2.2.1]
  ·rw [show layK t.h ⟨nil8, t.n, t.pl⟩ ⟨usL c.lt, []⟩ = _ from layK_old (k := rtK t) hz ⟨usL c.lt, []⟩]
   exact ⟨rfl, rfl⟩

end Go.Proofs.YtcklgafpgdhnaaaGreatDoor

namespace Go.Proofs.YtcklgafpgdhnaaaGreatDoor
open Go.RowKit

theorem nwr_next {t : Nat} (h : t < 18446744073709551616) : nwr (nxt t) t = true ∧ nwr t (nxt t) = false := by
 have e1 : IntKind.u64.wrap 1 = 1 := by kernel_rfl
 have e2 : IntKind.u64.wrap (-18446744073709551615) = 1 := by kernel_rfl
 have e3 : IntKind.u64.wrap (-1) = 18446744073709551615 := by kernel_rfl
 have e4 : IntKind.u64.wrap 18446744073709551615 = 18446744073709551615 := by kernel_rfl
 unfold nwr nxt
 by_cases hm : t + 1 = 18446744073709551616
 ·have : (t + 1) % 18446744073709551616 = 0 := by rw [hm]
  rw [this]
  have a1 : (((0 : Nat) : Int) - (t : Int)) = -18446744073709551615 := by omega
  have a2 : ((t : Int) - ((0 : Nat) : Int)) = 18446744073709551615 := by omega
  rw [a1, a2, e2, e4]
  exact ⟨decide_eq_true (by simp [wrap64]), decide_eq_false (by simp [wrap64])⟩
 ·have : (t + 1) % 18446744073709551616 = t + 1 := Nat.mod_eq_of_lt (by omega)
  rw [this]
  have a1 : (((t + 1 : Nat) : Int) - (t : Int)) = 1 := by omega
  have a2 : ((t : Int) - ((t + 1 : Nat) : Int)) = -1 := by omega
  rw [a1, a2, e1, e3]
  exact ⟨decide_eq_true (by simp [wrap64]), decide_eq_false (by simp [wrap64])⟩
theorem nxt_par {t : Nat} : nxt t % 2 = (t + 1) % 2 := by unfold nxt; omega
theorem newest_at {D : Dv} {t r : Nat} (h : newestD D = ((t, r), true)) : rdH (t % 2) (D.view (t % 2)) = some (t, r) := by
 unfold newestD at h
 cases h0 : rdH 0 (D.view 0) with
 | none => rw [h0] at h; cases h1 : rdH 1 (D.view 1) <;> rw [h1] at h <;> cases h
 | some x =>
  cases h1 : rdH 1 (D.view 1) with
  | none => rw [h0, h1] at h; cases h
  | some y =>
   rw [h0, h1] at h
   simp only [nwst] at h
   split at h
   ·cases h
    rw [(rdH_some h1).1]
    exact h1
   ·cases h
    rw [(rdH_some h0).1]
    exact h0
theorem newest_two {D : Dv} {t r r' : Nat} (ht : t < 18446744073709551616) (h1 : rdH (t % 2) (D.view (t % 2)) = some (t, r)) (h2 : rdH (nxt t % 2) (D.view (nxt t % 2)) = some (nxt t, r')) : newestD D = ((nxt t, r'), true) := by
 obtain ⟨n1, n2⟩ := nwr_next ht
 unfold newestD
 rw [nxt_par] at h2
 rcases Nat.mod_two_eq_zero_or_one t with e | e
 ·have e' : (t + 1) % 2 = 1 := by omega
  rw [e] at h1
  rw [e'] at h2
  rw [h1, h2]
  simp [nwst, n1]
 ·have e' : (t + 1) % 2 = 0 := by omega
  rw [e] at h1
  rw [e'] at h2
  rw [h1, h2]
  simp [nwst, n2]

theorem sync_head {n : Nat} {c : Hd} {t : Tr} {D D0 D' : Dv} {tu' ro' : Nat} (hn : 2 ≤ n) (hL : D.L.length = n * 128) (hq : Fit n D.q) (h0 : Sy0 c D D0) (hk : SyOk c t D0 tu' ro' D') (hfr : FrW c.lt n (sysL c t).2.ws) (hh : newestD D = ((c.tu, c.ro), true)) (hro : c.ro = c.lt.pl) (htu : c.tu < 18446744073709551616) (hpl : (sysL c t).1.pl < 65536) :
  newestD D' = ((tu', ro'), true) ∧ ro' = (sysL c t).1.pl ∧ tu' < 18446744073709551616 := by
 obtain ⟨hv, hL0, hq0⟩ := h0.view hL hq
 obtain ⟨_, hws2⟩ := sys_ws c t
 have h1 : ∀ {D1 : Dv}, Wrs D0 (sysL c t).2.ws D1 → (∀ b, b < 2 → D1.view b = D.view b) ∧ D1.L.length = n * 128 ∧ Fit n D1.q := by
  intro D1 hw
  refine ⟨fun b hb => ?_, by rw [hw.L]; exact hL0, ?_⟩
  ·rw [hw.other fun x hx e => hws2 x hx (by
    rw [e]
    refine List.mem_append_right _ ?_
    have : b = 0 ∨ b = 1 := by omega
    rcases this with e | e <;> rw [e] <;> simp), hv]
  ·rw [hw.q]
   intro x hx
   rcases List.mem_append.1 hx with hx | hx
   ·exact hq0 x hx
   ·exact (hfr x hx).2
 rcases hk with ⟨e1, rfl, rfl, hw⟩ | ⟨_, rfl, rfl, D1, D2, D3, hw, hf1, hwn, hf2⟩
 ·obtain ⟨a1, _, _⟩ := h1 hw
  refine ⟨?_, by rw [e1]; exact hro, htu⟩
  rw [← hh]
  unfold newestD
  rw [a1 0 (by omega), a1 1 (by omega)]
 ·obtain ⟨a1, a3, a4⟩ := h1 hw
  have hL2 : D2.L.length = n * 128 := by rw [hf1.L]; exact length_lay a3 a4
  have hi : nxt c.tu % 2 < 2 := Nat.mod_lt _ (by omega)
  have hq3 : Fit n D3.q := by
   rw [hwn.q, hf1.q]
   intro x hx
   simp at hx
   subst hx
   exact ⟨by show nxt c.tu % 2 < n; omega, length_blk _ _⟩
  have hnx : nxt c.tu < 18446744073709551616 := Nat.mod_lt _ (by omega)
  have hv' : ∀ b, b < 2 → D'.view b = if nxt c.tu % 2 = b then blk (nxt c.tu) (sysL c t).1.pl else D.view b := by
   intro b hb
   rw [hf2.view (by rw [hwn.L]; exact hL2) hq3, hwn.view]
   split
   ·rfl
   ·rw [hf1.view a3 a4, a1 b hb]
  refine ⟨newest_two (r := c.ro) htu ?_ ?_, rfl, hnx⟩
  ·rw [hv' _ (Nat.mod_lt _ (by omega)), if_neg (by rw [nxt_par]; omega)]
   exact newest_at hh
  ·rw [hv' _ hi, if_pos rfl]
   exact rdH_blk hnx hpl

end Go.Proofs.YtcklgafpgdhnaaaGreatDoor
