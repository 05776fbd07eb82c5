import Derived.Test.YtcklgafpgdhnaaaGreatDoorPtbl
import Derived.Test.YtcklgafpgdhnaaaGreatDoorPtai
set_option maxRecDepth 100000
set_option maxHeartbeats 4000000
open List renaming getElem_toArray → zA, getElem_cons_succ → zB, getElem_cons_zero → zC, setIfInBounds_toArray → zD, set_cons_succ → zE, set_cons_zero → zF
namespace Go.Proofs.YtcklgafpgdhnaaaGreatDoor
open Go.RowKit

def Pd : (h : Nat) → Nd h → Prop
 | 0, _ => True
 | h + 1, ks => ∀ k : Kid h, List.Mem k ks → k.3 ≠ 0 ∧ Pd h k.2
theorem Pd_succ {h : Nat} {ks : List (Kid h)} : Pd (h + 1) ks ↔ ∀ k ∈ ks, k.3 ≠ 0 ∧ Pd h k.2 := Iff.rfl
theorem pd_of : ∀ (h : Nat) (n : Nd h), (∀ p ∈ preN h n, p ≠ 0) → Pd h n
 | 0, _, _ => trivial
 | h + 1, (ks : List (Kid h)), H => Pd_succ.2 fun k hk => by
  have H' : ∀ p ∈ preK h k, p ≠ 0 := fun p hp => H p (by rw [preN_succ]; exact List.mem_flatMap.2 ⟨k, hk, hp⟩)
  exact ⟨H' _ (by unfold preK; simp), pd_of h k.2 fun p hp => H' p (by unfold preK; simp [hp])⟩
def frS (h : Nat) (ks : List (Kid h)) : Nat := (ks.map fun k : Kid h => if k.3 = 0 then 1 + frN h k.2 else 0).sum
theorem frS_app (h : Nat) (a b : List (Kid h)) : frS h (a ++ b) = frS h a + frS h b := by unfold frS; rw [List.map_append, List.sum_append]
theorem frS_zero {h : Nat} {ks : List (Kid h)} (H : ∀ k ∈ ks, k.3 ≠ 0) : frS h ks = 0 := by
 induction ks with
 | nil => rfl
 | cons a r ih =>
  have h1 := ih fun k hk => H k (by simp [hk])
  unfold frS at h1 ⊢
  rw [List.map_cons, List.sum_cons, h1, if_neg (H a (by simp))]
theorem Pd.fr {h : Nat} {n : Nd h} (H : Pd h n) : frN h n = 0 := by
 cases h with
 | zero => rfl
 | succ h => exact frS_zero fun k hk => (Pd_succ.1 H k hk).1
theorem fr_half (h : Nat) (n : Nd h) : frN h (halveN h n).1 + frN h (halveN h n).2 = frN h n := by
 cases h with
 | zero => rfl
 | succ h =>
  have key : ∀ (l : List (Kid h)) (i : Nat), frS h (l.take i) + frS h (l.drop i) = frS h l := fun l i => by rw [← frS_app, List.take_append_drop]
  exact key n _
theorem fr_join (h : Nat) (a b : Nd h) : frN h (joinN h a b) = frN h a + frN h b := by
 cases h with
 | zero => rfl
 | succ h => exact frS_app h a b
theorem fr_fit (h : Nat) (f : ByteArray) (n : Nd h) : frS h (fitN h f n) ≤ 2 + frN h n := by
 have := fr_half h n
 unfold fitN frS
 split
 ·simp only [List.map_cons, List.map_nil, List.sum_cons, List.sum_nil, if_true]; omega
 ·simp only [List.map_cons, List.map_nil, List.sum_cons, List.sum_nil, if_true]; omega
theorem fr_fitted {h : Nat} (ks : List (Kid h)) (i m : Nat) (hi : i < ks.length) (ho : ∀ j k, ks[j]? = some k → j ≠ i → k.3 ≠ 0 ∧ Pd h k.2) (ha : ∀ k, ks[i]? = some k → frN h k.2 ≤ m) : frS h (fittedN h ks i) ≤ 2 + m := by
 have hT : ∀ {q : Nat}, q ≤ i → frS h (ks.take q) = 0 := by
  intro q hq
  refine frS_zero fun k hk => ?_
  obtain ⟨j, hj⟩ := List.mem_iff_getElem?.1 hk
  rw [List.getElem?_take] at hj
  split at hj
  ·exact (ho j k hj (by omega)).1
  ·cases hj
 have hD : ∀ {q : Nat}, i < q → frS h (ks.drop q) = 0 := by
  intro q hq
  refine frS_zero fun k hk => ?_
  obtain ⟨j, hj⟩ := List.mem_iff_getElem?.1 hk
  rw [List.getElem?_drop] at hj
  exact (ho (q + j) k hj (by omega)).1
 have hself : frS h ks ≤ 2 + m := by
  have e : ks = ks.take i ++ ([ks[i]] ++ ks.drop (i + 1)) := split1 ks i ks[i] (List.getElem?_eq_getElem hi)
  rw [e, frS_app, frS_app, hT (Nat.le_refl i), hD (Nat.lt_succ_self i)]
  have := ha ks[i] (List.getElem?_eq_getElem hi)
  unfold frS
  simp
  split <;> omega
 unfold fittedN
 split
 ·exact hself
 ·rename_i a ea
  split
  ·split
   ·rename_i x y ex ey
    rw [frS_app, frS_app, hT (by omega), hD (by omega)]
    have h1 := fr_fit h x.1 (joinN h x.2 y.2)
    rw [fr_join] at h1
    have h2 : frN h x.2 + frN h y.2 ≤ m := by
     by_cases h0 : i - 1 = i
     ·have := ha x (by rw [← h0]; exact ex)
      have := (ho _ _ ey (by omega)).2.fr
      omega
     ·have e1 : i - 1 + 1 = i := by omega
      have := ha y (by rw [← e1]; exact ey)
      have := (ho _ _ ex (by omega)).2.fr
      omega
    omega
   ·exact hself
  ·rw [frS_app, frS_app, hT (Nat.le_refl i), hD (Nat.lt_succ_self i)]
   have h1 := fr_fit h a.1 a.2
   have h2 := ha a ea
   omega
theorem fr_chg (F : List Pr → List Pr) (k : ByteArray) : ∀ (h : Nat) (n : Nd h), Pd h n → frN h (chgN F k h n) ≤ 2 * h
 | 0, _, _ => Nat.le_refl _
 | h + 1, (ks : List (Kid h)), H => by
  show frS h (chgK h (chgN F k h) k ks) ≤ _
  unfold chgK
  split
  ·rw [frS_zero fun k hk => (Pd_succ.1 H k hk).1]
   omega
  ·rename_i a ea
   have hi : wayK ks k < ks.length := (List.getElem?_eq_some_iff.1 ea).1
   have := fr_fitted (ks.set (wayK ks k) ⟨a.1, chgN F k h a.2, a.3⟩) (wayK ks k) (2 * h) (by rw [List.length_set]; exact hi) (by
    intro j x hj hne
    rw [List.getElem?_set_ne (by omega)] at hj
    exact Pd_succ.1 H x (List.mem_of_getElem? hj)) (by
    intro x hx
    rw [List.getElem?_set_self hi] at hx
    cases hx
    exact fr_chg F k h a.2 (Pd_succ.1 H a (List.mem_of_getElem? ea)).2)
   omega
def frT (t : Tr) : Nat := if nilN t.h t.n = true ∨ t.pl ≠ 0 then 0 else 1 + frN t.h t.n
theorem sys_fr (c : Hd) (t : Tr) : (sysL c t).2.ws.length = frT t := by
 unfold sysL frT
 cases hn : nilN t.h t.n with
 | true =>
  have e : (layT t ⟨usL c.lt, []⟩).2 = ⟨usL c.lt, []⟩ := by unfold layT; simp [hn]
  rw [e]
  simp
 | false =>
  rw [layT_nd hn]
  by_cases hz : t.pl = 0
  ·rw [show layK t.h ⟨nil8, t.n, t.pl⟩ ⟨usL c.lt, []⟩ = _ from layK_new (k := rtK t) hz ⟨usL c.lt, []⟩]
   have := (lay_stp t.h t.n ⟨usL c.lt, []⟩).2
   simp [hz, Ls.step]
   show List.length (layN t.h t.n ⟨usL c.lt, []⟩).2.ws + 1 = _
   rw [this]
   simp; omega
  ·rw [show layK t.h ⟨nil8, t.n, t.pl⟩ ⟨usL c.lt, []⟩ = _ from layK_old (k := rtK t) hz ⟨usL c.lt, []⟩]
   simp [hz]
theorem ite_le (p : Prop) [Decidable p] (n : Nat) : (if p then 0 else n) ≤ n := by split <;> omega
theorem fr_low (h : Nat) (m : Nd h) : frT (lowT h m) ≤ 1 + frN h m := by
 unfold frT
 cases h with
 | zero => simp [lowT]; split <;> omega
 | succ h =>
  match (show List (Kid h) from m) with
  | [] => exact ite_le _ (1 + frS h [])
  | [a] =>
   show (if nilN h a.2 = true ∨ a.3 ≠ 0 then 0 else 1 + frN h a.2) ≤ 1 + frS h [a]
   unfold frS
   split
   ·omega
   ·rename_i hh
    have : a.3 = 0 := Decidable.byContradiction fun e => hh (Or.inr e)
    simp [this]
  | a :: b :: r => exact ite_le _ (1 + frS h (a :: b :: r))
theorem fr_chgT (F : List Pr → List Pr) (k : ByteArray) (t : Tr) (H : Pd t.h t.n) : frT (chgT F k t) ≤ 2 * t.h + 3 := by
 have h1 := fr_chg F k t.h t.n H
 unfold chgT
 generalize chgN F k t.h t.n = m at *
 by_cases hs : sizeN t.h m ≤ 122
 ·have e : fitN t.h nil8 m = [⟨nil8, m, 0⟩] := by unfold fitN; rw [if_pos hs]
  rw [e]
  have := fr_low t.h m
  show frT (lowT t.h m) ≤ _
  omega
 ·have h2 := fr_fit t.h nil8 m
  have e : fitN t.h nil8 m = [⟨nil8, (halveN t.h m).1, 0⟩, ⟨firstN t.h (halveN t.h m).2, (halveN t.h m).2, 0⟩] := by unfold fitN; rw [if_neg hs]
  rw [e] at h2 ⊢
  refine Nat.le_trans (ite_le _ (1 + frS t.h [⟨nil8, (halveN t.h m).1, 0⟩, ⟨firstN t.h (halveN t.h m).2, (halveN t.h m).2, 0⟩])) ?_
  omega
theorem flat_kids {h m : Nat} (ks : List (Kid h)) (H : ∀ k ∈ ks, m ≤ (flatN h k.2).length) : ks.length * m ≤ (flatK h ks).length := by
 induction ks with
 | nil => simp
 | cons a r ih =>
  have h1 := ih fun k hk => H k (by simp [hk])
  have h2 := H a (by simp)
  rw [flatK_cons, List.length_append, List.length_cons, Nat.succ_mul]
  omega
theorem hgt_le : ∀ (h : Nat) (f : ByteArray) (n : Nd h), WFN h f n → FullN h n → 40 ≤ sizeN h n → 2 * 4 ^ h ≤ (flatN h n).length
 | 0, f, l, hw, _, hs => by
  have h1 := sum_le22 l fun p hp => (hw.2 p hp).2
  have hs' : 40 ≤ (List.map psz l).sum := hs
  show 2 * 1 ≤ List.length (α := Pr) l
  omega
 | h + 1, f, (ks : List (Kid h)), hw, hf, hs => by
  obtain ⟨_, hk⟩ := (WFN_succ h f ks).1 hw
  have hf := (FullN_succ h ks).1 hf
  have h1 := flat_kids (m := 2 * 4 ^ h) ks fun k hk' => hgt_le h k.1 k.2 (hk.all k hk') (hf k hk').2 (hf k hk').1.1
  have hs' : 40 ≤ 11 * ks.length := hs
  have h4 : 4 ≤ ks.length := by omega
  have h5 := Nat.mul_le_mul_right (2 * 4 ^ h) h4
  show 2 * 4 ^ (h + 1) ≤ (flatK h ks).length
  rw [Nat.pow_succ]
  omega
theorem hgtT (t : Tr) (ht : TW t) (hl : (flatT t).length < 256) : t.h ≤ 3 := by
 obtain ⟨h, n, pl⟩ := t
 cases h with
 | zero => exact Nat.zero_le _
 | succ h =>
  obtain ⟨_, hk⟩ := (WFN_succ h nil8 n).1 ht.wf
  have hf := (FullN_succ h n).1 ht.full
  have h1 := flat_kids (m := 2 * 4 ^ h) n fun k hk' => hgt_le h k.1 k.2 (hk.all k hk') (hf k hk').2 (hf k hk').1.1
  have h2 : 22 ≤ 11 * List.length (α := Kid h) n := ht.two (Nat.succ_pos h)
  have h4 : 2 ≤ List.length (α := Kid h) n := by omega
  have h5 := Nat.mul_le_mul_right (2 * 4 ^ h) h4
  have hl : (flatK h n).length < 256 := hl
  show h + 1 ≤ 3
  rcases Nat.lt_or_ge h 3 with h6 | h6
  ·omega
  ·have := Nat.pow_le_pow_right (n := 4) (by omega) h6
   omega
theorem StK.pd {n : Nat} {lk : Nat → List UInt8} {lt t : Tr} (h : StK n lk lt t) : Pd lt.h lt.n := by
 cases hl : nilN lt.h lt.n with
 | true =>
  refine pd_of _ _ ?_
  obtain ⟨hh, nn, pl⟩ := lt
  cases hh with
  | zero => exact fun p hp => by cases hp
  | succ hh => cases hl
 | false =>
  refine pd_of _ _ fun p hp => ?_
  have := us_two h.us (b := p) (by unfold preT; rw [hl]; simp [hp])
  omega
theorem syN_le {n : Nat} {lk : Nat → List UInt8} {c : Hd} {F : List Pr → List Pr} {k : ByteArray} (h : StK n lk c.lt c.lt) (hl : (flatT c.lt).length < 256) : syN c (chgT F k c.lt) ≤ 10 := by
 have h1 := fr_chgT F k c.lt h.pd
 have h2 := hgtT c.lt h.ltw hl
 have h3 := sys_fr c (chgT F k c.lt)
 unfold syN
 split <;> omega
theorem syN_self {n : Nat} {lk : Nat → List UInt8} {c : Hd} (h : StK n lk c.lt c.lt) : syN c c.lt = 0 := by
 unfold syN
 refine if_pos ?_
 unfold sysL
 cases hn : nilN c.lt.h c.lt.n with
 | true => unfold layT; simp [hn]
 | false =>
  rw [layT_nd hn]
  have hz : c.lt.pl ≠ 0 := by
   have := us_two h.us (b := c.lt.pl) (by unfold preT; rw [hn]; simp)
   omega
  rw [show layK c.lt.h ⟨nil8, c.lt.n, c.lt.pl⟩ ⟨usL c.lt, []⟩ = _ from layK_old (k := rtK c.lt) hz ⟨usL c.lt, []⟩]
  rfl
theorem plsN_pre : ∀ (h : Nat) (n : Nd h), ∀ p ∈ plsN h n, p ∈ preN h n
 | 0, _, p, hp => hp
 | h + 1, (ks : List (Kid h)), p, hp => by
  rw [plsN_succ] at hp
  obtain ⟨k, hk, hp⟩ := List.mem_flatMap.1 hp
  rw [preN_succ]
  refine List.mem_flatMap.2 ⟨k, hk, ?_⟩
  unfold plsK at hp
  unfold preK
  split at hp
  ·exact List.mem_cons_of_mem _ (plsN_pre h k.2 p hp)
  ·exact hp
theorem syN_pos {n : Nat} {lk : Nat → List UInt8} {c : Hd} {F : List Pr → List Pr} {k : ByteArray} (hF : OpAt F k) (h : StK n lk c.lt c.lt) (hne : flatT c.lt ≠ []) : 1 ≤ syN c (chgT F k c.lt) := by
 have hl : nilN c.lt.h c.lt.n = false := by
  cases hl : nilN c.lt.h c.lt.n with
  | false => rfl
  | true =>
   exfalso
   obtain ⟨s, tu, ro, ⟨hh, nn, pl⟩, lr⟩ := c
   cases hh with
   | zero => exact hne (List.isEmpty_iff.1 hl)
   | succ hh => cases hl
 have hp : c.lt.pl ∈ preT c.lt := by unfold preT; rw [hl]; simp
 have h2 := us_two h.us hp
 have hnd : c.lt.pl ∉ preN c.lt.h c.lt.n := by
  have h3 := h.us
  unfold usL at h3
  have h4 := (List.nodup_append.1 h3).1
  rw [(List.reverse_perm _).nodup_iff] at h4
  unfold preT at h4
  rw [hl] at h4
  exact (List.nodup_cons.1 h4).1
 have hc := h.chg hF
 unfold syN
 split
 ·rename_i e
  exfalso
  have h5 := sys_same hc e
  have h6 := sys_fr c (chgT F k c.lt)
  rw [h5] at h6
  have htw := hc.tw
  have hsub := chgT_plN hF c.lt h.tw h.g
  generalize chgT F k c.lt = T at *
  unfold sysL at e
  cases hn : nilN T.h T.n with
  | true =>
   have e1 : (layT T ⟨usL c.lt, []⟩).1 = T := by unfold layT; simp [hn]
   rw [e1, htw.nil hn] at e
   omega
  | false =>
   by_cases hz : T.pl = 0
   ·unfold frT at h6
    rw [if_neg (by rw [hn]; simp [hz])] at h6
    simp at h6
    omega
   ·rw [layT_nd hn, show layK T.h ⟨nil8, T.n, T.pl⟩ ⟨usL c.lt, []⟩ = _ from layK_old (k := rtK T) hz ⟨usL c.lt, []⟩] at e
    have e : T.pl = c.lt.pl := e
    have h7 : T.pl ∈ plsK T.h (rtK T) := by unfold plsK; rw [if_neg (show (rtK T).3 ≠ 0 from hz)]; exact List.mem_cons_self ..
    have h8 := plsN_pre _ _ _ (hsub.subset h7)
    rw [e] at h8
    exact hnd h8
 ·omega

end Go.Proofs.YtcklgafpgdhnaaaGreatDoor

namespace Go.Proofs.YtcklgafpgdhnaaaGreatDoor
open Go.RowKit

theorem filt_with {k k' v : ByteArray} (h : be k k' = false) : ∀ (l : List Pr) (b : Bool), (withGo k v b l).filter (fun p => be p.1 k') = l.filter fun p => be p.1 k'
 | [], b => by rw [withGo_nil]; cases b <;> simp [h]
 | p :: r, b => by
  rw [withGo_cons, List.filter_append, List.filter_append, filt_with h r _]
  have h1 : (if (!b && !bl p.1 k) = true then [(k, v)] else []).filter (fun p : Pr => be p.1 k') = [] := by split <;> simp [h]
  rw [h1, List.nil_append]
  cases h2 : be p.1 k with
  | true =>
   have : be p.1 k' = false := by rw [(be_iff _ _).1 h2]; exact h
   simp [this]
  | false => cases h3 : be p.1 k' <;> simp [h3]
theorem get_first0 (k : ByteArray) : ∀ (l : List Pr), getL k l = ((l.filter fun p => be p.1 k).head?).map fun p => p.2
 | [] => rfl
 | p :: r => by
  simp only [getL, List.filter_cons]
  cases h : be p.1 k with
  | true => simp
  | false => simpa using get_first0 k r
theorem get_with_ne {k k' v : ByteArray} {l : List Pr} (h : k ≠ k') : getL k' (withL k v l) = getL k' l := by
 rw [get_first0, get_first0]
 unfold withL
 rw [filt_with ((be_false _ _).2 h)]
theorem get_some {k v : ByteArray} : ∀ {l : List Pr}, (k, v) ∈ l → (getL k l).isSome = true
 | p :: r, h => by
  simp only [getL]
  rcases List.mem_cons.1 h with rfl | h
  ·simp [be_refl]
  ·split
   ·rfl
   ·exact get_some h
theorem mem_with {k v : ByteArray} {l : List Pr} : (getL k (withL k v l)).isSome = true := by
 have key : ∀ (l : List Pr) (b : Bool), b = false → (k, v) ∈ withGo k v b l := by
  intro l
  induction l with
  | nil => intro b hb; subst hb; simp [withGo_nil]
  | cons p r ih =>
   intro b hb
   subst hb
   rw [withGo_cons]
   cases h : bl p.1 k with
   | true => simp only [Bool.not_true, Bool.and_false, Bool.or_false]; exact List.mem_append_right _ (ih _ rfl)
   | false => simp
 exact get_some (key l false rfl)

end Go.Proofs.YtcklgafpgdhnaaaGreatDoor
