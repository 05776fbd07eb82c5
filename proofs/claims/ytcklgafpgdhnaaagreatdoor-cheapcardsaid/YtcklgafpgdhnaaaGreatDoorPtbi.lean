import Derived.Test.YtcklgafpgdhnaaaGreatDoorPtas
set_option maxRecDepth 100000
set_option maxHeartbeats 4000000
open List renaming getElem_toArray → zA, getElem_cons_succ → zB, getElem_cons_zero → zC, setIfInBounds_toArray → zD, set_cons_succ → zE, set_cons_zero → zF
namespace Go.Proofs.YtcklgafpgdhnaaaGreatDoor
open Go.RowKit

def LiesN (lk : Nat → List UInt8) : (h : Nat) → Nd h → Prop
 | 0, _ => True
 | h + 1, ks => ∀ k : Kid h, List.Mem k ks → lk k.3 = encN (nbN h k.2) ∧ LiesN lk h k.2
def plsN : (h : Nat) → Nd h → List Nat
 | 0, _ => []
 | h + 1, ks => List.flatMap (fun k : Kid h => if k.3 = 0 then plsN h k.2 else k.3 :: preN h k.2) ks
def plsK (h : Nat) (k : Kid h) : List Nat := if k.3 = 0 then plsN h k.2 else k.3 :: preN h k.2
def PlN (lk : Nat → List UInt8) : (h : Nat) → Nd h → Prop
 | 0, _ => True
 | h + 1, ks => ∀ k : Kid h, List.Mem k ks → (k.3 ≠ 0 → lk k.3 = encN (nbN h k.2) ∧ LiesN lk h k.2) ∧ (k.3 = 0 → PlN lk h k.2)
theorem LiesN_succ {lk : Nat → List UInt8} {h : Nat} {ks : List (Kid h)} : LiesN lk (h + 1) ks ↔ ∀ k ∈ ks, lk k.3 = encN (nbN h k.2) ∧ LiesN lk h k.2 := Iff.rfl
theorem PlN_succ {lk : Nat → List UInt8} {h : Nat} {ks : List (Kid h)} : PlN lk (h + 1) ks ↔ ∀ k ∈ ks, (k.3 ≠ 0 → lk k.3 = encN (nbN h k.2) ∧ LiesN lk h k.2) ∧ (k.3 = 0 → PlN lk h k.2) := Iff.rfl
theorem plsN_succ (h : Nat) (ks : List (Kid h)) : plsN (h + 1) ks = ks.flatMap (plsK h) := rfl
theorem LiesN.agree {lk lk' : Nat → List UInt8} : ∀ {h : Nat} {n : Nd h}, LiesN lk h n → (∀ b ∈ preN h n, lk' b = lk b) → LiesN lk' h n
 | 0, _, _, _ => trivial
 | h + 1, (ks : List (Kid h)), hl, ha => LiesN_succ.2 fun k hk => by
  have h1 := LiesN_succ.1 hl k hk
  have hm : ∀ b ∈ k.3 :: preN h k.2, lk' b = lk b := fun b hb => ha b (show b ∈ ks.flatMap (preK h) from List.mem_flatMap.2 ⟨k, hk, hb⟩)
  exact ⟨by rw [hm k.3 (by simp)]; exact h1.1, h1.2.agree fun b hb => hm b (by simp [hb])⟩

theorem Stp.sub {s s' : Ls} (h : Stp s s') : (∀ b ∈ s.us, b ∈ s'.us) ∧ (∀ x ∈ s.ws, x ∈ s'.ws) := by
 induction h with
 | refl => exact ⟨fun _ h => h, fun _ h => h⟩
 | step _ B ih => exact ⟨fun b hb => by simp [Ls.step, ih.1 b hb], fun x hx => by simp [Ls.step, ih.2 x hx]⟩
structure Lad (lk' : Nat → List UInt8) (h : Nat) (n n' : Nd h) (s s' : Ls) : Prop where
 lies : LiesN lk' h n'
 nd : (preN h n').Nodup
 mem : ∀ b ∈ preN h n', b ∈ plsN h n ∨ (b ∈ s'.us ∧ b ∉ s.us)
theorem lay_ok (lk lk' : Nat → List UInt8) (us0 : List Nat) (hlk : ∀ b ∈ us0, lk' b = lk b) : ∀ (h : Nat) (n : Nd h) (s : Ls), PlN lk h n → (plsN h n).Nodup → (∀ b ∈ plsN h n, b ∈ us0) → (∀ b ∈ us0, b ∈ s.us) → (∀ x ∈ (layN h n s).2.ws, lk' x.1 = x.2) → Lad lk' h n (layN h n s).1 s (layN h n s).2
 | 0, _, _, _, _, _, _, _ => ⟨trivial, List.nodup_nil, by intro b hb; cases hb⟩
 | h + 1, (ks : List (Kid h)), s, hp, hnd, hu, hus, hw => by
  have hw : ∀ x ∈ (mapS (layK h) ks s).2.ws, lk' x.1 = x.2 := hw
  have hnd : (ks.flatMap (plsK h)).Nodup := hnd
  have hu : ∀ b ∈ ks.flatMap (plsK h), b ∈ us0 := hu
  have hK : ∀ (k : Kid h) (s : Ls), ((k.3 ≠ 0 → lk k.3 = encN (nbN h k.2) ∧ LiesN lk h k.2) ∧ (k.3 = 0 → PlN lk h k.2)) → (plsK h k).Nodup → (∀ b ∈ plsK h k, b ∈ us0) → (∀ b ∈ us0, b ∈ s.us) → (∀ x ∈ (layK h k s).2.ws, lk' x.1 = x.2) →
    (lk' (layK h k s).1.3 = encN (nbN h (layK h k s).1.2) ∧ LiesN lk' h (layK h k s).1.2) ∧ (preK h (layK h k s).1).Nodup ∧ ∀ b ∈ preK h (layK h k s).1, b ∈ plsK h k ∨ (b ∈ (layK h k s).2.us ∧ b ∉ s.us) := by
   intro k s hp hnd hu hus hw
   by_cases e : k.3 = 0
   ·rw [layK_new e] at hw ⊢
    have hpk : plsK h k = plsN h k.2 := by rw [plsK, if_pos e]
    rw [hpk] at hnd hu ⊢
    obtain ⟨st, _⟩ := lay_stp h k.2 s
    have ih := lay_ok lk lk' us0 hlk h k.2 s (hp.2 e) hnd hu hus fun x hx => hw x (by simp [Ls.step, hx])
    have hnew := tk_not (layN h k.2 s).2.us
    refine ⟨⟨hw (tk (layN h k.2 s).2.us, encN (nbN h (layN h k.2 s).1)) (by simp [Ls.step]), ih.lies⟩, ?_, ?_⟩
    ·refine List.nodup_cons.2 ⟨fun hm => ?_, ih.nd⟩
     rcases ih.mem _ hm with h1 | h1
     ·exact hnew (st.sub.1 _ (hus _ (hu _ h1)))
     ·exact hnew h1.1
    ·intro b hb
     rcases List.mem_cons.1 hb with rfl | hb
     ·exact Or.inr ⟨by simp [Ls.step], fun hm => hnew (st.sub.1 _ hm)⟩
     ·rcases ih.mem b hb with h1 | h1
      ·exact Or.inl h1
      ·exact Or.inr ⟨by simp [Ls.step, h1.1], h1.2⟩
   ·rw [layK_old e]
    have hpk : plsK h k = preK h k := by rw [plsK, if_neg e]; rfl
    rw [hpk] at hnd hu ⊢
    have h1 := hp.1 e
    refine ⟨⟨by rw [hlk _ (hu k.3 (by simp [preK]))]; exact h1.1, h1.2.agree fun b hb => hlk b (hu b (by simp [preK, hb]))⟩, hnd, fun b hb => Or.inl hb⟩
  have hS : ∀ (k : Kid h) (s : Ls), Stp s (layK h k s).2 := by
   intro k s
   unfold layK
   split
   ·exact (lay_stp h k.2 s).1.step _
   ·exact .refl s
  have hSs : ∀ (L : List (Kid h)) (s : Ls), Stp s (mapS (layK h) L s).2 := by
   intro L
   induction L with
   | nil => intro s; exact .refl s
   | cons a r ih => intro s; exact (hS a s).trans (ih _)
  have key : ∀ (L : List (Kid h)) (s : Ls), (∀ k ∈ L, (k.3 ≠ 0 → lk k.3 = encN (nbN h k.2) ∧ LiesN lk h k.2) ∧ (k.3 = 0 → PlN lk h k.2)) → (L.flatMap (plsK h)).Nodup → (∀ b ∈ L.flatMap (plsK h), b ∈ us0) → (∀ b ∈ us0, b ∈ s.us) → (∀ x ∈ (mapS (layK h) L s).2.ws, lk' x.1 = x.2) →
    (∀ k ∈ (mapS (layK h) L s).1, lk' k.3 = encN (nbN h k.2) ∧ LiesN lk' h k.2) ∧ ((mapS (layK h) L s).1.flatMap (preK h)).Nodup ∧ ∀ b ∈ (mapS (layK h) L s).1.flatMap (preK h), b ∈ L.flatMap (plsK h) ∨ (b ∈ (mapS (layK h) L s).2.us ∧ b ∉ s.us) := by
   intro L
   induction L with
   | nil => intro s _ _ _ _ _; exact ⟨fun k hk => (List.not_mem_nil hk).elim, List.nodup_nil, fun b hb => (List.not_mem_nil hb).elim⟩
   | cons a r ih =>
    intro s hp hnd hu hus hw
    rw [List.flatMap_cons, List.nodup_append] at hnd
    obtain ⟨n1, n2, n3⟩ := hnd
    simp only [mapS] at hw ⊢
    have hsub := (hS a s).sub
    have hsub2 := (hSs r (layK h a s).2).sub
    obtain ⟨a1, a2, a3⟩ := hK a s (hp a (by simp)) n1 (fun b hb => hu b (by simp [hb])) hus fun x hx => hw x (hsub2.2 x hx)
    obtain ⟨r1, r2, r3⟩ := ih (layK h a s).2 (fun k hk => hp k (by simp [hk])) n2 (fun b hb => hu b (by rw [List.flatMap_cons]; exact List.mem_append_right _ hb)) (fun b hb => hsub.1 b (hus b hb)) hw
    refine ⟨?_, ?_, ?_⟩
    ·intro k hk
     rcases List.mem_cons.1 hk with rfl | hk
     ·exact a1
     ·exact r1 k hk
    ·rw [List.flatMap_cons, List.nodup_append]
     refine ⟨a2, r2, ?_⟩
     rintro b hb c hc rfl
     rcases a3 b hb with h1 | h1
     ·rcases r3 b hc with h2 | h2
      ·exact n3 b h1 b h2 rfl
      ·exact h2.2 (hsub.1 b (hus b (hu b (by simp [h1]))))
     ·rcases r3 b hc with h2 | h2
      ·exact h1.2 (hus b (hu b (by rw [List.flatMap_cons]; exact List.mem_append_right _ h2)))
      ·exact h2.2 h1.1
    ·intro b hb
     rw [List.flatMap_cons, List.mem_append] at hb ⊢
     rcases hb with hb | hb
     ·rcases a3 b hb with h1 | h1
      ·exact Or.inl (Or.inl h1)
      ·exact Or.inr ⟨hsub2.1 b h1.1, h1.2⟩
     ·rcases r3 b hb with h1 | h1
      ·exact Or.inl (Or.inr h1)
      ·exact Or.inr ⟨h1.1, fun hm => h1.2 (hsub.1 b hm)⟩
  obtain ⟨h1, h2, h3⟩ := key ks s (PlN_succ.1 hp) hnd hu hus hw
  exact ⟨LiesN_succ.2 h1, h2, h3⟩

end Go.Proofs.YtcklgafpgdhnaaaGreatDoor

namespace Go.Proofs.YtcklgafpgdhnaaaGreatDoor
open Go.RowKit

def GN (G : (h : Nat) → Kid h → Prop) : (h : Nat) → Nd h → Prop
 | 0, _ => True
 | h + 1, ks => ∀ k : Kid h, List.Mem k ks → G h k
structure KP (G : (h : Nat) → Kid h → Prop) : Prop where
 down : ∀ (h : Nat) (k : Kid h), G h k → GN G h k.2
 up : ∀ (h : Nat) (f : ByteArray) (n : Nd h), f.size ≤ 8 → GN G h n → G h ⟨f, n, 0⟩
 fr : ∀ (h : Nat) (k : Kid h), G h k → k.1.size ≤ 8
theorem GN_succ {G : (h : Nat) → Kid h → Prop} {h : Nat} {ks : List (Kid h)} : GN G (h + 1) ks ↔ ∀ k ∈ ks, G h k := Iff.rfl
theorem GN_half {G : (h : Nat) → Kid h → Prop} {h : Nat} {n : Nd h} (g : GN G h n) : GN G h (halveN h n).1 ∧ GN G h (halveN h n).2 := by
 cases h with
 | zero => exact ⟨trivial, trivial⟩
 | succ h => exact ⟨GN_succ.2 fun k hk => GN_succ.1 g k (List.mem_of_mem_take hk), GN_succ.2 fun k hk => GN_succ.1 g k (List.mem_of_mem_drop hk)⟩
theorem GN_join {G : (h : Nat) → Kid h → Prop} {h : Nat} {n m : Nd h} (g : GN G h n) (g' : GN G h m) : GN G h (joinN h n m) := by
 cases h with
 | zero => exact trivial
 | succ h => exact GN_succ.2 fun k hk => (List.mem_append.1 hk).elim (GN_succ.1 g k) (GN_succ.1 g' k)
def Sh (h : Nat) (n : Nd h) : Prop := ∀ p ∈ flatN h n, p.1.size ≤ 8
theorem Sh.of {h : Nat} {f : ByteArray} {n : Nd h} (hw : WFN h f n) : Sh h n := fun p hp => (WFN.keys hw p hp).2.2.1
theorem Sh.join {h : Nat} {n m : Nd h} (a : Sh h n) (b : Sh h m) : Sh h (joinN h n m) := fun p hp => by
 rw [flat_join] at hp
 exact (List.mem_append.1 hp).elim (a p) (b p)
theorem firstL_small (l : List Pr) (hs : ∀ p ∈ l, p.1.size ≤ 8) : (firstL l).size ≤ 8 := by
 cases l with
 | nil => show (ByteArray.mk #[]).size ≤ 8; decide
 | cons p r => exact hs p (by simp)
theorem firstK_small {h : Nat} (l : List (Kid h)) (hs : ∀ k ∈ l, k.1.size ≤ 8) : (firstK l).size ≤ 8 := by
 cases l with
 | nil => show (ByteArray.mk #[]).size ≤ 8; decide
 | cons p r => exact hs p (by simp)
theorem first_small {G : (h : Nat) → Kid h → Prop} (kp : KP G) {h : Nat} {n : Nd h} (hs : Sh h n) (g : GN G h n) : (firstN h (halveN h n).2).size ≤ 8 := by
 cases h with
 | zero => exact firstL_small _ fun p hp => hs p (List.mem_of_mem_drop hp)
 | succ h => exact firstK_small _ fun k hk => kp.fr h k (GN_succ.1 g k (List.mem_of_mem_drop hk))
theorem fit_G {G : (h : Nat) → Kid h → Prop} (kp : KP G) {h : Nat} {f : ByteArray} {n : Nd h} (hf : f.size ≤ 8) (hs : Sh h n) (g : GN G h n) : ∀ k ∈ fitN h f n, G h k := by
 intro k hk
 unfold fitN at hk
 split at hk
 ·simp at hk
  subst hk
  exact kp.up h f n hf g
 ·simp at hk
  rcases hk with rfl | rfl
  ·exact kp.up h f _ hf (GN_half g).1
  ·exact kp.up h _ _ (first_small kp hs g) (GN_half g).2
theorem fitted_G {G : (h : Nat) → Kid h → Prop} (kp : KP G) {h : Nat} (ks : List (Kid h)) (i : Nat) (hi : i < ks.length) (hl : 2 ≤ ks.length) (hw : ∀ k ∈ ks, k.1.size ≤ 8 ∧ GN G h k.2 ∧ Sh h k.2) (ho : ∀ j k, ks[j]? = some k → j ≠ i → G h k) : ∀ k ∈ fittedN h ks i, G h k := by
 intro k hk
 unfold fittedN at hk
 have ha : ks[i]? = some ks[i] := List.getElem?_eq_getElem hi
 have mt : ∀ {m : Nat}, m ≤ i → k ∈ ks.take m → G h k := by
  intro m hm hk
  obtain ⟨j, hj⟩ := List.mem_iff_getElem?.1 hk
  rw [List.getElem?_take] at hj
  split at hj
  ·exact ho j k hj (by omega)
  ·cases hj
 have md : ∀ {m : Nat}, i < m → k ∈ ks.drop m → G h k := by
  intro m hm hk
  obtain ⟨j, hj⟩ := List.mem_iff_getElem?.1 hk
  rw [List.getElem?_drop] at hj
  exact ho (m + j) k hj (by omega)
 rw [ha] at hk
 simp only at hk
 split at hk
 ·have hx : ks[i - 1]? = some ks[i - 1] := List.getElem?_eq_getElem (by omega)
  have hy : ks[i - 1 + 1]? = some ks[i - 1 + 1] := List.getElem?_eq_getElem (by omega)
  rw [hx, hy] at hk
  simp only at hk
  have wx := hw _ (List.mem_of_getElem? hx)
  have wy := hw _ (List.mem_of_getElem? hy)
  rcases List.mem_append.1 hk with hk | hk
  ·exact mt (by omega) hk
  ·rcases List.mem_append.1 hk with hk | hk
   ·exact fit_G kp wx.1 (wx.2.2.join wy.2.2) (GN_join wx.2.1 wy.2.1) k hk
   ·exact md (by omega) hk
 ·have wx := hw _ (List.mem_of_getElem? ha)
  rcases List.mem_append.1 hk with hk | hk
  ·exact mt (Nat.le_refl _) hk
  ·rcases List.mem_append.1 hk with hk | hk
   ·exact fit_G kp wx.1 wx.2.2 wx.2.1 k hk
   ·exact md (by omega) hk
theorem chg_G {G : (h : Nat) → Kid h → Prop} (kp : KP G) {F : List Pr → List Pr} {k : ByteArray} (hF : OpAt F k) : ∀ (h : Nat) (f : ByteArray) (n : Nd h), WFN h f n → FullN h n → ge k f → (0 < h → 22 ≤ sizeN h n) → GN G h n → GN G h (chgN F k h n)
 | 0, _, _, _, _, _, _, _ => trivial
 | h + 1, f, (ks : List (Kid h)), hw, hf, hk, h22, g => by
  obtain ⟨⟨n0, x0, r0, e0⟩, hkw⟩ := (WFN_succ h f ks).1 hw
  have hfull := (FullN_succ h ks).1 hf
  obtain ⟨A, a, B, esp, hlen, hga, hB⟩ := way_split f n0 x0 r0 k (by rw [← e0]; exact hkw) hk
  rw [← e0] at esp hlen
  have hamem : a ∈ ks := by rw [esp]; simp
  have hget : ks[wayK ks k]? = some a := by
   rw [← hlen, esp]; simp
  have haR := hfull a hamem
  have h22a : 0 < h → 22 ≤ sizeN h a.2 := fun _ => by have := haR.1.1; omega
  have hc := chg_ok hF h a.1 a.2 (hkw.all a hamem) haR.2 hga h22a
  have ih := chg_G kp hF h a.1 a.2 (hkw.all a hamem) haR.2 hga h22a (kp.down h a (GN_succ.1 g a hamem))
  have hlt : wayK ks k < ks.length := (List.getElem?_eq_some_iff.1 hget).1
  have hl2 : 2 ≤ ks.length := by
   have : 22 ≤ 11 * ks.length := h22 (by omega)
   omega
  show GN G (h + 1) (chgK h (chgN F k h) k ks)
  unfold chgK
  rw [hget]
  refine GN_succ.2 (fitted_G kp _ _ (by rw [List.length_set]; exact hlt) (by rw [List.length_set]; exact hl2) ?_ ?_)
  ·intro x hx
   rcases List.mem_or_eq_of_mem_set hx with hx | rfl
   ·have := GN_succ.1 g x hx
    exact ⟨kp.fr h x this, kp.down h x this, Sh.of (hkw.all x hx)⟩
   ·exact ⟨kp.fr h a (GN_succ.1 g a hamem), ih, Sh.of hc.wf⟩
  ·intro j x hj hne
   rw [List.getElem?_set_ne (by omega)] at hj
   exact GN_succ.1 g x (List.mem_of_getElem? hj)
def rtK (t : Tr) : Kid t.h := ⟨nil8, t.n, t.pl⟩
theorem low_G {G : (h : Nat) → Kid h → Prop} (kp : KP G) (h : Nat) (m : Nd h) (hw : WFN h nil8 m) (gn : GN G h m) : G (lowT h m).h (rtK (lowT h m)) := by
 have hsm : nil8.size ≤ 8 := by decide
 cases h with
 | zero => exact kp.up 0 nil8 m hsm trivial
 | succ h =>
  obtain ⟨⟨n0, x0, r0, e0⟩, _⟩ := (WFN_succ h nil8 m).1 hw
  subst e0
  cases r0 with
  | nil => exact GN_succ.1 gn _ (List.mem_cons_self ..)
  | cons b r => exact kp.up (h + 1) nil8 _ hsm gn
theorem chgT_G {G : (h : Nat) → Kid h → Prop} (kp : KP G) {F : List Pr → List Pr} {k : ByteArray} (hF : OpAt F k) (t : Tr) (ht : TW t) (g : G t.h (rtK t)) : G (chgT F k t).h (rtK (chgT F k t)) := by
 have hc := chg_ok hF t.h nil8 t.n ht.wf ht.full (ge_nil k) ht.two
 have gn := chg_G kp hF t.h nil8 t.n ht.wf ht.full (ge_nil k) ht.two (kp.down _ _ g)
 have hsm : nil8.size ≤ 8 := by decide
 have gf := fit_G kp hsm (Sh.of hc.wf) gn
 have hw := hc.wf
 unfold chgT
 revert gf gn hw
 generalize chgN F k t.h t.n = m
 intro gf gn hw
 by_cases hs : sizeN t.h m ≤ 122
 ·have e : fitN t.h nil8 m = [⟨nil8, m, 0⟩] := by unfold fitN; rw [if_pos hs]
  rw [e]
  exact low_G kp t.h m hw gf
 ·have e : fitN t.h nil8 m = [⟨nil8, (halveN t.h m).1, 0⟩, ⟨firstN t.h (halveN t.h m).2, (halveN t.h m).2, 0⟩] := by unfold fitN; rw [if_neg hs]
  rw [e] at gn ⊢
  exact kp.up (t.h + 1) nil8 _ hsm (GN_succ.2 gn)

end Go.Proofs.YtcklgafpgdhnaaaGreatDoor

namespace Go.Proofs.YtcklgafpgdhnaaaGreatDoor
open Go.RowKit

def allpl : (h : Nat) → Nd h → Prop
 | 0, _ => True
 | h + 1, ks => ∀ k : Kid h, List.Mem k ks → k.3 ≠ 0
def GlN (lk : Nat → List UInt8) : (h : Nat) → Nd h → Prop
 | 0, _ => True
 | h + 1, ks => ∀ k : Kid h, List.Mem k ks → k.1.size ≤ 8 ∧ GlN lk h k.2 ∧ (k.3 ≠ 0 → lk k.3 = encN (nbN h k.2) ∧ allpl h k.2)
def Gl (lk : Nat → List UInt8) (h : Nat) (k : Kid h) : Prop := k.1.size ≤ 8 ∧ GlN lk h k.2 ∧ (k.3 ≠ 0 → lk k.3 = encN (nbN h k.2) ∧ allpl h k.2)
theorem GlN_eq (lk : Nat → List UInt8) : ∀ (h : Nat) (n : Nd h), GN (Gl lk) h n ↔ GlN lk h n
 | 0, _ => Iff.rfl
 | _ + 1, _ => Iff.rfl
theorem Gl_kp (lk : Nat → List UInt8) : KP (Gl lk) := ⟨fun h k g => (GlN_eq lk h k.2).2 g.2.1, fun h _ n hf g => ⟨hf, (GlN_eq lk h n).1 g, fun e => absurd rfl e⟩, fun _ _ g => g.1⟩
theorem GlN_succ {lk : Nat → List UInt8} {h : Nat} {ks : List (Kid h)} : GlN lk (h + 1) ks ↔ ∀ k ∈ ks, Gl lk h k := Iff.rfl
theorem GlN.lies {lk : Nat → List UInt8} : ∀ {h : Nat} {n : Nd h}, GlN lk h n → allpl h n → LiesN lk h n ∧ 0 ∉ preN h n ∧ plsN h n = preN h n
 | 0, _, _, _ => ⟨trivial, by simp [preN], rfl⟩
 | h + 1, (ks : List (Kid h)), g, ha => by
  have hk : ∀ k ∈ ks, (lk k.3 = encN (nbN h k.2) ∧ LiesN lk h k.2) ∧ 0 ∉ preK h k ∧ plsK h k = preK h k := by
   intro k hk
   obtain ⟨_, g2, g3⟩ := GlN_succ.1 g k hk
   have hne : k.3 ≠ 0 := ha k hk
   obtain ⟨e, al⟩ := g3 hne
   obtain ⟨i1, i2, i3⟩ := g2.lies al
   refine ⟨⟨e, i1⟩, ?_, by rw [plsK, if_neg hne]; rfl⟩
   intro hm
   rcases List.mem_cons.1 hm with e0 | hm
   ·exact hne e0.symm
   ·exact i2 hm
  refine ⟨LiesN_succ.2 fun k hm => (hk k hm).1, ?_, ?_⟩
  ·intro hm
   obtain ⟨k, h1, h2⟩ := List.mem_flatMap.1 hm
   exact (hk k h1).2.1 h2
  ·have : ∀ L : List (Kid h), (∀ k ∈ L, plsK h k = preK h k) → L.flatMap (plsK h) = L.flatMap (preK h) := by
    intro L
    induction L with
    | nil => intro _; rfl
    | cons a r ih => intro hL; rw [List.flatMap_cons, List.flatMap_cons, hL a (by simp), ih fun k hk => hL k (by simp [hk])]
   exact this ks fun k hm => (hk k hm).2.2
theorem Gl.sub {lk : Nat → List UInt8} {h : Nat} {k : Kid h} (g : Gl lk h k) : (plsN h k.2).Sublist (plsK h k) := by
 unfold plsK
 split
 ·exact List.Sublist.refl _
 ·rename_i hne
  obtain ⟨_, g2, g3⟩ := g
  obtain ⟨_, _, e⟩ := g2.lies (g3 hne).2
  rw [e]
  exact List.sublist_cons_self _ _
theorem GlN.pl {lk : Nat → List UInt8} : ∀ {h : Nat} {n : Nd h}, GlN lk h n → PlN lk h n
 | 0, _, _ => trivial
 | h + 1, ks, g => PlN_succ.2 fun k hk => by
  obtain ⟨_, g2, g3⟩ := GlN_succ.1 g k hk
  exact ⟨fun hne => ⟨(g3 hne).1, (g2.lies (g3 hne).2).1⟩, fun _ => g2.pl⟩

theorem pls_join (h : Nat) (n m : Nd h) : plsN h (joinN h n m) = plsN h n ++ plsN h m := by
 cases h with
 | zero => rfl
 | succ h =>
  show List.flatMap (plsK h) (List.append n m) = List.flatMap (plsK h) n ++ List.flatMap (plsK h) m
  exact List.flatMap_append
theorem pls_half (h : Nat) (n : Nd h) : plsN h (halveN h n).1 ++ plsN h (halveN h n).2 = plsN h n := by
 cases h with
 | zero => rfl
 | succ h =>
  have : ∀ (L : List (Kid h)) (i : Nat), (L.take i).flatMap (plsK h) ++ (L.drop i).flatMap (plsK h) = L.flatMap (plsK h) := by
   intro L i
   rw [← List.flatMap_append, List.take_append_drop]
  exact this n _
theorem pls_fit (h : Nat) (f : ByteArray) (n : Nd h) : (fitN h f n).flatMap (plsK h) = plsN h n := by
 unfold fitN
 split
 ·simp [plsK]
 ·simp only [List.flatMap_cons, List.flatMap_nil, plsK, if_true, List.append_nil]
  exact pls_half h n
theorem fitted_pls {h : Nat} (ks : List (Kid h)) (i : Nat) (a : Kid h) (hi : ks[i]? = some a) (hl : 2 ≤ ks.length) (ho : ∀ j k, ks[j]? = some k → j ≠ i → (plsN h k.2).Sublist (plsK h k)) :
  ((fittedN h ks i).flatMap (plsK h)).Sublist ((ks.take i).flatMap (plsK h) ++ (plsN h a.2 ++ (ks.drop (i + 1)).flatMap (plsK h))) := by
 unfold fittedN
 rw [hi]
 simp only
 have hil := (List.getElem?_eq_some_iff.1 hi).1
 split
 ·cases i with
  | zero =>
   have hy : ks[0 - 1 + 1]? = some ks[1] := List.getElem?_eq_getElem (by omega)
   have hx : ks[0 - 1]? = some a := hi
   rw [hx, hy]
   simp only
   have hd : ks.drop (0 + 1) = ks[1] :: ks.drop 2 := List.drop_eq_getElem_cons (by omega)
   rw [hd]
   simp only [List.flatMap_append, pls_fit, pls_join, List.flatMap_cons, List.take_zero, List.flatMap_nil, List.nil_append, Nat.zero_sub, List.append_assoc]
   exact List.Sublist.append (List.Sublist.refl _) (List.Sublist.append (ho 1 _ (List.getElem?_eq_getElem (by omega)) (by omega)) (List.Sublist.refl _))
  | succ m =>
   have hx : ks[m + 1 - 1]? = some ks[m] := List.getElem?_eq_getElem (by omega)
   have hy : ks[m + 1 - 1 + 1]? = some a := hi
   rw [hx, hy]
   simp only
   have ht : ks.take (m + 1) = ks.take m ++ [ks[m]] := List.take_succ_eq_append_getElem (by omega)
   rw [ht]
   simp only [List.flatMap_append, pls_fit, pls_join, List.flatMap_cons, List.flatMap_nil, List.append_nil, Nat.add_sub_cancel, List.append_assoc]
   exact List.Sublist.append (List.Sublist.refl _) (List.Sublist.append (ho m _ (List.getElem?_eq_getElem (by omega)) (by omega)) (List.Sublist.refl _))
 ·simp only [List.flatMap_append, pls_fit]
  exact List.Sublist.refl _
theorem chg_pls {lk : Nat → List UInt8} {F : List Pr → List Pr} {k : ByteArray} (hF : OpAt F k) : ∀ (h : Nat) (f : ByteArray) (n : Nd h), WFN h f n → FullN h n → ge k f → (0 < h → 22 ≤ sizeN h n) → GlN lk h n → (plsN h (chgN F k h n)).Sublist (plsN h n)
 | 0, _, _, _, _, _, _, _ => List.Sublist.refl _
 | h + 1, f, (ks : List (Kid h)), hw, hf, hk, h22, g => by
  obtain ⟨⟨n0, x0, r0, e0⟩, hkw⟩ := (WFN_succ h f ks).1 hw
  have hfull := (FullN_succ h ks).1 hf
  obtain ⟨A, a, B, esp, hlen, hga, hB⟩ := way_split f n0 x0 r0 k (by rw [← e0]; exact hkw) hk
  rw [← e0] at esp hlen
  have hamem : a ∈ ks := by rw [esp]; simp
  have hget : ks[wayK ks k]? = some a := by
   rw [← hlen, esp]; simp
  have haR := hfull a hamem
  have h22a : 0 < h → 22 ≤ sizeN h a.2 := fun _ => by have := haR.1.1; omega
  have ga := GlN_succ.1 g a hamem
  have ih := chg_pls hF h a.1 a.2 (hkw.all a hamem) haR.2 hga h22a ga.2.1
  have hlt : wayK ks k < ks.length := (List.getElem?_eq_some_iff.1 hget).1
  have hl2 : 2 ≤ ks.length := by
   have : 22 ≤ 11 * ks.length := h22 (by omega)
   omega
  show ((chgK h (chgN F k h) k ks).flatMap (plsK h)).Sublist (ks.flatMap (plsK h))
  unfold chgK
  rw [hget]
  simp only
  have hs := fitted_pls (ks.set (wayK ks k) ⟨a.1, chgN F k h a.2, a.3⟩) (wayK ks k) ⟨a.1, chgN F k h a.2, a.3⟩ (by rw [List.getElem?_set_self hlt]) (by rw [List.length_set]; exact hl2) (by
   intro j x hj hne
   rw [List.getElem?_set_ne (by omega)] at hj
   exact (GlN_succ.1 g x (List.mem_of_getElem? hj)).sub)
  refine hs.trans ?_
  have e1 : (ks.set (wayK ks k) ⟨a.1, chgN F k h a.2, a.3⟩).take (wayK ks k) = A := by
   rw [List.take_set_of_le (Nat.le_refl _), ← hlen, esp]
   exact List.take_left' rfl
  have e2 : (ks.set (wayK ks k) ⟨a.1, chgN F k h a.2, a.3⟩).drop (wayK ks k + 1) = B := by
   rw [List.drop_set_of_lt (by omega), ← hlen, esp, ← List.append_assoc]
   exact List.drop_left' (by simp)
  rw [e1, e2]
  conv => rhs; rw [esp]
  simp only [List.flatMap_append, List.flatMap_cons, List.flatMap_nil, List.append_nil]
  exact List.Sublist.append (List.Sublist.refl _) (List.Sublist.append (ih.trans ga.sub) (List.Sublist.refl _))

theorem low_pls (h : Nat) (m : Nd h) : plsK (lowT h m).h (rtK (lowT h m)) = plsN h m := by
 cases h with
 | zero => rfl
 | succ h =>
  match m with
  | [] => rfl
  | [a] =>
   show plsK h ⟨nil8, a.2, a.3⟩ = List.flatMap (plsK h) [a]
   simp [plsK]
  | a :: b :: r => rfl
theorem chgT_plN {lk : Nat → List UInt8} {F : List Pr → List Pr} {k : ByteArray} (hF : OpAt F k) (t : Tr) (ht : TW t) (g : Gl lk t.h (rtK t)) : (plsK (chgT F k t).h (rtK (chgT F k t))).Sublist (plsN t.h t.n) := by
 have h1 := chg_pls (lk := lk) hF t.h nil8 t.n ht.wf ht.full (ge_nil k) ht.two g.2.1
 refine List.Sublist.trans ?_ h1
 unfold chgT
 generalize chgN F k t.h t.n = m
 have ep := pls_fit t.h nil8 m
 by_cases hs : sizeN t.h m ≤ 122
 ·have e : fitN t.h nil8 m = [⟨nil8, m, 0⟩] := by unfold fitN; rw [if_pos hs]
  rw [e]
  show (plsK (lowT t.h m).h (rtK (lowT t.h m))).Sublist (plsN t.h m)
  rw [low_pls]
  exact List.Sublist.refl _
 ·have e : fitN t.h nil8 m = [⟨nil8, (halveN t.h m).1, 0⟩, ⟨firstN t.h (halveN t.h m).2, (halveN t.h m).2, 0⟩] := by unfold fitN; rw [if_neg hs]
  rw [e] at ep ⊢
  rw [← ep]
  exact List.Sublist.refl _
theorem chgT_pls {lk : Nat → List UInt8} {F : List Pr → List Pr} {k : ByteArray} (hF : OpAt F k) (t : Tr) (ht : TW t) (g : Gl lk t.h (rtK t)) : (plsK (chgT F k t).h (rtK (chgT F k t))).Sublist (plsK t.h (rtK t)) := (chgT_plN hF t ht g).trans g.sub

end Go.Proofs.YtcklgafpgdhnaaaGreatDoor
