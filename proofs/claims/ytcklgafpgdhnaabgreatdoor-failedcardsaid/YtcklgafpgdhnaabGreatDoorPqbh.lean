import Derived.Test.YtcklgafpgdhnaabGreatDoorPqaw
import Derived.Test.YtcklgafpgdhnaabGreatDoorPqbg
import Derived.Test.YtcklgafpgdhnaabGreatDoorPqay
set_option maxRecDepth 100000
set_option maxHeartbeats 4000000
open Go.Proofs.Tryz
namespace Go.Proofs.YtcklgafpgdhnaabGreatDoor
open Go.RowKit
theorem Qa9 : ∀ {keys : List ByteArray} {b : Bool} {f t : ByteArray}, qp b keys f t = true -> QI keys /\ (∀ k ∈ keys, ge k f /\ (b = true -> bl f k = true)) /\ (t = yp \/ (bl f t = true /\ ∀ k ∈ keys, bl k t = true))
 | [], b, f, t, h => by
  refine ⟨List.Pairwise.nil, by simp, ?_⟩
  simp only [qp, Bool.or_eq_true] at h
  rcases h with h | h
  ·exact Or.inl ((jg _ _).1 h)
  ·exact Or.inr ⟨h, by simp⟩
 | k :: r, b, f, t, h => by
  simp only [qp] at h
  split at h
  ·cases h
  ·rename_i hc
   simp only [Bool.or_eq_true, Bool.and_eq_true, not_or, not_and, Bool.not_eq_true] at hc
   obtain ⟨i1, i2, i3⟩ := Qa9 h
   have hg : ge k f := hc.1
   have hl : b = true -> bl f k = true := by
    intro hb
    have h2 := hc.2 hb
    rcases jW f k with h' | h' | h'
    ·exact h'
    ·rw [h', j1] at h2; cases h2
    ·rw [hc.1] at h'; cases h'
   refine ⟨List.pairwise_cons.2 ⟨fun x hx => (i2 x hx).2 rfl, i1⟩, ?_, ?_⟩
   ·intro x hx
    rcases List.mem_cons.1 hx with rfl | hx
    ·exact ⟨hg, hl⟩
    ·have h3 := (i2 x hx).2 rfl
     exact ⟨gz (Qp h3) hg, fun hb => qX (hl hb) h3⟩
   ·rcases i3 with e | ⟨h3, h4⟩
    ·exact Or.inl e
    ·refine Or.inr ⟨Q9 hg h3, ?_⟩
     intro x hx
     rcases List.mem_cons.1 hx with rfl | hx
     ·exact h3
     ·exact h4 x hx
theorem Qaa : ∀ {keys : List ByteArray} {b : Bool} {f t : ByteArray}, QI keys -> (∀ k ∈ keys, ge k f /\ (b = true -> bl f k = true)) -> (t = yp \/ (bl f t = true /\ ∀ k ∈ keys, bl k t = true)) -> qp b keys f t = true
 | [], _, _, _, _, _, h => by
  simp only [qp, Bool.or_eq_true]
  rcases h with rfl | h
  ·exact Or.inl (j1 _)
  ·exact Or.inr h.1
 | k :: r, b, f, t, h1, h2, h3 => by
  have hk := h2 k (by simp)
  have hp := List.pairwise_cons.1 h1
  have hc : (bl k f || (b && be k f)) = false := by
   rw [Bool.or_eq_false_iff]
   refine ⟨hk.1, ?_⟩
   cases b with
   | false => rfl
   | true => rw [Bool.true_and, QH]; exact gA (hk.2 rfl)
  rw [qp, hc]
  refine Qaa hp.2 (fun x hx => ⟨Qp (hp.1 x hx), fun _ => hp.1 x hx⟩) ?_
  rcases h3 with e | ⟨_, h4⟩
  ·exact Or.inl e
  ·exact Or.inr ⟨h4 k (by simp), fun x hx => h4 x (by simp [hx])⟩
theorem Qab {α : Type} {sd : ByteArray -> ByteArray -> α -> Option Nat} {sz : α -> Nat} {t : ByteArray} {b : Nat} : ∀ {ks : List (qI α)} {hi : Option Nat}, qJ sd sz t hi ks = some b -> (∀ c, hi = some c -> c = b) /\ ∀ (i : Nat) (k : qI α), ks[i]? = some k -> sd k.1 (((ks[i + 1]?).map fun q => q.1).getD t) k.2 = some b /\ 40 <= sz k.2
 | [], hi, h => by
  simp only [qJ] at h
  exact ⟨fun c hc => by rw [h] at hc; cases hc; rfl, by simp⟩
 | k :: r, hi, h => by
  simp only [qJ] at h
  split at h
  ·cases h
  ·rename_i b1 e1
   split at h
   ·rename_i hc
    obtain ⟨i1, i2⟩ := Qab h
    have eb := i1 b1 rfl
    subst eb
    refine ⟨?_, ?_⟩
    ·intro c hcc
     rcases hc.2 with e | e
     ·rw [e] at hcc; cases hcc
     ·rw [e] at hcc; cases hcc; rfl
    ·intro i q hq
     cases i with
     | zero =>
      simp only [List.getElem?_cons_zero, Option.some.injEq] at hq
      subst hq
      refine ⟨?_, hc.1⟩
      cases r with
      | nil => exact e1
      | cons k2 r2 => exact e1
     | succ i =>
      rw [List.getElem?_cons_succ] at hq ⊢
      exact i2 i q hq
   ·cases h
theorem Qac {α : Type} {sd : ByteArray -> ByteArray -> α -> Option Nat} {sz : α -> Nat} {t : ByteArray} {hi : Option Nat} {k : qI α} {r : List (qI α)} : qJ sd sz t hi (k :: r) = match sd k.1 (((r[0]?).map fun q => q.1).getD t) k.2 with
  | none => none
  | some b => if 40 <= sz k.2 /\ (hi = none \/ hi = some b) then qJ sd sz t (some b) r else none := by
 cases r <;> rfl
theorem Qad {α : Type} {sd : ByteArray -> ByteArray -> α -> Option Nat} {sz : α -> Nat} {t : ByteArray} {b : Nat} : ∀ {ks : List (qI α)} {hi : Option Nat}, (hi = none \/ hi = some b) -> (ks = [] -> hi = some b) -> (∀ (i : Nat) (k : qI α), ks[i]? = some k -> sd k.1 (((ks[i + 1]?).map fun q => q.1).getD t) k.2 = some b /\ 40 <= sz k.2) -> qJ sd sz t hi ks = some b
 | [], hi, _, h2, _ => h2 rfl
 | k :: r, hi, h1, _, h3 => by
  have h0 := h3 0 k rfl
  rw [List.getElem?_cons_succ] at h0
  rw [Qac, h0.1]
  simp only
  rw [if_pos ⟨h0.2, h1⟩]
  refine Qad (Or.inr rfl) (fun _ => rfl) fun i q hq => ?_
  have := h3 (i + 1) q (by rw [List.getElem?_cons_succ]; exact hq)
  rw [List.getElem?_cons_succ] at this
  exact this
def okU : (d : Nat) -> UNd d -> Prop
 | 0, _ => True
 | _ + 1, .inl l => (∀ p ∈ l, p.1.size <= 8 /\ p.2.size <= 12) /\ (List.map psz l).sum <= 122
 | d + 1, .inr ks => 11 * ks.length <= 122 /\ ∀ k ∈ ks, k.1.size <= 8 /\ k.3 < 65536 /\ okU d k.2
theorem Qae {k : ByteArray} (h : k ≠ yp) : 1 <= k.size := by
 rcases Nat.eq_zero_or_pos k.size with h0 | h0
 ·refine absurd ?_ h
  have : k.data = #[] := Array.eq_empty_of_size_eq_zero h0
  cases k
  simp only at this
  subst this
  rfl
 ·exact h0
theorem Qaf {α β : Type} {R : Nat -> α -> β -> Prop} : ∀ (ls : List α), (∀ i a, ls[i]? = some a -> ∃ b, R i a b) -> ∃ bs : List β, ls.length = bs.length /\ ∀ i a b, ls[i]? = some a -> bs[i]? = some b -> R i a b := by
 intro ls
 induction ls generalizing R with
 | nil => intro _; exact ⟨[], rfl, by simp⟩
 | cons x l ih =>
  intro h
  obtain ⟨b, hb⟩ := h 0 x rfl
  obtain ⟨bs, h1, h2⟩ := ih (R := fun i => R (i + 1)) fun i a ha => h (i + 1) a (by rw [List.getElem?_cons_succ]; exact ha)
  refine ⟨b :: bs, by simp [h1], ?_⟩
  intro i a c ha hc
  cases i with
  | zero => simp at ha hc; subst ha; subst hc; exact hb
  | succ i =>
   rw [List.getElem?_cons_succ] at ha hc
   exact h2 i a c ha hc
theorem Qag {d : Nat} {u : UNd d} {h : Nat} {n : Nd h} (hr : Rep d u h n) : szU d u = yl h n := by
 cases d with
 | zero => exact hr.elim
 | succ d =>
  cases u with
  | inl l =>
   cases h with
   | zero =>
    have e : n = l := hr
    subst e
    rfl
   | succ h => exact hr.elim
  | inr ks =>
   cases h with
   | zero => exact hr.elim
   | succ h =>
    have e := hr.1
    show 11 * ks.length = 11 * List.length n
    rw [e]
theorem Qah : ∀ (d : Nat) (u : UNd d) (f t : ByteArray) (x : Nat), qi d f t u = some x -> okU d u -> ∃ (h : Nat) (n : Nd h), x = h + 1 /\ Rep d u h n /\ WFN h f n /\ q7 h n /\ yl h n <= 122 /\ (t = yp \/ ∀ p ∈ yN h n, bl p.1 t = true) /\ (0 < h -> 22 <= yl h n) /\ qO h n = false
 | 0, _, _, _, _, h, _ => by cases h
 | d + 1, .inl l, f, t, x, h, ho => by
  simp only [qi] at h
  split at h
  ·rename_i hs
   simp only [Option.some.injEq] at h
   subst h
   cases l with
   | nil => cases hs
   | cons p r =>
    simp only [sndL, Bool.and_eq_true, Bool.not_eq_true'] at hs
    obtain ⟨h1, h2⟩ := hs
    obtain ⟨i1, i2, i3⟩ := Qa9 h2
    have hp0 : p.1 ≠ yp := (jV _ _).1 h1
    have hs : Srt (p :: r) := List.pairwise_map.1 i1
    have hpos : ∀ q ∈ p :: r, q.1 ≠ yp := by
     intro q hq
     rcases List.mem_cons.1 hq with rfl | hq
     ·exact hp0
     ·intro e
      have := (List.pairwise_cons.1 hs).1 q hq
      rw [e, show bl p.1 yp = false from gH p.1] at this
      cases this
    refine ⟨0, p :: r, rfl, rfl, ⟨hs, fun q hq => ⟨(i2 q.1 (List.mem_map.2 ⟨q, hq, rfl⟩)).1, Qae (hpos q hq), (ho.1 q hq).1, (ho.1 q hq).2⟩⟩, trivial, ho.2, ?_, (by intro h; cases h), rfl⟩
    rcases i3 with e | ⟨_, h4⟩
    ·exact Or.inl e
    ·exact Or.inr fun q hq => h4 q.1 (List.mem_map.2 ⟨q, hq, rfl⟩)
  ·cases h
 | d + 1, .inr ks, f, t, x, h, ho => by
  simp only [qi] at h
  split at h
  ·rename_i hs
   obtain ⟨b, hb, hx⟩ := Option.map_eq_some_iff.1 h
   obtain ⟨_, hall⟩ := Qab hb
   cases hks : ks with
   | nil => rw [hks] at hs; cases hs
   | cons k0 r0 =>
    have hs' := hs
    rw [hks] at hs'
    simp only [sndB, Bool.and_eq_true, decide_eq_true_eq] at hs'
    obtain ⟨⟨hl, hf⟩, hri⟩ := hs'
    rw [<- hks] at hl hri ⊢
    obtain ⟨i1, i2, i3⟩ := Qa9 hri
    have hf' := (jg _ _).1 hf
    have i1' : ks.Pairwise (fun (a b : qI (UNd d)) => bl a.1 b.1 = true) := List.pairwise_map.1 i1
    have hlt : ∀ (i j : Nat) (a b : qI (UNd d)), i < j -> ks[i]? = some a -> ks[j]? = some b -> bl a.1 b.1 = true := by
     intro i j a b hij ha hb
     obtain ⟨hi, rfl⟩ := List.getElem?_eq_some_iff.1 ha
     obtain ⟨hj, rfl⟩ := List.getElem?_eq_some_iff.1 hb
     exact List.pairwise_iff_getElem.1 i1' i j hi hj hij
    obtain ⟨h0, _, eb, _⟩ := Qah d k0.2 _ _ _ (hall 0 k0 (by rw [hks]; rfl)).1 (ho.2 k0 (by rw [hks]; simp)).2.2
    have hch := Qaf (R := fun i (k : qI (UNd d)) (k' : Kid h0) => (k'.1 = k.1 /\ k'.3 = k.3) /\ Rep d k.2 h0 k'.2 /\ WFN h0 k.1 k'.2 /\ q7 h0 k'.2 /\ Rt h0 k'.2 /\ (((ks[i + 1]?).map fun q => q.1).getD t = yp \/ ∀ p ∈ yN h0 k'.2, bl p.1 (((ks[i + 1]?).map fun q => q.1).getD t) = true)) ks (by
     intro i k hk
     obtain ⟨h1, h2⟩ := hall i k hk
     obtain ⟨h', n', e', r1, r2, r3, r4, r5, r6, r7⟩ := Qah d k.2 _ _ _ h1 (ho.2 k (List.mem_of_getElem? hk)).2.2
     have : h' = h0 := by omega
     subst this
     exact ⟨⟨k.1, n', k.3⟩, ⟨rfl, rfl⟩, r1, r2, r3, ⟨by rw [<- Qag r1]; exact h2, r4⟩, r5⟩)
    obtain ⟨ns, hlen, hns⟩ := hch
    have hget : ∀ {i : Nat} {b : Kid h0}, ns[i]? = some b -> ∃ a, ks[i]? = some a := by
     intro i b hb
     have := (List.getElem?_eq_some_iff.1 hb).1
     exact ⟨_, List.getElem?_eq_getElem (by omega)⟩
    have hcut : ∀ {i j : Nat} {a b : Kid h0} {p : Pr}, i < j -> ns[i]? = some a -> ns[j]? = some b -> p ∈ yN h0 a.2 -> bl p.1 b.1 = true := by
     intro i j a b p hij ha hb hp
     obtain ⟨a', ha'⟩ := hget ha
     obtain ⟨b', hb'⟩ := hget hb
     obtain ⟨c', hc'⟩ : ∃ c', ks[i + 1]? = some c' := ⟨_, List.getElem?_eq_getElem (by have := (List.getElem?_eq_some_iff.1 hb').1; omega)⟩
     obtain ⟨⟨ea, _⟩, _, _, _, _, hbd⟩ := hns i a' a ha' ha
     obtain ⟨⟨eb', _⟩, _⟩ := hns j b' b hb' hb
     rw [hc'] at hbd
     simp only [Option.map_some, Option.getD_some] at hbd
     have hac := hlt i (i + 1) a' c' (by omega) ha' hc'
     rcases hbd with e | hbd
     ·rw [e, show bl a'.1 yp = false from gH a'.1] at hac
      cases hac
     ·have := hbd p hp
      rw [eb']
      rcases Nat.lt_or_ge (i + 1) j with h' | h'
      ·exact qX this (hlt (i + 1) j c' b' h' hc' hb')
      ·have e : j = i + 1 := by omega
       subst e
       rw [hc'] at hb'
       cases hb'
       exact this
    have hord : ns.Pairwise (Bef h0) := by
     refine List.pairwise_iff_getElem.2 fun i j hi hj hij => ?_
     have ha : ns[i]? = some ns[i] := List.getElem?_eq_getElem hi
     have hb : ns[j]? = some ns[j] := List.getElem?_eq_getElem hj
     obtain ⟨a', ha'⟩ := hget ha
     obtain ⟨b', hb'⟩ := hget hb
     refine ⟨?_, fun p hp => hcut hij ha hb hp⟩
     rw [(hns i _ _ ha' ha).1.1, (hns j _ _ hb' hb).1.1]
     exact hlt i j a' b' hij ha' hb'
    have hmem : ∀ a ∈ ns, WFN h0 a.1 a.2 /\ Rt h0 a.2 /\ q7 h0 a.2 := by
     intro a ha
     obtain ⟨i, hi⟩ := List.mem_iff_getElem?.1 ha
     obtain ⟨a', ha'⟩ := hget hi
     obtain ⟨⟨e1, _⟩, _, r2, r3, r4, _⟩ := hns i a' a ha' hi
     rw [e1]
     exact ⟨r2, r4, r3⟩
    have hlen2 : 2 <= ns.length := by omega
    refine ⟨h0 + 1, ns, by omega, ⟨hlen, fun i a b ha hb => ⟨(hns i a b ha hb).1, (hns i a b ha hb).2.1⟩⟩, (yF h0 f ns).2 ⟨?_, hord, fun a ha => (hmem a ha).1⟩, (yM h0 ns).2 fun a ha => ⟨(hmem a ha).2.1, (hmem a ha).2.2⟩, ?_, ?_, ?_, rfl⟩
    ·cases hn0 : ns with
     | nil => rw [hn0] at hlen2; simp at hlen2
     | cons a r =>
      have e := (hns 0 k0 a (by rw [hks]; rfl) (by rw [hn0]; rfl)).1.1
      refine ⟨a.2, a.3, r, ?_⟩
      rw [hf'] at e
      rw [<- e]
    ·show 11 * ns.length <= 122
     rw [<- hlen]
     exact ho.1
    ·rcases i3 with e | ⟨_, h4⟩
     ·exact Or.inl e
     ·refine Or.inr fun p hp => ?_
      obtain ⟨a, ha, hp⟩ := yX.1 (show p ∈ yA h0 ns from hp)
      obtain ⟨i, hi⟩ := List.mem_iff_getElem?.1 ha
      obtain ⟨a', ha'⟩ := hget hi
      by_cases hlast : i + 1 < ns.length
      ·have hb : ns[i + 1]? = some ns[i + 1] := List.getElem?_eq_getElem hlast
       obtain ⟨b', hb'⟩ := hget hb
       have h5 := hcut (by omega) hi hb hp
       rw [(hns _ _ _ hb' hb).1.1] at h5
       exact qX h5 (h4 b'.1 (List.mem_map.2 ⟨b', List.mem_of_getElem? hb', rfl⟩))
      ·obtain ⟨_, _, _, _, _, hbd⟩ := hns i a' a ha' hi
       have e : ks[i + 1]? = none := List.getElem?_eq_none (by omega)
       rw [e] at hbd
       simp only [Option.map_none, Option.getD_none] at hbd
       rcases hbd with e | hbd
       ·exfalso
        have := h4 a'.1 (List.mem_map.2 ⟨a', List.mem_of_getElem? ha', rfl⟩)
        rw [e, show bl a'.1 yp = false from gH a'.1] at this
        cases this
       ·exact hbd p hp
    ·intro _
     show 22 <= 11 * ns.length
     omega
  ·cases h
theorem Qai {n : Nat} {lk : Nat -> List UInt8} : ∀ {d i : Nat} {us us' : List Nat} {u : UNd d}, rdU n lk d i us = some (u, us') -> okU d u
 | 0, _, _, _, _, h => by cases h
 | d + 1, i, us, us', u, h => by
  rw [rdU] at h
  split at h
  ·split at h
   ·cases h
   ·rename_i l e
    simp only [Option.some.injEq] at h
    cases h
    exact (Q2v e).2
   ·rename_i ks e
    have hf := (Q2v e).2
    split at h
    ·cases h
    ·rename_i bs us2 e2
     simp only [Option.some.injEq] at h
     cases h
     have hm := Q7y (f := rdK n lk d) (G := fun k (b : qI (UNd d)) => b.1 = k.1 /\ b.3 = k.2 /\ okU d b.2) (by
      intro k s b s' hk
      unfold rdK at hk
      split at hk
      ·cases hk
      ·rename_i u2 us3 e3
       simp only [Option.some.injEq, Prod.mk.injEq] at hk
       rw [<- hk.1]
       exact ⟨rfl, rfl, Qai e3⟩) (show gP (rdK n lk d) ks (i :: us) = some (bs, _) from e2)
     refine ⟨by rw [<- hm.1]; exact hf.2, ?_⟩
     intro b hb
     obtain ⟨j, hj⟩ := List.mem_iff_getElem?.1 hb
     obtain ⟨k, hk⟩ : ∃ k, ks[j]? = some k := ⟨_, List.getElem?_eq_getElem (by rw [hm.1]; exact (List.getElem?_eq_some_iff.1 hj).1)⟩
     obtain ⟨e1, e3, e4⟩ := hm.2 j k b hk hj
     have := hf.1 k (List.mem_of_getElem? hk)
     rw [e1, e3]
     exact ⟨this.1, this.2, e4⟩
  ·cases h
def UND (w : World) (A : Nat -> Prop) : (d : Nat) -> UNd d -> Value -> Prop
 | 0, _, _ => False
 | _ + 1, .inl l, x => ∃ v, x = .iface 135 v /\ LF w v l /\ ∀ b, v.ownBlock = some b -> A b
 | d + 1, .inr ks, x => ∃ v xs, x = .iface 180 v /\ SL w 75 3 v (xs.map ke) /\ (∀ b, v.ownBlock = some b -> A b) /\ F2 (fun (k : qI (UNd d)) (e : KE) => (e.1 = k.1 /\ e.3 = k.3) /\ UND w A d k.2 e.2) ks xs
theorem UND.iface {w : World} {A : Nat -> Prop} : ∀ {d : Nat} {u : UNd d} {x : Value}, UND w A d u x -> ∃ t v, x = .iface t v
 | 0, _, _, h => h.elim
 | _ + 1, .inl _, _, ⟨v, e, _⟩ => ⟨_, v, e⟩
 | _ + 1, .inr _, _, ⟨v, _, e, _⟩ => ⟨_, v, e⟩
theorem UND.ka {A : Nat -> Prop} {w w' : World} (k : KA A w w') : ∀ {d : Nat} {u : UNd d} {x : Value}, UND w A d u x -> UND w' A d u x
 | 0, _, _, h => h.elim
 | _ + 1, .inl _, _, ⟨v, e, hl, hb⟩ => ⟨v, e, SL.ka hl (by decide) hb k, hb⟩
 | _ + 1, .inr _, _, ⟨v, es, e, hl, hb, hf⟩ => ⟨v, es, e, SL.ka hl (by decide) hb k, hb, hf.mono fun _ _ _ hr => ⟨hr.1, UND.ka k hr.2⟩⟩
theorem UND.amono {A A' : Nat -> Prop} {w : World} (hA : ∀ y, A y -> A' y) : ∀ {d : Nat} {u : UNd d} {x : Value}, UND w A d u x -> UND w A' d u x
 | 0, _, _, h => h.elim
 | _ + 1, .inl _, _, ⟨v, e, hl, hb⟩ => ⟨v, e, hl, fun b h => hA b (hb b h)⟩
 | _ + 1, .inr _, _, ⟨v, es, e, hl, hb, hf⟩ => ⟨v, es, e, hl, fun b h => hA b (hb b h), hf.mono fun _ _ _ hr => ⟨hr.1, UND.amono hA hr.2⟩⟩
theorem UND.nd {w : World} {A : Nat -> Prop} : ∀ {d : Nat} {u : UNd d} {h : Nat} {n : Nd h} {x : Value}, Rep d u h n -> UND w A d u x -> ND w A h n x
 | 0, _, _, _, _, hr, _ => hr.elim
 | _ + 1, .inl l, 0, n, x, hr, hx => by
  have e : n = l := hr
  subst e
  exact hx
 | _ + 1, .inl _, _ + 1, _, _, hr, _ => hr.elim
 | _ + 1, .inr _, 0, _, _, hr, _ => hr.elim
 | d + 1, .inr ks, h + 1, (ns : List (Kid h)), x, hr, hx => by
  obtain ⟨v, xs, e, hl, hb, hf⟩ := hx
  have hr : F2 (fun (k : qI (UNd d)) (k' : Kid h) => (k'.1 = k.1 /\ k'.3 = k.3) /\ Rep d k.2 h k'.2) ks ns := hr
  refine qE.2 ⟨v, xs, e, hl, hb, ?_⟩
  refine ⟨by rw [<- hr.1, hf.1], fun i a b ha hb' => ?_⟩
  obtain ⟨k, hk⟩ : ∃ k, ks[i]? = some k := ⟨_, List.getElem?_eq_getElem (by rw [hr.1]; exact (List.getElem?_eq_some_iff.1 ha).1)⟩
  have h1 := hr.2 i k a hk ha
  have h2 := hf.2 i k b hk hb'
  exact ⟨⟨by rw [h2.1.1, h1.1.1], by rw [h2.1.2, h1.1.2]⟩, UND.nd h1.2 h2.2⟩
theorem Qaj {n : Nat} {lk : Nat -> List UInt8} : ∀ {d i : Nat} {us us' : List Nat} {u : UNd d}, rdU n lk d i us = some (u, us') -> us.length <= us'.length
 | 0, _, _, _, _, h => by cases h
 | d + 1, i, us, us', u, h => by
  rw [rdU] at h
  split at h
  ·split at h
   ·cases h
   ·cases h
    simp
   ·split at h
    ·cases h
    ·rename_i bs us2 e2
     cases h
     have : ∀ (ks : List (ByteArray × Nat)) (s s' : List Nat) (bs : List (qI (UNd d))), gP (rdK n lk d) ks s = some (bs, s') -> s.length <= s'.length := by
      intro ks
      induction ks with
      | nil => intro s s' bs h; cases h; exact Nat.le_refl _
      | cons k r ih =>
       intro s s' bs h
       simp only [gP] at h
       split at h
       ·cases h
       ·rename_i b s1 e1
        split at h
        ·cases h
        ·rename_i bs2 s2 e3
         cases h
         have h2 := ih _ _ _ e3
         have h1 : s.length <= s1.length := by
          unfold rdK at e1
          split at e1
          ·cases e1
          ·rename_i u2 us3 e4
           cases e1
           exact Qaj e4
         omega
     have := this _ (i :: us) us' bs e2
     simp at this
     omega
  ·cases h
structure Rdr (fid : FuncId) (c1 c2 : Value) (n : Nat) (lk : Nat -> List UInt8) (I : List Nat -> World -> Prop) (J : Bool -> Ending -> World -> Prop) (B : Nat) : Prop where
 en : ∀ (args : Array Value) (W : World), (callFunc fid args).run prog W = .ok (.enter fid args) W
 call : ∀ (us : List Nat) (i : Nat) (W : World), I us W -> i < 65536 -> B <= W.heap.size -> Calls prog fid #[.int .i64 (i : Nat), c1, c2] W fun e W' => (((i < n /\ i ∉ us) /\ e = .returned (.agg (u8s (lk i)).toArray) /\ I (i :: us) W') \/ ∃ b, J b e W' /\ (b = true -> ¬ (i < n /\ i ∉ us))) /\ KA Tru W W'
 fresh : ∀ (us : List Nat) (W W' : World) (S : List Nat), I us W -> y5 S W W' -> (∀ y ∈ S, B <= y /\ Tg W y 75) -> I us W'
 len : ∀ i, i < n -> (lk i).length = 128
 us : ∀ (us : List Nat) (W : World), I us W -> us.Nodup /\ ∀ u ∈ us, u < n
 jt : ∀ (us : List Nat) (W W' : World) (e : Ending), I us W -> Thr 7 e W' -> y5 [] W W' -> J true e W'
 jp : ∀ (b : Bool) (e : Ending) (W : World), J b e W -> ∃ c, e = .panicked c
def KrR (n : Nat) (lk : Nat -> List UInt8) (I : List Nat -> World -> Prop) (J : Bool -> Ending -> World -> Prop) (d : Nat) (us : List Nat) (k : ByteArray × Nat) (W : World) (e : Ending) (W' : World) : Prop :=
 ((∃ u us' x', rdU n lk d k.2 us = some (u, us') /\ e = .returned (.agg #[.string k.1, .int .i64 (k.2 : Nat), x']) /\ UND W' (fun y => W.heap.size <= y) d u x' /\ I us' W') \/ ∃ b, J b e W' /\ (b = true -> rdU n lk d k.2 us = none)) /\ KA Tru W W'
def RdOk (fid : FuncId) (c1 c2 : Value) (n : Nat) (lk : Nat -> List UInt8) (I : List Nat -> World -> Prop) (J : Bool -> Ending -> World -> Prop) (B : Nat) (d : Nat) : Prop :=
 ∀ (us : List Nat) (k : ByteArray × Nat) (W : World), I us W -> n <= us.length + d -> k.2 < 65536 -> B <= W.heap.size -> Calls prog 121 #[.agg #[.string k.1, .int .i64 (k.2 : Nat), .nilIface], lfv fid c1 c2] W (KrR n lk I J d us k W)
def RvI (I : List Nat -> World -> Prop) (n d : Nat) (bf : Value) (r : Nat) (us : List Nat) (W : World) : Prop := I us W /\ n <= us.length + d /\ W.heap[r]? = some (.cells #[bf] 163 (0, 0))
theorem Qak (args : Array Value) (w : World) : (callFunc 130 args).run prog w = .ok (.enter 130 args) w := qA func130 (by kernel_rfl) (by kernel_rfl) args w
theorem Qal {fid : FuncId} {c1 c2 : Value} {n : Nat} {lk : Nat -> List UInt8} {I : List Nat -> World -> Prop} {J : Bool -> Ending -> World -> Prop} {B : Nat} (hL : Rdr fid c1 c2 n lk I J B) {d : Nat} (IH : RdOk fid c1 c2 n lk I J B d) (r : Nat) :
  Cgr (α := ByteArray × Nat) (β := qI (UNd d)) (σ := List Nat) 130 (.pointer (some ⟨r, 0, none⟩)) (rdK n lk d) (fun _ k e _ => e = kx k /\ k.2 < 65536) (fun A b e W => (e.1 = b.1 /\ e.3 = b.3) /\ UND W A d b.2 e.2) (RvI I n d (lfv fid c1 c2) r) J B where
 en := Qak
 call := by
  intro us k e A w hI hp hB hA
  obtain ⟨rfl, hk⟩ := hp
  simp only [kx]
  have HI : Hid (I us w) := hI.1
  have hr := hI.2.2
  have HC : Hid (∀ W, y5 [] w W -> Calls prog 121 #[.agg #[.string k.1, .int .i64 (k.2 : Nat), .nilIface], lfv fid c1 c2] W (KrR n lk I J d us k W)) := fun W kW => IH us k W (hL.fresh _ _ _ [] hI.1 kW (by simp)) hI.2.1 hk (Nat.le_trans hB kW.size)
  have HF : Hid (n <= us.length + d) := hI.2.1
  clear hI
  go_enter func130, ntmps130
  go_wp2_with (first
   | (refine yK rfl _ _ (gy 75 (.tmp 0) rfl #[.string k.1, .int .i64 (k.2 : Nat), .nilIface] rfl) ?_; intro w1 n1 q1 hs1; have HS1 : Hid _ := hs1; clear hs1)
   | (refine yc rfl 3 rfl 75 rfl _ (jP _) ?_; intro w2 n2 q2 hs2; have HS2 : Hid _ := hs2; clear hs2; have m2 := q2.get n1 (by simp); have r2 := q2.get (q1.get hr (by simp)) (by simp); have c2' : w2.cell? ⟨r, 0, none⟩ = some (lfv fid c1 c2) := y6 r2 rfl)
   | (refine wpList_load_row rfl 75 (.tmp 2) rfl w.heap.size rfl 75 #[.string k.1, .int .i64 (k.2 : Nat), .nilIface] (0, 0) _ m2 underlying75 rfl stk ?_))
  refine (HC.out w2 (q1.trans q2)).mono ?_
  rintro e w3 ⟨⟨u, us', x', hu, rfl, hn3, hI3⟩ | ⟨b, hJ, hb⟩, hK3⟩
  ·have hx3 : x'.oneCell' = true := by obtain ⟨t, v, rfl⟩ := hn3.iface; rfl
   have n23 := hK3.row _ _ _ _ trivial (by decide) n2
   have r3 := hK3.row _ _ _ _ trivial (by decide) r2
   have HN : Hid (UND _ _ _ _ _ /\ I _ _) := ⟨hn3, hI3⟩
   clear hn3 hI3
   go_wp2_with (refine yb rfl 75 (.tmp 3) (.tmp 6) rfl w1.heap.size #[.string k.1, .int .i64 (k.2 : Nat), x'] rfl rfl 75 _ n23 stk rfl (yU (qQ _ _ hx3)) ?_; intro w4 n4 q4)
   refine bodyPost_ret (results_cell_row rfl _ w4 w1.heap.size 75 _ (0, 0) _ rfl n4 underlying75 rfl stk) rfl ?_
   have hs := hK3.size
   have hs1 := HS1.out
   have hs2 := HS2.out
   have hlen := Qaj hu
   have hf := HF.out
   have hfu : rdK n lk d k us = some (⟨k.1, u, k.2⟩, us') := by unfold rdK; rw [hu]
   refine ⟨Or.inl ⟨⟨k.1, u, k.2⟩, us', ⟨k.1, x', k.2⟩, hfu, rfl, ⟨⟨rfl, rfl⟩, ?_⟩, hL.fresh _ _ _ [w1.heap.size] HN.out.2 q4 (by intro y hy; simp at hy; subst hy; exact ⟨by omega, _, _, n23⟩), by omega, q4.get r3 (by simp; intro e; subst e; rw [n23] at r3; cases r3)⟩, (((KA.k0 (q1.trans q2)).trans hK3).new q4 (by intro y hy; simp at hy; subst hy; omega))⟩
   refine UND.amono ?_ (UND.ka (KA.of q4 ?_) HN.out.1)
   ·intro y hy
    exact Or.inr (by omega)
   ·intro y hy
    simp at hy
    subst hy
    omega
  ·obtain ⟨ch, rfl⟩ := hL.jp _ _ _ hJ
   refine ⟨rfl, Or.inr ⟨b, hJ, fun hbt => ?_⟩, (KA.k0 (q1.trans q2)).trans hK3⟩
   unfold rdK
   rw [hb hbt]
 fresh := by
  intro us W W' S hI hk hS
  refine ⟨hL.fresh _ _ _ S hI.1 hk hS, hI.2.1, hk.get hI.2.2 fun hm => ?_⟩
  have := (hS r hm).2.ne ⟨_, _, hI.2.2⟩
  revert this
  decide
 pika := fun _ _ _ _ _ hp _ => hp
 poka := fun _ _ _ _ _ hp hk => ⟨hp.1, UND.ka hk hp.2⟩
 pomono := fun _ _ _ _ _ hp hA => ⟨hp.1, UND.amono hA hp.2⟩
 pish := fun _ _ _ _ hp => Or.inl (by rw [hp.1]; rfl)
 posh := fun _ _ _ _ hp => hp.2.iface
 jp := hL.jp
def WrU (n : Nat) (lk : Nat -> List UInt8) (I : List Nat -> World -> Prop) (J : Bool -> Ending -> World -> Prop) (d i : Nat) (us : List Nat) (m : Nat) (W : World) (e : Ending) (W' : World) : Prop :=
 ((∃ u us' x', rdU n lk (d + 1) i us = some (u, us') /\ e = .returned x' /\ UND W' (fun y => m <= y) (d + 1) u x' /\ I us' W') \/ ∃ b, J b e W' /\ (b = true -> rdU n lk (d + 1) i us = none)) /\ KA Tru W W'
theorem Qam {fid : FuncId} {c1 c2 : Value} {n : Nat} {lk : Nat -> List UInt8} {I : List Nat -> World -> Prop} {J : Bool -> Ending -> World -> Prop} {B : Nat} (hL : Rdr fid c1 c2 n lk I J B) {d : Nat} (IH : RdOk fid c1 c2 n lk I J B d) (us : List Nat) (i m : Nat) (nb : Nb) (x : Value) (w : World) (r : Nat)
  (hi : i < n /\ i ∉ us) (hd : QV (lk i) = some nb) (hx : NbV w (fun y => m <= y) nb x) (hI : RvI I n d (lfv fid c1 c2) r (i :: us) w) (hB : B <= w.heap.size) (hm : m <= w.heap.size) :
  ∃ fn v, qY "store/tree.with" x fn v /\ Calls prog fn #[v, .func (.func 130) #[] #[.pointer (some ⟨r, 0, none⟩)]] w (WrU n lk (RvI I n d (lfv fid c1 c2) r) J d i us m w) := by
 cases nb with
 | leaf l =>
  obtain ⟨v, rfl, hl, ho⟩ := hx
  obtain ⟨p, c, ev⟩ := SL.shape hl
  subst ev
  refine ⟨_, _, Q7Q _ _ _, (ZJ p _ c _ w).mono ?_⟩
  rintro e w' ⟨rfl, rfl⟩
  exact ⟨Or.inl ⟨.inl l, i :: us, _, Q7z hi hd, rfl, ⟨_, rfl, hl, ho⟩, hI⟩, KA.refl _ _⟩
 | branch ks =>
  obtain ⟨v, rfl, hl, ho⟩ := hx
  have hf := (Q2v hd).2
  have hlen : (ks.map kx).length <= 1000 := by rw [List.length_map]; have := hf.2; omega
  have hl' : SL w 75 3 v ((ks.map kx).map ke) := by rw [(Qa7 ks).1]; exact hl
  have HC := Q7G (Qal hL IH r) v (ks.map kx) ks (i :: us) (fun y => m <= y /\ y < w.heap.size) w hl' (fun y hy => hy.2) (fun b hb => ⟨ho b hb, by
   rcases hl with ⟨rfl, _⟩ | ⟨g, off, cap, cur, rfl, hh, _⟩
   ·cases hb
   ·cases hb; exact yt hh⟩) ⟨by rw [List.length_map], fun j a b ha hb => by
    rw [List.getElem?_map, ha] at hb
    simp only [Option.map_some, Option.some.injEq] at hb
    exact ⟨hb.symm, (hf.1 a (List.mem_of_getElem? ha)).2⟩⟩ hI hB hlen
  obtain ⟨p, c, ev⟩ := SL.shape hl
  subst ev
  refine ⟨_, _, Q7R _ _ _, HC.mono ?_⟩
  rintro e w' ⟨⟨bs, s', v', ys, hmo, rfl, hl2, ho2, hf2, hI2⟩ | ⟨b, hJ, hb⟩, hK⟩
  ·refine ⟨Or.inl ⟨.inr bs, s', _, by rw [Q7A hi hd, hmo], rfl, ⟨v', ys, rfl, hl2, fun b hb => Nat.le_trans hm (ho2 b hb), ?_⟩, hI2⟩, hK⟩
   exact hf2.mono fun a _ b hp => ⟨hp.1, UND.amono (fun y hy => hy.elim (fun h => h.1) (fun h => Nat.le_trans hm h)) hp.2⟩
  ·exact ⟨Or.inr ⟨b, hJ, fun hbt => by rw [Q7A hi hd, hb hbt]⟩, hK⟩
theorem Qan {n : Nat} {us : List Nat} (hn : us.Nodup) (hu : ∀ u ∈ us, u < n) (hf : n <= us.length) (i : Nat) : ¬ (i < n /\ i ∉ us) := by
 rintro ⟨h1, h2⟩
 have := gF n (i :: us) (List.nodup_cons.2 ⟨h2, hn⟩) (by
  intro u hm
  rcases List.mem_cons.1 hm with rfl | hm
  ·exact h1
  ·exact hu u hm)
 simp at this
 omega
theorem Qao {fid : FuncId} {c1 c2 : Value} {n : Nat} {lk : Nat -> List UInt8} {I : List Nat -> World -> Prop} {J : Bool -> Ending -> World -> Prop} {B : Nat} (hL : Rdr fid c1 c2 n lk I J B) {d : Nat} (IH : ∀ d', d = d' + 1 -> RdOk fid c1 c2 n lk I J B d') : RdOk fid c1 c2 n lk I J B d := by
 intro us k w hI hfu hk hB
 have hus := hL.us us w hI
 have hen := hL.en
 have HCall : Hid (∀ W, y5 [] w W -> Calls prog fid #[.int .i64 (k.2 : Nat), c1, c2] W fun e W' => (((k.2 < n /\ k.2 ∉ us) /\ e = .returned (.agg (u8s (lk k.2)).toArray) /\ I (k.2 :: us) W') \/ ∃ b, J b e W' /\ (b = true -> ¬ (k.2 < n /\ k.2 ∉ us))) /\ KA Tru W W') := fun W kW => hL.call us k.2 W (hL.fresh _ _ _ [] hI kW (by simp)) hk (Nat.le_trans hB kW.size)
 clear hI
 go_enter func121, ntmps121
 go_wp2_with (first
  | (refine yK rfl _ _ (gy 75 (.tmp 0) rfl #[.string k.1, .int .i64 (k.2 : Nat), .nilIface] rfl) ?_; intro w1 n1 q1 hs1)
  | (refine yK rfl _ _ (gY 163 (.tmp 1) rfl (lfv fid c1 c2) rfl rfl) ?_; intro w2 n2 q2 hs2; rw [hs1] at n2 hs2)
  | (refine yc rfl 4 rfl 75 rfl _ (jP _) ?_; intro w3 n3 q3 hs3; rw [hs2] at n3 hs3; have m3 := q3.get (q2.get n1 (by simp)) (by simp); have r3 := q3.get n2 (by simp); have c31 : w3.cell? ⟨w.heap.size, 1, none⟩ = some (.int .i64 (k.2 : Nat)) := y6 m3 rfl; have c3f : w3.cell? ⟨w.heap.size + 1, 0, none⟩ = some (.func (.func fid) #[] #[c1, c2]) := y6 r3 rfl))
 have K3 : y5 [] w w3 := (q1.trans q2).trans q3
 refine (HCall.out w3 K3).mono ?_
 rintro e w4 ⟨⟨hi, rfl, hI4⟩ | ⟨b, hJ, hb⟩, hK4⟩
 rotate_left
 ·obtain ⟨ch, rfl⟩ := hL.jp _ _ _ hJ
  refine ⟨rfl, Or.inr ⟨b, hJ, fun hbt => Q7B (hb hbt)⟩, (KA.k0 K3).trans hK4⟩
 cases d with
 | zero => exact absurd hi (Qan hus.1 hus.2 (by omega) k.2)
 | succ d =>
 have m4 := hK4.row _ _ _ _ trivial (by decide) m3
 have n4 := hK4.row _ _ _ _ trivial (by decide) n3
 have r4 := hK4.row _ _ _ _ trivial (by decide) r3
 have hs4 := hK4.size
 have HTn : Hid (Calls _ _ _ _ _) := Qa8 (lk k.2) w4 (hL.len k.2 hi.1)
 have HI4 : Hid (I (k.2 :: us) w4) := hI4
 clear hI4 m3 n3 r3 n1 n2 c31 c3f q1 q2 q3 HCall
 go_wp2_with fail
 refine HTn.out.mono ?_
 rintro e w5 ⟨hres, k5⟩
 cases hdec : QV (lk k.2) with
 | none =>
  rw [hdec] at hres
  have hJ := hL.jt _ _ _ _ HI4.out hres k5
  obtain ⟨ch, rfl⟩ := hL.jp _ _ _ hJ
  exact ⟨rfl, Or.inr ⟨true, hJ, fun _ => Q7C hdec⟩, ((KA.k0 K3).trans hK4).trans (KA.k0 k5)⟩
 | some nb =>
  rw [hdec] at hres
  obtain ⟨x, rfl, hx⟩ := hres
  have hs5 := k5.size
  have m5 := k5.get m4 (by simp)
  have n5 := k5.get n4 (by simp)
  have r5 := k5.get r4 (by simp)
  obtain ⟨fn, vv, ⟨t, et, hm, he⟩, hcall⟩ := Qam hL (IH d rfl) us k.2 w4.heap.size nb x w5 (w.heap.size + 1) hi hdec hx ⟨hL.fresh _ _ _ [] HI4.out k5 (by simp), by simp; omega, r5⟩ (by omega) hs5
  subst et
  have HC : Hid (Calls _ _ _ _ _) := hcall
  clear hcall hx
  go_wp2_with fail
  refine HC.out.mono ?_
  rintro e w6 ⟨⟨u, us', x', hu, rfl, hn6, hI6⟩ | ⟨b, hJ, hb⟩, hK6⟩
  rotate_left
  ·obtain ⟨ch, rfl⟩ := hL.jp _ _ _ hJ
   exact ⟨rfl, Or.inr ⟨b, hJ, hb⟩, (((KA.k0 K3).trans hK4).trans (KA.k0 k5)).trans hK6⟩
  have m6 := hK6.row _ _ _ _ trivial (by decide) m5
  have n6 := hK6.row _ _ _ _ trivial (by decide) n5
  obtain ⟨ty, vy, ey⟩ := hn6.iface
  have hs6 := hK6.size
  have HN6 : Hid (UND w6 (fun y => w4.heap.size <= y) (d + 1) u x' /\ I us' w6) := ⟨hn6, hI6.1⟩
  have KA6 : KA Tru w w6 := (((KA.k0 K3).trans hK4).trans (KA.k0 k5)).trans hK6
  have HU : Hid (rdU n lk (d + 1) k.2 us = some (u, us')) := hu
  clear hn6 hI6 m4 m5 n4 n5 r4 r5 hu
  subst ey
  go_wp2_with (first
   | (refine gl rfl 73 (.tmp 12) (.tmp 11) rfl w.heap.size 2 rfl (.iface ty vy) rfl 75 _ m6 Q7P rfl (by simp) ?_; intro w7 m7 k7; have m7' : w7.heap[w.heap.size]? = some (.cells #[.string k.1, .int .i64 (k.2 : Nat), .iface ty vy] 75 (0, 0)) := m7; have n7 := k7.get n6 (by simp; omega))
   | (refine wpList_load_row rfl 75 (.tmp 2) rfl w.heap.size rfl 75 #[.string k.1, .int .i64 (k.2 : Nat), .iface ty vy] (0, 0) _ m7' underlying75 rfl stk ?_)
   | (refine yb rfl 75 (.tmp 4) (.tmp 13) rfl (w.heap.size + 1 + 1) #[.string k.1, .int .i64 (k.2 : Nat), .iface ty vy] rfl rfl 75 _ n7 stk rfl (yU (qQ _ _ rfl)) ?_; intro w8 n8 k8))
  refine bodyPost_ret (results_cell_row rfl _ w8 (w.heap.size + 1 + 1) 75 _ (0, 0) _ rfl n8 underlying75 rfl stk) rfl ?_
  have hI7 := hL.fresh _ _ _ [w.heap.size] HN6.out.2 k7 (by intro y hy; simp at hy; subst hy; exact ⟨hB, _, _, m6⟩)
  have hI8 := hL.fresh _ _ _ [w.heap.size + 1 + 1] hI7 k8 (by intro y hy; simp at hy; subst hy; exact ⟨by omega, _, _, n7⟩)
  refine ⟨Or.inl ⟨u, us', .iface ty vy, HU.out, rfl, ?_, hI8⟩, (KA6.new k7 (by intro y hy; simp at hy; subst hy; exact Nat.le_refl _)).new k8 (by intro y hy; simp at hy; subst hy; omega)⟩
  refine UND.amono (fun y hy => by omega) (UND.ka (KA.of k8 ?_) (UND.ka (KA.of k7 ?_) HN6.out.1))
  ·intro y hy
   simp at hy
   subst hy
   omega
  ·intro y hy
   simp at hy
   subst hy
   omega
theorem Qap {fid : FuncId} {c1 c2 : Value} {n : Nat} {lk : Nat -> List UInt8} {I : List Nat -> World -> Prop} {J : Bool -> Ending -> World -> Prop} {B : Nat} (hL : Rdr fid c1 c2 n lk I J B) : ∀ d, RdOk fid c1 c2 n lk I J B d
 | 0 => Qao hL fun _ e => by cases e
 | d + 1 => Qao hL fun d' e => by cases e; exact Qap hL d
end Go.Proofs.YtcklgafpgdhnaabGreatDoor
