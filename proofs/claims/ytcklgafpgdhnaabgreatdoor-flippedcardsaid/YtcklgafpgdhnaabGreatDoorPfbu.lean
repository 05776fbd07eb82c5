import Derived.Test.YtcklgafpgdhnaabGreatDoorPfbn
import Derived.Test.YtcklgafpgdhnaabGreatDoorPfbt
import Derived.Test.YtcklgafpgdhnaabGreatDoorPfbs
import Derived.Test.YtcklgafpgdhnaabGreatDoorPfbf
import Derived.Test.YtcklgafpgdhnaabGreatDoorPfbg
import Derived.Test.YtcklgafpgdhnaabGreatDoorPfad
set_option maxRecDepth 100000
set_option maxHeartbeats 4000000
open Go.Proofs.Tryz
namespace Go.Proofs.YtcklgafpgdhnaabGreatDoor
open Go.RowKit
def cntU : (d : Nat) -> UNd d -> Nat
 | 0, _ => 0
 | _ + 1, .inl _ => 1
 | d + 1, .inr ks => 1 + (ks.map fun k => cntU d k.2).sum
theorem Qg7 {n : Nat} {lk : Nat -> List UInt8} : ∀ {d i : Nat} {us us' : List Nat} {u : UNd d}, rdU n lk d i us = some (u, us') -> us.Nodup -> (∀ y ∈ us, y < n) -> us'.Nodup /\ (∀ y ∈ us', y < n) /\ us'.length = us.length + cntU d u
 | 0, _, _, _, _, h, _, _ => by cases h
 | d + 1, i, us, us', u, h, hn, hu => by
  rw [rdU] at h
  split at h
  ·rename_i hi
   have hn1 : (i :: us).Nodup := List.nodup_cons.2 ⟨hi.2, hn⟩
   have hu1 : ∀ y ∈ i :: us, y < n := by
    intro y hy
    rcases List.mem_cons.1 hy with rfl | hy
    ·exact hi.1
    ·exact hu y hy
   split at h
   ·cases h
   ·cases h
    exact ⟨hn1, hu1, rfl⟩
   ·rename_i ks hdec
    split at h
    ·cases h
    ·rename_i bs us2 e2
     cases h
     have key : ∀ (ks : List (ByteArray × Nat)) (s s' : List Nat) (bs : List (Q5m (UNd d))), mapO (rdK n lk d) ks s = some (bs, s') -> s.Nodup -> (∀ y ∈ s, y < n) -> s'.Nodup /\ (∀ y ∈ s', y < n) /\ s'.length = s.length + (bs.map fun k => cntU d k.2).sum := by
      intro ks
      induction ks with
      | nil => intro s s' bs h h1 h2; cases h; exact ⟨h1, h2, rfl⟩
      | cons k r ih =>
       intro s s' bs h h1 h2
       simp only [mapO] at h
       split at h
       ·cases h
       ·rename_i b s1 e1
        split at h
        ·cases h
        ·rename_i bs2 s2 e3
         cases h
         unfold rdK at e1
         split at e1
         ·cases e1
         ·rename_i u2 us3 e4
          cases e1
          obtain ⟨g1, g2, g3⟩ := Qg7 e4 h1 h2
          obtain ⟨f1, f2, f3⟩ := ih _ _ _ e3 g1 g2
          refine ⟨f1, f2, ?_⟩
          simp only [List.map_cons, List.sum_cons]
          omega
     obtain ⟨g1, g2, g3⟩ := key _ (i :: us) us' bs e2 hn1 hu1
     refine ⟨g1, g2, ?_⟩
     simp only [cntU]
     simp only [List.length_cons] at g3
     omega
  ·cases h
theorem Qg8 {i : Nat} {B : List UInt8} {x : Nat × Nat} (h : rdH i B = some x) : x.2 < 65536 := by
 unfold rdH at h
 split at h
 ·cases h
  have h1 := Q2a ((B.drop 16).take 2)
  have h2 : ((B.drop 16).take 2).length <= 2 := by simp; omega
  have h3 : 2 ^ (8 * ((B.drop 16).take 2).length) <= 2 ^ (8 * 2) := Nat.pow_le_pow_right (by omega) (by omega)
  have h4 : 2 ^ (8 * 2) = 65536 := by decide
  show Q28 ((B.drop 16).take 2) < 65536
  omega
 ·cases h
theorem Qg9 (D : Dv) : (QaO D).1.2 < 65536 := by
 unfold QaO
 cases h0 : rdH 0 (D.view 0) with
 | none =>
  cases h1 : rdH 1 (D.view 1) with
  | none => decide
  | some y => exact Qg8 h1
 | some x =>
  cases h1 : rdH 1 (D.view 1) with
  | none => exact Qg8 h0
  | some y =>
   simp only [nwst]
   split
   ·exact Qg8 h1
   ·exact Qg8 h0
def Qga (n : Nat) (D : Dv) : Option Tr := rdT n D.view (QaO D).1.2
theorem Qgb (a : Nat) (bv : Value) (n : Nat) (cv : Value) (D : Dv) (w : World) (h : DQ w a bv n cv D) (hn8 : 8 <= n) (hn : n <= 400) (hq : D.q.length < 1000000) (hT : Tab w) :
  Calls prog 37 #[.iface 23 (.pointer (some ⟨a, 0, none⟩))] w (Qfg a bv n cv D (QaO D) (Qga n D) w) :=
 Qfh a bv n cv D (Qga n D) w h hn8 hn hq (Or.inr hT) fun v W D1 hv hd hq1 _ hTT => by
  have e : Qga n D = rdT n D1.view (QaO D).1.2 := by
   unfold Qga
   rw [show D1.view = D.view from funext fun i => hq1.view i]
  rw [e]
  exact Qft v a n _ bv cv D1 W hv hd hn8 (by omega) (by rw [hq1.q]; omega) (hTT hT) (Qg9 D)
def FitA : (h : Nat) -> Nd h -> Prop
 | 0, l => Q4L (.leaf l)
 | h + 1, ks => Q4L (nbN (h + 1) ks) /\ ∀ k : Kid h, List.Mem k ks -> FitA h k.2
theorem FitA.fits : ∀ {h : Nat} {n : Nd h}, FitA h n -> Q4L (nbN h n)
 | 0, _, h => h
 | _ + 1, _, h => h.1
theorem Qgc {N : Nat} {lk : Nat -> List UInt8} : ∀ (h : Nat) (n : Nd h) (d i : Nat) (us : List Nat), h < d -> lk i = encN (nbN h n) -> Qde lk h n -> FitA h n -> (i :: preN h n).Nodup -> (∀ b ∈ i :: preN h n, b ∉ us /\ b < N) -> ∃ u us', rdU N lk d i us = some (u, us') /\ Rep d u h n /\ ∀ b, b ∈ us' ↔ b ∈ us \/ b ∈ i :: preN h n
 | 0, l, d, i, us, hd, hi, _, hf, _, hu => by
  obtain ⟨d, rfl⟩ : ∃ d', d = d' + 1 := ⟨d - 1, by omega⟩
  have h1 := hu i (by simp)
  refine ⟨.inl l, i :: us, QbG ⟨h1.2, h1.1⟩ (by rw [hi]; exact Q4U hf.fits), rfl, fun b => ?_⟩
  simp [preN]
  exact Or.comm
 | h + 1, (ks : List (Kid h)), d, i, us, hd, hi, hl, hf, hnd, hu => by
  obtain ⟨d, rfl⟩ : ∃ d', d = d' + 1 := ⟨d - 1, by omega⟩
  have h1 := hu i (by simp)
  have key : ∀ (L : List (Kid h)) (s : List Nat), (∀ k ∈ L, (lk k.3 = encN (nbN h k.2) /\ Qde lk h k.2) /\ FitA h k.2) -> (L.flatMap (preK h)).Nodup -> (∀ b ∈ L.flatMap (preK h), b ∉ s /\ b < N) ->
    ∃ bs s', mapO (rdK N lk d) (L.map fun k : Kid h => (k.1, k.3)) s = some (bs, s') /\ F2 (fun (k : Q5m (UNd d)) (k' : Kid h) => (k'.1 = k.1 /\ k'.3 = k.3) /\ Rep d k.2 h k'.2) bs L /\ ∀ b, b ∈ s' ↔ b ∈ s \/ b ∈ L.flatMap (preK h) := by
   intro L
   induction L with
   | nil =>
    intro s _ _ _
    exact ⟨[], s, rfl, F2.nil, fun b => by simp⟩
   | cons k r ih =>
    intro s hk hn hs
    rw [List.flatMap_cons] at hn hs
    have hn' := List.nodup_append.1 hn
    obtain ⟨u, s1, e1, hr1, hm1⟩ := Qgc h k.2 d k.3 s (by omega) (hk k (by simp)).1.1 (hk k (by simp)).1.2 (hk k (by simp)).2 hn'.1 (fun b hb => hs b (List.mem_append_left _ hb))
    obtain ⟨bs, s2, e2, hr2, hm2⟩ := ih s1 (fun k' hk' => hk k' (by simp [hk'])) hn'.2.1 (fun b hb => ⟨fun hm => by
     rcases (hm1 b).1 hm with h1 | h1
     ·exact (hs b (List.mem_append_right _ hb)).1 h1
     ·exact hn'.2.2 b h1 b hb rfl, (hs b (List.mem_append_right _ hb)).2⟩)
    refine ⟨⟨k.1, u, k.3⟩ :: bs, s2, ?_, F2.append (F2.one ⟨⟨rfl, rfl⟩, hr1⟩) hr2, fun b => ?_⟩
    ·simp only [List.map_cons, mapO]
     have : rdK N lk d (k.1, k.3) s = some (⟨k.1, u, k.3⟩, s1) := by unfold rdK; simp only; rw [e1]
     rw [this]
     simp only [e2]
    ·rw [hm2, hm1, List.flatMap_cons, List.mem_append]
     unfold preK
     exact or_assoc
  have hnd' := List.nodup_cons.1 hnd
  obtain ⟨bs, s', e1, hr, hm⟩ := key ks (i :: us) (fun k hk => ⟨Qdf.1 hl k hk, hf.2 k hk⟩) hnd'.2 (fun b hb => ⟨fun hm => by
   rcases List.mem_cons.1 hm with e | hm
   ·subst e; exact hnd'.1 hb
   ·exact (hu b (List.mem_cons_of_mem _ hb)).1 hm, (hu b (List.mem_cons_of_mem _ hb)).2⟩)
  refine ⟨.inr bs, s', ?_, hr, fun b => ?_⟩
  ·rw [QbH ⟨h1.2, h1.1⟩ (by rw [hi]; exact Q4U hf.fits), e1]
  ·rw [hm, Q9q, List.mem_cons, List.mem_cons]
   constructor
   ·rintro ((h | h) | h)
    ·exact Or.inr (Or.inl h)
    ·exact Or.inl h
    ·exact Or.inr (Or.inr h)
   ·rintro (h | h | h)
    ·exact Or.inl (Or.inr h)
    ·exact Or.inl (Or.inl h)
    ·exact Or.inr h
theorem Qgd : ∀ {h : Nat} {n : Nd h}, 40 <= Q5o h n -> nilN h n = false
 | 0, l, hs => by
  cases hn : nilN 0 l with
  | false => rfl
  | true =>
   have h' : List.isEmpty (α := Pr) l = true := hn
   have : l = ([] : List Pr) := List.isEmpty_iff.1 h'
   subst this
   exact absurd hs (by decide)
 | _ + 1, _, _ => rfl
theorem Qge : ∀ {h : Nat} {f : ByteArray} {n : Nd h}, WFN h f n -> Q5x h n -> nilN h n = false -> (0 < h -> 22 <= Q5o h n) -> ∃ p, p ∈ Q5n h n
 | 0, _, l, _, _, hn, _ => by
  cases l with
  | nil => cases hn
  | cons p r => exact ⟨p, List.mem_cons_self ..⟩
 | h + 1, f, (ks : List (Kid h)), hw, hf, _, _ => by
  obtain ⟨⟨n, x, r, e⟩, hk⟩ := (Q5w h f ks).1 hw
  have hm : (⟨f, n, x⟩ : Kid h) ∈ ks := by rw [e]; simp
  have h1 := (Q5y h ks).1 hf _ hm
  obtain ⟨p, hp⟩ := Qge (hk.all _ hm) h1.2 (Qgd h1.1.1) (fun _ => by have := h1.1.1; omega)
  exact ⟨p, Q5t.2 ⟨_, hm, hp⟩⟩
theorem Qgf {a b c : ByteArray} (h1 : ge b a) (h2 : bl b c = true) : bl a c = true := by
 rcases Q4l a b with h | h | h
 ·exact Q4k h h2
 ·rw [h]; exact h2
 ·rw [show bl b a = false from h1] at h; cases h
theorem Qgg : ∀ (h : Nat) (n : Nd h) (d : Nat) (u : UNd d) (f t : ByteArray), Rep d u h n -> WFN h f n -> Q5x h n -> nilN h n = false -> (0 < h -> 22 <= Q5o h n) -> (t = nil8 \/ (bl f t = true /\ ∀ p ∈ Q5n h n, bl p.1 t = true)) -> sndU d f t u = some (h + 1)
 | _, _, 0, _, _, _, hr, _, _, _, _, _ => hr.elim
 | 0, (l : List Pr), d + 1, .inl l', f, t, hr, hw, _, hn, _, ht => by
  have e : l = l' := hr
  subst e
  have hL : sndL f t l = true := by
   have hrs : Rise (l.map fun p : Pr => p.1) := by
    unfold Rise
    rw [List.pairwise_map]
    exact hw.1
   have hri := QeJ (b := false) (f := f) (t := t) hrs (fun k hk => by
    obtain ⟨p, hp, rfl⟩ := List.mem_map.1 hk
    exact ⟨(hw.2 p hp).1, fun h => by cases h⟩) (ht.imp id fun h => ⟨h.1, fun k hk => by
    obtain ⟨p, hp, rfl⟩ := List.mem_map.1 hk
    exact h.2 p hp⟩)
   cases l with
   | nil => cases hn
   | cons p r =>
    have hp : be p.1 nil8 = false := (Q4h _ _).2 fun e => by
     have := (hw.2 p (List.mem_cons_self ..)).2.1
     rw [e] at this
     exact absurd this (by decide)
    simp only [sndL, hp, Bool.not_false, Bool.true_and]
    exact hri
  simp only [sndU, hL, if_true]
 | 0, _, _ + 1, .inr _, _, _, hr, _, _, _, _, _ => hr.elim
 | _ + 1, _, _ + 1, .inl _, _, _, hr, _, _, _, _, _ => hr.elim
 | h + 1, (ns : List (Kid h)), d + 1, .inr ks, f, t, hr, hw, hf, _, h2, ht => by
  have hr : F2 (fun (k : Q5m (UNd d)) (k' : Kid h) => (k'.1 = k.1 /\ k'.3 = k.3) /\ Rep d k.2 h k'.2) ks ns := hr
  obtain ⟨⟨n0, x0, r0, e0⟩, hk⟩ := (Q5w h f ns).1 hw
  have hfu := (Q5y h ns).1 hf
  have hlen : 2 <= ns.length := by have : 22 <= 11 * ns.length := h2 (by omega); omega
  have hkey : ks.map (fun k => k.1) = ns.map fun k => k.1 := by
   refine List.ext_getElem? fun i => ?_
   rw [List.getElem?_map, List.getElem?_map]
   cases hki : ks[i]? with
   | none =>
    have : ns[i]? = none := by rw [List.getElem?_eq_none_iff] at hki ⊢; rw [<- hr.1]; exact hki
    rw [this]; rfl
   | some k =>
    have hi : i < ns.length := by rw [<- hr.1]; exact (List.getElem?_eq_some_iff.1 hki).1
    rw [List.getElem?_eq_getElem hi]
    simp only [Option.map_some]
    rw [(hr.2 i k _ hki (List.getElem?_eq_getElem hi)).1.1]
  have hfl : ∀ k ∈ ns, ∀ p ∈ Q5n h k.2, p ∈ Q5n (h + 1) ns := fun k hk1 p hp => Q5t.2 ⟨k, hk1, hp⟩
  have hex : ∀ k ∈ ns, ∃ p, p ∈ Q5n h k.2 /\ ge p.1 k.1 := by
   intro k hk1
   have h3 := hfu k hk1
   obtain ⟨p, hp⟩ := Qge (hk.all k hk1) h3.2 (Qgd h3.1.1) (fun _ => by have := h3.1.1; omega)
   exact ⟨p, hp, (WFN.keys (hk.all k hk1) p hp).1⟩
  have hB : sndB f t ks = true := by
   have hrs : Rise (ns.map fun k : Kid h => k.1) := by
    unfold Rise
    rw [List.pairwise_map]
    exact hk.ord.imp fun hb => hb.1
   have hri := QeJ (b := false) (f := f) (t := t) hrs (fun k hk1 => by
    obtain ⟨q, hq, rfl⟩ := List.mem_map.1 hk1
    refine ⟨?_, fun h => by cases h⟩
    rw [e0] at hq
    rcases List.mem_cons.1 hq with e | hq
    ·subst e
     exact Q53 f
    ·have := hk.ord
     rw [e0] at this
     exact Q54 ((List.pairwise_cons.1 this).1 q hq).1) (ht.imp id fun h3 => ⟨h3.1, fun k hk1 => by
    obtain ⟨q, hq, rfl⟩ := List.mem_map.1 hk1
    obtain ⟨p, hp, hge⟩ := hex q hq
    exact Qgf hge (h3.2 p (hfl q hq p hp))⟩)
   rw [<- hkey] at hri
   cases ks with
   | nil => rw [<- hr.1] at hlen; simp at hlen
   | cons k r =>
    have h3 := (hr.2 0 k ⟨f, n0, x0⟩ rfl (by rw [e0]; rfl)).1.1
    have h4 : be k.1 f = true := (Q4g _ _).2 h3.symm
    have h5 : decide (1 < (k :: r).length) = true := decide_eq_true (by rw [hr.1]; omega)
    simp only [sndB, h4, h5, Bool.true_and]
    exact hri
  have hG : QbL (sndU d) (szU d) t none ks = some (h + 1) := by
   refine QeM (Or.inl rfl) (fun e => by rw [e] at hr; rw [<- hr.1] at hlen; simp at hlen) fun i k hki => ?_
   have hi : i < ns.length := by rw [<- hr.1]; exact (List.getElem?_eq_some_iff.1 hki).1
   obtain ⟨q, hq⟩ : ∃ q, ns[i]? = some q := ⟨_, List.getElem?_eq_getElem hi⟩
   have hrk := hr.2 i k q hki hq
   have hqm := List.mem_of_getElem? hq
   have h3 := hfu q hqm
   have hsz : szU d k.2 = Q5o h q.2 := QeP hrk.2
   refine ⟨?_, by rw [hsz]; exact h3.1.1⟩
   rw [<- hrk.1.1]
   refine Qgg h q.2 d k.2 q.1 _ hrk.2 (hk.all q hqm) h3.2 (Qgd h3.1.1) (fun _ => by have := h3.1.1; omega) ?_
   cases hnx : ks[i + 1]? with
   | none =>
    simp only [Option.map_none, Option.getD_none]
    refine ht.imp id fun h4 => ⟨?_, fun p hp => h4.2 p (hfl q hqm p hp)⟩
    obtain ⟨p, hp, hge⟩ := hex q hqm
    exact Qgf hge (h4.2 p (hfl q hqm p hp))
   | some k2 =>
    simp only [Option.map_some, Option.getD_some]
    have hi2 : i + 1 < ns.length := by rw [<- hr.1]; exact (List.getElem?_eq_some_iff.1 hnx).1
    obtain ⟨q2, hq2⟩ : ∃ q, ns[i + 1]? = some q := ⟨_, List.getElem?_eq_getElem hi2⟩
    have hb : Bef h q q2 := by
     have := List.pairwise_iff_getElem.1 hk.ord i (i + 1) hi hi2 (by omega)
     rw [(List.getElem?_eq_some_iff.1 hq).2, (List.getElem?_eq_some_iff.1 hq2).2] at this
     exact this
    rw [<- (hr.2 (i + 1) k2 q2 hnx hq2).1.1]
    exact Or.inr ⟨hb.1, fun p hp => hb.2 p hp⟩
  simp only [sndU, hB, if_true, hG, Option.map_some]
theorem Qgh : ∀ {h : Nat} {f : ByteArray} {n : Nd h}, WFN h f n -> Q5x h n -> Q5o h n <= 122 -> FmS h n -> (∀ b ∈ preN h n, b < 65536) -> FitA h n
 | 0, _, _, hw, _, hs, _, _ => ⟨fun p hp => ⟨(hw.2 p hp).2.2.1, (hw.2 p hp).2.2.2⟩, hs⟩
 | h + 1, f, (ks : List (Kid h)), hw, hf, hs, hm, hb => by
  have hk := ((Q5w h f ks).1 hw).2
  have hfu := (Q5y h ks).1 hf
  have hfm := QdI.1 hm
  have hb : ∀ b ∈ ks.flatMap (preK h), b < 65536 := hb
  have hb1 : ∀ k ∈ ks, ∀ b ∈ preK h k, b < 65536 := fun k hk1 b hb1 => hb b (List.mem_flatMap.2 ⟨k, hk1, hb1⟩)
  refine ⟨⟨fun q hq => ?_, ?_⟩, fun k hk1 => Qgh (hk.all k hk1) (hfu k hk1).2 (hfu k hk1).1.2 (hfm k hk1).2 fun b hb2 => hb1 k hk1 b (List.mem_cons_of_mem _ hb2)⟩
  ·obtain ⟨k, hk1, rfl⟩ := List.mem_map.1 hq
   exact ⟨(hfm k hk1).1, hb1 k hk1 k.3 (List.mem_cons_self ..)⟩
  ·rw [List.length_map]
   exact hs
theorem Qgi : ∀ {h : Nat} {f : ByteArray} {n : Nd h}, WFN h f n -> h + 1 <= cntN h n
 | 0, _, _, _ => Nat.le_refl _
 | h + 1, f, (ks : List (Kid h)), hw => by
  obtain ⟨⟨n, x, r, e⟩, hk⟩ := (Q5w h f ks).1 hw
  have h1 := Qgi (hk.all ⟨f, n, x⟩ (by rw [e]; simp))
  show h + 1 + 1 <= 1 + (ks.map fun k : Kid h => cntN h k.2).sum
  rw [e]
  simp only [List.map_cons, List.sum_cons]
  have h1 : h + 1 <= cntN h n := h1
  omega
theorem Whl.read {n : Nat} {lk : Nat -> List UInt8} {t : Tr} (h : Whl n lk t) (hn : n <= 65536) : rdT n lk t.pl = some t := by
 have hp : t.pl ≠ 0 := by have := h.off t.pl (by simp); omega
 have hfit : FitA t.h t.n := Qgh h.tw.wf h.tw.full h.tw.hi h.frs fun b hb => by have := (h.off b (List.mem_cons_of_mem _ hb)).2; omega
 have hc := Qcc n _ h.nd fun b hb => (h.off b hb).2
 have hc2 := Q9r t.h t.n
 have hc3 := Qgi h.tw.wf
 simp only [List.length_cons] at hc
 obtain ⟨u, us', e1, hr, _⟩ := Qgc (N := n) t.h t.n n t.pl [1, 0] (by omega) h.at_ h.lies hfit h.nd (fun b hb => ⟨fun hm => by
  have := (h.off b hb).1
  simp at hm
  omega, (h.off b hb).2⟩)
 have e2 := Qgg t.h t.n n u nil8 nil8 hr h.tw.wf h.tw.full h.nil h.tw.two (Or.inl rfl)
 have e3 := Qfo hp e1 e2
 rw [e3]
 have e4 := hr.to
 show some (⟨t.h, toN n u t.h, t.pl⟩ : Tr) = some t
 rw [<- e4]
theorem StK.whl {n : Nat} {lk : Nat -> List UInt8} {lt t : Tr} (h : StK n lk lt t) (hn : nilN lt.h lt.n = false) : Whl n lk lt := by
 have hp : preT lt = lt.pl :: preN lt.h lt.n := by unfold preT; rw [hn]; rfl
 rcases h.lies with h1 | h1
 ·rw [hn] at h1; cases h1
 ·refine ⟨h.ltw, hn, h1.1, h1.2, ?_, fun b hb => ?_, h.fm⟩
  ·have := (List.nodup_append.1 h.us).1
   rw [hp] at this
   exact ((List.reverse_perm _).nodup_iff).1 this
  ·rw [<- hp] at hb
   exact ⟨QdN h.us hb, h.ub b hb⟩
theorem StK.read {n : Nat} {lk : Nat -> List UInt8} {lt t : Tr} (h : StK n lk lt t) (hn : n <= 65536) : rdT n lk lt.pl = some lt := by
 cases hz : nilN lt.h lt.n with
 | true =>
  rw [QdO hz h.ltw]
  exact Qfn n lk
 | false => exact (h.whl hz).read hn
theorem StK.found {n : Nat} {D : Dv} {lt t : Tr} (h : StK n D.view lt t) (hh : (QaO D).1.2 = lt.pl) (hn : n <= 65536) : Qga n D = some lt := by
 unfold Qga
 rw [hh]
 exact h.read hn
theorem Qgj {N : Nat} {lk : Nat -> List UInt8} : ∀ {d i : Nat} {us us' : List Nat} {u : UNd d} {h : Nat} {n : Nd h}, rdU N lk d i us = some (u, us') -> Rep d u h n -> lk i = encN (nbN h n) /\ Qde lk h n
 | 0, _, _, _, _, _, _, e, _ => by cases e
 | d + 1, i, us, us', u, h, n, e, hr => by
  rw [rdU] at e
  split at e
  ·split at e
   ·cases e
   ·rename_i l hdec
    cases e
    cases h with
    | zero =>
     have e : n = l := hr
     subst e
     exact ⟨(Q4M hdec).1.symm, trivial⟩
    | succ h => exact hr.elim
   ·rename_i ks hdec
    split at e
    ·cases e
    ·rename_i bs us2 e2
     cases e
     cases h with
     | zero => exact hr.elim
     | succ h =>
      have hr : F2 (fun (k : Q5m (UNd d)) (k' : Kid h) => (k'.1 = k.1 /\ k'.3 = k.3) /\ Rep d k.2 h k'.2) bs n := hr
      have key : ∀ (ks : List (ByteArray × Nat)) (s s' : List Nat) (bs : List (Q5m (UNd d))) (ns : List (Kid h)), mapO (rdK N lk d) ks s = some (bs, s') -> F2 (fun (k : Q5m (UNd d)) (k' : Kid h) => (k'.1 = k.1 /\ k'.3 = k.3) /\ Rep d k.2 h k'.2) bs ns -> ks = ns.map (fun k : Kid h => (k.1, k.3)) /\ ∀ k ∈ ns, lk k.3 = encN (nbN h k.2) /\ Qde lk h k.2 := by
       intro ks
       induction ks with
       | nil =>
        intro s s' bs ns hm hf
        cases hm
        have : ns = [] := List.length_eq_zero_iff.1 hf.1.symm
        subst this
        exact ⟨rfl, fun k hk => by cases hk⟩
       | cons q r ih =>
        intro s s' bs ns hm hf
        simp only [mapO] at hm
        split at hm
        ·cases hm
        ·rename_i b s1 e1
         split at hm
         ·cases hm
         ·rename_i bs2 s2 e3
          cases hm
          cases ns with
          | nil => have := hf.1; simp at this
          | cons k ns =>
           have h0 := hf.2 0 b k rfl rfl
           have hf2 : F2 (fun (k : Q5m (UNd d)) (k' : Kid h) => (k'.1 = k.1 /\ k'.3 = k.3) /\ Rep d k.2 h k'.2) bs2 ns := ⟨by have := hf.1; simpa using this, fun j x y hx hy => hf.2 (j + 1) x y hx hy⟩
           obtain ⟨g1, g2⟩ := ih _ _ _ _ e3 hf2
           unfold rdK at e1
           split at e1
           ·cases e1
           ·rename_i u2 us3 e4
            cases e1
            have h3 : k.3 = q.2 := h0.1.2
            have hl := Qgj e4 h0.2
            refine ⟨?_, fun k' hk' => ?_⟩
            ·rw [List.map_cons, <- g1]
             congr 1
             exact Prod.ext h0.1.1.symm h3.symm
            ·rcases List.mem_cons.1 hk' with e | hk'
             ·subst e
              rw [h3]
              exact hl
             ·exact g2 k' hk'
      obtain ⟨g1, g2⟩ := key _ _ _ _ n e2 hr
      refine ⟨?_, Qdf.2 g2⟩
      rw [<- (Q4M hdec).1, g1]
      rfl
  ·cases e
theorem Qgk {N : Nat} {lk : Nat -> List UInt8} : ∀ {d i : Nat} {us us' : List Nat} {u : UNd d} {h : Nat} {n : Nd h}, rdU N lk d i us = some (u, us') -> Rep d u h n -> us'.Perm ((i :: preN h n) ++ us)
 | 0, _, _, _, _, _, _, e, _ => by cases e
 | d + 1, i, us, us', u, h, n, e, hr => by
  rw [rdU] at e
  split at e
  ·split at e
   ·cases e
   ·cases e
    cases h with
    | zero => exact List.Perm.refl _
    | succ h => exact hr.elim
   ·rename_i ks hdec
    split at e
    ·cases e
    ·rename_i bs us2 e2
     cases e
     cases h with
     | zero => exact hr.elim
     | succ h =>
      have hr : F2 (fun (k : Q5m (UNd d)) (k' : Kid h) => (k'.1 = k.1 /\ k'.3 = k.3) /\ Rep d k.2 h k'.2) bs n := hr
      have key : ∀ (ks : List (ByteArray × Nat)) (s s' : List Nat) (bs : List (Q5m (UNd d))) (ns : List (Kid h)), mapO (rdK N lk d) ks s = some (bs, s') -> F2 (fun (k : Q5m (UNd d)) (k' : Kid h) => (k'.1 = k.1 /\ k'.3 = k.3) /\ Rep d k.2 h k'.2) bs ns -> s'.Perm (ns.flatMap (preK h) ++ s) := by
       intro ks
       induction ks with
       | nil =>
        intro s s' bs ns hm hf
        cases hm
        have : ns = [] := List.length_eq_zero_iff.1 hf.1.symm
        subst this
        exact List.Perm.refl _
       | cons q r ih =>
        intro s s' bs ns hm hf
        simp only [mapO] at hm
        split at hm
        ·cases hm
        ·rename_i b s1 e1
         split at hm
         ·cases hm
         ·rename_i bs2 s2 e3
          cases hm
          cases ns with
          | nil => have := hf.1; simp at this
          | cons k ns =>
           have h0 := hf.2 0 b k rfl rfl
           have hf2 : F2 (fun (k : Q5m (UNd d)) (k' : Kid h) => (k'.1 = k.1 /\ k'.3 = k.3) /\ Rep d k.2 h k'.2) bs2 ns := ⟨by have := hf.1; simpa using this, fun j x y hx hy => hf.2 (j + 1) x y hx hy⟩
           have g1 := ih _ _ _ _ e3 hf2
           unfold rdK at e1
           split at e1
           ·cases e1
           ·rename_i u2 us3 e4
            cases e1
            have h3 : k.3 = q.2 := h0.1.2
            have hl := Qgk e4 h0.2
            rw [<- h3] at hl
            refine g1.trans ((List.Perm.append_left _ hl).trans ?_)
            rw [List.flatMap_cons]
            show (ns.flatMap (preK h) ++ (preK h k ++ s)).Perm (preK h k ++ ns.flatMap (preK h) ++ s)
            rw [<- List.append_assoc]
            exact List.Perm.append_right _ List.perm_append_comm
      have g := key _ _ _ _ n e2 hr
      refine g.trans ?_
      show (List.flatMap (preK h) n ++ i :: us).Perm (i :: (preN (h + 1) n ++ us))
      exact List.perm_middle
  ·cases e
theorem Rep.fms : ∀ {d : Nat} {u : UNd d} {h : Nat} {n : Nd h}, Rep d u h n -> okU d u -> FmS h n
 | 0, _, _, _, hr, _ => hr.elim
 | _ + 1, .inl _, 0, _, _, _ => trivial
 | _ + 1, .inl _, _ + 1, _, hr, _ => hr.elim
 | _ + 1, .inr _, 0, _, hr, _ => hr.elim
 | d + 1, .inr ks, h + 1, (ns : List (Kid h)), hr, ho => by
  have hr : F2 (fun (k : Q5m (UNd d)) (k' : Kid h) => (k'.1 = k.1 /\ k'.3 = k.3) /\ Rep d k.2 h k'.2) ks ns := hr
  refine QdI.2 fun k' hk' => ?_
  obtain ⟨i, hi⟩ := List.mem_iff_getElem?.1 hk'
  obtain ⟨k, hk⟩ : ∃ k, ks[i]? = some k := ⟨_, List.getElem?_eq_getElem (by rw [hr.1]; exact (List.getElem?_eq_some_iff.1 hi).1)⟩
  have h1 := hr.2 i k k' hk hi
  have h2 := ho.2 k (List.mem_of_getElem? hk)
  rw [h1.1.1]
  exact ⟨h2.1, Rep.fms h1.2 h2.2.2⟩
theorem Qgl {n : Nat} {lk : Nat -> List UInt8} {root : Nat} {t : Tr} (h0 : root ≠ 0) (hn : 2 <= n) (h : rdT n lk root = some t) : Whl n lk t := by
 simp only [rdT, if_neg h0] at h
 split at h
 ·cases h
 ·rename_i u us' e1
  split at h
  ·cases h
  ·rename_i x e2
   cases h
   have hok := QeR e1
   obtain ⟨hh, nn, rfl, hr, h1, h2, h3, _, h4, h5⟩ := QeQ n u nil8 nil8 x e2 hok
   show Whl n lk ⟨hh, toN n u hh, root⟩
   rw [<- hr.to]
   obtain ⟨g1, g2, _⟩ := Qg7 e1 (by decide) (by simp; omega)
   have hp := Qgk e1 hr
   have hl := Qgj e1 hr
   have hnd := List.nodup_append.1 (hp.nodup_iff.1 g1)
   refine ⟨⟨h1, h2, h3, h4, fun h => by rw [h5] at h; cases h⟩, h5, hl.1, hl.2, hnd.1, fun b hb => ⟨?_, g2 b (hp.mem_iff.2 (List.mem_append_left _ hb))⟩, hr.fms hok⟩
   rcases Nat.lt_or_ge b 2 with h6 | h6
   ·refine absurd rfl (hnd.2.2 b hb b ?_)
    have : b = 0 \/ b = 1 := by omega
    rcases this with e | e <;> rw [e] <;> simp
   ·exact h6
def Dq (L : List UInt8) (c wr t : Int) : Dv := ⟨L, [], c, wr, t, -1, 0, 0⟩
structure Dev (w : World) (a g n : Nat) (L : List UInt8) (c wr t : Int) : Prop where
 d : DC w a (.slice (some ⟨g, 0, none⟩) n n) (.slice none 0 0) (Dq L c wr t)
 b : w.heap[g]? = some (.cells (u8s L).toArray 80 (0, 0))
 l : L.length = n * 128
 m : n <= 1000
section
variable {w w' : World} {a g n : Nat} {L : List UInt8} {c wr t : Int}
theorem Dev.dq (h : Dev w a g n L c wr t) : DQ w a (.slice (some ⟨g, 0, none⟩) n n) n (.slice none 0 0) (Dq L c wr t) :=
 ⟨h.d, Q0W (by rw [Q08]; exact h.l) h.b (Nat.zero_le _) (Nat.le_refl _) (by have := h.m; unfold maxLen; omega) (by rw [Q08]; exact h.l) (List.take_of_length_le (by rw [Q08]; exact Nat.le_of_eq h.l)), World.ownsRow_nil _ _ _ _, by simp [Fit, Dq], fun _ => rfl⟩
theorem Dev.good (L : List UInt8) (c wr t : Int) : Good (Dq L c wr t) := ⟨rfl, rfl, rfl⟩
theorem DQ.dev {cv : Value} {D : Dv} (h : DQ w a (.slice (some ⟨g, 0, none⟩) n n) n cv D) (hq : D.q = []) (hg : Good D) (hn : n <= 1000) : Dev w a g n D.L D.c D.wr D.t := by
 obtain rfl := h.z hq
 have e : D = Dq D.L D.c D.wr D.t := by
  obtain ⟨h1, h2, h3⟩ := hg
  obtain ⟨L, q, c, wr, t, o, f, u⟩ := D
  simp only at hq h1 h2 h3
  subst hq h1 h2 h3
  rfl
 refine ⟨by rw [<- e]; exact h.d, ?_, h.l, hn⟩
 obtain ⟨hl, h | ⟨g', cap, cur, e, _, hh, h1, h2, h3, h4⟩⟩ := h.b
 ·exact absurd h.1 (by simp)
 ·simp only [Value.slice.injEq, Option.some.injEq, Addr.mk.injEq] at e
  obtain ⟨⟨rfl, -⟩, -, rfl⟩ := e
  rw [hh]
  congr 1
  congr 1
  rw [<- h4, List.take_of_length_le (by simpa using Nat.le_of_eq h3)]
end
theorem Qgm (x : Int) (w : World) : Calls prog 26 #[.int .i64 x] w fun e w' => ∃ a g, e = .returned (.pointer (some ⟨a, 0, none⟩)) /\ Dev w' a g (nb x) (List.replicate (nb x * 128) 0) 0 0 0 /\ w.heap.size <= a /\ w.heap.size <= g /\ Kept [] w w' := by
 refine (Q1Q x w).mono ?_
 rintro e w' ⟨a, bv, h1, h2, h3, ⟨g, rfl, h4⟩, h5⟩
 exact ⟨a, g, h1, h2.dev rfl ⟨rfl, rfl, rfl⟩ (Nat.le_of_lt (Q1J x)), h3, h4, h5⟩
def St (k : Nat) (L : List UInt8) : Prop := if k = 0 then rdH 0 (Q10 L 0) = none /\ rdH 1 (Q10 L 1) = none else rdH 0 (Q10 L 0) = some (2 * k, 0) /\ rdH 1 (Q10 L 1) = some (2 * k - 1, 0)
theorem Qgn {L : List UInt8} {c wr t : Int} : QaO (Dq L c wr t) = nwst (rdH 0 (Q10 L 0)) (rdH 1 (Q10 L 1)) := rfl
theorem St.newest {k : Nat} {L : List UInt8} (h : St k L) (hk : k <= 50000) {c wr t : Int} : QaO (Dq L c wr t) = ((2 * k, 0), decide (0 < k)) := by
 rw [Qgn]
 unfold St at h
 split at h
 ·subst k
  rw [h.1, h.2]
  rfl
 ·rw [h.1, h.2]
  have e : nwr (2 * k - 1) (2 * k) = false := by
   unfold nwr
   have e1 : (((2 * k - 1 : Nat) : Int) - ((2 * k : Nat) : Int)) = -1 := by omega
   rw [e1]
   have e3 : IntKind.u64.wrap (-1) = 18446744073709551615 := by kernel_rfl
   rw [e3]
   exact decide_eq_false (by simp [wrap64])
  have e2 : decide (0 < k) = true := decide_eq_true (by omega)
  simp [nwst, e, e2]
theorem Qgo (N : Nat) (h : 1024 <= N) : St 0 (List.replicate N 0) := by
 have key : ∀ i, i <= 1 -> (Q10 (List.replicate N 0) i).take 8 ≠ Q2u := by
  intro i hi
  unfold Q10
  rw [List.drop_replicate, List.take_replicate, List.take_replicate, Nat.min_eq_left (by omega)]
  decide
 unfold St
 rw [if_pos rfl]
 exact ⟨Qe0 (key 0 (by omega)), Qe0 (key 1 (by omega))⟩
theorem Lh.dev {L : List UInt8} {c wr t : Int} {T R : Nat} {D' : Dv} (h : Lh (Dq L c wr t) T R D') : D' = Dq (Q1C L (T % 2) (blk T R)) D'.c D'.wr t := by
 obtain ⟨D1, h1, h2⟩ := h
 have a1 := h2.L
 have a2 := h2.q
 have a3 := h2.t.trans h1.t
 have a4 := h2.off.trans h1.off
 have a5 := h2.fr.trans h1.fr
 have a6 := h2.to.trans h1.to
 rw [h1.L, h1.q] at a1
 obtain ⟨L', q', c', wr', t', o', f', u'⟩ := D'
 simp only [Dq] at *
 subst a1 a2 a3 a4 a5 a6
 rfl
theorem Lf.bad {L : List UInt8} {c wr t : Int} {T R : Nat} {D' : Dv} (h : Lf (Dq L c wr t) T R D') : False := by
 rcases h with h | ⟨D1, h1, h2⟩
 ·exact h.bad ⟨rfl, rfl, rfl⟩
 ·exact h2.bad (h1.good.2 ⟨rfl, rfl, rfl⟩)
theorem St.next {k n : Nat} {L : List UInt8} (hk : k <= 50000) (hL : L.length = n * 128) (hn : 8 <= n) : St (k + 1) (Q1C (Q1C L ((2 * k + 1) % 2) (blk (2 * k + 1) 0)) ((2 * k + 2) % 2) (blk (2 * k + 2) 0)) := by
 have e1 : (2 * k + 1) % 2 = 1 := by omega
 have e2 : (2 * k + 2) % 2 = 0 := by omega
 have g1 := QdY (t := 2 * k + 1) (r := 0) (by omega) (by omega)
 have g2 := QdY (t := 2 * k + 2) (r := 0) (by omega) (by omega)
 rw [e1] at g1
 rw [e2] at g2
 unfold St
 rw [if_neg (by omega), e1, e2]
 have hl := Q1F L (blk (2 * k + 1) 0) n 1 hL (by omega) (QaJ _ _)
 rw [Qe1 hl (by omega) (QaJ _ _), if_pos rfl, Qe1 hl (by omega) (QaJ _ _), if_neg (by omega), Qe1 hL (by omega) (QaJ _ _), if_pos rfl]
 exact ⟨g2, g1⟩
end Go.Proofs.YtcklgafpgdhnaabGreatDoor
