import Derived.Test.YtcklgafpgdhnaabGreatDoorPqbs
import Derived.Test.YtcklgafpgdhnaabGreatDoorPqbr
import Derived.Test.YtcklgafpgdhnaabGreatDoorPqbm
import Derived.Test.YtcklgafpgdhnaabGreatDoorPqbe
import Derived.Test.YtcklgafpgdhnaabGreatDoorPqbf
import Derived.Test.YtcklgafpgdhnaabGreatDoorPqad
import Derived.Test.YtcklgafpgdhnaabGreatDoorPqau
import Derived.Test.YtcklgafpgdhnaabGreatDoorPqah
set_option maxRecDepth 100000
set_option maxHeartbeats 4000000
open Go.Proofs.Tryz
namespace Go.Proofs.YtcklgafpgdhnaabGreatDoor
theorem Qbv (l : List Pr) (h : ∀ p ∈ l, okp p) : 3 * l.length <= (l.map psz).sum := by
 induction l with
 | nil => simp
 | cons p r ih =>
  have h1 := ih fun q hq => h q (by simp [hq])
  have h2 := (h p (by simp)).1
  simp only [List.map_cons, List.sum_cons, List.length_cons]
  have h3 : psz p = 2 + p.1.size + p.2.size := rfl
  omega
theorem Qbw : ∀ (h : Nat) (f : ByteArray) (n : Nd h), WFN h f n -> q7 h n -> yl h n <= 122 -> (yN h n).length <= 41 * gm h n
 | 0, f, l, hw, _, hs => by
  have h1 := Qbv l fun p hp => (hw.2 p hp).2
  have hs' : (List.map psz l).sum <= 122 := hs
  show List.length (α := Pr) l <= 41 * 1
  omega
 | h + 1, f, ks, hw, hf, _ => by
  obtain ⟨_, hk⟩ := (yF h f ks).1 hw
  have hf' := (yM h ks).1 hf
  have key : ∀ (l : List (Kid h)), (∀ a ∈ l, WFN h a.1 a.2 /\ Rt h a.2 /\ q7 h a.2) -> (yA h l).length <= 41 * (List.map (fun k : Kid h => gm h k.2) l).sum := by
   intro l
   induction l with
   | nil => intro _; simp [yA]
   | cons a r ih =>
    intro hl
    have h1 := ih fun b hb => hl b (by simp [hb])
    obtain ⟨ha, hr, hff⟩ := hl a (by simp)
    have h2 := Qbw h a.1 a.2 ha hff hr.2
    rw [gN, List.length_append]
    simp only [List.map_cons, List.sum_cons]
    omega
  have h1 := key ks fun a ha => ⟨hk.all a ha, hf' a ha⟩
  show (yA h ks).length <= 41 * (1 + (List.map (fun k : Kid h => gm h k.2) ks).sum)
  omega
theorem Qbx : ∀ (h : Nat) (n : Nd h), qO h n = true -> yN h n = []
 | 0, l, e => by
  have : List.isEmpty (α := Pr) l = true := e
  exact List.isEmpty_iff.1 this
 | _ + 1, _, e => by cases e
theorem Qby (t : Tr) (ht : TW t) : (y7 t).length <= 41 * qH t := by
 unfold qH
 split
 ·rename_i e
  unfold y7
  rw [Qbx _ _ e]
  simp
 ·exact Qbw t.h yp t.n ht.wf ht.full ht.hi
end Go.Proofs.YtcklgafpgdhnaabGreatDoor
namespace Go.Proofs.YtcklgafpgdhnaabGreatDoor
open Go.RowKit
def cntU : (d : Nat) -> UNd d -> Nat
 | 0, _ => 0
 | _ + 1, .inl _ => 1
 | d + 1, .inr ks => 1 + (ks.map fun k => cntU d k.2).sum
theorem Qbz {n : Nat} {lk : Nat -> List UInt8} : ∀ {d i : Nat} {us us' : List Nat} {u : UNd d}, rdU n lk d i us = some (u, us') -> us.Nodup -> (∀ y ∈ us, y < n) -> us'.Nodup /\ (∀ y ∈ us', y < n) /\ us'.length = us.length + cntU d u
 | 0, _, _, _, _, h, _, _ => by cases h
 | d + 1, i, us, us', u, h, hn, hu => by
  rw [rdU] at h
  split at h
  ·rename_i hi
   have hn1 : (i :: us).Nodup := List.nodup_cons.2 ⟨hi.2, hn⟩
   have hu1 : ∀ y ∈ i :: us, y < n := by
    intro y hy
    rcases List.mem_cons.1 hy with rfl | hy
    ·exact hi.1
    ·exact hu y hy
   split at h
   ·cases h
   ·cases h
    exact ⟨hn1, hu1, rfl⟩
   ·rename_i ks hdec
    split at h
    ·cases h
    ·rename_i bs us2 e2
     cases h
     have key : ∀ (ks : List (ByteArray × Nat)) (s s' : List Nat) (bs : List (qI (UNd d))), gP (rdK n lk d) ks s = some (bs, s') -> s.Nodup -> (∀ y ∈ s, y < n) -> s'.Nodup /\ (∀ y ∈ s', y < n) /\ s'.length = s.length + (bs.map fun k => cntU d k.2).sum := by
      intro ks
      induction ks with
      | nil => intro s s' bs h h1 h2; cases h; exact ⟨h1, h2, rfl⟩
      | cons k r ih =>
       intro s s' bs h h1 h2
       simp only [gP] at h
       split at h
       ·cases h
       ·rename_i b s1 e1
        split at h
        ·cases h
        ·rename_i bs2 s2 e3
         cases h
         unfold rdK at e1
         split at e1
         ·cases e1
         ·rename_i u2 us3 e4
          cases e1
          obtain ⟨g1, g2, g3⟩ := Qbz e4 h1 h2
          obtain ⟨f1, f2, f3⟩ := ih _ _ _ e3 g1 g2
          refine ⟨f1, f2, ?_⟩
          simp only [List.map_cons, List.sum_cons]
          omega
     obtain ⟨g1, g2, g3⟩ := key _ (i :: us) us' bs e2 hn1 hu1
     refine ⟨g1, g2, ?_⟩
     simp only [cntU]
     simp only [List.length_cons] at g3
     omega
  ·cases h
theorem Rep.cnt : ∀ {d : Nat} {u : UNd d} {h : Nat} {n : Nd h}, Rep d u h n -> gm h n = cntU d u
 | 0, _, _, _, hr => hr.elim
 | _ + 1, .inl _, 0, _, _ => rfl
 | _ + 1, .inl _, _ + 1, _, hr => hr.elim
 | _ + 1, .inr _, 0, _, hr => hr.elim
 | d + 1, .inr ks, h + 1, (ns : List (Kid h)), hr => by
  have hr : F2 (fun (k : qI (UNd d)) (k' : Kid h) => (k'.1 = k.1 /\ k'.3 = k.3) /\ Rep d k.2 h k'.2) ks ns := hr
  show 1 + (List.map (fun k : Kid h => gm h k.2) ns).sum = 1 + (ks.map fun k => cntU d k.2).sum
  have : List.map (fun k : Kid h => gm h k.2) ns = ks.map fun k => cntU d k.2 := by
   refine List.ext_getElem? fun i => ?_
   rw [List.getElem?_map, List.getElem?_map]
   cases hk : ks[i]? with
   | none =>
    have : ns[i]? = none := by
     rw [List.getElem?_eq_none_iff] at hk ⊢
     rw [<- hr.1]
     exact hk
    rw [this]
    rfl
   | some k =>
    have hi : i < ns.length := by rw [<- hr.1]; exact (List.getElem?_eq_some_iff.1 hk).1
    rw [List.getElem?_eq_getElem hi]
    simp only [Option.map_some]
    rw [Rep.cnt (hr.2 i k _ hk (List.getElem?_eq_getElem hi)).2]
  rw [this]
theorem QbA {n : Nat} {lk : Nat -> List UInt8} {root : Nat} {t : Tr} (hn : 2 <= n) (h : rdT n lk root = some t) : qH t + 2 <= n := by
 by_cases h0 : root = 0
 ·subst h0
  rw [QaO] at h
  cases h
  exact hn
 ·simp only [rdT, if_neg h0] at h
  split at h
  ·cases h
  ·rename_i u us' e1
   split at h
   ·cases h
   ·rename_i x e2
    cases h
    obtain ⟨hh, nn, rfl, hr, _, _, _, _, _, hnl⟩ := Qah n u yp yp x e2 (Qai e1)
    obtain ⟨g1, g2, g3⟩ := Qbz e1 (by decide) (by simp; omega)
    have hl := gF n us' g1 g2
    have e := hr.to
    show qH ⟨hh, toN n u hh, root⟩ + 2 <= n
    rw [<- e]
    unfold qH
    simp only [hnl, hr.cnt]
    simp at g3 ⊢
    omega
theorem QbB {n : Nat} {lk : Nat -> List UInt8} {root : Nat} {t : Tr} (hn : 2 <= n) (hn4 : n <= 400) (h : rdT n lk root = some t) : (y7 t).length <= 19000 := by
 have h1 := QbA hn h
 have h2 := Qby t (QaS h).1
 omega
theorem QbC {i : Nat} {B : List UInt8} {x : Nat × Nat} (h : rdH i B = some x) : x.2 < 65536 := by
 unfold rdH at h
 split at h
 ·cases h
  have h1 := Ql ((B.drop 16).take 2)
  have h2 : ((B.drop 16).take 2).length <= 2 := by simp; omega
  have h3 : 2 ^ (8 * ((B.drop 16).take 2).length) <= 2 ^ (8 * 2) := Nat.pow_le_pow_right (by omega) (by omega)
  have h4 : 2 ^ (8 * 2) = 65536 := by decide
  show qe ((B.drop 16).take 2) < 65536
  omega
 ·cases h
theorem QbD (D : Dv) : (yn D).1.2 < 65536 := by
 unfold yn
 cases h0 : rdH 0 (D.view 0) with
 | none =>
  cases h1 : rdH 1 (D.view 1) with
  | none => decide
  | some y => exact QbC h1
 | some x =>
  cases h1 : rdH 1 (D.view 1) with
  | none => exact QbC h0
  | some y =>
   simp only [nwst]
   split
   ·exact QbC h1
   ·exact QbC h0
def QU (n : Nat) (D : Dv) : Option Tr := rdT n D.view (yn D).1.2
theorem QbE (a : Nat) (bv : Value) (n : Nat) (cv : Value) (D : Dv) (w : World) (h : DQ w a bv n cv D) (hn8 : 8 <= n) (hn : n <= 400) (hq : D.q.length < 1000000) (hT : Tab w) :
  Calls prog 37 #[.iface 23 (.pointer (some ⟨a, 0, none⟩))] w (QaH a bv n cv D (yn D) (QU n D) w) :=
 QaI a bv n cv D (QU n D) w h hn8 hn hq (Or.inr hT) fun v W D1 hv hd hq1 _ hTT => by
  have e : QU n D = rdT n D1.view (yn D).1.2 := by
   unfold QU
   rw [show D1.view = D.view from funext fun i => hq1.view i]
  rw [e]
  exact QaW v a n _ bv cv D1 W hv hd hn8 (by omega) (by rw [hq1.q]; omega) (hTT hT) (QbD D)
def FitA : (h : Nat) -> Nd h -> Prop
 | 0, l => jX (.leaf l)
 | h + 1, ks => jX (nbN (h + 1) ks) /\ ∀ k : Kid h, List.Mem k ks -> FitA h k.2
theorem FitA.fits : ∀ {h : Nat} {n : Nd h}, FitA h n -> jX (nbN h n)
 | 0, _, h => h
 | _ + 1, _, h => h.1
theorem QbF {N : Nat} {lk : Nat -> List UInt8} : ∀ (h : Nat) (n : Nd h) (d i : Nat) (us : List Nat), h < d -> lk i = j3 (nbN h n) -> gZ lk h n -> FitA h n -> (i :: gB h n).Nodup -> (∀ b ∈ i :: gB h n, b ∉ us /\ b < N) -> ∃ u us', rdU N lk d i us = some (u, us') /\ Rep d u h n /\ ∀ b, b ∈ us' ↔ b ∈ us \/ b ∈ i :: gB h n
 | 0, l, d, i, us, hd, hi, _, hf, _, hu => by
  obtain ⟨d, rfl⟩ : ∃ d', d = d' + 1 := ⟨d - 1, by omega⟩
  have h1 := hu i (by simp)
  refine ⟨.inl l, i :: us, Q7z ⟨h1.2, h1.1⟩ (by rw [hi]; exact Q2A hf.fits), rfl, fun b => ?_⟩
  simp [gB]
  exact Or.comm
 | h + 1, (ks : List (Kid h)), d, i, us, hd, hi, hl, hf, hnd, hu => by
  obtain ⟨d, rfl⟩ : ∃ d', d = d' + 1 := ⟨d - 1, by omega⟩
  have h1 := hu i (by simp)
  have key : ∀ (L : List (Kid h)) (s : List Nat), (∀ k ∈ L, (lk k.3 = j3 (nbN h k.2) /\ gZ lk h k.2) /\ FitA h k.2) -> (L.flatMap (qW h)).Nodup -> (∀ b ∈ L.flatMap (qW h), b ∉ s /\ b < N) ->
    ∃ bs s', gP (rdK N lk d) (L.map fun k : Kid h => (k.1, k.3)) s = some (bs, s') /\ F2 (fun (k : qI (UNd d)) (k' : Kid h) => (k'.1 = k.1 /\ k'.3 = k.3) /\ Rep d k.2 h k'.2) bs L /\ ∀ b, b ∈ s' ↔ b ∈ s \/ b ∈ L.flatMap (qW h) := by
   intro L
   induction L with
   | nil =>
    intro s _ _ _
    exact ⟨[], s, rfl, F2.nil, fun b => by simp⟩
   | cons k r ih =>
    intro s hk hn hs
    rw [List.flatMap_cons] at hn hs
    have hn' := List.nodup_append.1 hn
    obtain ⟨u, s1, e1, hr1, hm1⟩ := QbF h k.2 d k.3 s (by omega) (hk k (by simp)).1.1 (hk k (by simp)).1.2 (hk k (by simp)).2 hn'.1 (fun b hb => hs b (List.mem_append_left _ hb))
    obtain ⟨bs, s2, e2, hr2, hm2⟩ := ih s1 (fun k' hk' => hk k' (by simp [hk'])) hn'.2.1 (fun b hb => ⟨fun hm => by
     rcases (hm1 b).1 hm with h1 | h1
     ·exact (hs b (List.mem_append_right _ hb)).1 h1
     ·exact hn'.2.2 b h1 b hb rfl, (hs b (List.mem_append_right _ hb)).2⟩)
    refine ⟨⟨k.1, u, k.3⟩ :: bs, s2, ?_, F2.append (F2.one ⟨⟨rfl, rfl⟩, hr1⟩) hr2, fun b => ?_⟩
    ·simp only [List.map_cons, gP]
     have : rdK N lk d (k.1, k.3) s = some (⟨k.1, u, k.3⟩, s1) := by unfold rdK; simp only; rw [e1]
     rw [this]
     simp only [e2]
    ·rw [hm2, hm1, List.flatMap_cons, List.mem_append]
     unfold qW
     exact or_assoc
  have hnd' := List.nodup_cons.1 hnd
  obtain ⟨bs, s', e1, hr, hm⟩ := key ks (i :: us) (fun k hk => ⟨jm.1 hl k hk, hf.2 k hk⟩) hnd'.2 (fun b hb => ⟨fun hm => by
   rcases List.mem_cons.1 hm with e | hm
   ·subst e; exact hnd'.1 hb
   ·exact (hu b (List.mem_cons_of_mem _ hb)).1 hm, (hu b (List.mem_cons_of_mem _ hb)).2⟩)
  refine ⟨.inr bs, s', ?_, hr, fun b => ?_⟩
  ·rw [Q7A ⟨h1.2, h1.1⟩ (by rw [hi]; exact Q2A hf.fits), e1]
  ·rw [hm, Q5G, List.mem_cons, List.mem_cons]
   constructor
   ·rintro ((h | h) | h)
    ·exact Or.inr (Or.inl h)
    ·exact Or.inl h
    ·exact Or.inr (Or.inr h)
   ·rintro (h | h | h)
    ·exact Or.inl (Or.inr h)
    ·exact Or.inl (Or.inl h)
    ·exact Or.inr h
theorem QbG : ∀ {h : Nat} {n : Nd h}, 40 <= yl h n -> qO h n = false
 | 0, l, hs => by
  cases hn : qO 0 l with
  | false => rfl
  | true =>
   have h' : List.isEmpty (α := Pr) l = true := hn
   have : l = ([] : List Pr) := List.isEmpty_iff.1 h'
   subst this
   exact absurd hs (by decide)
 | _ + 1, _, _ => rfl
theorem QbH : ∀ {h : Nat} {f : ByteArray} {n : Nd h}, WFN h f n -> q7 h n -> qO h n = false -> (0 < h -> 22 <= yl h n) -> ∃ p, p ∈ yN h n
 | 0, _, l, _, _, hn, _ => by
  cases l with
  | nil => cases hn
  | cons p r => exact ⟨p, List.mem_cons_self ..⟩
 | h + 1, f, (ks : List (Kid h)), hw, hf, _, _ => by
  obtain ⟨⟨n, x, r, e⟩, hk⟩ := (yF h f ks).1 hw
  have hm : (⟨f, n, x⟩ : Kid h) ∈ ks := by rw [e]; simp
  have h1 := (yM h ks).1 hf _ hm
  obtain ⟨p, hp⟩ := QbH (hk.all _ hm) h1.2 (QbG h1.1.1) (fun _ => by have := h1.1.1; omega)
  exact ⟨p, yX.2 ⟨_, hm, hp⟩⟩
theorem QbI {a b c : ByteArray} (h1 : ge b a) (h2 : bl b c = true) : bl a c = true := by
 rcases jW a b with h | h | h
 ·exact qX h h2
 ·rw [h]; exact h2
 ·rw [show bl b a = false from h1] at h; cases h
theorem QbJ : ∀ (h : Nat) (n : Nd h) (d : Nat) (u : UNd d) (f t : ByteArray), Rep d u h n -> WFN h f n -> q7 h n -> qO h n = false -> (0 < h -> 22 <= yl h n) -> (t = yp \/ (bl f t = true /\ ∀ p ∈ yN h n, bl p.1 t = true)) -> qi d f t u = some (h + 1)
 | _, _, 0, _, _, _, hr, _, _, _, _, _ => hr.elim
 | 0, (l : List Pr), d + 1, .inl l', f, t, hr, hw, _, hn, _, ht => by
  have e : l = l' := hr
  subst e
  have hL : sndL f t l = true := by
   have hrs : QI (l.map fun p : Pr => p.1) := by
    unfold QI
    rw [List.pairwise_map]
    exact hw.1
   have hri := Qaa (b := false) (f := f) (t := t) hrs (fun k hk => by
    obtain ⟨p, hp, rfl⟩ := List.mem_map.1 hk
    exact ⟨(hw.2 p hp).1, fun h => by cases h⟩) (ht.imp id fun h => ⟨h.1, fun k hk => by
    obtain ⟨p, hp, rfl⟩ := List.mem_map.1 hk
    exact h.2 p hp⟩)
   cases l with
   | nil => cases hn
   | cons p r =>
    have hp : be p.1 yp = false := (jV _ _).2 fun e => by
     have := (hw.2 p (List.mem_cons_self ..)).2.1
     rw [e] at this
     exact absurd this (by decide)
    simp only [sndL, hp, Bool.not_false, Bool.true_and]
    exact hri
  simp only [qi, hL, if_true]
 | 0, _, _ + 1, .inr _, _, _, hr, _, _, _, _, _ => hr.elim
 | _ + 1, _, _ + 1, .inl _, _, _, hr, _, _, _, _, _ => hr.elim
 | h + 1, (ns : List (Kid h)), d + 1, .inr ks, f, t, hr, hw, hf, _, h2, ht => by
  have hr : F2 (fun (k : qI (UNd d)) (k' : Kid h) => (k'.1 = k.1 /\ k'.3 = k.3) /\ Rep d k.2 h k'.2) ks ns := hr
  obtain ⟨⟨n0, x0, r0, e0⟩, hk⟩ := (yF h f ns).1 hw
  have hfu := (yM h ns).1 hf
  have hlen : 2 <= ns.length := by have : 22 <= 11 * ns.length := h2 (by omega); omega
  have hkey : ks.map (fun k => k.1) = ns.map fun k => k.1 := by
   refine List.ext_getElem? fun i => ?_
   rw [List.getElem?_map, List.getElem?_map]
   cases hki : ks[i]? with
   | none =>
    have : ns[i]? = none := by rw [List.getElem?_eq_none_iff] at hki ⊢; rw [<- hr.1]; exact hki
    rw [this]; rfl
   | some k =>
    have hi : i < ns.length := by rw [<- hr.1]; exact (List.getElem?_eq_some_iff.1 hki).1
    rw [List.getElem?_eq_getElem hi]
    simp only [Option.map_some]
    rw [(hr.2 i k _ hki (List.getElem?_eq_getElem hi)).1.1]
  have hfl : ∀ k ∈ ns, ∀ p ∈ yN h k.2, p ∈ yN (h + 1) ns := fun k hk1 p hp => yX.2 ⟨k, hk1, hp⟩
  have hex : ∀ k ∈ ns, ∃ p, p ∈ yN h k.2 /\ ge p.1 k.1 := by
   intro k hk1
   have h3 := hfu k hk1
   obtain ⟨p, hp⟩ := QbH (hk.all k hk1) h3.2 (QbG h3.1.1) (fun _ => by have := h3.1.1; omega)
   exact ⟨p, hp, (WFN.keys (hk.all k hk1) p hp).1⟩
  have hB : sndB f t ks = true := by
   have hrs : QI (ns.map fun k : Kid h => k.1) := by
    unfold QI
    rw [List.pairwise_map]
    exact hk.ord.imp fun hb => hb.1
   have hri := Qaa (b := false) (f := f) (t := t) hrs (fun k hk1 => by
    obtain ⟨q, hq, rfl⟩ := List.mem_map.1 hk1
    refine ⟨?_, fun h => by cases h⟩
    rw [e0] at hq
    rcases List.mem_cons.1 hq with e | hq
    ·subst e
     exact Q2D f
    ·have := hk.ord
     rw [e0] at this
     exact Qp ((List.pairwise_cons.1 this).1 q hq).1) (ht.imp id fun h3 => ⟨h3.1, fun k hk1 => by
    obtain ⟨q, hq, rfl⟩ := List.mem_map.1 hk1
    obtain ⟨p, hp, hge⟩ := hex q hq
    exact QbI hge (h3.2 p (hfl q hq p hp))⟩)
   rw [<- hkey] at hri
   cases ks with
   | nil => rw [<- hr.1] at hlen; simp at hlen
   | cons k r =>
    have h3 := (hr.2 0 k ⟨f, n0, x0⟩ rfl (by rw [e0]; rfl)).1.1
    have h4 : be k.1 f = true := (jg _ _).2 h3.symm
    have h5 : decide (1 < (k :: r).length) = true := decide_eq_true (by rw [hr.1]; omega)
    simp only [sndB, h4, h5, Bool.true_and]
    exact hri
  have hG : qJ (qi d) (szU d) t none ks = some (h + 1) := by
   refine Qad (Or.inl rfl) (fun e => by rw [e] at hr; rw [<- hr.1] at hlen; simp at hlen) fun i k hki => ?_
   have hi : i < ns.length := by rw [<- hr.1]; exact (List.getElem?_eq_some_iff.1 hki).1
   obtain ⟨q, hq⟩ : ∃ q, ns[i]? = some q := ⟨_, List.getElem?_eq_getElem hi⟩
   have hrk := hr.2 i k q hki hq
   have hqm := List.mem_of_getElem? hq
   have h3 := hfu q hqm
   have hsz : szU d k.2 = yl h q.2 := Qag hrk.2
   refine ⟨?_, by rw [hsz]; exact h3.1.1⟩
   rw [<- hrk.1.1]
   refine QbJ h q.2 d k.2 q.1 _ hrk.2 (hk.all q hqm) h3.2 (QbG h3.1.1) (fun _ => by have := h3.1.1; omega) ?_
   cases hnx : ks[i + 1]? with
   | none =>
    simp only [Option.map_none, Option.getD_none]
    refine ht.imp id fun h4 => ⟨?_, fun p hp => h4.2 p (hfl q hqm p hp)⟩
    obtain ⟨p, hp, hge⟩ := hex q hqm
    exact QbI hge (h4.2 p (hfl q hqm p hp))
   | some k2 =>
    simp only [Option.map_some, Option.getD_some]
    have hi2 : i + 1 < ns.length := by rw [<- hr.1]; exact (List.getElem?_eq_some_iff.1 hnx).1
    obtain ⟨q2, hq2⟩ : ∃ q, ns[i + 1]? = some q := ⟨_, List.getElem?_eq_getElem hi2⟩
    have hb : Bef h q q2 := by
     have := List.pairwise_iff_getElem.1 hk.ord i (i + 1) hi hi2 (by omega)
     rw [(List.getElem?_eq_some_iff.1 hq).2, (List.getElem?_eq_some_iff.1 hq2).2] at this
     exact this
    rw [<- (hr.2 (i + 1) k2 q2 hnx hq2).1.1]
    exact Or.inr ⟨hb.1, fun p hp => hb.2 p hp⟩
  simp only [qi, hB, if_true, hG, Option.map_some]
theorem QbK : ∀ {h : Nat} {f : ByteArray} {n : Nd h}, WFN h f n -> q7 h n -> yl h n <= 122 -> FmS h n -> (∀ b ∈ gB h n, b < 65536) -> FitA h n
 | 0, _, _, hw, _, hs, _, _ => ⟨fun p hp => ⟨(hw.2 p hp).2.2.1, (hw.2 p hp).2.2.2⟩, hs⟩
 | h + 1, f, (ks : List (Kid h)), hw, hf, hs, hm, hb => by
  have hk := ((yF h f ks).1 hw).2
  have hfu := (yM h ks).1 hf
  have hfm := Q9i.1 hm
  have hb : ∀ b ∈ ks.flatMap (qW h), b < 65536 := hb
  have hb1 : ∀ k ∈ ks, ∀ b ∈ qW h k, b < 65536 := fun k hk1 b hb1 => hb b (List.mem_flatMap.2 ⟨k, hk1, hb1⟩)
  refine ⟨⟨fun q hq => ?_, ?_⟩, fun k hk1 => QbK (hk.all k hk1) (hfu k hk1).2 (hfu k hk1).1.2 (hfm k hk1).2 fun b hb2 => hb1 k hk1 b (List.mem_cons_of_mem _ hb2)⟩
  ·obtain ⟨k, hk1, rfl⟩ := List.mem_map.1 hq
   exact ⟨(hfm k hk1).1, hb1 k hk1 k.3 (List.mem_cons_self ..)⟩
  ·rw [List.length_map]
   exact hs
theorem QbL : ∀ {h : Nat} {f : ByteArray} {n : Nd h}, WFN h f n -> h + 1 <= gm h n
 | 0, _, _, _ => Nat.le_refl _
 | h + 1, f, (ks : List (Kid h)), hw => by
  obtain ⟨⟨n, x, r, e⟩, hk⟩ := (yF h f ks).1 hw
  have h1 := QbL (hk.all ⟨f, n, x⟩ (by rw [e]; simp))
  show h + 1 + 1 <= 1 + (ks.map fun k : Kid h => gm h k.2).sum
  rw [e]
  simp only [List.map_cons, List.sum_cons]
  have h1 : h + 1 <= gm h n := h1
  omega
theorem Whl.read {n : Nat} {lk : Nat -> List UInt8} {t : Tr} (h : Whl n lk t) (hn : n <= 65536) : rdT n lk t.pl = some t := by
 have hp : t.pl ≠ 0 := by have := h.off t.pl (by simp); omega
 have hfit : FitA t.h t.n := QbK h.tw.wf h.tw.full h.tw.hi h.frs fun b hb => by have := (h.off b (List.mem_cons_of_mem _ hb)).2; omega
 have hc := gF n _ h.nd fun b hb => (h.off b hb).2
 have hc2 := Q5H t.h t.n
 have hc3 := QbL h.tw.wf
 simp only [List.length_cons] at hc
 obtain ⟨u, us', e1, hr, _⟩ := QbF (N := n) t.h t.n n t.pl [1, 0] (by omega) h.at_ h.lies hfit h.nd (fun b hb => ⟨fun hm => by
  have := (h.off b hb).1
  simp at hm
  omega, (h.off b hb).2⟩)
 have e2 := QbJ t.h t.n n u yp yp hr h.tw.wf h.tw.full h.nil h.tw.two (Or.inl rfl)
 have e3 := QaP hp e1 e2
 rw [e3]
 have e4 := hr.to
 show some (⟨t.h, toN n u t.h, t.pl⟩ : Tr) = some t
 rw [<- e4]
theorem StK.whl {n : Nat} {lk : Nat -> List UInt8} {lt t : Tr} (h : StK n lk lt t) (hn : qO lt.h lt.n = false) : Whl n lk lt := by
 have hp : qU lt = lt.pl :: gB lt.h lt.n := by unfold qU; rw [hn]; rfl
 rcases h.lies with h1 | h1
 ·rw [hn] at h1; cases h1
 ·refine ⟨h.ltw, hn, h1.1, h1.2, ?_, fun b hb => ?_, h.fm⟩
  ·have := (List.nodup_append.1 h.us).1
   rw [hp] at this
   exact ((List.reverse_perm _).nodup_iff).1 this
  ·rw [<- hp] at hb
   exact ⟨Q9n h.us hb, h.ub b hb⟩
theorem StK.read {n : Nat} {lk : Nat -> List UInt8} {lt t : Tr} (h : StK n lk lt t) (hn : n <= 65536) : rdT n lk lt.pl = some lt := by
 cases hz : qO lt.h lt.n with
 | true =>
  rw [Q9o hz h.ltw]
  exact QaO n lk
 | false => exact (h.whl hz).read hn
theorem StK.found {n : Nat} {D : Dv} {lt t : Tr} (h : StK n D.view lt t) (hh : (yn D).1.2 = lt.pl) (hn : n <= 65536) : QU n D = some lt := by
 unfold QU
 rw [hh]
 exact h.read hn
theorem QbM (a : Nat) (bv : Value) (n : Nat) (cv : Value) (D : Dv) (t : Tr) (w : World) (h : DQ w a bv n cv D) (hn8 : 8 <= n) (hn : n <= 400) (hq : D.q.length < 1000000) (hT : Tab w) (hg : qc D) (hh : (yn D).2 = true) (ht : QU n D = some t) :
  Calls prog 17 #[.pointer (some ⟨a, 0, none⟩)] w fun e w' => ∃ x v r D', e = .returned (.tuple #[.pointer (some ⟨x, 0, none⟩), .nilIface]) /\ Rec x v a n ⟨1, (yn D).1.1, (yn D).1.2, t, r⟩ r t w' /\ w.heap.size <= x /\ DQ w' a bv n cv D' /\ Qt D D' /\ y5 [a] w w' := by
 refine QaJ a w _ ((QbE a bv n cv D w h hn8 hn hq hT).mono ?_)
 rintro e w' ⟨o, pv, err, D', rfl, hc, hd, hk, ⟨_, he, _⟩ | ⟨rfl, _, rfl, hno⟩ | ⟨rfl, hqt, _, t', r, x, v, ht', rfl, hr, hx⟩⟩
 ·exact absurd hg he.bad
 ·rcases hno with h1 | h1
  ·rw [hh] at h1; cases h1
  ·rw [ht] at h1; cases h1
 ·have he : err = .nilIface := hc
  subst he
  rw [ht] at ht'
  cases ht'
  exact ⟨_, _, rfl, x, v, r, D', rfl, hr, hx, hd, hqt, hk⟩
theorem StK.qt {n : Nat} {D D' : Dv} {lt t : Tr} (h : StK n D.view lt t) (hq : Qt D D') : StK n D'.view lt t := by
 rw [show D'.view = D.view from funext fun i => hq.view i]
 exact h
def Dq (L : List UInt8) (c wr t : Int) : Dv := ⟨L, [], c, wr, t, -1, 0, 0⟩
structure Dev (w : World) (a g n : Nat) (L : List UInt8) (c wr t : Int) : Prop where
 d : DC w a (.slice (some ⟨g, 0, none⟩) n n) (.slice none 0 0) (Dq L c wr t)
 b : w.heap[g]? = some (.cells (u8s L).toArray 80 (0, 0))
 l : L.length = n * 128
 m : n <= 1000
section
variable {w w' : World} {a g n : Nat} {L : List UInt8} {c wr t : Int}
theorem Dev.dq (h : Dev w a g n L c wr t) : DQ w a (.slice (some ⟨g, 0, none⟩) n n) n (.slice none 0 0) (Dq L c wr t) :=
 ⟨h.d, Q0k (by rw [yd]; exact h.l) h.b (Nat.zero_le _) (Nat.le_refl _) (by have := h.m; unfold maxLen; omega) (by rw [yd]; exact h.l) (List.take_of_length_le (by rw [yd]; exact Nat.le_of_eq h.l)), World.ownsRow_nil _ _ _ _, by simp [Fit, Dq], fun _ => rfl⟩
theorem Dev.good (L : List UInt8) (c wr t : Int) : qc (Dq L c wr t) := ⟨rfl, rfl, rfl⟩
theorem DQ.dev {cv : Value} {D : Dv} (h : DQ w a (.slice (some ⟨g, 0, none⟩) n n) n cv D) (hq : D.q = []) (hg : D.off = -1 /\ D.fr = 0 /\ D.to = 0) (hn : n <= 1000) : Dev w a g n D.L D.c D.wr D.t := by
 obtain rfl := h.z hq
 have e : D = Dq D.L D.c D.wr D.t := by
  obtain ⟨h1, h2, h3⟩ := hg
  obtain ⟨L, q, c, wr, t, o, f, u⟩ := D
  simp only at hq h1 h2 h3
  subst hq h1 h2 h3
  rfl
 refine ⟨by rw [<- e]; exact h.d, ?_, h.l, hn⟩
 obtain ⟨hl, h | ⟨g', cap, cur, e, _, hh, h1, h2, h3, h4⟩⟩ := h.b
 ·exact absurd h.1 (by simp)
 ·simp only [Value.slice.injEq, Option.some.injEq, Addr.mk.injEq] at e
  obtain ⟨⟨rfl, -⟩, -, rfl⟩ := e
  rw [hh]
  congr 1
  congr 1
  rw [<- h4, List.take_of_length_le (by simpa using Nat.le_of_eq h3)]
end
theorem QbN (x : Int) (w : World) : Calls prog 26 #[.int .i64 x] w fun e w' => ∃ a g, e = .returned (.pointer (some ⟨a, 0, none⟩)) /\ Dev w' a g (nb x) (List.replicate (nb x * 128) 0) 0 0 0 /\ w.heap.size <= a /\ w.heap.size <= g /\ y5 [] w w' := by
 refine (Q0L x w).mono ?_
 rintro e w' ⟨a, bv, h1, h2, h3, ⟨g, rfl, h4⟩, h5⟩
 exact ⟨a, g, h1, h2.dev rfl ⟨rfl, rfl, rfl⟩ (Nat.le_of_lt (Q0E x)), h3, h4, h5⟩
def St (k : Nat) (L : List UInt8) : Prop := if k = 0 then rdH 0 (yz L 0) = none /\ rdH 1 (yz L 1) = none else rdH 0 (yz L 0) = some (2 * k, 0) /\ rdH 1 (yz L 1) = some (2 * k - 1, 0)
theorem QbO {L : List UInt8} {c wr t : Int} : yn (Dq L c wr t) = nwst (rdH 0 (yz L 0)) (rdH 1 (yz L 1)) := rfl
theorem St.newest {k : Nat} {L : List UInt8} (h : St k L) (hk : k <= 50000) {c wr t : Int} : yn (Dq L c wr t) = ((2 * k, 0), decide (0 < k)) := by
 rw [QbO]
 unfold St at h
 split at h
 ·subst k
  rw [h.1, h.2]
  rfl
 ·rw [h.1, h.2]
  have e : nwr (2 * k - 1) (2 * k) = false := by
   unfold nwr
   have e1 : (((2 * k - 1 : Nat) : Int) - ((2 * k : Nat) : Int)) = -1 := by omega
   rw [e1]
   have e3 : IntKind.u64.wrap (-1) = 18446744073709551615 := by kernel_rfl
   rw [e3]
   exact decide_eq_false (by simp [wrap64])
  have e2 : decide (0 < k) = true := decide_eq_true (by omega)
  simp [nwst, e, e2]
theorem QbP (N : Nat) (h : 1024 <= N) : St 0 (List.replicate N 0) := by
 have key : ∀ i, i <= 1 -> (yz (List.replicate N 0) i).take 8 ≠ Q1d := by
  intro i hi
  unfold yz
  rw [List.drop_replicate, List.take_replicate, List.take_replicate, Nat.min_eq_left (by omega)]
  decide
 unfold St
 rw [if_pos rfl]
 exact ⟨Q9y (key 0 (by omega)), Q9y (key 1 (by omega))⟩
theorem Lh.dev {L : List UInt8} {c wr t : Int} {T R : Nat} {D' : Dv} (h : Lh (Dq L c wr t) T R D') : D' = Dq (qN L (T % 2) (blk T R)) D'.c D'.wr t := by
 obtain ⟨D1, h1, h2⟩ := h
 have a1 := h2.L
 have a2 := h2.q
 have a3 := h2.t.trans h1.t
 have a4 := h2.off.trans h1.off
 have a5 := h2.fr.trans h1.fr
 have a6 := h2.to.trans h1.to
 rw [h1.L, h1.q] at a1
 obtain ⟨L', q', c', wr', t', o', f', u'⟩ := D'
 simp only [Dq] at *
 subst a1 a2 a3 a4 a5 a6
 rfl
theorem Lf.bad {L : List UInt8} {c wr t : Int} {T R : Nat} {D' : Dv} (h : Lf (Dq L c wr t) T R D') : False := by
 rcases h with h | ⟨D1, h1, h2⟩
 ·exact h.bad ⟨rfl, rfl, rfl⟩
 ·exact h2.bad (h1.good.2 ⟨rfl, rfl, rfl⟩)
theorem St.next {k n : Nat} {L : List UInt8} (hk : k <= 50000) (hL : L.length = n * 128) (hn : 8 <= n) : St (k + 1) (qN (qN L ((2 * k + 1) % 2) (blk (2 * k + 1) 0)) ((2 * k + 2) % 2) (blk (2 * k + 2) 0)) := by
 have e1 : (2 * k + 1) % 2 = 1 := by omega
 have e2 : (2 * k + 2) % 2 = 0 := by omega
 have g1 := Q9w (t := 2 * k + 1) (r := 0) (by omega) (by omega)
 have g2 := Q9w (t := 2 * k + 2) (r := 0) (by omega) (by omega)
 rw [e1] at g1
 rw [e2] at g2
 unfold St
 rw [if_neg (by omega), e1, e2]
 have hl := jG L (blk (2 * k + 1) 0) n 1 hL (by omega) (qT _ _)
 rw [Zu hl (by omega) (qT _ _), if_pos rfl, Zu hl (by omega) (qT _ _), if_neg (by omega), Zu hL (by omega) (qT _ _), if_pos rfl]
 exact ⟨g2, g1⟩
theorem Lh.wr {D D' : Dv} {T R : Nat} (h : Lh D T R D') : D'.wr = wrap64 (D.wr + 1) := by
 obtain ⟨D1, h1, h2⟩ := h
 rw [h2.wr, h1.wr]
theorem QbQ {w : World} {a g n k : Nat} {L : List UInt8} {c wr t : Int} (h : Dev w a g n L c wr t) (h8 : 8 <= n) (h4 : n <= 400) (hk : k <= 50000) (hs : St k L) : Calls prog 27 #[.pointer (some ⟨a, 0, none⟩)] w fun e w' =>
  e = .returned .nilIface /\ (∃ L' c' wr', Dev w' a g n L' c' wr' t /\ St (k + 1) L' /\ wr' = wrap64 (wrap64 (wr + 1) + 1)) /\ y5 [a, g] w w' := by
 refine (Q6U a w _ _ (Q6T a _ n _ _ w h.dq h8 h4 (by show ([] : List _).length < _; simp) (Or.inl (Dev.good L c wr t)))).mono ?_
 rintro e w' ⟨o, err, rfl, hc, ⟨cv', D', hd', _, hP⟩, hk'⟩
 have e0 : nxt (2 * k) = 2 * k + 1 := Nat.mod_eq_of_lt (by omega)
 have e1 : nxt (2 * k + 1) = 2 * k + 2 := Nat.mod_eq_of_lt (by omega)
 unfold FmtP at hP
 rw [hs.newest hk] at hP
 simp only [e0, e1] at hP
 rcases hP with ⟨rfl, D1, l1, l2⟩ | ⟨rfl, hP⟩
 ·have hw1 := l1.wr
  have d1 := l1.dev
  rw [d1] at l2
  have hw2 := l2.wr
  have d2 := l2.dev
  have herr : err = .nilIface := hc
  subst herr
  rw [d2] at hd'
  exact ⟨rfl, ⟨_, _, _, hd'.dev rfl ⟨rfl, rfl, rfl⟩ (by omega), St.next hk h.l h8, by
   rw [hw2]
   show wrap64 (D1.wr + 1) = _
   rw [hw1]
   rfl⟩, hk'.mono (by intro y hy; simpa [ym, Value.ownBlock] using hy)⟩
 ·rcases hP with hP | ⟨D1, l1, hP⟩
  ·exact hP.bad.elim
  ·have d1 := l1.dev
   rw [d1] at hP
   exact hP.bad.elim
theorem QbR {w : World} {a g n k : Nat} {L : List UInt8} {c wr t : Int} (h : Dev w a g n L c wr t) (h8 : 8 <= n) (h4 : n <= 400) (hk : k <= 50000) (hs : St k L) : Calls prog 27 #[.pointer (some ⟨a, 0, none⟩)] w fun e w' =>
  e = .returned .nilIface /\ (∃ L' c' wr', Dev w' a g n L' c' wr' t /\ St (k + 1) L') /\ y5 [a, g] w w' :=
 (QbQ h h8 h4 hk hs).mono fun _ _ ⟨h1, ⟨L', c', wr', h2, h3, _⟩, h4⟩ => ⟨h1, ⟨L', c', wr', h2, h3⟩, h4⟩
theorem QbS {a n : Nat} {bv cv : Value} (h8 : 8 <= n) : ∀ v W D1, Vol W v a n -> DQ W a bv n cv D1 -> Calls prog 71 #[.pointer (some ⟨v, 0, none⟩), .int .i64 0] W (TrdR a bv n cv D1 (some ⟨0, ([] : List Pr), 0⟩) W) := by
 intro v W D1 hv hd
 refine (QaL v a n W hv h8).mono ?_
 rintro e w' ⟨rfl, k⟩
 exact ⟨D1, hd.k0 k, k.mono (by simp), Or.inl ⟨Qt.refl D1, _, _, rfl, rfl, Or.inl ⟨rfl, rfl⟩⟩⟩
theorem QbT {w : World} {a g n k : Nat} {L : List UInt8} {c wr t : Int} (h : Dev w a g n L c wr t) (h8 : 8 <= n) (h4 : n <= 400) (hk : k <= 50000) (hs : St k L) :
  Calls prog 37 #[.iface 23 (.pointer (some ⟨a, 0, none⟩))] w (QaH a (.slice (some ⟨g, 0, none⟩) n n) n (.slice none 0 0) (Dq L c wr t) ((2 * k, 0), decide (0 < k)) (some ⟨0, ([] : List Pr), 0⟩) w) := by
 have hR := QaI a _ n _ _ (some ⟨0, ([] : List Pr), 0⟩) w h.dq h8 h4 (by show ([] : List _).length < _; simp) (Or.inl (Dev.good L c wr t)) (by
  rw [hs.newest hk]
  exact fun v W D1 hv hd _ _ _ => QbS h8 v W D1 hv hd)
 rw [hs.newest hk] at hR
 exact hR
end Go.Proofs.YtcklgafpgdhnaabGreatDoor
