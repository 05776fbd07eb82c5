import Derived.Test.YtcklgafpgdhnaabGreatDoorPtaf
import Derived.Test.YtcklgafpgdhnaabGreatDoorPtba
set_option maxRecDepth 100000
set_option maxHeartbeats 4000000
open List renaming getElem_toArray → zA, getElem_cons_succ → zB, getElem_cons_zero → zC, setIfInBounds_toArray → zD, set_cons_succ → zE, set_cons_zero → zF
namespace Go.Proofs.YtcklgafpgdhnaabGreatDoor
open Go.RowKit


def mapS {α β σ : Type} (f : α → σ → β × σ) : List α → σ → List β × σ
 | [], s => ([], s)
 | x :: l, s => ((f x s).1 :: (mapS f l (f x s).2).1, (mapS f l (f x s).2).2)
theorem mapS_snoc {α β σ : Type} (f : α → σ → β × σ) (l : List α) (x : α) : ∀ s : σ, mapS f (l ++ [x]) s = ((mapS f l s).1 ++ [(f x (mapS f l s).2).1], (f x (mapS f l s).2).2) := by
 induction l with
 | nil => intro s; rfl
 | cons y l ih => intro s; simp [mapS, ih]
theorem mapS_len {α β σ : Type} (f : α → σ → β × σ) (l : List α) : ∀ s : σ, (mapS f l s).1.length = l.length := by
 induction l with
 | nil => intro s; rfl
 | cons y l ih => intro s; simp [mapS, ih]

def nbN : (h : Nat) → Nd h → Nb
 | 0, l => .leaf l
 | h + 1, ks => .branch (List.map (fun k : Kid h => (k.1, k.3)) ks)

def tkF (us : List Nat) : Nat → Nat → Nat
 | 0, i => i
 | f + 1, i => if i ∈ us then tkF us f (i + 1) else i
def mxs (us : List Nat) : Nat := us.foldr (fun a b => max a b) 0
theorem le_mxs {us : List Nat} {i : Nat} (h : i ∈ us) : i ≤ mxs us := by
 induction us with
 | nil => cases h
 | cons a r ih =>
  have e : mxs (a :: r) = max a (mxs r) := rfl
  rw [e]
  rcases List.mem_cons.1 h with rfl | h
  ·omega
  ·have := ih h
   omega
def tk (us : List Nat) : Nat := tkF us (mxs us + 1) 0
theorem tkF_not (us : List Nat) : ∀ f i, mxs us + 1 ≤ f + i → tkF us f i ∉ us
 | 0, i, h => fun hm => by have := le_mxs hm; simp only [tkF] at this; omega
 | f + 1, i, h => by
  rw [tkF]
  split
  ·exact tkF_not us f (i + 1) (by omega)
  ·assumption
theorem tk_not (us : List Nat) : tk us ∉ us := tkF_not us _ _ (by omega)
theorem tkF_below (us : List Nat) : ∀ f i, (∀ j, j < i → j ∈ us) → ∀ j, j < tkF us f i → j ∈ us
 | 0, _, h, j, hj => h j hj
 | f + 1, i, h, j, hj => by
  rw [tkF] at hj
  split at hj
  ·rename_i hi
   refine tkF_below us f (i + 1) (fun j hj => ?_) j hj
   by_cases e : j = i
   ·rw [e]; exact hi
   ·exact h j (by omega)
  ·exact h j hj
theorem tk_below (us : List Nat) {j : Nat} (h : j < tk us) : j ∈ us := tkF_below us _ 0 (by omega) j h
theorem tk_eq {us : List Nat} {i : Nat} (h1 : i ∉ us) (h2 : ∀ j, j < i → j ∈ us) : tk us = i := by
 rcases Nat.lt_trichotomy (tk us) i with h | h | h
 ·exact absurd (h2 _ h) (tk_not us)
 ·exact h
 ·exact absurd (tk_below us h) h1
theorem holes : ∀ (n : Nat) (us : List Nat), (∀ j, j < n → j ∈ us) → n ≤ us.length
 | 0, _, _ => Nat.zero_le _
 | n + 1, us, h => by
  have hn := h n (by omega)
  have := holes n (us.erase n) fun j hj => (List.mem_erase_of_ne (by omega)).2 (h j (by omega))
  rw [List.length_erase_of_mem hn] at this
  have : 0 < us.length := List.length_pos_of_mem hn
  omega
theorem tk_room {us : List Nat} {n : Nat} (h : us.length < n) : tk us < n := by
 rcases Nat.lt_or_ge (tk us) n with h' | h'
 ·exact h'
 ·have := holes n us fun j hj => tk_below us (by omega)
  omega

structure Ls where
 us : List Nat
 ws : List (Nat × List UInt8)
def Ls.step (s : Ls) (B : List UInt8) : Ls := ⟨tk s.us :: s.us, s.ws ++ [(tk s.us, B)]⟩
def layN : (h : Nat) → Nd h → Ls → Nd h × Ls
 | 0, l, s => (l, s)
 | h + 1, ks, s => mapS (fun (k : Kid h) (s : Ls) => if k.3 = 0 then (⟨k.1, (layN h k.2 s).1, tk (layN h k.2 s).2.us⟩, (layN h k.2 s).2.step (encN (nbN h (layN h k.2 s).1))) else (k, s)) ks s
def layK (h : Nat) (k : Kid h) (s : Ls) : Kid h × Ls := if k.3 = 0 then (⟨k.1, (layN h k.2 s).1, tk (layN h k.2 s).2.us⟩, (layN h k.2 s).2.step (encN (nbN h (layN h k.2 s).1))) else (k, s)
theorem layN_succ (h : Nat) (ks : List (Kid h)) (s : Ls) : layN (h + 1) ks s = mapS (layK h) ks s := rfl
theorem layK_old {h : Nat} {k : Kid h} (e : k.3 ≠ 0) (s : Ls) : layK h k s = (k, s) := by rw [layK, if_neg e]
theorem layK_new {h : Nat} {k : Kid h} (e : k.3 = 0) (s : Ls) : layK h k s = (⟨k.1, (layN h k.2 s).1, tk (layN h k.2 s).2.us⟩, (layN h k.2 s).2.step (encN (nbN h (layN h k.2 s).1))) := by rw [layK, if_pos e]

def erN : (h : Nat) → Nd h → Nd h
 | 0, l => l
 | h + 1, ks => List.map (fun k : Kid h => (⟨k.1, erN h k.2, 0⟩ : Kid h)) ks
def erK (h : Nat) (k : Kid h) : Kid h := ⟨k.1, erN h k.2, 0⟩
theorem erN_succ (h : Nat) (ks : List (Kid h)) : erN (h + 1) ks = ks.map (erK h) := rfl
theorem er_flat : ∀ (h : Nat) (n : Nd h), flatN h (erN h n) = flatN h n
 | 0, _ => rfl
 | h + 1, ks => by
  have : ∀ L : List (Kid h), (L.map (erK h)).flatMap (fun k => flatN h k.2) = L.flatMap fun k => flatN h k.2 := by
   intro L
   rw [List.flatMap_map]
   congr 1
   funext k
   exact er_flat h k.2
  exact this ks
theorem er_size : ∀ (h : Nat) (n : Nd h), sizeN h (erN h n) = sizeN h n
 | 0, _ => rfl
 | h + 1, ks => by
  have : ∀ L : List (Kid h), 11 * (L.map (erK h)).length = 11 * L.length := by
   intro L
   rw [List.length_map]
  exact this ks
theorem er_cnt : ∀ (h : Nat) (n : Nd h), cntN h (erN h n) = cntN h n
 | 0, _ => rfl
 | h + 1, ks => by
  have : ∀ L : List (Kid h), 1 + ((L.map (erK h)).map fun k => cntN h k.2).sum = 1 + (L.map fun k => cntN h k.2).sum := by
   intro L
   rw [List.map_map]
   congr 3
   funext k
   exact er_cnt h k.2
  exact this ks
theorem er_nil : ∀ (h : Nat) (n : Nd h), nilN h (erN h n) = nilN h n
 | 0, _ => rfl
 | _ + 1, _ => rfl
theorem er_bef (h : Nat) (a b : Kid h) : Bef h (erK h a) (erK h b) ↔ Bef h a b := by unfold Bef erK; rw [er_flat]
theorem er_wf : ∀ (h : Nat) (f : ByteArray) (n : Nd h), WFN h f (erN h n) ↔ WFN h f n
 | 0, _, _ => Iff.rfl
 | h + 1, f, (ks : List (Kid h)) => by
  refine (WFN_succ h f (ks.map (erK h))).trans (Iff.trans ?_ (WFN_succ h f ks).symm)
  constructor
  ·rintro ⟨⟨n, x, r, e⟩, ho, ha⟩
   refine ⟨?_, ?_, fun a hm => (er_wf h a.1 a.2).1 (ha _ (List.mem_map.2 ⟨a, hm, rfl⟩))⟩
   ·cases ks with
    | nil => cases e
    | cons a r' =>
     rw [List.map_cons] at e
     have e1 := (List.cons.inj e).1
     refine ⟨a.2, a.3, r', ?_⟩
     have e2 : a.1 = f := congrArg KidOf.fr e1
     rw [← e2]
   ·exact (List.pairwise_map.1 ho).imp fun {a b} hab => (er_bef h a b).1 hab
  ·rintro ⟨⟨n, x, r, e⟩, ho, ha⟩
   refine ⟨⟨erN h n, 0, r.map (erK h), by rw [e]; rfl⟩, List.pairwise_map.2 (ho.imp fun {a b} hab => (er_bef h a b).2 hab), ?_⟩
   intro a hm
   obtain ⟨b, hb, rfl⟩ := List.mem_map.1 hm
   exact (er_wf h b.1 b.2).2 (ha b hb)
theorem er_full : ∀ (h : Nat) (n : Nd h), FullN h (erN h n) ↔ FullN h n
 | 0, _ => Iff.rfl
 | h + 1, (ks : List (Kid h)) => by
  refine (FullN_succ h (ks.map (erK h))).trans (Iff.trans ?_ (FullN_succ h ks).symm)
  constructor
  ·intro H a hm
   have := H _ (List.mem_map.2 ⟨a, hm, rfl⟩)
   unfold Rt erK at this
   rw [er_size] at this
   exact ⟨this.1, (er_full h a.2).1 this.2⟩
  ·intro H a hm
   obtain ⟨b, hb, rfl⟩ := List.mem_map.1 hm
   have := H b hb
   unfold Rt erK
   rw [er_size]
   exact ⟨this.1, (er_full h b.2).2 this.2⟩
theorem lay_er : ∀ (h : Nat) (n : Nd h) (s : Ls), erN h (layN h n s).1 = erN h n
 | 0, _, _ => rfl
 | h + 1, (ks : List (Kid h)), s => by
  have hk : ∀ (k : Kid h) (s : Ls), erK h (layK h k s).1 = erK h k := by
   intro k s
   unfold layK
   split
   ·unfold erK
    rw [lay_er h k.2 s]
   ·rfl
  have : ∀ (L : List (Kid h)) (s : Ls), (mapS (layK h) L s).1.map (erK h) = L.map (erK h) := by
   intro L
   induction L with
   | nil => intro s; rfl
   | cons a r ih => intro s; simp only [mapS, List.map_cons, hk, ih]
  exact this ks s
theorem of_er {h : Nat} {n n' : Nd h} (e : erN h n' = erN h n) : flatN h n' = flatN h n ∧ sizeN h n' = sizeN h n ∧ cntN h n' = cntN h n ∧ nilN h n' = nilN h n ∧ (∀ f, WFN h f n → WFN h f n') ∧ (FullN h n → FullN h n') :=
 ⟨by rw [← er_flat h n', e, er_flat], by rw [← er_size h n', e, er_size], by rw [← er_cnt h n', e, er_cnt], by rw [← er_nil h n', e, er_nil], fun f hw => (er_wf h f n').1 (by rw [e]; exact (er_wf h f n).2 hw), fun hf => (er_full h n').1 (by rw [e]; exact (er_full h n).2 hf)⟩

def frN : (h : Nat) → Nd h → Nat
 | 0, _ => 0
 | h + 1, ks => (List.map (fun k : Kid h => if k.3 = 0 then 1 + frN h k.2 else 0) ks).sum
inductive Stp : Ls → Ls → Prop
 | refl (s : Ls) : Stp s s
 | step {s s' : Ls} (h : Stp s s') (B : List UInt8) : Stp s (s'.step B)
theorem Stp.trans {a b c : Ls} (h : Stp a b) (g : Stp b c) : Stp a c := by
 induction g with
 | refl => exact h
 | step _ B ih => exact ih.step B
theorem lay_stp : ∀ (h : Nat) (n : Nd h) (s : Ls), Stp s (layN h n s).2 ∧ (layN h n s).2.ws.length = s.ws.length + frN h n
 | 0, _, s => ⟨.refl s, by simp [layN, frN]⟩
 | h + 1, ks, s => by
  have hk : ∀ (k : Kid h) (s : Ls), Stp s (layK h k s).2 ∧ (layK h k s).2.ws.length = s.ws.length + (if k.3 = 0 then 1 + frN h k.2 else 0) := by
   intro k s
   unfold layK
   obtain ⟨h1, h2⟩ := lay_stp h k.2 s
   split
   ·refine ⟨h1.step _, ?_⟩
    simp only [Ls.step, List.length_append, h2, List.length_singleton]
    omega
   ·exact ⟨.refl s, by simp⟩
  have : ∀ (L : List (Kid h)) (s : Ls), Stp s (mapS (layK h) L s).2 ∧ (mapS (layK h) L s).2.ws.length = s.ws.length + (L.map fun k : Kid h => if k.3 = 0 then 1 + frN h k.2 else 0).sum := by
   intro L
   induction L with
   | nil => intro s; exact ⟨.refl s, by simp [mapS]⟩
   | cons a r ih =>
    intro s
    obtain ⟨h1, h2⟩ := hk a s
    obtain ⟨h3, h4⟩ := ih (layK h a s).2
    refine ⟨h1.trans h3, ?_⟩
    simp only [mapS, List.map_cons, List.sum_cons]
    omega
  exact this ks s

end Go.Proofs.YtcklgafpgdhnaabGreatDoor

namespace Go.Proofs.YtcklgafpgdhnaabGreatDoor
open Go.RowKit


def UNd : Nat → Type
 | 0 => Unit
 | d + 1 => List Pr ⊕ List (KidOf (UNd d))
def mapO {α β σ : Type} (f : α → σ → Option (β × σ)) : List α → σ → Option (List β × σ)
 | [], s => some ([], s)
 | x :: l, s => match f x s with
  | none => none
  | some (b, s1) => match mapO f l s1 with
   | none => none
   | some (bs, s2) => some (b :: bs, s2)
theorem mapO_snoc {α β σ : Type} (f : α → σ → Option (β × σ)) (l : List α) (x : α) : ∀ s : σ, mapO f (l ++ [x]) s = match mapO f l s with
  | none => none
  | some (bs, s1) => match f x s1 with
   | none => none
   | some (b, s2) => some (bs ++ [b], s2) := by
 induction l with
 | nil =>
  intro s
  simp only [List.nil_append, mapO]
 | cons y l ih =>
  intro s
  simp only [List.cons_append, mapO]
  cases hy : f y s with
  | none => rfl
  | some r =>
   obtain ⟨b, s1⟩ := r
   simp only [ih]
   cases mapO f l s1 with
   | none => rfl
   | some r2 =>
    obtain ⟨bs, s2⟩ := r2
    simp only
    cases f x s2 <;> rfl
theorem mapO_break {α β σ : Type} (f : α → σ → Option (β × σ)) (l r : List α) (x : α) (s s1 : σ) (bs : List β) (h1 : mapO f l s = some (bs, s1)) (h2 : f x s1 = none) : mapO f (l ++ (x :: r)) s = none := by
 induction l generalizing s bs with
 | nil =>
  simp only [mapO, Option.some.injEq, Prod.mk.injEq] at h1
  obtain ⟨_, rfl⟩ := h1
  simp [mapO, h2]
 | cons y l ih =>
  simp only [mapO] at h1
  simp only [List.cons_append, mapO]
  cases hy : f y s with
  | none => rfl
  | some q =>
   obtain ⟨b, s2⟩ := q
   rw [hy] at h1
   simp only at h1 ⊢
   cases hm : mapO f l s2 with
   | none => rw [hm] at h1; cases h1
   | some q2 =>
    obtain ⟨bs2, s3⟩ := q2
    rw [hm] at h1
    simp only [Option.some.injEq, Prod.mk.injEq] at h1
    obtain ⟨_, rfl⟩ := h1
    rw [ih s2 bs2 hm]
theorem mapO_mem {α β σ : Type} {f : α → σ → Option (β × σ)} {G : α → β → Prop} (hf : ∀ x s b s', f x s = some (b, s') → G x b) : ∀ {l : List α} {s s' : σ} {bs : List β}, mapO f l s = some (bs, s') → F2 G l bs := by
 intro l
 induction l with
 | nil =>
  intro s s' bs h
  simp only [mapO, Option.some.injEq, Prod.mk.injEq] at h
  rw [← h.1]
  exact F2.nil
 | cons x l ih =>
  intro s s' bs h
  simp only [mapO] at h
  split at h
  ·cases h
  ·rename_i b s1 e1
   split at h
   ·cases h
   ·rename_i bs2 s2 e2
    simp only [Option.some.injEq, Prod.mk.injEq] at h
    rw [← h.1]
    exact F2.append (F2.one (hf _ _ _ _ e1)) (ih e2)

def rdU (n : Nat) (lk : Nat → List UInt8) : (d : Nat) → Nat → List Nat → Option (UNd d × List Nat)
 | 0, _, _ => none
 | d + 1, i, us => if i < n ∧ i ∉ us then match decN (lk i) with
   | none => none
   | some (.leaf l) => some (.inl l, i :: us)
   | some (.branch ks) => match mapO (fun (k : ByteArray × Nat) (us : List Nat) => match rdU n lk d k.2 us with
     | none => none
     | some (u, us') => some ((⟨k.1, u, k.2⟩ : KidOf (UNd d)), us')) ks (i :: us) with
    | none => none
    | some (bs, us') => some (.inr bs, us')
  else none
def rdK (n : Nat) (lk : Nat → List UInt8) (d : Nat) (k : ByteArray × Nat) (us : List Nat) : Option (KidOf (UNd d) × List Nat) := match rdU n lk d k.2 us with
 | none => none
 | some (u, us') => some ((⟨k.1, u, k.2⟩ : KidOf (UNd d)), us')
theorem rdU_leaf {n : Nat} {lk : Nat → List UInt8} {d i : Nat} {us : List Nat} {l : List Pr} (h : i < n ∧ i ∉ us) (e : decN (lk i) = some (.leaf l)) : rdU n lk (d + 1) i us = some (.inl l, i :: us) := by
 rw [rdU, if_pos h, e]
theorem rdU_branch {n : Nat} {lk : Nat → List UInt8} {d i : Nat} {us : List Nat} {ks : List (ByteArray × Nat)} (h : i < n ∧ i ∉ us) (e : decN (lk i) = some (.branch ks)) : rdU n lk (d + 1) i us = match mapO (rdK n lk d) ks (i :: us) with
  | none => none
  | some (bs, us') => some (.inr bs, us') := by
 rw [rdU, if_pos h, e]
 rfl
theorem rdU_bad {n : Nat} {lk : Nat → List UInt8} {d i : Nat} {us : List Nat} (h : ¬ (i < n ∧ i ∉ us)) : rdU n lk d i us = none := by
 cases d with
 | zero => rfl
 | succ d => rw [rdU, if_neg h]
theorem rdU_none {n : Nat} {lk : Nat → List UInt8} {d i : Nat} {us : List Nat} (h : decN (lk i) = none) : rdU n lk d i us = none := by
 cases d with
 | zero => rfl
 | succ d =>
  rw [rdU]
  split
  ·rw [h]
  ·rfl

def riseB : Bool → List ByteArray → ByteArray → ByteArray → Bool
 | _, [], f, t => be t nil8 || bl f t
 | b, k :: r, f, t => if bl k f || (b && be k f) then false else riseB true r k t
def sndGo {α : Type} (sd : ByteArray → ByteArray → α → Option Nat) (sz : α → Nat) (t : ByteArray) : Option Nat → List (KidOf α) → Option Nat
 | hi, [] => hi
 | hi, k :: r => match sd k.1 (match r with | [] => t | k2 :: _ => k2.1) k.2 with
  | none => none
  | some b => if 40 ≤ sz k.2 ∧ (hi = none ∨ hi = some b) then sndGo sd sz t (some b) r else none
def szU : (d : Nat) → UNd d → Nat
 | 0, _ => 0
 | _ + 1, .inl l => (List.map psz l).sum
 | _ + 1, .inr ks => 11 * ks.length
def sndL (f t : ByteArray) (l : List Pr) : Bool := match l with
 | [] => false
 | p :: _ => !be p.1 nil8 && riseB false (l.map fun p => p.1) f t
def sndB {α : Type} (f t : ByteArray) (ks : List (KidOf α)) : Bool := match ks with
 | [] => false
 | k :: _ => decide (1 < ks.length) && be k.1 f && riseB false (ks.map fun k => k.1) f t
def sndU : (d : Nat) → ByteArray → ByteArray → UNd d → Option Nat
 | 0, _, _, _ => none
 | _ + 1, f, t, .inl l => if sndL f t l then some 1 else none
 | d + 1, f, t, .inr ks => if sndB f t ks then (sndGo (sndU d) (szU d) t none ks).map (· + 1) else none

def Rep : (d : Nat) → UNd d → (h : Nat) → Nd h → Prop
 | 0, _, _, _ => False
 | _ + 1, .inl l, 0, n => n = l
 | _ + 1, .inl _, _ + 1, _ => False
 | _ + 1, .inr _, 0, _ => False
 | d + 1, .inr ks, h + 1, ns => F2 (fun (k : KidOf (UNd d)) (k' : Kid h) => (k'.1 = k.1 ∧ k'.3 = k.3) ∧ Rep d k.2 h k'.2) ks ns

end Go.Proofs.YtcklgafpgdhnaabGreatDoor
