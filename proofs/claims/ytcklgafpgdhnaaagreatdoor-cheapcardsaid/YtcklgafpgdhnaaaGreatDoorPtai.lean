import Derived.Test.YtcklgafpgdhnaaaGreatDoorPtah
set_option maxRecDepth 100000
set_option maxHeartbeats 4000000
open List renaming getElem_toArray → zA, getElem_cons_succ → zB, getElem_cons_zero → zC, setIfInBounds_toArray → zD, set_cons_succ → zE, set_cons_zero → zF
namespace Go.Proofs.YtcklgafpgdhnaaaGreatDoor

structure KidOf (α : Type) where
 fr : ByteArray
 nd : α
 pl : Nat
def Nd : Nat → Type
 | 0 => List Pr
 | h + 1 => List (KidOf (Nd h))
abbrev Kid (h : Nat) := KidOf (Nd h)

def flatN : (h : Nat) → Nd h → List Pr
 | 0, l => l
 | h + 1, ks => List.flatMap (fun k : Kid h => flatN h k.2) ks
def psz (p : Pr) : Nat := 2 + p.1.size + p.2.size
def sizeN : (h : Nat) → Nd h → Nat
 | 0, l => (List.map psz l).sum
 | h + 1, ks => 11 * List.length (α := Kid h) ks
def cntN : (h : Nat) → Nd h → Nat
 | 0, _ => 1
 | h + 1, ks => 1 + (List.map (fun k : Kid h => cntN h k.2) ks).sum
def flatK (h : Nat) (ks : List (Kid h)) : List Pr := ks.flatMap fun k => flatN h k.2
theorem flatN_succ (h : Nat) (ks : List (Kid h)) : flatN (h + 1) ks = flatK h ks := rfl
theorem flatK_append (h : Nat) (A B : List (Kid h)) : flatK h (A ++ B) = flatK h A ++ flatK h B := by simp [flatK]
theorem flatK_cons (h : Nat) (a : Kid h) (B : List (Kid h)) : flatK h (a :: B) = flatN h a.2 ++ flatK h B := by simp [flatK]
theorem mem_flatK {h : Nat} {ks : List (Kid h)} {p : Pr} : p ∈ flatK h ks ↔ ∃ a ∈ ks, p ∈ flatN h a.2 := by simp [flatK]

def okp (p : Pr) : Prop := 1 ≤ p.1.size ∧ p.1.size ≤ 8 ∧ p.2.size ≤ 12
theorem psz_le {p : Pr} (h : okp p) : psz p ≤ 22 := by unfold psz; obtain ⟨_, a, b⟩ := h; omega
theorem psz_pos (p : Pr) : 0 < psz p := by unfold psz; omega

def Bef (h : Nat) (a b : Kid h) : Prop := bl a.1 b.1 = true ∧ ∀ p ∈ flatN h a.2, bl p.1 b.1 = true
def WFN : (h : Nat) → ByteArray → Nd h → Prop
 | 0, f, l => Srt l ∧ ∀ p : Pr, List.Mem p l → ge p.1 f ∧ okp p
 | h + 1, f, ks => (∃ (n : Nd h) (x : Nat) (r : List (Kid h)), ks = ⟨f, n, x⟩ :: r) ∧ List.Pairwise (Bef h) ks ∧ ∀ a : Kid h, List.Mem a ks → WFN h a.1 a.2
structure KW (h : Nat) (ks : List (Kid h)) : Prop where
 ord : ks.Pairwise (Bef h)
 all : ∀ a ∈ ks, WFN h a.1 a.2
theorem WFN_succ (h : Nat) (f : ByteArray) (ks : List (Kid h)) : WFN (h + 1) f ks ↔ (∃ n x r, ks = ⟨f, n, x⟩ :: r) ∧ KW h ks :=
 ⟨fun ⟨a, b, c⟩ => ⟨a, ⟨b, c⟩⟩, fun ⟨a, b⟩ => ⟨a, b.ord, b.all⟩⟩

def Rt (h : Nat) (n : Nd h) : Prop := 40 ≤ sizeN h n ∧ sizeN h n ≤ 122
def FullN : (h : Nat) → Nd h → Prop
 | 0, _ => True
 | h + 1, ks => ∀ a : Kid h, List.Mem a ks → Rt h a.2 ∧ FullN h a.2
theorem FullN_succ (h : Nat) (ks : List (Kid h)) : FullN (h + 1) ks ↔ ∀ a ∈ ks, Rt h a.2 ∧ FullN h a.2 := Iff.rfl

theorem WFN.keys : ∀ {h : Nat} {f : ByteArray} {n : Nd h}, WFN h f n → ∀ p ∈ flatN h n, ge p.1 f ∧ okp p
 | 0, _, _, hw, p, hp => hw.2 p hp
 | h + 1, f, ks, hw, p, hp => by
  obtain ⟨⟨n, x, r, e⟩, hk⟩ := (WFN_succ h f ks).1 hw
  obtain ⟨a, ha, hp⟩ := mem_flatK.1 (show p ∈ flatK h ks from hp)
  obtain ⟨h1, h2⟩ := WFN.keys (hk.all a ha) p hp
  refine ⟨?_, h2⟩
  subst e
  rcases List.mem_cons.1 ha with rfl | ha
  ·exact h1
  ·have := (List.pairwise_cons.1 hk.ord).1 a ha
   exact ge_trans h1 (lt_ge this.1)

theorem KW.froms {h : Nat} {a : Kid h} {ks : List (Kid h)} (hk : KW h (a :: ks)) : ∀ b ∈ a :: ks, ge b.1 a.1 := by
 intro b hb
 rcases List.mem_cons.1 hb with rfl | hb
 ·exact ge_refl _
 ·exact lt_ge ((List.pairwise_cons.1 hk.ord).1 b hb).1

theorem KW.srt {h : Nat} {ks : List (Kid h)} (hk : KW h ks) (hs : ∀ a ∈ ks, Srt (flatN h a.2)) : Srt (flatK h ks) := by
 induction ks with
 | nil => simp [flatK, Srt]
 | cons a r ih =>
  rw [flatK_cons]
  have hr : KW h r := ⟨(List.pairwise_cons.1 hk.ord).2, fun b hb => hk.all b (by simp [hb])⟩
  refine List.pairwise_append.2 ⟨hs a (by simp), ih hr fun b hb => hs b (by simp [hb]), ?_⟩
  intro p hp q hq
  obtain ⟨b, hb, hq⟩ := mem_flatK.1 hq
  have h1 := ((List.pairwise_cons.1 hk.ord).1 b hb).2 p hp
  exact lt_of_lt_ge h1 (WFN.keys (hr.all b hb) q hq).1

theorem WFN.srt : ∀ {h : Nat} {f : ByteArray} {n : Nd h}, WFN h f n → Srt (flatN h n)
 | 0, _, _, hw => hw.1
 | h + 1, f, ks, hw => by
  obtain ⟨_, hk⟩ := (WFN_succ h f ks).1 hw
  exact hk.srt fun a ha => WFN.srt (hk.all a ha)

theorem ne_flat : ∀ {h : Nat} {n : Nd h}, 0 < sizeN h n → FullN h n → flatN h n ≠ []
 | 0, l, hs, _, e => by
  have e' : l = [] := e
  subst e'; simp [sizeN] at hs
 | h + 1, ks, hs, hf, e => by
  cases hks : (ks : List (Kid h)) with
  | nil => rw [hks] at hs; simp [sizeN] at hs
  | cons a r =>
   rw [hks, flatN_succ, flatK_cons] at e
   have ha := (FullN_succ h ks).1 hf a (by rw [hks]; simp)
   exact ne_flat (by have := ha.1.1; omega) ha.2 (List.append_eq_nil_iff.1 e).1

def cutI {α : Type} (sz : α → Nat) (whole : Nat) : Nat → List α → Nat
 | _, [] => 0
 | part, x :: r => if 2 * part < whole then cutI sz whole (part + sz x) r + 1 else 0

theorem cutI_sum {α : Type} (sz : α → Nat) (whole b : Nat) (l : List α) (hb : ∀ x ∈ l, sz x ≤ b) : ∀ part, 2 * part < whole + 2 * b → part + (l.map sz).sum ≥ whole - whole / 2 →
  whole ≤ 2 * (part + ((l.take (cutI sz whole part l)).map sz).sum) ∧ 2 * (part + ((l.take (cutI sz whole part l)).map sz).sum) < whole + 2 * b ∨ whole ≤ 2 * part := by
 induction l with
 | nil =>
  intro part h1 h2
  simp [cutI] at h2 ⊢
  omega
 | cons x r ih =>
  intro part h1 h2
  rw [cutI]
  split
  ·rename_i hlt
   have hx := hb x (by simp)
   have := ih (fun y hy => hb y (by simp [hy])) (part + sz x) (by omega) (by simp at h2; omega)
   rw [List.take_succ_cons, List.map_cons, List.sum_cons]
   rcases this with ⟨a, c⟩ | a
   ·left; omega
   ·have hz : cutI sz whole (part + sz x) r = 0 := by
     cases r with
     | nil => rfl
     | cons y t => rw [cutI, if_neg (by omega)]
    rw [hz]
    simp
    omega
  ·right; omega

def halfI {α : Type} (sz : α → Nat) (l : List α) : Nat := cutI sz (l.map sz).sum 0 l

theorem sum_split {α : Type} (sz : α → Nat) (l : List α) (i : Nat) : ((l.take i).map sz).sum + ((l.drop i).map sz).sum = (l.map sz).sum := by
 rw [← List.sum_append, ← List.map_append, List.take_append_drop]

theorem half_sizes {α : Type} (sz : α → Nat) (b : Nat) (l : List α) (hb : ∀ x ∈ l, sz x ≤ b) (h0 : 0 < (l.map sz).sum) (hbp : 0 < b) :
  (l.map sz).sum ≤ 2 * ((l.take (halfI sz l)).map sz).sum ∧ 2 * ((l.take (halfI sz l)).map sz).sum < (l.map sz).sum + 2 * b := by
 have := cutI_sum sz (l.map sz).sum b l hb 0 (by omega) (by omega)
 simp only [Nat.zero_add] at this
 unfold halfI
 rcases this with h | h
 ·exact h
 ·omega

end Go.Proofs.YtcklgafpgdhnaaaGreatDoor

namespace Go.Proofs.YtcklgafpgdhnaaaGreatDoor

def halveN : (h : Nat) → Nd h → Nd h × Nd h
 | 0, l => (List.take (halfI psz l) l, List.drop (halfI psz l) l)
 | h + 1, ks => (List.take (halfI (fun _ : Kid h => 11) ks) ks, List.drop (halfI (fun _ : Kid h => 11) ks) ks)
def firstL (l : List Pr) : ByteArray := match l with
 | [] => ⟨#[]⟩
 | p :: _ => p.1
def firstK {h : Nat} (ks : List (Kid h)) : ByteArray := match ks with
 | [] => ⟨#[]⟩
 | a :: _ => a.1
def firstN : (h : Nat) → Nd h → ByteArray
 | 0, l => firstL l
 | h + 1, ks => firstK (h := h) ks
def joinN : (h : Nat) → Nd h → Nd h → Nd h
 | 0, a, b => List.append a b
 | _ + 1, a, b => List.append a b
def fitN (h : Nat) (f : ByteArray) (n : Nd h) : List (Kid h) := if sizeN h n ≤ 122 then [⟨f, n, 0⟩] else [⟨f, (halveN h n).1, 0⟩, ⟨firstN h (halveN h n).2, (halveN h n).2, 0⟩]

theorem sum11 {h : Nat} (ks : List (Kid h)) : (ks.map fun _ : Kid h => 11).sum = 11 * ks.length := by
 induction ks with
 | nil => rfl
 | cons a r ih => simp [ih]; omega

theorem KW.sub {h : Nat} {A B : List (Kid h)} (hk : KW h B) (hs : A.Sublist B) : KW h A := ⟨hk.ord.sublist hs, fun a ha => hk.all a (hs.subset ha)⟩

theorem nonempty_of_sum {α : Type} (sz : α → Nat) (l : List α) (h : 0 < (l.map sz).sum) : ∃ a r, l = a :: r := by
 cases l with
 | nil => simp at h
 | cons a r => exact ⟨a, r, rfl⟩

structure FitOk (h : Nat) (f : ByteArray) (n : Nd h) (M : List (Kid h)) : Prop where
 flat : flatK h M = flatN h n
 kw : KW h M
 full : ∀ a ∈ M, Rt h a.2 ∧ FullN h a.2
 head : ∃ n' r, M = ⟨f, n', 0⟩ :: r
 len : M.length = 1 ∨ M.length = 2
 some : ∀ a ∈ M, ∃ p ∈ flatN h n, ge p.1 a.1

theorem halves_leaf (f : ByteArray) (l : List Pr) (hw : WFN 0 f l) (h1 : 122 < sizeN 0 l) (h2 : sizeN 0 l ≤ 161) :
  FitOk 0 f l [⟨f, (halveN 0 l).1, 0⟩, ⟨firstN 0 (halveN 0 l).2, (halveN 0 l).2, 0⟩] := by
 have hs : ∀ x ∈ l, psz x ≤ 22 := fun x hx => psz_le (hw.2 x hx).2
 have hS : sizeN 0 l = (l.map psz).sum := rfl
 rw [hS] at h1 h2
 obtain ⟨a1, a2⟩ := half_sizes psz 22 l hs (by omega) (by omega)
 have hsp := sum_split psz l (halfI psz l)
 have hsrt : Srt l := hw.1
 show FitOk 0 f l [⟨f, l.take (halfI psz l), 0⟩, ⟨firstL (l.drop (halfI psz l)), l.drop (halfI psz l), 0⟩]
 have hap := List.take_append_drop (halfI psz l) l
 generalize hL : l.take (halfI psz l) = L at *
 generalize hR : l.drop (halfI psz l) = R at *
 obtain ⟨x, xr, eL⟩ := nonempty_of_sum psz L (by omega)
 obtain ⟨y, yr, eR⟩ := nonempty_of_sum psz R (by omega)
 rw [← hap] at hsrt
 obtain ⟨sL, sR, sLR⟩ := List.pairwise_append.1 hsrt
 have kL : ∀ p ∈ L, ge p.1 f ∧ okp p := fun p hp => hw.2 p (by rw [← hap]; exact List.mem_append_left _ hp)
 have kR : ∀ p ∈ R, ge p.1 f ∧ okp p := fun p hp => hw.2 p (by rw [← hap]; exact List.mem_append_right _ hp)
 have fR : firstL R = y.1 := by rw [eR]; rfl
 have gR : ∀ p ∈ R, ge p.1 y.1 := by
  intro p hp
  rw [eR] at hp sR
  rcases List.mem_cons.1 hp with rfl | hp
  ·exact ge_refl _
  ·exact lt_ge ((List.pairwise_cons.1 sR).1 p hp)
 have yR : y ∈ R := by rw [eR]; simp
 have xL : x ∈ L := by rw [eL]; simp
 have lty : ∀ p ∈ L, bl p.1 y.1 = true := fun p hp => sLR p hp y yR
 refine ⟨?_, ⟨?_, ?_⟩, ?_, ⟨_, _, rfl⟩, Or.inr rfl, ?_⟩
 ·simp only [flatK_cons]
  show L ++ (R ++ []) = l
  simpa using hap
 ·rw [fR]
  refine List.pairwise_cons.2 ⟨?_, by simp⟩
  intro b hb; simp at hb; subst hb
  exact ⟨lt_of_ge_lt (kL x xL).1 (lty x xL), lty⟩
 ·intro a ha
  simp only [List.mem_cons, List.not_mem_nil, or_false] at ha
  rcases ha with rfl | rfl
  ·exact ⟨sL, kL⟩
  ·exact ⟨sR, fun p hp => ⟨by show ge p.1 (firstL R); rw [fR]; exact gR p hp, (kR p hp).2⟩⟩
 ·intro a ha
  simp only [List.mem_cons, List.not_mem_nil, or_false] at ha
  rcases ha with rfl | rfl
  ·exact ⟨⟨by show 40 ≤ (L.map psz).sum; omega, by show (L.map psz).sum ≤ 122; omega⟩, trivial⟩
  ·exact ⟨⟨by show 40 ≤ (R.map psz).sum; omega, by show (R.map psz).sum ≤ 122; omega⟩, trivial⟩
 ·intro a ha
  simp only [List.mem_cons, List.not_mem_nil, or_false] at ha
  rcases ha with rfl | rfl
  ·exact ⟨x, by show x ∈ l; rw [← hap]; exact List.mem_append_left _ xL, (kL x xL).1⟩
  ·exact ⟨y, by show y ∈ l; rw [← hap]; exact List.mem_append_right _ yR, by show ge y.1 (firstL R); rw [fR]; exact ge_refl _⟩

theorem halves_branch (h : Nat) (f : ByteArray) (ks : List (Kid h)) (hw : WFN (h + 1) f ks) (hf : FullN (h + 1) ks) (h1 : 122 < sizeN (h + 1) ks) (h2 : sizeN (h + 1) ks ≤ 161) :
  FitOk (h + 1) f ks [⟨f, (halveN (h + 1) ks).1, 0⟩, ⟨firstN (h + 1) (halveN (h + 1) ks).2, (halveN (h + 1) ks).2, 0⟩] := by
 obtain ⟨⟨n0, x0, r0, e0⟩, hk⟩ := (WFN_succ h f ks).1 hw
 have hS : sizeN (h + 1) ks = (ks.map fun _ : Kid h => 11).sum := (sum11 ks).symm
 rw [hS] at h1 h2
 obtain ⟨a1, a2⟩ := half_sizes (fun _ : Kid h => 11) 11 ks (by simp) (by omega) (by omega)
 have hsp := sum_split (fun _ : Kid h => 11) ks (halfI (fun _ : Kid h => 11) ks)
 show FitOk (h + 1) f ks [⟨f, ks.take (halfI (fun _ : Kid h => 11) ks), 0⟩, ⟨firstK (ks.drop (halfI (fun _ : Kid h => 11) ks)), ks.drop (halfI (fun _ : Kid h => 11) ks), 0⟩]
 have hap := List.take_append_drop (halfI (fun _ : Kid h => 11) ks) ks
 generalize hL : ks.take (halfI (fun _ : Kid h => 11) ks) = L at *
 generalize hR : ks.drop (halfI (fun _ : Kid h => 11) ks) = R at *
 obtain ⟨x, xr, eL⟩ := nonempty_of_sum (fun _ : Kid h => 11) L (by omega)
 obtain ⟨y, yr, eR⟩ := nonempty_of_sum (fun _ : Kid h => 11) R (by omega)
 have hLs : L.Sublist ks := by rw [← hap]; exact List.sublist_append_left _ _
 have hRs : R.Sublist ks := by rw [← hap]; exact List.sublist_append_right _ _
 have kL := hk.sub hLs
 have kR := hk.sub hRs
 have hord := hk.ord
 rw [← hap] at hord
 obtain ⟨_, _, sLR⟩ := List.pairwise_append.1 hord
 have yR : y ∈ R := by rw [eR]; simp
 have xf : x.1 = f := by
  rw [← hap, eL, List.cons_append] at e0
  have := (List.cons.inj e0).1
  rw [this]
 have xL : x ∈ L := by rw [eL]; simp
 have fR : firstK R = y.1 := by rw [eR]; rfl
 have eL' : L = ⟨f, x.2, x.3⟩ :: xr := by rw [eL, ← xf]
 have eR' : R = ⟨y.1, y.2, y.3⟩ :: yr := by rw [eR]
 have hfull := (FullN_succ h ks).1 hf
 have neY : flatN h y.2 ≠ [] := ne_flat (by have := (hfull y (hRs.subset yR)).1.1; omega) (hfull y (hRs.subset yR)).2
 have neX : flatN h x.2 ≠ [] := ne_flat (by have := (hfull x (hLs.subset xL)).1.1; omega) (hfull x (hLs.subset xL)).2
 obtain ⟨py, hpy⟩ := List.exists_mem_of_ne_nil _ neY
 obtain ⟨px, hpx⟩ := List.exists_mem_of_ne_nil _ neX
 have s1 := sum11 L
 have s2 := sum11 R
 refine ⟨?_, ⟨?_, ?_⟩, ?_, ⟨_, _, rfl⟩, Or.inr rfl, ?_⟩
 ·show flatK (h + 1) [⟨f, L, 0⟩, ⟨firstK R, R, 0⟩] = flatK h ks
  rw [flatK_cons, flatK_cons]
  show flatK h L ++ (flatK h R ++ []) = flatK h ks
  rw [List.append_nil, ← flatK_append, hap]
 ·rw [fR]
  refine List.pairwise_cons.2 ⟨?_, by simp⟩
  intro b hb; simp at hb; subst hb
  refine ⟨by rw [← xf]; exact (sLR x xL y yR).1, ?_⟩
  intro p hp
  obtain ⟨a, ha, hp⟩ := mem_flatK.1 (show p ∈ flatK h L from hp)
  exact (sLR a ha y yR).2 p hp
 ·intro a ha
  simp only [List.mem_cons, List.not_mem_nil, or_false] at ha
  rcases ha with rfl | rfl
  ·exact (WFN_succ h f L).2 ⟨⟨_, _, _, eL'⟩, kL⟩
  ·show WFN (h + 1) (firstK R) R
   rw [fR]
   exact (WFN_succ h y.1 R).2 ⟨⟨_, _, _, eR'⟩, kR⟩
 ·intro a ha
  simp only [List.mem_cons, List.not_mem_nil, or_false] at ha
  rcases ha with rfl | rfl
  ·exact ⟨⟨by show 40 ≤ 11 * L.length; omega, by show 11 * L.length ≤ 122; omega⟩, fun b hb => hfull b (hLs.subset hb)⟩
  ·exact ⟨⟨by show 40 ≤ 11 * R.length; omega, by show 11 * R.length ≤ 122; omega⟩, fun b hb => hfull b (hRs.subset hb)⟩
 ·intro a ha
  simp only [List.mem_cons, List.not_mem_nil, or_false] at ha
  rcases ha with rfl | rfl
  ·refine ⟨px, ?_, ?_⟩
   ·exact mem_flatK.2 ⟨x, hLs.subset xL, hpx⟩
   ·show ge px.1 f
    rw [← xf]; exact (WFN.keys (kL.all x xL) px hpx).1
  ·refine ⟨py, ?_, ?_⟩
   ·exact mem_flatK.2 ⟨y, hRs.subset yR, hpy⟩
   ·show ge py.1 (firstK R)
    rw [fR]; exact (WFN.keys (kR.all y yR) py hpy).1

theorem fit_ok (h : Nat) (f : ByteArray) (n : Nd h) (hw : WFN h f n) (hf : FullN h n) (h1 : 40 ≤ sizeN h n) (h2 : sizeN h n ≤ 161) : FitOk h f n (fitN h f n) := by
 unfold fitN
 split
 ·rename_i hle
  have hne : flatN h n ≠ [] := ne_flat (by omega) hf
  obtain ⟨p, hp⟩ := List.exists_mem_of_ne_nil _ hne
  refine ⟨by simp [flatK], ⟨by simp, by intro a ha; simp at ha; subst ha; exact hw⟩, by intro a ha; simp at ha; subst ha; exact ⟨⟨h1, hle⟩, hf⟩, ⟨_, _, rfl⟩, Or.inl rfl, ?_⟩
  intro a ha; simp at ha; subst ha
  exact ⟨p, hp, (WFN.keys hw p hp).1⟩
 ·cases h with
  | zero => exact halves_leaf f n hw (by omega) h2
  | succ h => exact halves_branch h f n hw hf (by omega) h2

end Go.Proofs.YtcklgafpgdhnaaaGreatDoor

namespace Go.Proofs.YtcklgafpgdhnaaaGreatDoor

theorem replace_ok {h : Nat} {A M B M' : List (Kid h)} {f : ByteArray} {n : Nd h} (hk : KW h (A ++ (M ++ B))) (hM : ∃ m x r, M = ⟨f, m, x⟩ :: r) (hfit : FitOk h f n M') (hfl : flatN h n = flatK h M) : KW h (A ++ (M' ++ B)) ∧ flatK h (A ++ (M' ++ B)) = flatK h (A ++ (M ++ B)) := by
 obtain ⟨m, mx, r, eM⟩ := hM
 have hm : ⟨f, m, mx⟩ ∈ M := by rw [eM]; simp
 obtain ⟨pA, pMB, pAMB⟩ := List.pairwise_append.1 hk.ord
 obtain ⟨pM, pB, pMB'⟩ := List.pairwise_append.1 pMB
 obtain ⟨n', r', eM'⟩ := hfit.head
 have fr : ∀ b ∈ M', ge b.1 f := by
  have := hfit.kw
  rw [eM'] at this ⊢
  exact this.froms
 refine ⟨⟨?_, ?_⟩, ?_⟩
 ·refine List.pairwise_append.2 ⟨pA, List.pairwise_append.2 ⟨hfit.kw.ord, pB, ?_⟩, ?_⟩
  ·intro a ha b hb
   refine ⟨?_, ?_⟩
   ·obtain ⟨p, hp, hg⟩ := hfit.some a ha
    rw [hfl] at hp
    obtain ⟨c, hc, hp⟩ := mem_flatK.1 hp
    exact lt_of_ge_lt hg ((pMB' c hc b hb).2 p hp)
   ·intro p hp
    have : p ∈ flatK h M' := mem_flatK.2 ⟨a, ha, hp⟩
    rw [hfit.flat, hfl] at this
    obtain ⟨c, hc, hp⟩ := mem_flatK.1 this
    exact (pMB' c hc b hb).2 p hp
  ·intro a ha b hb
   rcases List.mem_append.1 hb with hb | hb
   ·have h1 := pAMB a ha ⟨f, m, mx⟩ (List.mem_append_left _ hm)
    exact ⟨lt_of_lt_ge h1.1 (fr b hb), fun p hp => lt_of_lt_ge (h1.2 p hp) (fr b hb)⟩
   ·exact pAMB a ha b (List.mem_append_right _ hb)
 ·intro a ha
  rcases List.mem_append.1 ha with ha | ha
  ·exact hk.all a (List.mem_append_left _ ha)
  rcases List.mem_append.1 ha with ha | ha
  ·exact hfit.kw.all a ha
  ·exact hk.all a (List.mem_append_right _ (List.mem_append_right _ ha))
 ·rw [flatK_append, flatK_append, flatK_append, flatK_append, hfit.flat, hfl]

theorem flat_join : ∀ (h : Nat) (a b : Nd h), flatN h (joinN h a b) = flatN h a ++ flatN h b
 | 0, _, _ => rfl
 | h + 1, a, b => flatK_append h a b
theorem sum_app (a b : List Pr) : ((a ++ b).map psz).sum = (a.map psz).sum + (b.map psz).sum := by rw [List.map_append, List.sum_append]
theorem len_app {α : Type} (a b : List α) : 11 * (a ++ b).length = 11 * a.length + 11 * b.length := by rw [List.length_append]; omega
theorem size_join : ∀ (h : Nat) (a b : Nd h), sizeN h (joinN h a b) = sizeN h a + sizeN h b
 | 0, a, b => sum_app a b
 | h + 1, a, b => len_app (α := Kid h) a b
theorem full_join : ∀ (h : Nat) (a b : Nd h), FullN h a → FullN h b → FullN h (joinN h a b)
 | 0, _, _, _, _ => trivial
 | h + 1, a, b, ha, hb => by
  intro c hc
  rcases List.mem_append.1 (show c ∈ List.append a b from hc) with hc | hc
  ·exact ha c hc
  ·exact hb c hc
theorem wf_join : ∀ (h : Nat) (x y : Kid h), Bef h x y → WFN h x.1 x.2 → WFN h y.1 y.2 → FullN h x.2 → WFN h x.1 (joinN h x.2 y.2)
 | 0, x, y, hb, hx, hy, _ => by
  refine ⟨List.pairwise_append.2 ⟨hx.1, hy.1, ?_⟩, ?_⟩
  ·intro p hp q hq; exact lt_of_lt_ge (hb.2 p hp) (hy.2 q hq).1
  ·intro p hp
   rcases List.mem_append.1 (show p ∈ List.append x.2 y.2 from hp) with hp | hp
   ·exact hx.2 p hp
   ·exact ⟨ge_trans (hy.2 p hp).1 (lt_ge hb.1), (hy.2 p hp).2⟩
 | h + 1, x, y, hb, hx, hy, hf => by
  obtain ⟨⟨n1, x1, r1, e1⟩, k1⟩ := (WFN_succ h x.1 x.2).1 hx
  obtain ⟨⟨n2, x2, r2, e2⟩, k2⟩ := (WFN_succ h y.1 y.2).1 hy
  have fr : ∀ b : Kid h, List.Mem b y.2 → ge b.1 y.1 := by
   intro b hb
   have hk := k2
   rw [e2] at hk hb
   exact hk.froms b hb
  refine (WFN_succ h x.1 (List.append x.2 y.2)).2 ⟨⟨n1, x1, List.append r1 y.2, by rw [e1]; rfl⟩, ⟨List.pairwise_append.2 ⟨k1.ord, k2.ord, ?_⟩, ?_⟩⟩
  ·intro a ha b hbm
   have kk : ∀ p ∈ flatN h a.2, bl p.1 b.1 = true := fun p hp => lt_of_lt_ge (hb.2 p (mem_flatK.2 ⟨a, ha, hp⟩)) (fr b hbm)
   refine ⟨?_, kk⟩
   have ha' := (FullN_succ h x.2).1 hf a ha
   obtain ⟨p, hp⟩ := List.exists_mem_of_ne_nil _ (ne_flat (by have := ha'.1.1; omega) ha'.2)
   exact lt_of_ge_lt (WFN.keys (k1.all a ha) p hp).1 (kk p hp)
  ·intro a ha
   rcases List.mem_append.1 ha with ha | ha
   ·exact k1.all a ha
   ·exact k2.all a ha

def fittedN (h : Nat) (ks : List (Kid h)) (i : Nat) : List (Kid h) :=
 match ks[i]? with
 | none => ks
 | some a => if sizeN h a.2 < 40 then
   match ks[i - 1]?, ks[i - 1 + 1]? with
   | some x, some y => ks.take (i - 1) ++ (fitN h x.1 (joinN h x.2 y.2) ++ ks.drop (i - 1 + 2))
   | _, _ => ks
  else ks.take i ++ (fitN h a.1 a.2 ++ ks.drop (i + 1))

theorem split1 {α : Type} (l : List α) (i : Nat) (a : α) (h : l[i]? = some a) : l = l.take i ++ ([a] ++ l.drop (i + 1)) := by
 have hi : i < l.length := (List.getElem?_eq_some_iff.1 h).1
 conv => lhs; rw [← List.take_append_drop i l, List.drop_eq_getElem_cons hi, (List.getElem?_eq_some_iff.1 h).2]
 rfl
theorem split2 {α : Type} (l : List α) (i : Nat) (a b : α) (h : l[i]? = some a) (h' : l[i + 1]? = some b) : l = l.take i ++ ([a, b] ++ l.drop (i + 2)) := by
 have hi : i + 1 < l.length := (List.getElem?_eq_some_iff.1 h').1
 conv => lhs; rw [split1 l i a h, List.drop_eq_getElem_cons hi, (List.getElem?_eq_some_iff.1 h').2]
 rfl

structure Loose (h : Nat) (ks : List (Kid h)) (i : Nat) : Prop where
 kw : KW h ks
 two : 2 ≤ ks.length
 lt : i < ks.length
 full : ∀ a ∈ ks, FullN h a.2
 rt : ∀ j a, ks[j]? = some a → j ≠ i → Rt h a.2
 lo : ∀ a, ks[i]? = some a → 18 ≤ sizeN h a.2 ∧ sizeN h a.2 ≤ 144

structure Fitted (h : Nat) (ks ks' : List (Kid h)) : Prop where
 kw : KW h ks'
 flat : flatK h ks' = flatK h ks
 full : ∀ a ∈ ks', Rt h a.2 ∧ FullN h a.2
 head : ∀ f n x r, ks = ⟨f, n, x⟩ :: r → ∃ n' x' r', ks' = ⟨f, n', x'⟩ :: r'
 lo : ks.length ≤ ks'.length + 1
 hi : ks'.length ≤ ks.length + 1

theorem head_take {α : Type} (l M B : List α) (i : Nat) (f : α) (r : List α) (h : l = f :: r) (hi : 0 < i) : ∃ r', l.take i ++ (M ++ B) = f :: r' := by
 subst h
 obtain ⟨j, rfl⟩ : ∃ j, i = j + 1 := ⟨i - 1, by omega⟩
 exact ⟨_, by rw [List.take_succ_cons, List.cons_append]⟩

theorem fitted_of {h : Nat} {ks M M' : List (Kid h)} {i m : Nat} {f : ByteArray} {n : Nd h} (hkw : KW h ks) (hsp : ks = ks.take i ++ (M ++ ks.drop (i + m))) (hm : M.length = m) (hm12 : m = 1 ∨ m = 2) (hM : ∃ m x r, M = ⟨f, m, x⟩ :: r) (hfit : FitOk h f n M') (hfl : flatN h n = flatK h M)
  (ho : ∀ a ∈ ks.take i ++ ks.drop (i + m), Rt h a.2 ∧ FullN h a.2) : Fitted h ks (ks.take i ++ (M' ++ ks.drop (i + m))) := by
 have hk := hkw
 rw [hsp] at hk
 obtain ⟨r1, r2⟩ := replace_ok hk hM hfit hfl
 have hl := congrArg List.length hsp
 simp only [List.length_append] at hl
 refine ⟨r1, by rw [r2, ← hsp], ?_, ?_, ?_, ?_⟩
 ·intro a ha
  rcases List.mem_append.1 ha with ha | ha
  ·exact ho a (List.mem_append_left _ ha)
  rcases List.mem_append.1 ha with ha | ha
  ·exact hfit.full a ha
  ·exact ho a (List.mem_append_right _ ha)
 ·intro f0 n0 x0 r0 e0
  rcases Nat.eq_zero_or_pos i with h0 | h0
  ·subst h0
   obtain ⟨mm, xx, rr, eM⟩ := hM
   rw [List.take_zero, List.nil_append, eM, List.cons_append] at hsp
   rw [e0] at hsp
   have e1 := (List.cons.inj hsp).1
   obtain ⟨n', r', eM'⟩ := hfit.head
   refine ⟨n', 0, r' ++ ks.drop (0 + m), ?_⟩
   rw [List.take_zero, List.nil_append, eM', List.cons_append, (KidOf.mk.inj e1).1]
  ·obtain ⟨r', e'⟩ := head_take ks M' (ks.drop (i + m)) i ⟨f0, n0, x0⟩ r0 e0 h0
   exact ⟨n0, x0, r', e'⟩
 ·simp only [List.length_append]; rcases hfit.len with e | e <;> omega
 ·simp only [List.length_append]; rcases hfit.len with e | e <;> omega

theorem fitted_ok {h : Nat} {ks : List (Kid h)} {i : Nat} (hl : Loose h ks i) : Fitted h ks (fittedN h ks i) := by
 obtain ⟨a, ha⟩ : ∃ a, ks[i]? = some a := ⟨_, List.getElem?_eq_getElem hl.lt⟩
 obtain ⟨l1, l2⟩ := hl.lo a ha
 have hmem : ∀ {j b}, ks[j]? = some b → b ∈ ks := fun h => List.mem_of_getElem? h
 have others : ∀ (p m : Nat), p ≤ i → i < p + m → ∀ b ∈ ks.take p ++ ks.drop (p + m), Rt h b.2 ∧ FullN h b.2 := by
  intro p m h1 h2 b hb
  rcases List.mem_append.1 hb with hb | hb
  ·obtain ⟨j, hj⟩ := List.mem_iff_getElem?.1 hb
   have hj' := hj
   rw [List.getElem?_take] at hj'
   split at hj'
   ·exact ⟨hl.rt j b hj' (by omega), hl.full b (hmem hj')⟩
   ·cases hj'
  ·obtain ⟨j, hj⟩ := List.mem_iff_getElem?.1 hb
   rw [List.getElem?_drop] at hj
   exact ⟨hl.rt _ b hj (by omega), hl.full b (hmem hj)⟩
 unfold fittedN
 rw [ha]
 simp only
 by_cases hs : sizeN h a.2 < 40
 ·rw [if_pos hs]
  have h2 := hl.two
  have hlt := hl.lt
  obtain ⟨x, hx⟩ : ∃ x, ks[i - 1]? = some x := ⟨_, List.getElem?_eq_getElem (by omega)⟩
  obtain ⟨y, hy⟩ : ∃ y, ks[i - 1 + 1]? = some y := ⟨_, List.getElem?_eq_getElem (by omega)⟩
  rw [hx, hy]
  simp only
  have hsp := split2 ks (i - 1) x y hx hy
  have hord := hl.kw.ord
  rw [hsp] at hord
  have hb : Bef h x y := by
   have := (List.pairwise_append.1 (List.pairwise_append.1 hord).2.1).1
   exact (List.pairwise_cons.1 this).1 y (by simp)
  have hw := wf_join h x y hb (hl.kw.all x (hmem hx)) (hl.kw.all y (hmem hy)) (hl.full x (hmem hx))
  have hf := full_join h x.2 y.2 (hl.full x (hmem hx)) (hl.full y (hmem hy))
  have hsz := size_join h x.2 y.2
  have hrange : 58 ≤ sizeN h x.2 + sizeN h y.2 ∧ sizeN h x.2 + sizeN h y.2 ≤ 161 := by
   by_cases hi0 : i = 0
   ·subst hi0
    have hxa : x = a := by rw [ha] at hx; cases hx; rfl
    have := hl.rt _ y hy (by omega)
    have t1 := this.1
    have t2 := this.2
    subst hxa; omega
   ·have hya : y = a := by rw [show i - 1 + 1 = i by omega, ha] at hy; cases hy; rfl
    have := hl.rt _ x hx (by omega)
    have t1 := this.1
    have t2 := this.2
    subst hya; omega
  exact fitted_of hl.kw hsp rfl (Or.inr rfl) ⟨x.2, x.3, [y], rfl⟩ (fit_ok h x.1 _ hw hf (by omega) (by omega)) (by rw [flat_join]; simp [flatK]) (others (i - 1) 2 (by omega) (by omega))
 ·rw [if_neg hs]
  exact fitted_of hl.kw (split1 ks i a ha) rfl (Or.inl rfl) ⟨a.2, a.3, [], rfl⟩ (fit_ok h a.1 a.2 (hl.kw.all a (hmem ha)) (hl.full a (hmem ha)) (by omega) (by omega)) (by simp [flatK]) (others i 1 (by omega) (by omega))

end Go.Proofs.YtcklgafpgdhnaaaGreatDoor

namespace Go.Proofs.YtcklgafpgdhnaaaGreatDoor

def wayK {h : Nat} (ks : List (Kid h)) (k : ByteArray) : Nat := (ks.takeWhile fun a => !bl k a.1).length - 1

theorem way_split {h : Nat} (f : ByteArray) (n : Nd h) (x0 : Nat) (r : List (Kid h)) (k : ByteArray) (hk : KW h (⟨f, n, x0⟩ :: r)) (hf : ge k f) :
  ∃ A a B, ⟨f, n, x0⟩ :: r = A ++ ([a] ++ B) ∧ A.length = wayK (⟨f, n, x0⟩ :: r) k ∧ ge k a.1 ∧ (∀ b ∈ B, bl k b.1 = true) := by
 have hT : (⟨f, n, x0⟩ :: r).takeWhile (fun a => !bl k a.1) = ⟨f, n, x0⟩ :: r.takeWhile fun a => !bl k a.1 := by
  rw [List.takeWhile_cons, if_pos (by show (!bl k f) = true; rw [hf]; rfl)]
 have hne : (⟨f, n, x0⟩ :: r).takeWhile (fun a => !bl k a.1) ≠ [] := by rw [hT]; simp
 have htd := List.takeWhile_append_dropWhile (p := fun a : Kid h => !bl k a.1) (l := ⟨f, n, x0⟩ :: r)
 have hlast := List.dropLast_concat_getLast hne
 refine ⟨((⟨f, n, x0⟩ :: r).takeWhile fun a => !bl k a.1).dropLast, ((⟨f, n, x0⟩ :: r).takeWhile fun a => !bl k a.1).getLast hne, (⟨f, n, x0⟩ :: r).dropWhile fun a => !bl k a.1, ?_, ?_, ?_, ?_⟩
 ·rw [← List.append_assoc, hlast, htd]
 ·rw [List.length_dropLast]; rfl
 ·have := List.all_takeWhile (p := fun a : Kid h => !bl k a.1) (l := ⟨f, n, x0⟩ :: r)
  rw [List.all_eq_true] at this
  have := this _ (List.getLast_mem hne)
  simpa [ge] using this
 ·intro b hb
  cases hD : (⟨f, n, x0⟩ :: r).dropWhile fun a => !bl k a.1 with
  | nil => rw [hD] at hb; cases hb
  | cons d D =>
   have hd : bl k d.1 = true := by
    have := List.head?_dropWhile_not (p := fun a : Kid h => !bl k a.1) (l := ⟨f, n, x0⟩ :: r)
    rw [hD] at this
    simpa using this
   rw [hD] at hb
   rcases List.mem_cons.1 hb with rfl | hb
   ·exact hd
   ·have hord := hk.ord
    rw [← htd, hD] at hord
    have := (List.pairwise_cons.1 (List.pairwise_append.1 hord).2.1).1 b hb
    exact bl_trans hd this.1

structure OpAt (F : List Pr → List Pr) (k : ByteArray) : Prop where
 mid : ∀ A l B, (∀ p ∈ A, bl p.1 k = true) → (∀ p ∈ B, bl k p.1 = true) → F (A ++ (l ++ B)) = A ++ (F l ++ B)
 srt : ∀ l, Srt l → Srt (F l)
 mem : ∀ l p, p ∈ F l → p ∈ l ∨ (p.1 = k ∧ okp p)
 size : ∀ l, Srt l → (∀ p ∈ l, okp p) → ((F l).map psz).sum ≤ (l.map psz).sum + 22 ∧ (l.map psz).sum ≤ ((F l).map psz).sum + 22

def chgK (h : Nat) (g : Nd h → Nd h) (k : ByteArray) (ks : List (Kid h)) : List (Kid h) := match ks[wayK ks k]? with
 | none => ks
 | some a => fittedN h (ks.set (wayK ks k) ⟨a.1, g a.2, a.3⟩) (wayK ks k)
def chgN (F : List Pr → List Pr) (k : ByteArray) : (h : Nat) → Nd h → Nd h
 | 0, l => F l
 | h + 1, ks => chgK h (chgN F k h) k ks

structure Chg (F : List Pr → List Pr) (h : Nat) (f : ByteArray) (n n' : Nd h) : Prop where
 wf : WFN h f n'
 full : FullN h n'
 flat : flatN h n' = F (flatN h n)
 hi : sizeN h n' ≤ sizeN h n + 22
 lo : sizeN h n ≤ sizeN h n' + 22

theorem chg_step {F : List Pr → List Pr} {k : ByteArray} (hF : OpAt F k) (h : Nat) (IH : ∀ (f : ByteArray) (n : Nd h), WFN h f n → FullN h n → ge k f → (0 < h → 22 ≤ sizeN h n) → Chg F h f n (chgN F k h n))
  (f : ByteArray) (ks : List (Kid h)) (hw : WFN (h + 1) f ks) (hf : FullN (h + 1) ks) (hk : ge k f) (h22 : 0 < h + 1 → 22 ≤ sizeN (h + 1) ks) : Chg F (h + 1) f ks (chgN F k (h + 1) ks) := by
 obtain ⟨⟨n0, x0, r0, e0⟩, hkw⟩ := (WFN_succ h f ks).1 hw
 have hfull := (FullN_succ h ks).1 hf
 obtain ⟨A, a, B, esp, hlen, hga, hB⟩ := way_split f n0 x0 r0 k (by rw [← e0]; exact hkw) hk
 rw [← e0] at esp hlen
 have hamem : a ∈ ks := by rw [esp]; simp
 have hget : ks[wayK ks k]? = some a := by
  rw [← hlen, esp]; simp
 have haR := hfull a hamem
 have ih := IH a.1 a.2 (hkw.all a hamem) haR.2 hga (fun _ => by have := haR.1.1; omega)
 have hset : ks.set (wayK ks k) ⟨a.1, chgN F k h a.2, a.3⟩ = A ++ ([⟨a.1, chgN F k h a.2, a.3⟩] ++ B) := by
  rw [← hlen]
  conv => lhs; rw [esp]
  simp
 have hord := hkw.ord
 rw [esp] at hord
 obtain ⟨pA, pMB, pAMB⟩ := List.pairwise_append.1 hord
 obtain ⟨_, pB, pMB'⟩ := List.pairwise_append.1 pMB
 have hAlt : ∀ p ∈ flatK h A, bl p.1 k = true := by
  intro p hp
  obtain ⟨c, hc, hp⟩ := mem_flatK.1 hp
  exact lt_of_lt_ge ((pAMB c hc a (by simp)).2 p hp) hga
 have hBgt : ∀ p ∈ flatK h B, bl k p.1 = true := by
  intro p hp
  obtain ⟨c, hc, hp⟩ := mem_flatK.1 hp
  exact lt_of_lt_ge (hB c hc) (WFN.keys (hkw.all c (by rw [esp]; simp [hc])) p hp).1
 have hmemF : ∀ p ∈ flatN h (chgN F k h a.2), p ∈ flatN h a.2 ∨ p.1 = k := by
  intro p hp
  rw [ih.flat] at hp
  rcases hF.mem _ p hp with e | e
  ·exact Or.inl e
  ·exact Or.inr e.1
 have kw' : KW h (A ++ ([⟨a.1, chgN F k h a.2, a.3⟩] ++ B)) := by
  refine ⟨List.pairwise_append.2 ⟨pA, List.pairwise_append.2 ⟨by simp, pB, ?_⟩, ?_⟩, ?_⟩
  ·intro x hx b hb
   simp at hx; subst hx
   have h1 := pMB' a (by simp) b hb
   refine ⟨h1.1, fun p hp => ?_⟩
   rcases hmemF p hp with e | e
   ·exact h1.2 p e
   ·rw [e]; exact hB b hb
  ·intro x hx b hb
   rcases List.mem_append.1 hb with hb | hb
   ·simp at hb; subst hb
    exact pAMB x hx a (by simp)
   ·exact pAMB x hx b (List.mem_append_right _ hb)
  ·intro x hx
   rcases List.mem_append.1 hx with hx | hx
   ·exact hkw.all x (by rw [esp]; simp [hx])
   rcases List.mem_append.1 hx with hx | hx
   ·simp at hx; subst hx; exact ih.wf
   ·exact hkw.all x (by rw [esp]; simp [hx])
 have hsz : sizeN (h + 1) ks = 11 * ks.length := rfl
 have hlk : ks.length = A.length + (1 + B.length) := by rw [esp]; simp; omega
 have h22' := h22 (by omega)
 have loose : Loose h (A ++ ([⟨a.1, chgN F k h a.2, a.3⟩] ++ B)) (wayK ks k) := by
  rw [← hlen]
  refine ⟨kw', ?_, by simp, ?_, ?_, ?_⟩
  ·simp only [List.length_append, List.length_cons, List.length_nil]; omega
  ·intro x hx
   rcases List.mem_append.1 hx with hx | hx
   ·exact (hfull x (by rw [esp]; simp [hx])).2
   rcases List.mem_append.1 hx with hx | hx
   ·simp at hx; subst hx; exact ih.full
   ·exact (hfull x (by rw [esp]; simp [hx])).2
  ·intro j x hj hne
   have : x ∈ A ∨ x ∈ B := by
    rcases Nat.lt_or_ge j A.length with hj' | hj'
    ·rw [List.getElem?_append_left hj'] at hj; exact Or.inl (List.mem_of_getElem? hj)
    ·rw [List.getElem?_append_right hj', List.getElem?_append_right (by simp; omega)] at hj
     exact Or.inr (List.mem_of_getElem? hj)
   rcases this with hx | hx
   ·exact (hfull x (by rw [esp]; simp [hx])).1
   ·exact (hfull x (by rw [esp]; simp [hx])).1
  ·intro x hx
   simp at hx; subst hx
   have := ih.hi; have := ih.lo; have := haR.1.1; have := haR.1.2
   exact ⟨by show 18 ≤ sizeN h (chgN F k h a.2); omega, by show sizeN h (chgN F k h a.2) ≤ 144; omega⟩
 have fin := fitted_ok loose
 have hres : chgN F k (h + 1) ks = fittedN h (A ++ ([⟨a.1, chgN F k h a.2, a.3⟩] ++ B)) (wayK ks k) := by
  show chgK h (chgN F k h) k ks = _
  unfold chgK
  rw [hget]
  simp only
  rw [hset]
 have hhead : ∃ n x r, A ++ ([⟨a.1, chgN F k h a.2, a.3⟩] ++ B) = ⟨f, n, x⟩ :: r := by
  cases A with
  | nil =>
   rw [e0] at esp
   have := (List.cons.inj esp).1
   refine ⟨chgN F k h a.2, a.3, B, ?_⟩
   rw [← this]; rfl
  | cons x A' =>
   rw [e0] at esp
   have := (List.cons.inj esp).1
   exact ⟨n0, x0, A' ++ ([⟨a.1, chgN F k h a.2, a.3⟩] ++ B), by rw [this]; rfl⟩
 obtain ⟨n1, x1, r1, e1⟩ := hhead
 obtain ⟨n2, x2, r2, e2⟩ := fin.head f n1 x1 r1 e1
 have hl1 : (A ++ (([⟨a.1, chgN F k h a.2, a.3⟩] : List (Kid h)) ++ B)).length = ks.length := by rw [hlk]; simp; omega
 have f1 := fin.lo
 have f2 := fin.hi
 rw [hl1] at f1 f2
 rw [hres]
 refine ⟨(WFN_succ h f _).2 ⟨⟨n2, x2, r2, e2⟩, fin.kw⟩, fun x hx => fin.full x hx, ?_, ?_, ?_⟩
 ·show flatK h (fittedN h _ _) = F (flatK h ks)
  rw [fin.flat]
  conv => rhs; rw [esp]
  simp only [flatK_append]
  rw [show flatK h [⟨a.1, chgN F k h a.2, a.3⟩] = flatN h (chgN F k h a.2) by simp [flatK], show flatK h [a] = flatN h a.2 by simp [flatK], ih.flat, hF.mid _ _ _ hAlt hBgt]
 ·show 11 * (fittedN h _ _).length ≤ 11 * ks.length + 22
  omega
 ·show 11 * ks.length ≤ 11 * (fittedN h _ _).length + 22
  omega

theorem chg_ok {F : List Pr → List Pr} {k : ByteArray} (hF : OpAt F k) : ∀ (h : Nat) (f : ByteArray) (n : Nd h), WFN h f n → FullN h n → ge k f → (0 < h → 22 ≤ sizeN h n) → Chg F h f n (chgN F k h n)
 | 0, f, l, hw, _, hk, _ => by
  have hs := hF.size l hw.1 fun p hp => (hw.2 p hp).2
  refine ⟨⟨hF.srt l hw.1, ?_⟩, trivial, rfl, hs.1, hs.2⟩
  intro p hp
  rcases hF.mem l p hp with h | ⟨h1, h2⟩
  ·exact hw.2 p h
  ·exact ⟨by rw [h1]; exact hk, h2⟩
 | h + 1, f, ks, hw, hf, hk, h22 => chg_step hF h (chg_ok hF h) f ks hw hf hk h22

end Go.Proofs.YtcklgafpgdhnaaaGreatDoor

namespace Go.Proofs.YtcklgafpgdhnaaaGreatDoor

theorem op_with (k v : ByteArray) (hk : keyOk k) (hv : v.size ≤ 12) : OpAt (withL k v) k where
 mid A l B hA hB := by rw [with_app_lt k v A _ hA, with_app_gt k v l B hB]
 srt l h := srt_with k v l h
 mem l p hp := by
  rcases mem_withGo hp with rfl | h
  ·exact Or.inr ⟨rfl, hk.1, hk.2, hv⟩
  ·exact Or.inl h
 size l hs ho := by
  have hp : psz (k, v) ≤ 22 := psz_le ⟨hk.1, hk.2, hv⟩
  induction l with
  | nil => simp [withL, withGo]; exact hp
  | cons p r ih =>
   have hr : Srt r := (List.pairwise_cons.1 hs).2
   have hpr := (List.pairwise_cons.1 hs).1
   have hop : psz p ≤ 22 := psz_le (ho p (by simp))
   rcases bl_total p.1 k with hl | he | hl
   ·have e : withL k v (p :: r) = p :: withL k v r := with_app_lt k v [p] r (by simp [hl])
    have := ih hr fun q hq => ho q (by simp [hq])
    rw [e]; simp; omega
   ·have e : withL k v (p :: r) = (k, v) :: r := by
     have hr' : withoutL k r = r := without_gt k r fun q hq => by rw [← he]; exact hpr q hq
     unfold withL
     rw [withGo_cons, he, bl_irrefl, be_refl]
     simp [withGo_true, hr']
    rw [e]; simp; omega
   ·have hg : ∀ q ∈ p :: r, bl k q.1 = true := by
     intro q hq
     rcases List.mem_cons.1 hq with rfl | hq
     ·exact hl
     ·exact bl_trans hl (hpr q hq)
    have e : withL k v (p :: r) = (k, v) :: p :: r := by
     have := with_app_gt k v [] (p :: r) hg
     simpa [withL, withGo] using this
    rw [e]; simp; omega

theorem op_without (k : ByteArray) : OpAt (withoutL k) k where
 mid A l B hA hB := by rw [without_app, without_app, without_lt k A hA, without_gt k B hB]
 srt l h := srt_without h
 mem l p hp := Or.inl (mem_without hp)
 size l hs ho := by
  induction l with
  | nil => simp [withoutL]
  | cons p r ih =>
   have hr : Srt r := (List.pairwise_cons.1 hs).2
   have hpr := (List.pairwise_cons.1 hs).1
   have hop : psz p ≤ 22 := psz_le (ho p (by simp))
   have := ih hr fun q hq => ho q (by simp [hq])
   cases he : be p.1 k with
   | true =>
    have hk := (be_iff _ _).1 he
    have hr' : withoutL k r = r := without_gt k r fun q hq => by rw [← hk]; exact hpr q hq
    have e : withoutL k (p :: r) = r := by
     have e1 : withoutL k (p :: r) = withoutL k r := by simp [withoutL, he]
     rw [e1, hr']
    rw [e]; simp; omega
   | false =>
    have e : withoutL k (p :: r) = p :: withoutL k r := by simp [withoutL, he]
    rw [e]; simp; omega

structure Tr where
 h : Nat
 n : Nd h
 pl : Nat
def flatT (t : Tr) : List Pr := flatN t.h t.n
def nilN : (h : Nat) → Nd h → Bool
 | 0, l => List.isEmpty (α := Pr) l
 | _ + 1, _ => false
def cntT (t : Tr) : Nat := if nilN t.h t.n then 0 else cntN t.h t.n
theorem cntT_cnt (t : Tr) : cntT t ≤ cntN t.h t.n := by unfold cntT; split <;> omega
def nil8 : ByteArray := ⟨#[]⟩
theorem ge_nil (k : ByteArray) : ge k nil8 := by
 unfold ge
 rw [bl_def]
 simp [nil8]
structure TW (t : Tr) : Prop where
 wf : WFN t.h nil8 t.n
 full : FullN t.h t.n
 hi : sizeN t.h t.n ≤ 122
 two : 0 < t.h → 22 ≤ sizeN t.h t.n
 nil : nilN t.h t.n = true → t.pl = 0

def lowT : (h : Nat) → Nd h → Tr
 | 0, l => ⟨0, l, 0⟩
 | h + 1, ks => match (show List (Kid h) from ks) with
  | [a] => ⟨h, a.2, a.3⟩
  | ks' => ⟨h + 1, ks', 0⟩
def rootT (h : Nat) (M : List (Kid h)) : Tr := match M with
 | [a] => lowT h a.2
 | M' => ⟨h + 1, M', 0⟩
theorem nil_size : ∀ (h : Nat) (n : Nd h), nilN h n = true → sizeN h n = 0
 | 0, l, e => by
  have : l = ([] : List Pr) := List.isEmpty_iff.1 e
  subst this; rfl
def chgT (F : List Pr → List Pr) (k : ByteArray) (t : Tr) : Tr := rootT t.h (fitN t.h nil8 (chgN F k t.h t.n))

theorem low_ok (h : Nat) (n : Nd h) (hw : WFN h nil8 n) (hf : FullN h n) (hi : sizeN h n ≤ 122) : TW (lowT h n) ∧ flatT (lowT h n) = flatN h n := by
 cases h with
 | zero => exact ⟨⟨hw, hf, hi, (by intro h; cases h), fun _ => rfl⟩, rfl⟩
 | succ h =>
  obtain ⟨⟨n0, x0, r0, e0⟩, hk⟩ := (WFN_succ h nil8 n).1 hw
  have hfull := (FullN_succ h n).1 hf
  subst e0
  cases r0 with
  | nil =>
   have hm : ⟨nil8, n0, x0⟩ ∈ [(⟨nil8, n0, x0⟩ : Kid h)] := by simp
   have ha := hfull ⟨nil8, n0, x0⟩ hm
   refine ⟨⟨hk.all _ hm, ha.2, ha.1.2, fun _ => by have := ha.1.1; show 22 ≤ sizeN h n0; simp at this; omega, fun e => by have := ha.1.1; have e2 := nil_size h n0 e; simp at this; omega⟩, ?_⟩
   show flatN h n0 = flatK h [⟨nil8, n0, x0⟩]
   simp [flatK]
  | cons b r =>
   refine ⟨⟨hw, hf, hi, fun _ => ?_, fun _ => rfl⟩, rfl⟩
   show 22 ≤ 11 * (⟨nil8, n0, x0⟩ :: b :: r).length
   simp; omega

theorem chgT_ok {F : List Pr → List Pr} {k : ByteArray} (hF : OpAt F k) (t : Tr) (ht : TW t) : TW (chgT F k t) ∧ flatT (chgT F k t) = F (flatT t) := by
 have hc := chg_ok hF t.h nil8 t.n ht.wf ht.full (ge_nil k) ht.two
 have h1 := hc.hi
 have h2 := ht.hi
 unfold chgT
 by_cases hs : sizeN t.h (chgN F k t.h t.n) ≤ 122
 ·have e : fitN t.h nil8 (chgN F k t.h t.n) = [⟨nil8, chgN F k t.h t.n, 0⟩] := by unfold fitN; rw [if_pos hs]
  rw [e]
  obtain ⟨a, b⟩ := low_ok t.h _ hc.wf hc.full hs
  exact ⟨a, b.trans hc.flat⟩
 ·have hfit := fit_ok t.h nil8 _ hc.wf hc.full (by omega) (by omega)
  have e : fitN t.h nil8 (chgN F k t.h t.n) = [⟨nil8, (halveN t.h (chgN F k t.h t.n)).1, 0⟩, ⟨firstN t.h (halveN t.h (chgN F k t.h t.n)).2, (halveN t.h (chgN F k t.h t.n)).2, 0⟩] := by unfold fitN; rw [if_neg hs]
  rw [e] at hfit ⊢
  refine ⟨⟨(WFN_succ t.h nil8 _).2 ⟨⟨_, _, _, rfl⟩, hfit.kw⟩, fun a ha => hfit.full a ha, by show 11 * 2 ≤ 122; omega, fun _ => by show 22 ≤ 11 * 2; omega, fun _ => rfl⟩, ?_⟩
  exact hfit.flat.trans hc.flat

theorem sum_le22 (l : List Pr) (h : ∀ p ∈ l, okp p) : (l.map psz).sum ≤ 22 * l.length := by
 induction l with
 | nil => simp
 | cons p r ih =>
  have := psz_le (h p (by simp))
  have := ih fun q hq => h q (by simp [hq])
  simp; omega

theorem cnt_kids {h : Nat} (IH : ∀ (f : ByteArray) (n : Nd h), WFN h f n → FullN h n → 40 ≤ sizeN h n → 3 * cntN h n + 1 ≤ 2 * (flatN h n).length) (ks : List (Kid h)) (hk : KW h ks) (hf : ∀ a ∈ ks, Rt h a.2 ∧ FullN h a.2) :
  3 * (ks.map fun k => cntN h k.2).sum + ks.length ≤ 2 * (flatK h ks).length := by
 induction ks with
 | nil => simp [flatK]
 | cons a r ih =>
  have hr : KW h r := ⟨(List.pairwise_cons.1 hk.ord).2, fun b hb => hk.all b (by simp [hb])⟩
  have h1 := ih hr fun b hb => hf b (by simp [hb])
  have ha := hf a (by simp)
  have h2 := IH a.1 a.2 (hk.all a (by simp)) ha.2 ha.1.1
  rw [flatK_cons, List.length_append]
  simp; omega

theorem cnt_le : ∀ (h : Nat) (f : ByteArray) (n : Nd h), WFN h f n → FullN h n → 40 ≤ sizeN h n → 3 * cntN h n + 1 ≤ 2 * (flatN h n).length
 | 0, f, l, hw, _, hs => by
  have h1 := sum_le22 l fun p hp => (hw.2 p hp).2
  have hs' : 40 ≤ (List.map psz l).sum := hs
  show 3 * 1 + 1 ≤ 2 * List.length (α := Pr) l
  omega
 | h + 1, f, ks, hw, hf, hs => by
  obtain ⟨_, hk⟩ := (WFN_succ h f ks).1 hw
  have h1 := cnt_kids (fun f n => cnt_le h f n) ks hk ((FullN_succ h ks).1 hf)
  have hs' : 40 ≤ 11 * List.length (α := Kid h) ks := hs
  show 3 * (1 + (List.map (fun k : Kid h => cntN h k.2) ks).sum) + 1 ≤ 2 * (flatK h ks).length
  omega

theorem cntT_le (t : Tr) (ht : TW t) : cntT t ≤ 1 ∨ 3 * cntT t ≤ 2 * (flatT t).length + 1 := by
 have hc := cntT_cnt t
 obtain ⟨h, n, pl⟩ := t
 cases h with
 | zero => exact Or.inl hc
 | succ h =>
  right
  refine Nat.le_trans (Nat.mul_le_mul_left 3 hc) ?_
  obtain ⟨_, hk⟩ := (WFN_succ h nil8 n).1 ht.wf
  have h1 := cnt_kids (fun f n => cnt_le h f n) n hk ((FullN_succ h n).1 ht.full)
  have h2 : 22 ≤ 11 * List.length (α := Kid h) n := ht.two (by simp)
  show 3 * (1 + (List.map (fun k : Kid h => cntN h k.2) n).sum) ≤ 2 * (flatK h n).length + 1
  omega

end Go.Proofs.YtcklgafpgdhnaaaGreatDoor
