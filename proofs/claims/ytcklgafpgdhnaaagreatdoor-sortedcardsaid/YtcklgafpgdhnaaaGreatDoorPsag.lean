import Derived.Test.YtcklgafpgdhnaaaGreatDoorPsaf
import Derived.Lib.Bytealg
set_option maxRecDepth 100000
set_option maxHeartbeats 4000000
open Go.Proofs.Tryz
namespace Go.Proofs.YtcklgafpgdhnaaaGreatDoor
def Q4q : (h : Nat) -> Nd h -> Nd h × Nd h
 | 0, l => (List.take (Q4n psz l) l, List.drop (Q4n psz l) l)
 | h + 1, ks => (List.take (Q4n (fun _ : Kid h => 11) ks) ks, List.drop (Q4n (fun _ : Kid h => 11) ks) ks)
def Q4r (l : List Pr) : ByteArray := match l with
 | [] => ⟨#[]⟩
 | p :: _ => p.1
def Q4s {h : Nat} (ks : List (Kid h)) : ByteArray := match ks with
 | [] => ⟨#[]⟩
 | a :: _ => a.1
def Q4t : (h : Nat) -> Nd h -> ByteArray
 | 0, l => Q4r l
 | h + 1, ks => Q4s (h := h) ks
def Q4u : (h : Nat) -> Nd h -> Nd h -> Nd h
 | 0, a, b => List.append a b
 | _ + 1, a, b => List.append a b
def fitN (h : Nat) (f : ByteArray) (n : Nd h) : List (Kid h) := if Q4a h n <= 122 then [⟨f, n, 0⟩] else [⟨f, (Q4q h n).1, 0⟩, ⟨Q4t h (Q4q h n).2, (Q4q h n).2, 0⟩]
theorem Q4v {h : Nat} (ks : List (Kid h)) : (ks.map fun _ : Kid h => 11).sum = 11 * ks.length := by
 induction ks with
 | nil => rfl
 | cons a r ih => simp [ih]; omega
theorem KW.sub {h : Nat} {A B : List (Kid h)} (hk : KW h B) (hs : A.Sublist B) : KW h A := ⟨hk.ord.sublist hs, fun a ha => hk.all a (hs.subset ha)⟩
theorem Q4w {α : Type} (sz : α -> Nat) (l : List α) (h : 0 < (l.map sz).sum) : ∃ a r, l = a :: r := by
 cases l with
 | nil => simp at h
 | cons a r => exact ⟨a, r, rfl⟩
structure Q4x (h : Nat) (f : ByteArray) (n : Nd h) (M : List (Kid h)) : Prop where
 flat : Q4b h M = Q49 h n
 kw : KW h M
 full : ∀ a ∈ M, Rt h a.2 /\ Q4j h a.2
 head : ∃ n' r, M = ⟨f, n', 0⟩ :: r
 len : M.length = 1 \/ M.length = 2
 some : ∀ a ∈ M, ∃ p ∈ Q49 h n, ge p.1 a.1
theorem Q4y (f : ByteArray) (l : List Pr) (hw : WFN 0 f l) (h1 : 122 < Q4a 0 l) (h2 : Q4a 0 l <= 161) :
  Q4x 0 f l [⟨f, (Q4q 0 l).1, 0⟩, ⟨Q4t 0 (Q4q 0 l).2, (Q4q 0 l).2, 0⟩] := by
 have hs : ∀ x ∈ l, psz x <= 22 := fun x hx => Q4g (hw.2 x hx).2
 have hS : Q4a 0 l = (l.map psz).sum := rfl
 rw [hS] at h1 h2
 obtain ⟨a1, a2⟩ := Q4p psz 22 l hs (by omega) (by omega)
 have hsp := Q4o psz l (Q4n psz l)
 have hsrt : Srt l := hw.1
 show Q4x 0 f l [⟨f, l.take (Q4n psz l), 0⟩, ⟨Q4r (l.drop (Q4n psz l)), l.drop (Q4n psz l), 0⟩]
 have hap := List.take_append_drop (Q4n psz l) l
 generalize hL : l.take (Q4n psz l) = L at *
 generalize hR : l.drop (Q4n psz l) = R at *
 obtain ⟨x, xr, eL⟩ := Q4w psz L (by omega)
 obtain ⟨y, yr, eR⟩ := Q4w psz R (by omega)
 rw [<- hap] at hsrt
 obtain ⟨sL, sR, sLR⟩ := List.pairwise_append.1 hsrt
 have kL : ∀ p ∈ L, ge p.1 f /\ okp p := fun p hp => hw.2 p (by rw [<- hap]; exact List.mem_append_left _ hp)
 have kR : ∀ p ∈ R, ge p.1 f /\ okp p := fun p hp => hw.2 p (by rw [<- hap]; exact List.mem_append_right _ hp)
 have fR : Q4r R = y.1 := by rw [eR]; rfl
 have gR : ∀ p ∈ R, ge p.1 y.1 := by
  intro p hp
  rw [eR] at hp sR
  rcases List.mem_cons.1 hp with rfl | hp
  ·exact Q3P _
  ·exact Q3Q ((List.pairwise_cons.1 sR).1 p hp)
 have yR : y ∈ R := by rw [eR]; simp
 have xL : x ∈ L := by rw [eL]; simp
 have lty : ∀ p ∈ L, bl p.1 y.1 = true := fun p hp => sLR p hp y yR
 refine ⟨?_, ⟨?_, ?_⟩, ?_, ⟨_, _, rfl⟩, Or.inr rfl, ?_⟩
 ·simp only [Q4e]
  show L ++ (R ++ []) = l
  simpa using hap
 ·rw [fR]
  refine List.pairwise_cons.2 ⟨?_, by simp⟩
  intro b hb; simp at hb; subst hb
  exact ⟨Q3S (kL x xL).1 (lty x xL), lty⟩
 ·intro a ha
  simp only [List.mem_cons, List.not_mem_nil, or_false] at ha
  rcases ha with rfl | rfl
  ·exact ⟨sL, kL⟩
  ·exact ⟨sR, fun p hp => ⟨by show ge p.1 (Q4r R); rw [fR]; exact gR p hp, (kR p hp).2⟩⟩
 ·intro a ha
  simp only [List.mem_cons, List.not_mem_nil, or_false] at ha
  rcases ha with rfl | rfl
  ·exact ⟨⟨by show 40 <= (L.map psz).sum; omega, by show (L.map psz).sum <= 122; omega⟩, trivial⟩
  ·exact ⟨⟨by show 40 <= (R.map psz).sum; omega, by show (R.map psz).sum <= 122; omega⟩, trivial⟩
 ·intro a ha
  simp only [List.mem_cons, List.not_mem_nil, or_false] at ha
  rcases ha with rfl | rfl
  ·exact ⟨x, by show x ∈ l; rw [<- hap]; exact List.mem_append_left _ xL, (kL x xL).1⟩
  ·exact ⟨y, by show y ∈ l; rw [<- hap]; exact List.mem_append_right _ yR, by show ge y.1 (Q4r R); rw [fR]; exact Q3P _⟩
theorem Q4z (h : Nat) (f : ByteArray) (ks : List (Kid h)) (hw : WFN (h + 1) f ks) (hf : Q4j (h + 1) ks) (h1 : 122 < Q4a (h + 1) ks) (h2 : Q4a (h + 1) ks <= 161) :
  Q4x (h + 1) f ks [⟨f, (Q4q (h + 1) ks).1, 0⟩, ⟨Q4t (h + 1) (Q4q (h + 1) ks).2, (Q4q (h + 1) ks).2, 0⟩] := by
 obtain ⟨⟨n0, x0, r0, e0⟩, hk⟩ := (Q4i h f ks).1 hw
 have hS : Q4a (h + 1) ks = (ks.map fun _ : Kid h => 11).sum := (Q4v ks).symm
 rw [hS] at h1 h2
 obtain ⟨a1, a2⟩ := Q4p (fun _ : Kid h => 11) 11 ks (by simp) (by omega) (by omega)
 have hsp := Q4o (fun _ : Kid h => 11) ks (Q4n (fun _ : Kid h => 11) ks)
 show Q4x (h + 1) f ks [⟨f, ks.take (Q4n (fun _ : Kid h => 11) ks), 0⟩, ⟨Q4s (ks.drop (Q4n (fun _ : Kid h => 11) ks)), ks.drop (Q4n (fun _ : Kid h => 11) ks), 0⟩]
 have hap := List.take_append_drop (Q4n (fun _ : Kid h => 11) ks) ks
 generalize hL : ks.take (Q4n (fun _ : Kid h => 11) ks) = L at *
 generalize hR : ks.drop (Q4n (fun _ : Kid h => 11) ks) = R at *
 obtain ⟨x, xr, eL⟩ := Q4w (fun _ : Kid h => 11) L (by omega)
 obtain ⟨y, yr, eR⟩ := Q4w (fun _ : Kid h => 11) R (by omega)
 have hLs : L.Sublist ks := by rw [<- hap]; exact List.sublist_append_left _ _
 have hRs : R.Sublist ks := by rw [<- hap]; exact List.sublist_append_right _ _
 have kL := hk.sub hLs
 have kR := hk.sub hRs
 have hord := hk.ord
 rw [<- hap] at hord
 obtain ⟨_, _, sLR⟩ := List.pairwise_append.1 hord
 have yR : y ∈ R := by rw [eR]; simp
 have xf : x.1 = f := by
  rw [<- hap, eL, List.cons_append] at e0
  have := (List.cons.inj e0).1
  rw [this]
 have xL : x ∈ L := by rw [eL]; simp
 have fR : Q4s R = y.1 := by rw [eR]; rfl
 have eL' : L = ⟨f, x.2, x.3⟩ :: xr := by rw [eL, <- xf]
 have eR' : R = ⟨y.1, y.2, y.3⟩ :: yr := by rw [eR]
 have hfull := (Q4k h ks).1 hf
 have neY : Q49 h y.2 ≠ [] := Q4l (by have := (hfull y (hRs.subset yR)).1.1; omega) (hfull y (hRs.subset yR)).2
 have neX : Q49 h x.2 ≠ [] := Q4l (by have := (hfull x (hLs.subset xL)).1.1; omega) (hfull x (hLs.subset xL)).2
 obtain ⟨py, hpy⟩ := List.exists_mem_of_ne_nil _ neY
 obtain ⟨px, hpx⟩ := List.exists_mem_of_ne_nil _ neX
 have s1 := Q4v L
 have s2 := Q4v R
 refine ⟨?_, ⟨?_, ?_⟩, ?_, ⟨_, _, rfl⟩, Or.inr rfl, ?_⟩
 ·show Q4b (h + 1) [⟨f, L, 0⟩, ⟨Q4s R, R, 0⟩] = Q4b h ks
  rw [Q4e, Q4e]
  show Q4b h L ++ (Q4b h R ++ []) = Q4b h ks
  rw [List.append_nil, <- Q4d, hap]
 ·rw [fR]
  refine List.pairwise_cons.2 ⟨?_, by simp⟩
  intro b hb; simp at hb; subst hb
  refine ⟨by rw [<- xf]; exact (sLR x xL y yR).1, ?_⟩
  intro p hp
  obtain ⟨a, ha, hp⟩ := Q4f.1 (show p ∈ Q4b h L from hp)
  exact (sLR a ha y yR).2 p hp
 ·intro a ha
  simp only [List.mem_cons, List.not_mem_nil, or_false] at ha
  rcases ha with rfl | rfl
  ·exact (Q4i h f L).2 ⟨⟨_, _, _, eL'⟩, kL⟩
  ·show WFN (h + 1) (Q4s R) R
   rw [fR]
   exact (Q4i h y.1 R).2 ⟨⟨_, _, _, eR'⟩, kR⟩
 ·intro a ha
  simp only [List.mem_cons, List.not_mem_nil, or_false] at ha
  rcases ha with rfl | rfl
  ·exact ⟨⟨by show 40 <= 11 * L.length; omega, by show 11 * L.length <= 122; omega⟩, fun b hb => hfull b (hLs.subset hb)⟩
  ·exact ⟨⟨by show 40 <= 11 * R.length; omega, by show 11 * R.length <= 122; omega⟩, fun b hb => hfull b (hRs.subset hb)⟩
 ·intro a ha
  simp only [List.mem_cons, List.not_mem_nil, or_false] at ha
  rcases ha with rfl | rfl
  ·refine ⟨px, ?_, ?_⟩
   ·exact Q4f.2 ⟨x, hLs.subset xL, hpx⟩
   ·show ge px.1 f
    rw [<- xf]; exact (WFN.keys (kL.all x xL) px hpx).1
  ·refine ⟨py, ?_, ?_⟩
   ·exact Q4f.2 ⟨y, hRs.subset yR, hpy⟩
   ·show ge py.1 (Q4s R)
    rw [fR]; exact (WFN.keys (kR.all y yR) py hpy).1
theorem Q4A (h : Nat) (f : ByteArray) (n : Nd h) (hw : WFN h f n) (hf : Q4j h n) (h1 : 40 <= Q4a h n) (h2 : Q4a h n <= 161) : Q4x h f n (fitN h f n) := by
 unfold fitN
 split
 ·rename_i hle
  have hne : Q49 h n ≠ [] := Q4l (by omega) hf
  obtain ⟨p, hp⟩ := List.exists_mem_of_ne_nil _ hne
  refine ⟨by simp [Q4b], ⟨by simp, by intro a ha; simp at ha; subst ha; exact hw⟩, by intro a ha; simp at ha; subst ha; exact ⟨⟨h1, hle⟩, hf⟩, ⟨_, _, rfl⟩, Or.inl rfl, ?_⟩
  intro a ha; simp at ha; subst ha
  exact ⟨p, hp, (WFN.keys hw p hp).1⟩
 ·cases h with
  | zero => exact Q4y f n hw (by omega) h2
  | succ h => exact Q4z h f n hw hf (by omega) h2
theorem Q4B {h : Nat} {A M B M' : List (Kid h)} {f : ByteArray} {n : Nd h} (hk : KW h (A ++ (M ++ B))) (hM : ∃ m x r, M = ⟨f, m, x⟩ :: r) (hfit : Q4x h f n M') (hfl : Q49 h n = Q4b h M) : KW h (A ++ (M' ++ B)) /\ Q4b h (A ++ (M' ++ B)) = Q4b h (A ++ (M ++ B)) := by
 obtain ⟨m, mx, r, eM⟩ := hM
 have hm : ⟨f, m, mx⟩ ∈ M := by rw [eM]; simp
 obtain ⟨pA, pMB, pAMB⟩ := List.pairwise_append.1 hk.ord
 obtain ⟨pM, pB, pMB'⟩ := List.pairwise_append.1 pMB
 obtain ⟨n', r', eM'⟩ := hfit.head
 have fr : ∀ b ∈ M', ge b.1 f := by
  have := hfit.kw
  rw [eM'] at this ⊢
  exact this.froms
 refine ⟨⟨?_, ?_⟩, ?_⟩
 ·refine List.pairwise_append.2 ⟨pA, List.pairwise_append.2 ⟨hfit.kw.ord, pB, ?_⟩, ?_⟩
  ·intro a ha b hb
   refine ⟨?_, ?_⟩
   ·obtain ⟨p, hp, hg⟩ := hfit.some a ha
    rw [hfl] at hp
    obtain ⟨c, hc, hp⟩ := Q4f.1 hp
    exact Q3S hg ((pMB' c hc b hb).2 p hp)
   ·intro p hp
    have : p ∈ Q4b h M' := Q4f.2 ⟨a, ha, hp⟩
    rw [hfit.flat, hfl] at this
    obtain ⟨c, hc, hp⟩ := Q4f.1 this
    exact (pMB' c hc b hb).2 p hp
  ·intro a ha b hb
   rcases List.mem_append.1 hb with hb | hb
   ·have h1 := pAMB a ha ⟨f, m, mx⟩ (List.mem_append_left _ hm)
    exact ⟨Q3R h1.1 (fr b hb), fun p hp => Q3R (h1.2 p hp) (fr b hb)⟩
   ·exact pAMB a ha b (List.mem_append_right _ hb)
 ·intro a ha
  rcases List.mem_append.1 ha with ha | ha
  ·exact hk.all a (List.mem_append_left _ ha)
  rcases List.mem_append.1 ha with ha | ha
  ·exact hfit.kw.all a ha
  ·exact hk.all a (List.mem_append_right _ (List.mem_append_right _ ha))
 ·rw [Q4d, Q4d, Q4d, Q4d, hfit.flat, hfl]
theorem Q4C : ∀ (h : Nat) (a b : Nd h), Q49 h (Q4u h a b) = Q49 h a ++ Q49 h b
 | 0, _, _ => rfl
 | h + 1, a, b => Q4d h a b
theorem Q4D (a b : List Pr) : ((a ++ b).map psz).sum = (a.map psz).sum + (b.map psz).sum := by rw [List.map_append, List.sum_append]
theorem Q4E {α : Type} (a b : List α) : 11 * (a ++ b).length = 11 * a.length + 11 * b.length := by rw [List.length_append]; omega
theorem Q4F : ∀ (h : Nat) (a b : Nd h), Q4a h (Q4u h a b) = Q4a h a + Q4a h b
 | 0, a, b => Q4D a b
 | h + 1, a, b => Q4E (α := Kid h) a b
theorem Q4G : ∀ (h : Nat) (a b : Nd h), Q4j h a -> Q4j h b -> Q4j h (Q4u h a b)
 | 0, _, _, _, _ => trivial
 | h + 1, a, b, ha, hb => by
  intro c hc
  rcases List.mem_append.1 (show c ∈ List.append a b from hc) with hc | hc
  ·exact ha c hc
  ·exact hb c hc
theorem Q4H : ∀ (h : Nat) (x y : Kid h), Bef h x y -> WFN h x.1 x.2 -> WFN h y.1 y.2 -> Q4j h x.2 -> WFN h x.1 (Q4u h x.2 y.2)
 | 0, x, y, hb, hx, hy, _ => by
  refine ⟨List.pairwise_append.2 ⟨hx.1, hy.1, ?_⟩, ?_⟩
  ·intro p hp q hq; exact Q3R (hb.2 p hp) (hy.2 q hq).1
  ·intro p hp
   rcases List.mem_append.1 (show p ∈ List.append x.2 y.2 from hp) with hp | hp
   ·exact hx.2 p hp
   ·exact ⟨Q3T (hy.2 p hp).1 (Q3Q hb.1), (hy.2 p hp).2⟩
 | h + 1, x, y, hb, hx, hy, hf => by
  obtain ⟨⟨n1, x1, r1, e1⟩, k1⟩ := (Q4i h x.1 x.2).1 hx
  obtain ⟨⟨n2, x2, r2, e2⟩, k2⟩ := (Q4i h y.1 y.2).1 hy
  have fr : ∀ b : Kid h, List.Mem b y.2 -> ge b.1 y.1 := by
   intro b hb
   have hk := k2
   rw [e2] at hk hb
   exact hk.froms b hb
  refine (Q4i h x.1 (List.append x.2 y.2)).2 ⟨⟨n1, x1, List.append r1 y.2, by rw [e1]; rfl⟩, ⟨List.pairwise_append.2 ⟨k1.ord, k2.ord, ?_⟩, ?_⟩⟩
  ·intro a ha b hbm
   have kk : ∀ p ∈ Q49 h a.2, bl p.1 b.1 = true := fun p hp => Q3R (hb.2 p (Q4f.2 ⟨a, ha, hp⟩)) (fr b hbm)
   refine ⟨?_, kk⟩
   have ha' := (Q4k h x.2).1 hf a ha
   obtain ⟨p, hp⟩ := List.exists_mem_of_ne_nil _ (Q4l (by have := ha'.1.1; omega) ha'.2)
   exact Q3S (WFN.keys (k1.all a ha) p hp).1 (kk p hp)
  ·intro a ha
   rcases List.mem_append.1 ha with ha | ha
   ·exact k1.all a ha
   ·exact k2.all a ha
def Q4I (h : Nat) (ks : List (Kid h)) (i : Nat) : List (Kid h) :=
 match ks[i]? with
 | none => ks
 | some a => if Q4a h a.2 < 40 then
   match ks[i - 1]?, ks[i - 1 + 1]? with
   | some x, some y => ks.take (i - 1) ++ (fitN h x.1 (Q4u h x.2 y.2) ++ ks.drop (i - 1 + 2))
   | _, _ => ks
  else ks.take i ++ (fitN h a.1 a.2 ++ ks.drop (i + 1))
theorem Q4J {α : Type} (l : List α) (i : Nat) (a : α) (h : l[i]? = some a) : l = l.take i ++ ([a] ++ l.drop (i + 1)) := by
 have hi : i < l.length := (List.getElem?_eq_some_iff.1 h).1
 conv => lhs; rw [<- List.take_append_drop i l, List.drop_eq_getElem_cons hi, (List.getElem?_eq_some_iff.1 h).2]
 rfl
theorem Q4K {α : Type} (l : List α) (i : Nat) (a b : α) (h : l[i]? = some a) (h' : l[i + 1]? = some b) : l = l.take i ++ ([a, b] ++ l.drop (i + 2)) := by
 have hi : i + 1 < l.length := (List.getElem?_eq_some_iff.1 h').1
 conv => lhs; rw [Q4J l i a h, List.drop_eq_getElem_cons hi, (List.getElem?_eq_some_iff.1 h').2]
 rfl
structure Q4L (h : Nat) (ks : List (Kid h)) (i : Nat) : Prop where
 kw : KW h ks
 two : 2 <= ks.length
 lt : i < ks.length
 full : ∀ a ∈ ks, Q4j h a.2
 rt : ∀ j a, ks[j]? = some a -> j ≠ i -> Rt h a.2
 lo : ∀ a, ks[i]? = some a -> 18 <= Q4a h a.2 /\ Q4a h a.2 <= 144
structure Q4M (h : Nat) (ks ks' : List (Kid h)) : Prop where
 kw : KW h ks'
 flat : Q4b h ks' = Q4b h ks
 full : ∀ a ∈ ks', Rt h a.2 /\ Q4j h a.2
 head : ∀ f n x r, ks = ⟨f, n, x⟩ :: r -> ∃ n' x' r', ks' = ⟨f, n', x'⟩ :: r'
 lo : ks.length <= ks'.length + 1
 hi : ks'.length <= ks.length + 1
theorem Q4N {α : Type} (l M B : List α) (i : Nat) (f : α) (r : List α) (h : l = f :: r) (hi : 0 < i) : ∃ r', l.take i ++ (M ++ B) = f :: r' := by
 subst h
 obtain ⟨j, rfl⟩ : ∃ j, i = j + 1 := ⟨i - 1, by omega⟩
 exact ⟨_, by rw [List.take_succ_cons, List.cons_append]⟩
theorem Q4O {h : Nat} {ks M M' : List (Kid h)} {i m : Nat} {f : ByteArray} {n : Nd h} (hkw : KW h ks) (hsp : ks = ks.take i ++ (M ++ ks.drop (i + m))) (hm : M.length = m) (hm12 : m = 1 \/ m = 2) (hM : ∃ m x r, M = ⟨f, m, x⟩ :: r) (hfit : Q4x h f n M') (hfl : Q49 h n = Q4b h M)
  (ho : ∀ a ∈ ks.take i ++ ks.drop (i + m), Rt h a.2 /\ Q4j h a.2) : Q4M h ks (ks.take i ++ (M' ++ ks.drop (i + m))) := by
 have hk := hkw
 rw [hsp] at hk
 obtain ⟨r1, r2⟩ := Q4B hk hM hfit hfl
 have hl := congrArg List.length hsp
 simp only [List.length_append] at hl
 refine ⟨r1, by rw [r2, <- hsp], ?_, ?_, ?_, ?_⟩
 ·intro a ha
  rcases List.mem_append.1 ha with ha | ha
  ·exact ho a (List.mem_append_left _ ha)
  rcases List.mem_append.1 ha with ha | ha
  ·exact hfit.full a ha
  ·exact ho a (List.mem_append_right _ ha)
 ·intro f0 n0 x0 r0 e0
  rcases Nat.eq_zero_or_pos i with h0 | h0
  ·subst h0
   obtain ⟨mm, xx, rr, eM⟩ := hM
   rw [List.take_zero, List.nil_append, eM, List.cons_append] at hsp
   rw [e0] at hsp
   have e1 := (List.cons.inj hsp).1
   obtain ⟨n', r', eM'⟩ := hfit.head
   refine ⟨n', 0, r' ++ ks.drop (0 + m), ?_⟩
   rw [List.take_zero, List.nil_append, eM', List.cons_append, (Q48.mk.inj e1).1]
  ·obtain ⟨r', e'⟩ := Q4N ks M' (ks.drop (i + m)) i ⟨f0, n0, x0⟩ r0 e0 h0
   exact ⟨n0, x0, r', e'⟩
 ·simp only [List.length_append]; rcases hfit.len with e | e <;> omega
 ·simp only [List.length_append]; rcases hfit.len with e | e <;> omega
theorem Q4P {h : Nat} {ks : List (Kid h)} {i : Nat} (hl : Q4L h ks i) : Q4M h ks (Q4I h ks i) := by
 obtain ⟨a, ha⟩ : ∃ a, ks[i]? = some a := ⟨_, List.getElem?_eq_getElem hl.lt⟩
 obtain ⟨l1, l2⟩ := hl.lo a ha
 have hmem : ∀ {j b}, ks[j]? = some b -> b ∈ ks := fun h => List.mem_of_getElem? h
 have others : ∀ (p m : Nat), p <= i -> i < p + m -> ∀ b ∈ ks.take p ++ ks.drop (p + m), Rt h b.2 /\ Q4j h b.2 := by
  intro p m h1 h2 b hb
  rcases List.mem_append.1 hb with hb | hb
  ·obtain ⟨j, hj⟩ := List.mem_iff_getElem?.1 hb
   have hj' := hj
   rw [List.getElem?_take] at hj'
   split at hj'
   ·exact ⟨hl.rt j b hj' (by omega), hl.full b (hmem hj')⟩
   ·cases hj'
  ·obtain ⟨j, hj⟩ := List.mem_iff_getElem?.1 hb
   rw [List.getElem?_drop] at hj
   exact ⟨hl.rt _ b hj (by omega), hl.full b (hmem hj)⟩
 unfold Q4I
 rw [ha]
 simp only
 by_cases hs : Q4a h a.2 < 40
 ·rw [if_pos hs]
  have h2 := hl.two
  have hlt := hl.lt
  obtain ⟨x, hx⟩ : ∃ x, ks[i - 1]? = some x := ⟨_, List.getElem?_eq_getElem (by omega)⟩
  obtain ⟨y, hy⟩ : ∃ y, ks[i - 1 + 1]? = some y := ⟨_, List.getElem?_eq_getElem (by omega)⟩
  rw [hx, hy]
  simp only
  have hsp := Q4K ks (i - 1) x y hx hy
  have hord := hl.kw.ord
  rw [hsp] at hord
  have hb : Bef h x y := by
   have := (List.pairwise_append.1 (List.pairwise_append.1 hord).2.1).1
   exact (List.pairwise_cons.1 this).1 y (by simp)
  have hw := Q4H h x y hb (hl.kw.all x (hmem hx)) (hl.kw.all y (hmem hy)) (hl.full x (hmem hx))
  have hf := Q4G h x.2 y.2 (hl.full x (hmem hx)) (hl.full y (hmem hy))
  have hsz := Q4F h x.2 y.2
  have hrange : 58 <= Q4a h x.2 + Q4a h y.2 /\ Q4a h x.2 + Q4a h y.2 <= 161 := by
   by_cases hi0 : i = 0
   ·subst hi0
    have hxa : x = a := by rw [ha] at hx; cases hx; rfl
    have := hl.rt _ y hy (by omega)
    have t1 := this.1
    have t2 := this.2
    subst hxa; omega
   ·have hya : y = a := by rw [show i - 1 + 1 = i by omega, ha] at hy; cases hy; rfl
    have := hl.rt _ x hx (by omega)
    have t1 := this.1
    have t2 := this.2
    subst hya; omega
  exact Q4O hl.kw hsp rfl (Or.inr rfl) ⟨x.2, x.3, [y], rfl⟩ (Q4A h x.1 _ hw hf (by omega) (by omega)) (by rw [Q4C]; simp [Q4b]) (others (i - 1) 2 (by omega) (by omega))
 ·rw [if_neg hs]
  exact Q4O hl.kw (Q4J ks i a ha) rfl (Or.inl rfl) ⟨a.2, a.3, [], rfl⟩ (Q4A h a.1 a.2 (hl.kw.all a (hmem ha)) (hl.full a (hmem ha)) (by omega) (by omega)) (by simp [Q4b]) (others i 1 (by omega) (by omega))
def wayK {h : Nat} (ks : List (Kid h)) (k : ByteArray) : Nat := (ks.takeWhile fun a => !bl k a.1).length - 1
theorem Q4Q {h : Nat} (f : ByteArray) (n : Nd h) (x0 : Nat) (r : List (Kid h)) (k : ByteArray) (hk : KW h (⟨f, n, x0⟩ :: r)) (hf : ge k f) :
  ∃ A a B, ⟨f, n, x0⟩ :: r = A ++ ([a] ++ B) /\ A.length = wayK (⟨f, n, x0⟩ :: r) k /\ ge k a.1 /\ (∀ b ∈ B, bl k b.1 = true) := by
 have hT : (⟨f, n, x0⟩ :: r).takeWhile (fun a => !bl k a.1) = ⟨f, n, x0⟩ :: r.takeWhile fun a => !bl k a.1 := by
  rw [List.takeWhile_cons, if_pos (by show (!bl k f) = true; rw [hf]; rfl)]
 have hne : (⟨f, n, x0⟩ :: r).takeWhile (fun a => !bl k a.1) ≠ [] := by rw [hT]; simp
 have htd := List.takeWhile_append_dropWhile (p := fun a : Kid h => !bl k a.1) (l := ⟨f, n, x0⟩ :: r)
 have hlast := List.dropLast_concat_getLast hne
 refine ⟨((⟨f, n, x0⟩ :: r).takeWhile fun a => !bl k a.1).dropLast, ((⟨f, n, x0⟩ :: r).takeWhile fun a => !bl k a.1).getLast hne, (⟨f, n, x0⟩ :: r).dropWhile fun a => !bl k a.1, ?_, ?_, ?_, ?_⟩
 ·rw [<- List.append_assoc, hlast, htd]
 ·rw [List.length_dropLast]; rfl
 ·have := List.all_takeWhile (p := fun a : Kid h => !bl k a.1) (l := ⟨f, n, x0⟩ :: r)
  rw [List.all_eq_true] at this
  have := this _ (List.getLast_mem hne)
  simpa [ge] using this
 ·intro b hb
  cases hD : (⟨f, n, x0⟩ :: r).dropWhile fun a => !bl k a.1 with
  | nil => rw [hD] at hb; cases hb
  | cons d D =>
   have hd : bl k d.1 = true := by
    have := List.head?_dropWhile_not (p := fun a : Kid h => !bl k a.1) (l := ⟨f, n, x0⟩ :: r)
    rw [hD] at this
    simpa using this
   rw [hD] at hb
   rcases List.mem_cons.1 hb with rfl | hb
   ·exact hd
   ·have hord := hk.ord
    rw [<- htd, hD] at hord
    have := (List.pairwise_cons.1 (List.pairwise_append.1 hord).2.1).1 b hb
    exact Q3o hd this.1
structure OpAt (F : List Pr -> List Pr) (k : ByteArray) : Prop where
 mid : ∀ A l B, (∀ p ∈ A, bl p.1 k = true) -> (∀ p ∈ B, bl k p.1 = true) -> F (A ++ (l ++ B)) = A ++ (F l ++ B)
 srt : ∀ l, Srt l -> Srt (F l)
 mem : ∀ l p, p ∈ F l -> p ∈ l \/ (p.1 = k /\ okp p)
 size : ∀ l, Srt l -> (∀ p ∈ l, okp p) -> ((F l).map psz).sum <= (l.map psz).sum + 22 /\ (l.map psz).sum <= ((F l).map psz).sum + 22
def chgK (h : Nat) (g : Nd h -> Nd h) (k : ByteArray) (ks : List (Kid h)) : List (Kid h) := match ks[wayK ks k]? with
 | none => ks
 | some a => Q4I h (ks.set (wayK ks k) ⟨a.1, g a.2, a.3⟩) (wayK ks k)
def chgN (F : List Pr -> List Pr) (k : ByteArray) : (h : Nat) -> Nd h -> Nd h
 | 0, l => F l
 | h + 1, ks => chgK h (chgN F k h) k ks
structure Chg (F : List Pr -> List Pr) (h : Nat) (f : ByteArray) (n n' : Nd h) : Prop where
 wf : WFN h f n'
 full : Q4j h n'
 flat : Q49 h n' = F (Q49 h n)
 hi : Q4a h n' <= Q4a h n + 22
 lo : Q4a h n <= Q4a h n' + 22
theorem Q4R {F : List Pr -> List Pr} {k : ByteArray} (hF : OpAt F k) (h : Nat) (IH : ∀ (f : ByteArray) (n : Nd h), WFN h f n -> Q4j h n -> ge k f -> (0 < h -> 22 <= Q4a h n) -> Chg F h f n (chgN F k h n))
  (f : ByteArray) (ks : List (Kid h)) (hw : WFN (h + 1) f ks) (hf : Q4j (h + 1) ks) (hk : ge k f) (h22 : 0 < h + 1 -> 22 <= Q4a (h + 1) ks) : Chg F (h + 1) f ks (chgN F k (h + 1) ks) := by
 obtain ⟨⟨n0, x0, r0, e0⟩, hkw⟩ := (Q4i h f ks).1 hw
 have hfull := (Q4k h ks).1 hf
 obtain ⟨A, a, B, esp, hlen, hga, hB⟩ := Q4Q f n0 x0 r0 k (by rw [<- e0]; exact hkw) hk
 rw [<- e0] at esp hlen
 have hamem : a ∈ ks := by rw [esp]; simp
 have hget : ks[wayK ks k]? = some a := by
  rw [<- hlen, esp]; simp
 have haR := hfull a hamem
 have ih := IH a.1 a.2 (hkw.all a hamem) haR.2 hga (fun _ => by have := haR.1.1; omega)
 have hset : ks.set (wayK ks k) ⟨a.1, chgN F k h a.2, a.3⟩ = A ++ ([⟨a.1, chgN F k h a.2, a.3⟩] ++ B) := by
  rw [<- hlen]
  conv => lhs; rw [esp]
  simp
 have hord := hkw.ord
 rw [esp] at hord
 obtain ⟨pA, pMB, pAMB⟩ := List.pairwise_append.1 hord
 obtain ⟨_, pB, pMB'⟩ := List.pairwise_append.1 pMB
 have hAlt : ∀ p ∈ Q4b h A, bl p.1 k = true := by
  intro p hp
  obtain ⟨c, hc, hp⟩ := Q4f.1 hp
  exact Q3R ((pAMB c hc a (by simp)).2 p hp) hga
 have hBgt : ∀ p ∈ Q4b h B, bl k p.1 = true := by
  intro p hp
  obtain ⟨c, hc, hp⟩ := Q4f.1 hp
  exact Q3R (hB c hc) (WFN.keys (hkw.all c (by rw [esp]; simp [hc])) p hp).1
 have hmemF : ∀ p ∈ Q49 h (chgN F k h a.2), p ∈ Q49 h a.2 \/ p.1 = k := by
  intro p hp
  rw [ih.flat] at hp
  rcases hF.mem _ p hp with e | e
  ·exact Or.inl e
  ·exact Or.inr e.1
 have kw' : KW h (A ++ ([⟨a.1, chgN F k h a.2, a.3⟩] ++ B)) := by
  refine ⟨List.pairwise_append.2 ⟨pA, List.pairwise_append.2 ⟨by simp, pB, ?_⟩, ?_⟩, ?_⟩
  ·intro x hx b hb
   simp at hx; subst hx
   have h1 := pMB' a (by simp) b hb
   refine ⟨h1.1, fun p hp => ?_⟩
   rcases hmemF p hp with e | e
   ·exact h1.2 p e
   ·rw [e]; exact hB b hb
  ·intro x hx b hb
   rcases List.mem_append.1 hb with hb | hb
   ·simp at hb; subst hb
    exact pAMB x hx a (by simp)
   ·exact pAMB x hx b (List.mem_append_right _ hb)
  ·intro x hx
   rcases List.mem_append.1 hx with hx | hx
   ·exact hkw.all x (by rw [esp]; simp [hx])
   rcases List.mem_append.1 hx with hx | hx
   ·simp at hx; subst hx; exact ih.wf
   ·exact hkw.all x (by rw [esp]; simp [hx])
 have hsz : Q4a (h + 1) ks = 11 * ks.length := rfl
 have hlk : ks.length = A.length + (1 + B.length) := by rw [esp]; simp; omega
 have h22' := h22 (by omega)
 have loose : Q4L h (A ++ ([⟨a.1, chgN F k h a.2, a.3⟩] ++ B)) (wayK ks k) := by
  rw [<- hlen]
  refine ⟨kw', ?_, by simp, ?_, ?_, ?_⟩
  ·simp only [List.length_append, List.length_cons, List.length_nil]; omega
  ·intro x hx
   rcases List.mem_append.1 hx with hx | hx
   ·exact (hfull x (by rw [esp]; simp [hx])).2
   rcases List.mem_append.1 hx with hx | hx
   ·simp at hx; subst hx; exact ih.full
   ·exact (hfull x (by rw [esp]; simp [hx])).2
  ·intro j x hj hne
   have : x ∈ A \/ x ∈ B := by
    rcases Nat.lt_or_ge j A.length with hj' | hj'
    ·rw [List.getElem?_append_left hj'] at hj; exact Or.inl (List.mem_of_getElem? hj)
    ·rw [List.getElem?_append_right hj', List.getElem?_append_right (by simp; omega)] at hj
     exact Or.inr (List.mem_of_getElem? hj)
   rcases this with hx | hx
   ·exact (hfull x (by rw [esp]; simp [hx])).1
   ·exact (hfull x (by rw [esp]; simp [hx])).1
  ·intro x hx
   simp at hx; subst hx
   have := ih.hi; have := ih.lo; have := haR.1.1; have := haR.1.2
   exact ⟨by show 18 <= Q4a h (chgN F k h a.2); omega, by show Q4a h (chgN F k h a.2) <= 144; omega⟩
 have fin := Q4P loose
 have hres : chgN F k (h + 1) ks = Q4I h (A ++ ([⟨a.1, chgN F k h a.2, a.3⟩] ++ B)) (wayK ks k) := by
  show chgK h (chgN F k h) k ks = _
  unfold chgK
  rw [hget]
  simp only
  rw [hset]
 have hhead : ∃ n x r, A ++ ([⟨a.1, chgN F k h a.2, a.3⟩] ++ B) = ⟨f, n, x⟩ :: r := by
  cases A with
  | nil =>
   rw [e0] at esp
   have := (List.cons.inj esp).1
   refine ⟨chgN F k h a.2, a.3, B, ?_⟩
   rw [<- this]; rfl
  | cons x A' =>
   rw [e0] at esp
   have := (List.cons.inj esp).1
   exact ⟨n0, x0, A' ++ ([⟨a.1, chgN F k h a.2, a.3⟩] ++ B), by rw [this]; rfl⟩
 obtain ⟨n1, x1, r1, e1⟩ := hhead
 obtain ⟨n2, x2, r2, e2⟩ := fin.head f n1 x1 r1 e1
 have hl1 : (A ++ (([⟨a.1, chgN F k h a.2, a.3⟩] : List (Kid h)) ++ B)).length = ks.length := by rw [hlk]; simp; omega
 have f1 := fin.lo
 have f2 := fin.hi
 rw [hl1] at f1 f2
 rw [hres]
 refine ⟨(Q4i h f _).2 ⟨⟨n2, x2, r2, e2⟩, fin.kw⟩, fun x hx => fin.full x hx, ?_, ?_, ?_⟩
 ·show Q4b h (Q4I h _ _) = F (Q4b h ks)
  rw [fin.flat]
  conv => rhs; rw [esp]
  simp only [Q4d]
  rw [show Q4b h [⟨a.1, chgN F k h a.2, a.3⟩] = Q49 h (chgN F k h a.2) by simp [Q4b], show Q4b h [a] = Q49 h a.2 by simp [Q4b], ih.flat, hF.mid _ _ _ hAlt hBgt]
 ·show 11 * (Q4I h _ _).length <= 11 * ks.length + 22
  omega
 ·show 11 * ks.length <= 11 * (Q4I h _ _).length + 22
  omega
theorem Q4S {F : List Pr -> List Pr} {k : ByteArray} (hF : OpAt F k) : ∀ (h : Nat) (f : ByteArray) (n : Nd h), WFN h f n -> Q4j h n -> ge k f -> (0 < h -> 22 <= Q4a h n) -> Chg F h f n (chgN F k h n)
 | 0, f, l, hw, _, hk, _ => by
  have hs := hF.size l hw.1 fun p hp => (hw.2 p hp).2
  refine ⟨⟨hF.srt l hw.1, ?_⟩, trivial, rfl, hs.1, hs.2⟩
  intro p hp
  rcases hF.mem l p hp with h | ⟨h1, h2⟩
  ·exact hw.2 p h
  ·exact ⟨by rw [h1]; exact hk, h2⟩
 | h + 1, f, ks, hw, hf, hk, h22 => Q4R hF h (Q4S hF h) f ks hw hf hk h22
theorem Q4T (k v : ByteArray) (hk : Q3O k) (hv : v.size <= 12) : OpAt (Q3r k v) k where
 mid A l B hA hB := by rw [Q3Y k v A _ hA, Q40 k v l B hB]
 srt l h := Q47 k v l h
 mem l p hp := by
  rcases Q44 hp with rfl | h
  ·exact Or.inr ⟨rfl, hk.1, hk.2, hv⟩
  ·exact Or.inl h
 size l hs ho := by
  have hp : psz (k, v) <= 22 := Q4g ⟨hk.1, hk.2, hv⟩
  induction l with
  | nil => simp [Q3r, Q3q]; exact hp
  | cons p r ih =>
   have hr : Srt r := (List.pairwise_cons.1 hs).2
   have hpr := (List.pairwise_cons.1 hs).1
   have hop : psz p <= 22 := Q4g (ho p (by simp))
   rcases Q3p p.1 k with hl | he | hl
   ·have e : Q3r k v (p :: r) = p :: Q3r k v r := Q3Y k v [p] r (by simp [hl])
    have := ih hr fun q hq => ho q (by simp [hq])
    rw [e]; simp; omega
   ·have e : Q3r k v (p :: r) = (k, v) :: r := by
     have hr' : Q3s k r = r := Q43 k r fun q hq => by rw [<- he]; exact hpr q hq
     unfold Q3r
     rw [Q3L, he, Q3n, Q3m]
     simp [Q3W, hr']
    rw [e]; simp; omega
   ·have hg : ∀ q ∈ p :: r, bl k q.1 = true := by
     intro q hq
     rcases List.mem_cons.1 hq with rfl | hq
     ·exact hl
     ·exact Q3o hl (hpr q hq)
    have e : Q3r k v (p :: r) = (k, v) :: p :: r := by
     have := Q40 k v [] (p :: r) hg
     simpa [Q3r, Q3q] using this
    rw [e]; simp; omega
theorem Q4U (k : ByteArray) : OpAt (Q3s k) k where
 mid A l B hA hB := by rw [Q41, Q41, Q42 k A hA, Q43 k B hB]
 srt l h := Q46 h
 mem l p hp := Or.inl (Q45 hp)
 size l hs ho := by
  induction l with
  | nil => simp [Q3s]
  | cons p r ih =>
   have hr : Srt r := (List.pairwise_cons.1 hs).2
   have hpr := (List.pairwise_cons.1 hs).1
   have hop : psz p <= 22 := Q4g (ho p (by simp))
   have := ih hr fun q hq => ho q (by simp [hq])
   cases he : be p.1 k with
   | true =>
    have hk := (Q3k _ _).1 he
    have hr' : Q3s k r = r := Q43 k r fun q hq => by rw [<- hk]; exact hpr q hq
    have e : Q3s k (p :: r) = r := by
     have e1 : Q3s k (p :: r) = Q3s k r := by simp [Q3s, he]
     rw [e1, hr']
    rw [e]; simp; omega
   | false =>
    have e : Q3s k (p :: r) = p :: Q3s k r := by simp [Q3s, he]
    rw [e]; simp; omega
structure Tr where
 h : Nat
 n : Nd h
 pl : Nat
def Q4V (t : Tr) : List Pr := Q49 t.h t.n
def nilN : (h : Nat) -> Nd h -> Bool
 | 0, l => List.isEmpty (α := Pr) l
 | _ + 1, _ => false
def cntT (t : Tr) : Nat := if nilN t.h t.n then 0 else cntN t.h t.n
theorem Q4W (t : Tr) : cntT t <= cntN t.h t.n := by unfold cntT; split <;> omega
def nil8 : ByteArray := ⟨#[]⟩
theorem Q4X (k : ByteArray) : ge k nil8 := by
 unfold ge
 rw [Q3j]
 simp [nil8]
structure TW (t : Tr) : Prop where
 wf : WFN t.h nil8 t.n
 full : Q4j t.h t.n
 hi : Q4a t.h t.n <= 122
 two : 0 < t.h -> 22 <= Q4a t.h t.n
 nil : nilN t.h t.n = true -> t.pl = 0
def lowT : (h : Nat) -> Nd h -> Tr
 | 0, l => ⟨0, l, 0⟩
 | h + 1, ks => match (show List (Kid h) from ks) with
  | [a] => ⟨h, a.2, a.3⟩
  | ks' => ⟨h + 1, ks', 0⟩
def Q4Y (h : Nat) (M : List (Kid h)) : Tr := match M with
 | [a] => lowT h a.2
 | M' => ⟨h + 1, M', 0⟩
theorem Q4Z : ∀ (h : Nat) (n : Nd h), nilN h n = true -> Q4a h n = 0
 | 0, l, e => by
  have : l = ([] : List Pr) := List.isEmpty_iff.1 e
  subst this; rfl
def chgT (F : List Pr -> List Pr) (k : ByteArray) (t : Tr) : Tr := Q4Y t.h (fitN t.h nil8 (chgN F k t.h t.n))
theorem Q50 (h : Nat) (n : Nd h) (hw : WFN h nil8 n) (hf : Q4j h n) (hi : Q4a h n <= 122) : TW (lowT h n) /\ Q4V (lowT h n) = Q49 h n := by
 cases h with
 | zero => exact ⟨⟨hw, hf, hi, (by intro h; cases h), fun _ => rfl⟩, rfl⟩
 | succ h =>
  obtain ⟨⟨n0, x0, r0, e0⟩, hk⟩ := (Q4i h nil8 n).1 hw
  have hfull := (Q4k h n).1 hf
  subst e0
  cases r0 with
  | nil =>
   have hm : ⟨nil8, n0, x0⟩ ∈ [(⟨nil8, n0, x0⟩ : Kid h)] := by simp
   have ha := hfull ⟨nil8, n0, x0⟩ hm
   refine ⟨⟨hk.all _ hm, ha.2, ha.1.2, fun _ => by have := ha.1.1; show 22 <= Q4a h n0; simp at this; omega, fun e => by have := ha.1.1; have e2 := Q4Z h n0 e; simp at this; omega⟩, ?_⟩
   show Q49 h n0 = Q4b h [⟨nil8, n0, x0⟩]
   simp [Q4b]
  | cons b r =>
   refine ⟨⟨hw, hf, hi, fun _ => ?_, fun _ => rfl⟩, rfl⟩
   show 22 <= 11 * (⟨nil8, n0, x0⟩ :: b :: r).length
   simp; omega
theorem Q51 {F : List Pr -> List Pr} {k : ByteArray} (hF : OpAt F k) (t : Tr) (ht : TW t) : TW (chgT F k t) /\ Q4V (chgT F k t) = F (Q4V t) := by
 have hc := Q4S hF t.h nil8 t.n ht.wf ht.full (Q4X k) ht.two
 have h1 := hc.hi
 have h2 := ht.hi
 unfold chgT
 by_cases hs : Q4a t.h (chgN F k t.h t.n) <= 122
 ·have e : fitN t.h nil8 (chgN F k t.h t.n) = [⟨nil8, chgN F k t.h t.n, 0⟩] := by unfold fitN; rw [if_pos hs]
  rw [e]
  obtain ⟨a, b⟩ := Q50 t.h _ hc.wf hc.full hs
  exact ⟨a, b.trans hc.flat⟩
 ·have hfit := Q4A t.h nil8 _ hc.wf hc.full (by omega) (by omega)
  have e : fitN t.h nil8 (chgN F k t.h t.n) = [⟨nil8, (Q4q t.h (chgN F k t.h t.n)).1, 0⟩, ⟨Q4t t.h (Q4q t.h (chgN F k t.h t.n)).2, (Q4q t.h (chgN F k t.h t.n)).2, 0⟩] := by unfold fitN; rw [if_neg hs]
  rw [e] at hfit ⊢
  refine ⟨⟨(Q4i t.h nil8 _).2 ⟨⟨_, _, _, rfl⟩, hfit.kw⟩, fun a ha => hfit.full a ha, by show 11 * 2 <= 122; omega, fun _ => by show 22 <= 11 * 2; omega, fun _ => rfl⟩, ?_⟩
  exact hfit.flat.trans hc.flat
theorem Q52 (l : List Pr) (h : ∀ p ∈ l, okp p) : (l.map psz).sum <= 22 * l.length := by
 induction l with
 | nil => simp
 | cons p r ih =>
  have := Q4g (h p (by simp))
  have := ih fun q hq => h q (by simp [hq])
  simp; omega
theorem Q53 {h : Nat} (IH : ∀ (f : ByteArray) (n : Nd h), WFN h f n -> Q4j h n -> 40 <= Q4a h n -> 3 * cntN h n + 1 <= 2 * (Q49 h n).length) (ks : List (Kid h)) (hk : KW h ks) (hf : ∀ a ∈ ks, Rt h a.2 /\ Q4j h a.2) :
  3 * (ks.map fun k => cntN h k.2).sum + ks.length <= 2 * (Q4b h ks).length := by
 induction ks with
 | nil => simp [Q4b]
 | cons a r ih =>
  have hr : KW h r := ⟨(List.pairwise_cons.1 hk.ord).2, fun b hb => hk.all b (by simp [hb])⟩
  have h1 := ih hr fun b hb => hf b (by simp [hb])
  have ha := hf a (by simp)
  have h2 := IH a.1 a.2 (hk.all a (by simp)) ha.2 ha.1.1
  rw [Q4e, List.length_append]
  simp; omega
theorem Q54 : ∀ (h : Nat) (f : ByteArray) (n : Nd h), WFN h f n -> Q4j h n -> 40 <= Q4a h n -> 3 * cntN h n + 1 <= 2 * (Q49 h n).length
 | 0, f, l, hw, _, hs => by
  have h1 := Q52 l fun p hp => (hw.2 p hp).2
  have hs' : 40 <= (List.map psz l).sum := hs
  show 3 * 1 + 1 <= 2 * List.length (α := Pr) l
  omega
 | h + 1, f, ks, hw, hf, hs => by
  obtain ⟨_, hk⟩ := (Q4i h f ks).1 hw
  have h1 := Q53 (fun f n => Q54 h f n) ks hk ((Q4k h ks).1 hf)
  have hs' : 40 <= 11 * List.length (α := Kid h) ks := hs
  show 3 * (1 + (List.map (fun k : Kid h => cntN h k.2) ks).sum) + 1 <= 2 * (Q4b h ks).length
  omega
theorem Q55 (t : Tr) (ht : TW t) : cntT t <= 1 \/ 3 * cntT t <= 2 * (Q4V t).length + 1 := by
 have hc := Q4W t
 obtain ⟨h, n, pl⟩ := t
 cases h with
 | zero => exact Or.inl hc
 | succ h =>
  right
  refine Nat.le_trans (Nat.mul_le_mul_left 3 hc) ?_
  obtain ⟨_, hk⟩ := (Q4i h nil8 n).1 ht.wf
  have h1 := Q53 (fun f n => Q54 h f n) n hk ((Q4k h n).1 ht.full)
  have h2 : 22 <= 11 * List.length (α := Kid h) n := ht.two (by simp)
  show 3 * (1 + (List.map (fun k : Kid h => cntN h k.2) n).sum) <= 2 * (Q4b h n).length + 1
  omega
end Go.Proofs.YtcklgafpgdhnaaaGreatDoor
namespace Go.Proofs.YtcklgafpgdhnaaaGreatDoor
open Go.RowKit
def SL (w : World) (t : TypeId) (d : Nat) (v : Value) (es : List El) : Prop :=
 (v = .slice none 0 0 /\ es = []) \/ ∃ g off cap cur, v = .slice (some ⟨g, off, none⟩) es.length cap /\ w.heap[g]? = some (.cells cur t (0, 0)) /\ es.length <= cap /\ cap <= maxLen /\ off + cap * d <= cur.size /\
  ∀ (i : Nat) (e : El), es[i]? = some e -> e.length = d /\ ∀ (j : Nat) (u : Value), e[j]? = some u -> cur[off + i * d + j]? = some u
theorem SL.kept {w w' : World} {t : TypeId} {d : Nat} {v : Value} {es : List El} (h : SL w t d v es) (k : Kept [] w w') : SL w' t d v es := by
 rcases h with h | ⟨g, off, cap, cur, e, hh, r⟩
 ·exact Or.inl h
 ·exact Or.inr ⟨g, off, cap, cur, e, k.get hh (by simp), r⟩
theorem SL.shape {w : World} {t : TypeId} {d : Nat} {v : Value} {es : List El} (h : SL w t d v es) : ∃ p cap, v = .slice p es.length cap := by
 rcases h with ⟨rfl, rfl⟩ | ⟨g, off, cap, cur, rfl, _⟩
 ·exact ⟨_, _, rfl⟩
 ·exact ⟨_, _, rfl⟩
theorem SL.at_ {w : World} {t : TypeId} {d : Nat} {v : Value} {es : List El} (h : SL w t d v es) (hl : 0 < es.length) : ∃ g off cap cur, v = .slice (some ⟨g, off, none⟩) es.length cap /\ w.heap[g]? = some (.cells cur t (0, 0)) /\ es.length <= cap /\ cap <= maxLen /\ off + cap * d <= cur.size /\
  ∀ (i : Nat) (e : El), es[i]? = some e -> e.length = d /\ ∀ (j : Nat) (u : Value), e[j]? = some u -> cur[off + i * d + j]? = some u := by
 rcases h with ⟨_, rfl⟩ | h
 ·simp at hl
 ·exact h
theorem SL.wd {w : World} {t : TypeId} {d : Nat} {v : Value} {es : List El} (h : SL w t d v es) : ∀ e ∈ es, e.length = d := by
 intro e he
 obtain ⟨i, hi⟩ := List.mem_iff_getElem?.1 he
 obtain ⟨g, off, cap, cur, _, _, _, _, _, hc⟩ := h.at_ (by have := (List.getElem?_eq_some_iff.1 hi).1; omega)
 exact (hc i e hi).1
theorem Q56 {w : World} {t ty : TypeId} {g o d : Nat} {cur : Array Value} {e : El} (fs : _) {P : Program} (hg : w.heap[g]? = some (.cells cur t (0, 0))) (hc : e.length = d /\ ∀ (j : Nat) (u : Value), e[j]? = some u -> cur[o + j]? = some u)
  (hu : P.underlying ty = some (.struct fs)) (hi : (P.info? ty).map (·.size) = some d) : (loadVar ty ⟨g, o, none⟩).run P w = .ok (.agg e.toArray) w :=
 Q0r (P := P) w g o t ty cur.toList e (0, 0) _ (by simpa using hg) hu rfl (by rw [hi, hc.1]) (by intro j v hv; simpa using hc.2 j v hv)
def pe (p : Pr) : El := [.string p.1, .string p.2]
def LF (w : World) (v : Value) (l : List Pr) : Prop := SL w 122 2 v (l.map pe)
theorem LF.kept {w w' : World} {v : Value} {l : List Pr} (h : LF w v l) (k : Kept [] w w') : LF w' v l := SL.kept h k
theorem stp : (prog.info? 122).map (·.size) = some 2 := by kernel_rfl
theorem Q57 (k v : Value) (s : ByteArray) (hk : k = .string s) (w : World) : Calls prog 246 #[.agg #[k, v]] w fun e w' => e = .returned (.string s) /\ Kept [] w w' := by
 subst hk
 go_enter func246, ntmps246
 go_wp2
 go_ret
 exact ⟨rfl, (Kept.refl _ _).alloc _⟩
theorem Q58 (a b : ByteArray) (w : World) : Calls prog 109 #[.string a, .string b] w fun e w' => e = .returned (.int .i64 (Lib.compareBytes a.data.toList b.data.toList)) /\ w' = w := by
 have hx := fun W => Lib.run_compareString (P := prog) a b W
 have he := @run_callFunc_extern prog 170 _ Extern.BytealgCompare.compare func170 (by kernel_rfl) (by kernel_rfl) (by kernel_rfl) (by kernel_rfl)
 go_enter func109, ntmps109
 go_wp2
 go_ret
 exact ⟨rfl, rfl⟩
theorem Q59 : ∀ (a b : List UInt8), (Lib.compareBytes a b < 0) = (a < b)
 | [], [] => by simp [Lib.compareBytes]
 | [], _ :: _ => by simp [Lib.compareBytes]
 | _ :: _, [] => by simp [Lib.compareBytes]
 | x :: a, y :: b => by
  have ih := Q59 a b
  unfold Lib.compareBytes
  by_cases h1 : x < y
  ·simp [h1, List.cons_lt_cons_iff]
  ·by_cases h2 : y < x
   ·have : x ≠ y := fun e => by subst e; exact h1 h2
    simp [h1, h2, List.cons_lt_cons_iff, this]
   ·have e : x = y := UInt8.le_antisymm (UInt8.not_lt.1 h2) (UInt8.not_lt.1 h1)
    subst e
    simp [h1, ih]
theorem Q5a : ∀ (a b : List UInt8), (Lib.compareBytes a b = 0) = (a = b)
 | [], [] => by simp [Lib.compareBytes]
 | [], _ :: _ => by simp [Lib.compareBytes]
 | _ :: _, [] => by simp [Lib.compareBytes]
 | x :: a, y :: b => by
  have ih := Q5a a b
  unfold Lib.compareBytes
  by_cases h1 : x < y
  ·have : x ≠ y := fun e => by subst e; exact absurd h1 (UInt8.lt_irrefl x)
   simp [h1, this]
  ·by_cases h2 : y < x
   ·have : x ≠ y := fun e => by subst e; exact h1 h2
    simp [h1, h2, this]
   ·have e : x = y := UInt8.le_antisymm (UInt8.not_lt.1 h2) (UInt8.not_lt.1 h1)
    subst e
    simp [h1, ih]
def cmpB (a b : ByteArray) : Int := Lib.compareBytes a.data.toList b.data.toList
theorem Q5b (a b : ByteArray) : decide (cmpB a b < 0) = bl a b := by rw [Q3j]; unfold cmpB; simp only [Q59]
theorem Q5c (a b : ByteArray) : (cmpB a b == 0) = be a b := by
 have h : (cmpB a b = 0) = (a.data.toList = b.data.toList) := Q5a _ _
 have h2 : be a b = decide (a.data.toList = b.data.toList) := by unfold be; rw [Q3h, Q3h]; exact Bool.eq_iff_iff.2 (by rw [beq_iff_eq, decide_eq_true_eq])
 rw [h2]
 by_cases e : a.data.toList = b.data.toList
 ·rw [<- h] at e; simp [e, h ▸ e]
 ·have e' : ¬ cmpB a b = 0 := by rw [h]; exact e
  simp [e, e']
def Pos (keys : List ByteArray) (k : ByteArray) (i : Nat) : Prop := i <= keys.length /\ ∀ (x : Nat) (q : ByteArray), keys[x]? = some q -> (x < i ↔ bl q k = true)
def Rise (keys : List ByteArray) : Prop := keys.Pairwise fun a b => bl a b = true
def Q5d (keys : List ByteArray) (k : ByteArray) (w : World) (e : Ending) (w' : World) : Prop :=
 ∃ (i : Nat) (b : Bool), e = .returned (.tuple #[.int .i64 i, .bool b]) /\ Pos keys k i /\ (b = true ↔ keys[i]? = some k) /\ Kept [] w w'
theorem Q5e (k v : Value) (w : World) : (Go.method 433 122 (.agg #[k, v]) "store/tree.key").run prog w = .ok (246, .agg #[k, v]) w := by kernel_rfl
theorem Q5f (s k : ByteArray) (v : Value) (w : World) : Calls prog 108 #[.agg #[.string s, v], .string k] w fun e w' => e = .returned (.int .i64 (cmpB s k)) /\ Kept [] w w' := by
 have hm := Q5e
 go_enter func108, ntmps108
 go_wp2_with (first
  | (go_at_call 246; refine (Q57 _ _ _ rfl _).mono ?_; rintro e w2 ⟨rfl, hk2⟩)
  | (go_at_call 109; refine (Q58 _ _ _).mono ?_; rintro e w3 ⟨rfl, hw3⟩; rw [hw3]; clear hw3 w3))
 go_ret
 exact ⟨rfl, ((Kept.refl _ _).alloc _).trans hk2⟩
def BsI (keys : List ByteArray) (k : ByteArray) (w : World) (i j : Value) (wr : World) : Prop :=
 ∃ a b : Nat, i = .int .i64 a /\ j = .int .i64 b /\ a <= b /\ b <= keys.length /\ (∀ (x : Nat) (q : ByteArray), keys[x]? = some q -> x < a -> bl q k = true) /\ (∀ (x : Nat) (q : ByteArray), keys[x]? = some q -> b <= x -> bl q k = false) /\ Kept [] w wr
theorem Q5g {keys : List ByteArray} (h : Rise keys) {x y : Nat} {p q : ByteArray} (hx : keys[x]? = some p) (hy : keys[y]? = some q) (hxy : x < y) : bl p q = true := by
 obtain ⟨h1, e1⟩ := List.getElem?_eq_some_iff.1 hx
 obtain ⟨h2, e2⟩ := List.getElem?_eq_some_iff.1 hy
 have := List.pairwise_iff_getElem.1 h x y h1 h2 hxy
 rwa [e1, e2] at this
theorem Q5h (vl : Value) (es : List El) (keys : List ByteArray) (k : ByteArray) (w : World) (h : SL w 122 2 vl es) (hke : es.map List.head? = keys.map fun q => some (Value.string q)) (hr : Rise keys) (hl : es.length <= 50000) :
  Calls prog 107 #[vl, .string k, .func (.func 108) #[] #[]] w (Q5d keys k w) := by
 obtain ⟨pv, cv, rfl⟩ := h.shape
 have hkl : keys.length = es.length := by have := congrArg List.length hke; simpa using this.symm
 have hnth : ∀ (x : Nat) (q : ByteArray), keys[x]? = some q -> ∃ v2, es[x]? = some [.string q, v2] := by
  intro x q hq
  have hx : x < es.length := by rw [<- hkl]; exact (List.getElem?_eq_some_iff.1 hq).1
  have h2 := congrArg (fun l => l[x]?) hke
  simp only [List.getElem?_map, hq, Option.map_some, List.getElem?_eq_getElem hx] at h2
  have h3 := Option.some.inj h2
  have h4 := h.wd es[x] (List.getElem_mem hx)
  rw [List.getElem?_eq_getElem hx]
  match hes : es[x], h3, h4 with
  | [a, v2], h3, _ => simp at h3; subst h3; exact ⟨v2, rfl⟩
 go_enter func107, ntmps107
 go_wp2
 go_loopw [9, 10] (fun i j wr => BsI keys k w i j wr) (fun i j _ => (intOf j).toNat - (intOf i).toNat)
 case atStart => exact ⟨0, es.length, rfl, rfl, Nat.zero_le _, by omega, by intro x q _ hx; omega, by intro x q hx hb; have := (List.getElem?_eq_some_iff.1 hx).1; omega, Kept.refl _ _⟩
 case round =>
  obtain ⟨a, b, rfl, rfl, hab, hb, hlo, hhi, hkr⟩ := hrel
  by_cases hlt : a < b
  ·have hlt' : (a : Int) < (b : Int) := by omega
   obtain ⟨m, hm⟩ : ∃ m : Nat, m = (a + b) / 2 := ⟨_, rfl⟩
   obtain ⟨q, hq⟩ : ∃ q, keys[m]? = some q := ⟨_, List.getElem?_eq_getElem (by omega)⟩
   obtain ⟨v2, he⟩ := hnth m q hq
   obtain ⟨g, off, cap, cur, e, hg, hc1, hc2, hc3, hcur⟩ := (h.kept hkr).at_ (by omega)
   cases e
   have hld := Q56 (P := prog) (ty := 122) _ hg (hcur m _ he) underlying122 stp
   have hmi : ((a : Int) + (b : Int)) / 2 = (m : Int) := by omega
   have hml : m < es.length := by omega
   have hma : a <= m /\ m < b := by omega
   clear hcur hm
   cases hbl : bl q k with
   | true =>
    have hc : cmpB q k < 0 := by rw [<- Q5b] at hbl; simpa using hbl
    go_wp2_with (first
    | (refine Q04 rfl _ _ (Q0v 115 (.tmp 25) (.tmp 26) rfl g off es.length cv m 2 rfl rfl 122 underlying115 stp hml (off + m * 2) (by omega)) ?_)
    | (refine Q0t rfl 122 (.tmp 27) rfl ⟨g, off + m * 2, none⟩ rfl _ hld ?_)
    | (go_at_call 108; refine (Q5f _ _ _ _).mono ?_; rintro e w2 ⟨rfl, hk2⟩))
    go_roundw
    case rel =>
     refine ⟨m + 1, b, by go_num, rfl, by omega, hb, ?_, hhi, hkr.trans hk2⟩
     intro x p hx hxm
     rcases Nat.lt_or_ge x m with h1 | h1
     ·exact Q3o (Q5g hr hx hq h1) hbl
     ·have e : x = m := by omega
      subst e; rw [hq] at hx; cases hx; exact hbl
    case measure => simp [intOf]; omega
   | false =>
    have hc : ¬ cmpB q k < 0 := by rw [<- Q5b] at hbl; simpa using hbl
    go_wp2_with (first
    | (refine Q04 rfl _ _ (Q0v 115 (.tmp 25) (.tmp 26) rfl g off es.length cv m 2 rfl rfl 122 underlying115 stp hml (off + m * 2) (by omega)) ?_)
    | (refine Q0t rfl 122 (.tmp 27) rfl ⟨g, off + m * 2, none⟩ rfl _ hld ?_)
    | (go_at_call 108; refine (Q5f _ _ _ _).mono ?_; rintro e w2 ⟨rfl, hk2⟩))
    go_roundw
    case rel =>
     refine ⟨a, m, rfl, rfl, by omega, by omega, hlo, ?_, hkr.trans hk2⟩
     intro x p hx hxm
     rcases Nat.lt_or_ge m x with h1 | h1
     ·exact Q3T (Q3Q (Q5g hr hq hx h1)) hbl
     ·have e : x = m := by omega
      subst e; rw [hq] at hx; cases hx; exact hbl
    case measure => simp [intOf]; omega
  ·have hge : ¬ (a : Int) < (b : Int) := by omega
   have eab : a = b := by omega
   subst eab
   have hpos : Pos keys k a := by
    refine ⟨hb, fun x q hx => ⟨fun hxa => hlo x q hx hxa, fun hbl => ?_⟩⟩
    rcases Nat.lt_or_ge x a with h1 | h1
    ·exact h1
    ·have := hhi x q hx h1; rw [this] at hbl; cases hbl
   by_cases hn : a < es.length
   ·have hn' : (a : Int) < (es.length : Int) := by omega
    obtain ⟨q, hq⟩ : ∃ q, keys[a]? = some q := ⟨_, List.getElem?_eq_getElem (by omega)⟩
    obtain ⟨v2, he⟩ := hnth a q hq
    obtain ⟨g, off, cap, cur, e, hg, hc1, hc2, hc3, hcur⟩ := (h.kept hkr).at_ (by omega)
    cases e
    have hld := Q56 (P := prog) (ty := 122) _ hg (hcur a _ he) underlying122 stp
    have c0 : wr.cell? ⟨g, off + a * 2, none⟩ = some (.string q) := Q02 hg ((hcur a _ he).2 0 _ rfl)
    have c1 := Q02 hg ((hcur a _ he).2 1 _ rfl)
    have hix := Q3M (P := prog) (w := wr) 115 g off es.length cv a 2 122 underlying115 stp hn (off + a * 2) rfl
    clear hcur
    go_wp2_with (first
     | (go_at_call 108; refine (Q5f _ _ _ _).mono ?_; rintro e w2 ⟨rfl, hk2⟩))
    go_ret2
    refine ⟨a, cmpB q k == 0, rfl, hpos, ?_, hkr.trans hk2⟩
    rw [Q5c, Q3k, hq]
    simp
   ·have hn' : ¬ (a : Int) < (es.length : Int) := by omega
    go_wp2
    go_ret2
    refine ⟨a, false, rfl, hpos, ?_, hkr⟩
    have : keys[a]? = none := by rw [List.getElem?_eq_none_iff]; omega
    simp [this]
theorem Q5i (vl : Value) (es : List El) (keys : List ByteArray) (k : ByteArray) (w : World) (h : SL w 122 2 vl es) (hke : es.map List.head? = keys.map fun q => some (Value.string q)) (hr : Rise keys) (hl : es.length <= 50000) :
  Calls prog 70 #[vl, .string k] w (Q5d keys k w) := by
 have HB : Hid (Calls _ _ _ _ _) := Q5h vl es keys k w h hke hr hl
 go_enter func70, ntmps70
 go_wp2_with (first | (go_at_call 107; refine HB.out.mono ?_; rintro e w2 ⟨i, b, rfl, h1, h2, h3⟩))
 go_ret2
 exact ⟨i, b, rfl, h1, h2, h3⟩
end Go.Proofs.YtcklgafpgdhnaaaGreatDoor
