import Derived.Test.YtcklgafpgdhnaabGreatDoorPqag
set_option maxRecDepth 100000
set_option maxHeartbeats 4000000
namespace Go.Proofs.YtcklgafpgdhnaabGreatDoor
def ge (a b : ByteArray) : Prop := bl a b = false
theorem Q2D (a : ByteArray) : ge a a := gU a
theorem Qp {a b : ByteArray} (h : bl a b = true) : ge b a := by
 unfold ge
 cases hb : bl b a with
 | false => rfl
 | true => have := qX h hb; rw [gU] at this; cases this
theorem qj {a b c : ByteArray} (h : bl a b = true) (hc : ge c b) : bl a c = true := by
 rcases jW b c with h' | rfl | h'
 ·exact qX h h'
 ·exact h
 ·unfold ge at hc; rw [hc] at h'; cases h'
theorem Q9 {a b c : ByteArray} (h : ge b a) (hc : bl b c = true) : bl a c = true := by
 rcases jW a b with h' | rfl | h'
 ·exact qX h' hc
 ·exact hc
 ·unfold ge at h; rw [h] at h'; cases h'
theorem gz {a b c : ByteArray} (h1 : ge a b) (h2 : ge b c) : ge a c := by
 unfold ge
 cases h : bl a c with
 | false => rfl
 | true => have := qj h h2; unfold ge at h1; rw [h1] at this; cases this
theorem gA {a b : ByteArray} (h : bl a b = true) : be a b = false := by
 rw [jV]; rintro rfl; rw [gU] at h; cases h
theorem QH (a b : ByteArray) : be a b = be b a := by
 cases h : be a b with
 | true => rw [(jg a b).1 h, j1]
 | false => symm; rw [jV]; rw [jV] at h; exact fun e => h e.symm
def Srt (l : List Pr) : Prop := l.Pairwise fun p q => bl p.1 q.1 = true
theorem gW (k v : ByteArray) (l : List Pr) : qZ k v true l = yx k l := by
 induction l with
 | nil => rfl
 | cons p r ih =>
  rw [qK]
  simp only [Bool.not_true, Bool.false_and, Bool.false_eq_true, if_false, List.nil_append, Bool.true_or, ih, yx, List.filter_cons]
  cases be p.1 k <;> simp
theorem jY (k : ByteArray) (l : List Pr) (h : ∀ p ∈ l, be p.1 k = false) : yx k l = l := by
 rw [yx, List.filter_eq_self]
 intro p hp; simp [h p hp]
theorem Qa (k v : ByteArray) (A l : List Pr) (h : ∀ p ∈ A, bl p.1 k = true) : yL k v (A ++ l) = A ++ yL k v l := by
 induction A with
 | nil => rfl
 | cons p r ih =>
  have hp := h p (by simp)
  have := ih fun q hq => h q (by simp [hq])
  unfold yL at this ⊢
  rw [List.cons_append, qK, hp, gA hp]
  simp [this]
theorem Q2E (k v : ByteArray) (b : Bool) (l B : List Pr) (h : ∀ p ∈ B, bl k p.1 = true) : qZ k v b (l ++ B) = qZ k v b l ++ B := by
 induction l generalizing b with
 | nil =>
  have hB : yx k B = B := jY k B fun p hp => by rw [QH]; exact gA (h p hp)
  cases b with
  | true => rw [List.nil_append, gW, hB, ji]; rfl
  | false =>
   cases B with
   | nil => simp
   | cons q r =>
    have hq := h q (by simp)
    have hr : yx k r = r := jY k r fun p hp => by rw [QH]; exact gA (h p (by simp [hp]))
    have hlt : bl q.1 k = false := Qp hq
    have hne : be q.1 k = false := by rw [QH]; exact gA hq
    rw [List.nil_append, qK, hlt, hne]
    simp [gW, hr, ji]
 | cons p r ih =>
  rw [List.cons_append, qK, qK, ih]
  simp
theorem jz (k v : ByteArray) (l B : List Pr) (h : ∀ p ∈ B, bl k p.1 = true) : yL k v (l ++ B) = yL k v l ++ B := Q2E k v false l B h
theorem Z4 (k : ByteArray) (A B : List Pr) : yx k (A ++ B) = yx k A ++ yx k B := List.filter_append ..
theorem Q2F (k : ByteArray) (A : List Pr) (h : ∀ p ∈ A, bl p.1 k = true) : yx k A = A := jY k A fun p hp => gA (h p hp)
theorem jj (k : ByteArray) (A : List Pr) (h : ∀ p ∈ A, bl k p.1 = true) : yx k A = A := jY k A fun p hp => by rw [QH]; exact gA (h p hp)
theorem ZR {k v : ByteArray} {b : Bool} {l : List Pr} {p : Pr} (h : p ∈ qZ k v b l) : p = (k, v) \/ p ∈ l := by
 induction l generalizing b with
 | nil => cases b <;> simp [qZ] at h; exact Or.inl h
 | cons q r ih =>
  rw [qK] at h
  simp only [List.mem_append] at h
  rcases h with (h | h) | h
  ·split at h
   ·simp at h; exact Or.inl h
   ·cases h
  ·split at h
   ·cases h
   ·simp at h; subst h; exact Or.inr (by simp)
  ·rcases ih h with h | h
   ·exact Or.inl h
   ·exact Or.inr (by simp [h])
theorem Q2G {k : ByteArray} {l : List Pr} {p : Pr} (h : p ∈ yx k l) : p ∈ l := (List.mem_filter.1 h).1
theorem Q2H {k : ByteArray} {l : List Pr} (h : Srt l) : Srt (yx k l) := List.Pairwise.filter _ h
theorem Q2I (k v : ByteArray) (l : List Pr) (h : Srt l) : Srt (yL k v l) := by
 induction l with
 | nil => simp [yL, qZ, Srt]
 | cons p r ih =>
  have hr : Srt r := (List.pairwise_cons.1 h).2
  have hp := (List.pairwise_cons.1 h).1
  rcases jW p.1 k with hl | he | hl
  ·have e : yL k v (p :: r) = p :: yL k v r := Qa k v [p] r (by simp [hl])
   rw [e]
   refine List.pairwise_cons.2 ⟨?_, ih hr⟩
   intro q hq
   rcases ZR hq with rfl | hq
   ·exact hl
   ·exact hp q hq
  ·have e : yL k v (p :: r) = (k, v) :: r := by
    have hr' : yx k r = r := jj k r fun q hq => by rw [<- he]; exact hp q hq
    unfold yL
    rw [qK, he, gU, j1]
    simp [gW, hr']
   rw [e]
   exact List.pairwise_cons.2 ⟨fun q hq => by rw [<- he]; exact hp q hq, hr⟩
  ·have hg : ∀ q ∈ p :: r, bl k q.1 = true := by
    intro q hq
    rcases List.mem_cons.1 hq with rfl | hq
    ·exact hl
    ·exact qX hl (hp q hq)
   have e : yL k v (p :: r) = (k, v) :: p :: r := by
    have := jz k v [] (p :: r) hg
    simpa [yL, qZ] using this
   rw [e]
   exact List.pairwise_cons.2 ⟨hg, h⟩
structure qI (α : Type) where
 fr : ByteArray
 nd : α
 pl : Nat
def Nd : Nat -> Type
 | 0 => List Pr
 | h + 1 => List (qI (Nd h))
abbrev Kid (h : Nat) := qI (Nd h)
def yN : (h : Nat) -> Nd h -> List Pr
 | 0, l => l
 | h + 1, ks => List.flatMap (fun k : Kid h => yN h k.2) ks
def psz (p : Pr) : Nat := 2 + p.1.size + p.2.size
def yl : (h : Nat) -> Nd h -> Nat
 | 0, l => (List.map psz l).sum
 | h + 1, ks => 11 * List.length (α := Kid h) ks
def gm : (h : Nat) -> Nd h -> Nat
 | 0, _ => 1
 | h + 1, ks => 1 + (List.map (fun k : Kid h => gm h k.2) ks).sum
def yA (h : Nat) (ks : List (Kid h)) : List Pr := ks.flatMap fun k => yN h k.2
theorem Q2J (h : Nat) (ks : List (Kid h)) : yN (h + 1) ks = yA h ks := rfl
theorem qg (h : Nat) (A B : List (Kid h)) : yA h (A ++ B) = yA h A ++ yA h B := by simp [yA]
theorem gN (h : Nat) (a : Kid h) (B : List (Kid h)) : yA h (a :: B) = yN h a.2 ++ yA h B := by simp [yA]
theorem yX {h : Nat} {ks : List (Kid h)} {p : Pr} : p ∈ yA h ks ↔ ∃ a ∈ ks, p ∈ yN h a.2 := by simp [yA]
def okp (p : Pr) : Prop := 1 <= p.1.size /\ p.1.size <= 8 /\ p.2.size <= 12
theorem Z5 {p : Pr} (h : okp p) : psz p <= 22 := by unfold psz; obtain ⟨_, a, b⟩ := h; omega
theorem Q2K (p : Pr) : 0 < psz p := by unfold psz; omega
def Bef (h : Nat) (a b : Kid h) : Prop := bl a.1 b.1 = true /\ ∀ p ∈ yN h a.2, bl p.1 b.1 = true
def WFN : (h : Nat) -> ByteArray -> Nd h -> Prop
 | 0, f, l => Srt l /\ ∀ p : Pr, List.Mem p l -> ge p.1 f /\ okp p
 | h + 1, f, ks => (∃ (n : Nd h) (x : Nat) (r : List (Kid h)), ks = ⟨f, n, x⟩ :: r) /\ List.Pairwise (Bef h) ks /\ ∀ a : Kid h, List.Mem a ks -> WFN h a.1 a.2
structure KW (h : Nat) (ks : List (Kid h)) : Prop where
 ord : ks.Pairwise (Bef h)
 all : ∀ a ∈ ks, WFN h a.1 a.2
theorem yF (h : Nat) (f : ByteArray) (ks : List (Kid h)) : WFN (h + 1) f ks ↔ (∃ n x r, ks = ⟨f, n, x⟩ :: r) /\ KW h ks :=
 ⟨fun ⟨a, b, c⟩ => ⟨a, ⟨b, c⟩⟩, fun ⟨a, b⟩ => ⟨a, b.ord, b.all⟩⟩
def Rt (h : Nat) (n : Nd h) : Prop := 40 <= yl h n /\ yl h n <= 122
def q7 : (h : Nat) -> Nd h -> Prop
 | 0, _ => True
 | h + 1, ks => ∀ a : Kid h, List.Mem a ks -> Rt h a.2 /\ q7 h a.2
theorem yM (h : Nat) (ks : List (Kid h)) : q7 (h + 1) ks ↔ ∀ a ∈ ks, Rt h a.2 /\ q7 h a.2 := Iff.rfl
theorem WFN.keys : ∀ {h : Nat} {f : ByteArray} {n : Nd h}, WFN h f n -> ∀ p ∈ yN h n, ge p.1 f /\ okp p
 | 0, _, _, hw, p, hp => hw.2 p hp
 | h + 1, f, ks, hw, p, hp => by
  obtain ⟨⟨n, x, r, e⟩, hk⟩ := (yF h f ks).1 hw
  obtain ⟨a, ha, hp⟩ := yX.1 (show p ∈ yA h ks from hp)
  obtain ⟨h1, h2⟩ := WFN.keys (hk.all a ha) p hp
  refine ⟨?_, h2⟩
  subst e
  rcases List.mem_cons.1 ha with rfl | ha
  ·exact h1
  ·have := (List.pairwise_cons.1 hk.ord).1 a ha
   exact gz h1 (Qp this.1)
theorem KW.froms {h : Nat} {a : Kid h} {ks : List (Kid h)} (hk : KW h (a :: ks)) : ∀ b ∈ a :: ks, ge b.1 a.1 := by
 intro b hb
 rcases List.mem_cons.1 hb with rfl | hb
 ·exact Q2D _
 ·exact Qp ((List.pairwise_cons.1 hk.ord).1 b hb).1
theorem KW.srt {h : Nat} {ks : List (Kid h)} (hk : KW h ks) (hs : ∀ a ∈ ks, Srt (yN h a.2)) : Srt (yA h ks) := by
 induction ks with
 | nil => simp [yA, Srt]
 | cons a r ih =>
  rw [gN]
  have hr : KW h r := ⟨(List.pairwise_cons.1 hk.ord).2, fun b hb => hk.all b (by simp [hb])⟩
  refine List.pairwise_append.2 ⟨hs a (by simp), ih hr fun b hb => hs b (by simp [hb]), ?_⟩
  intro p hp q hq
  obtain ⟨b, hb, hq⟩ := yX.1 hq
  have h1 := ((List.pairwise_cons.1 hk.ord).1 b hb).2 p hp
  exact qj h1 (WFN.keys (hr.all b hb) q hq).1
theorem WFN.srt : ∀ {h : Nat} {f : ByteArray} {n : Nd h}, WFN h f n -> Srt (yN h n)
 | 0, _, _, hw => hw.1
 | h + 1, f, ks, hw => by
  obtain ⟨_, hk⟩ := (yF h f ks).1 hw
  exact hk.srt fun a ha => WFN.srt (hk.all a ha)
theorem Zl : ∀ {h : Nat} {n : Nd h}, 0 < yl h n -> q7 h n -> yN h n ≠ []
 | 0, l, hs, _, e => by
  have e' : l = [] := e
  subst e'; simp [yl] at hs
 | h + 1, ks, hs, hf, e => by
  cases hks : (ks : List (Kid h)) with
  | nil => rw [hks] at hs; simp [yl] at hs
  | cons a r =>
   rw [hks, Q2J, gN] at e
   have ha := (yM h ks).1 hf a (by rw [hks]; simp)
   exact Zl (by have := ha.1.1; omega) ha.2 (List.append_eq_nil_iff.1 e).1
def Q4 {α : Type} (sz : α -> Nat) (whole : Nat) : Nat -> List α -> Nat
 | _, [] => 0
 | part, x :: r => if 2 * part < whole then Q4 sz whole (part + sz x) r + 1 else 0
theorem Q2L {α : Type} (sz : α -> Nat) (whole b : Nat) (l : List α) (hb : ∀ x ∈ l, sz x <= b) : ∀ part, 2 * part < whole + 2 * b -> part + (l.map sz).sum ≥ whole - whole / 2 ->
  whole <= 2 * (part + ((l.take (Q4 sz whole part l)).map sz).sum) /\ 2 * (part + ((l.take (Q4 sz whole part l)).map sz).sum) < whole + 2 * b \/ whole <= 2 * part := by
 induction l with
 | nil =>
  intro part h1 h2
  simp [Q4] at h2 ⊢
  omega
 | cons x r ih =>
  intro part h1 h2
  rw [Q4]
  split
  ·rename_i hlt
   have hx := hb x (by simp)
   have := ih (fun y hy => hb y (by simp [hy])) (part + sz x) (by omega) (by simp at h2; omega)
   rw [List.take_succ_cons, List.map_cons, List.sum_cons]
   rcases this with ⟨a, c⟩ | a
   ·left; omega
   ·have hz : Q4 sz whole (part + sz x) r = 0 := by
     cases r with
     | nil => rfl
     | cons y t => rw [Q4, if_neg (by omega)]
    rw [hz]
    simp
    omega
  ·right; omega
def yJ {α : Type} (sz : α -> Nat) (l : List α) : Nat := Q4 sz (l.map sz).sum 0 l
theorem Qq {α : Type} (sz : α -> Nat) (l : List α) (i : Nat) : ((l.take i).map sz).sum + ((l.drop i).map sz).sum = (l.map sz).sum := by
 rw [<- List.sum_append, <- List.map_append, List.take_append_drop]
theorem ZS {α : Type} (sz : α -> Nat) (b : Nat) (l : List α) (hb : ∀ x ∈ l, sz x <= b) (h0 : 0 < (l.map sz).sum) (hbp : 0 < b) :
  (l.map sz).sum <= 2 * ((l.take (yJ sz l)).map sz).sum /\ 2 * ((l.take (yJ sz l)).map sz).sum < (l.map sz).sum + 2 * b := by
 have := Q2L sz (l.map sz).sum b l hb 0 (by omega) (by omega)
 simp only [Nat.zero_add] at this
 unfold yJ
 rcases this with h | h
 ·exact h
 ·omega
def yZ : (h : Nat) -> Nd h -> Nd h × Nd h
 | 0, l => (List.take (yJ psz l) l, List.drop (yJ psz l) l)
 | h + 1, ks => (List.take (yJ (fun _ : Kid h => 11) ks) ks, List.drop (yJ (fun _ : Kid h => 11) ks) ks)
def Q2M (l : List Pr) : ByteArray := match l with
 | [] => ⟨#[]⟩
 | p :: _ => p.1
def ZT {h : Nat} (ks : List (Kid h)) : ByteArray := match ks with
 | [] => ⟨#[]⟩
 | a :: _ => a.1
def j4 : (h : Nat) -> Nd h -> ByteArray
 | 0, l => Q2M l
 | h + 1, ks => ZT (h := h) ks
def jK : (h : Nat) -> Nd h -> Nd h -> Nd h
 | 0, a, b => List.append a b
 | _ + 1, a, b => List.append a b
def qB (h : Nat) (f : ByteArray) (n : Nd h) : List (Kid h) := if yl h n <= 122 then [⟨f, n, 0⟩] else [⟨f, (yZ h n).1, 0⟩, ⟨j4 h (yZ h n).2, (yZ h n).2, 0⟩]
theorem Q2N {h : Nat} (ks : List (Kid h)) : (ks.map fun _ : Kid h => 11).sum = 11 * ks.length := by
 induction ks with
 | nil => rfl
 | cons a r ih => simp [ih]; omega
theorem KW.sub {h : Nat} {A B : List (Kid h)} (hk : KW h B) (hs : A.Sublist B) : KW h A := ⟨hk.ord.sublist hs, fun a ha => hk.all a (hs.subset ha)⟩
theorem gi {α : Type} (sz : α -> Nat) (l : List α) (h : 0 < (l.map sz).sum) : ∃ a r, l = a :: r := by
 cases l with
 | nil => simp at h
 | cons a r => exact ⟨a, r, rfl⟩
structure Q2O (h : Nat) (f : ByteArray) (n : Nd h) (M : List (Kid h)) : Prop where
 flat : yA h M = yN h n
 kw : KW h M
 full : ∀ a ∈ M, Rt h a.2 /\ q7 h a.2
 head : ∃ n' r, M = ⟨f, n', 0⟩ :: r
 len : M.length = 1 \/ M.length = 2
 some : ∀ a ∈ M, ∃ p ∈ yN h n, ge p.1 a.1
theorem Q2P (f : ByteArray) (l : List Pr) (hw : WFN 0 f l) (h1 : 122 < yl 0 l) (h2 : yl 0 l <= 161) :
  Q2O 0 f l [⟨f, (yZ 0 l).1, 0⟩, ⟨j4 0 (yZ 0 l).2, (yZ 0 l).2, 0⟩] := by
 have hs : ∀ x ∈ l, psz x <= 22 := fun x hx => Z5 (hw.2 x hx).2
 have hS : yl 0 l = (l.map psz).sum := rfl
 rw [hS] at h1 h2
 obtain ⟨a1, a2⟩ := ZS psz 22 l hs (by omega) (by omega)
 have hsp := Qq psz l (yJ psz l)
 have hsrt : Srt l := hw.1
 show Q2O 0 f l [⟨f, l.take (yJ psz l), 0⟩, ⟨Q2M (l.drop (yJ psz l)), l.drop (yJ psz l), 0⟩]
 have hap := List.take_append_drop (yJ psz l) l
 generalize hL : l.take (yJ psz l) = L at *
 generalize hR : l.drop (yJ psz l) = R at *
 obtain ⟨x, xr, eL⟩ := gi psz L (by omega)
 obtain ⟨y, yr, eR⟩ := gi psz R (by omega)
 rw [<- hap] at hsrt
 obtain ⟨sL, sR, sLR⟩ := List.pairwise_append.1 hsrt
 have kL : ∀ p ∈ L, ge p.1 f /\ okp p := fun p hp => hw.2 p (by rw [<- hap]; exact List.mem_append_left _ hp)
 have kR : ∀ p ∈ R, ge p.1 f /\ okp p := fun p hp => hw.2 p (by rw [<- hap]; exact List.mem_append_right _ hp)
 have fR : Q2M R = y.1 := by rw [eR]; rfl
 have gR : ∀ p ∈ R, ge p.1 y.1 := by
  intro p hp
  rw [eR] at hp sR
  rcases List.mem_cons.1 hp with rfl | hp
  ·exact Q2D _
  ·exact Qp ((List.pairwise_cons.1 sR).1 p hp)
 have yR : y ∈ R := by rw [eR]; simp
 have xL : x ∈ L := by rw [eL]; simp
 have lty : ∀ p ∈ L, bl p.1 y.1 = true := fun p hp => sLR p hp y yR
 refine ⟨?_, ⟨?_, ?_⟩, ?_, ⟨_, _, rfl⟩, Or.inr rfl, ?_⟩
 ·simp only [gN]
  show L ++ (R ++ []) = l
  simpa using hap
 ·rw [fR]
  refine List.pairwise_cons.2 ⟨?_, by simp⟩
  intro b hb; simp at hb; subst hb
  exact ⟨Q9 (kL x xL).1 (lty x xL), lty⟩
 ·intro a ha
  simp only [List.mem_cons, List.not_mem_nil, or_false] at ha
  rcases ha with rfl | rfl
  ·exact ⟨sL, kL⟩
  ·exact ⟨sR, fun p hp => ⟨by show ge p.1 (Q2M R); rw [fR]; exact gR p hp, (kR p hp).2⟩⟩
 ·intro a ha
  simp only [List.mem_cons, List.not_mem_nil, or_false] at ha
  rcases ha with rfl | rfl
  ·exact ⟨⟨by show 40 <= (L.map psz).sum; omega, by show (L.map psz).sum <= 122; omega⟩, trivial⟩
  ·exact ⟨⟨by show 40 <= (R.map psz).sum; omega, by show (R.map psz).sum <= 122; omega⟩, trivial⟩
 ·intro a ha
  simp only [List.mem_cons, List.not_mem_nil, or_false] at ha
  rcases ha with rfl | rfl
  ·exact ⟨x, by show x ∈ l; rw [<- hap]; exact List.mem_append_left _ xL, (kL x xL).1⟩
  ·exact ⟨y, by show y ∈ l; rw [<- hap]; exact List.mem_append_right _ yR, by show ge y.1 (Q2M R); rw [fR]; exact Q2D _⟩
theorem Q2Q (h : Nat) (f : ByteArray) (ks : List (Kid h)) (hw : WFN (h + 1) f ks) (hf : q7 (h + 1) ks) (h1 : 122 < yl (h + 1) ks) (h2 : yl (h + 1) ks <= 161) :
  Q2O (h + 1) f ks [⟨f, (yZ (h + 1) ks).1, 0⟩, ⟨j4 (h + 1) (yZ (h + 1) ks).2, (yZ (h + 1) ks).2, 0⟩] := by
 obtain ⟨⟨n0, x0, r0, e0⟩, hk⟩ := (yF h f ks).1 hw
 have hS : yl (h + 1) ks = (ks.map fun _ : Kid h => 11).sum := (Q2N ks).symm
 rw [hS] at h1 h2
 obtain ⟨a1, a2⟩ := ZS (fun _ : Kid h => 11) 11 ks (by simp) (by omega) (by omega)
 have hsp := Qq (fun _ : Kid h => 11) ks (yJ (fun _ : Kid h => 11) ks)
 show Q2O (h + 1) f ks [⟨f, ks.take (yJ (fun _ : Kid h => 11) ks), 0⟩, ⟨ZT (ks.drop (yJ (fun _ : Kid h => 11) ks)), ks.drop (yJ (fun _ : Kid h => 11) ks), 0⟩]
 have hap := List.take_append_drop (yJ (fun _ : Kid h => 11) ks) ks
 generalize hL : ks.take (yJ (fun _ : Kid h => 11) ks) = L at *
 generalize hR : ks.drop (yJ (fun _ : Kid h => 11) ks) = R at *
 obtain ⟨x, xr, eL⟩ := gi (fun _ : Kid h => 11) L (by omega)
 obtain ⟨y, yr, eR⟩ := gi (fun _ : Kid h => 11) R (by omega)
 have hLs : L.Sublist ks := by rw [<- hap]; exact List.sublist_append_left _ _
 have hRs : R.Sublist ks := by rw [<- hap]; exact List.sublist_append_right _ _
 have kL := hk.sub hLs
 have kR := hk.sub hRs
 have hord := hk.ord
 rw [<- hap] at hord
 obtain ⟨_, _, sLR⟩ := List.pairwise_append.1 hord
 have yR : y ∈ R := by rw [eR]; simp
 have xf : x.1 = f := by
  rw [<- hap, eL, List.cons_append] at e0
  have := (List.cons.inj e0).1
  rw [this]
 have xL : x ∈ L := by rw [eL]; simp
 have fR : ZT R = y.1 := by rw [eR]; rfl
 have eL' : L = ⟨f, x.2, x.3⟩ :: xr := by rw [eL, <- xf]
 have eR' : R = ⟨y.1, y.2, y.3⟩ :: yr := by rw [eR]
 have hfull := (yM h ks).1 hf
 have neY : yN h y.2 ≠ [] := Zl (by have := (hfull y (hRs.subset yR)).1.1; omega) (hfull y (hRs.subset yR)).2
 have neX : yN h x.2 ≠ [] := Zl (by have := (hfull x (hLs.subset xL)).1.1; omega) (hfull x (hLs.subset xL)).2
 obtain ⟨py, hpy⟩ := List.exists_mem_of_ne_nil _ neY
 obtain ⟨px, hpx⟩ := List.exists_mem_of_ne_nil _ neX
 have s1 := Q2N L
 have s2 := Q2N R
 refine ⟨?_, ⟨?_, ?_⟩, ?_, ⟨_, _, rfl⟩, Or.inr rfl, ?_⟩
 ·show yA (h + 1) [⟨f, L, 0⟩, ⟨ZT R, R, 0⟩] = yA h ks
  rw [gN, gN]
  show yA h L ++ (yA h R ++ []) = yA h ks
  rw [List.append_nil, <- qg, hap]
 ·rw [fR]
  refine List.pairwise_cons.2 ⟨?_, by simp⟩
  intro b hb; simp at hb; subst hb
  refine ⟨by rw [<- xf]; exact (sLR x xL y yR).1, ?_⟩
  intro p hp
  obtain ⟨a, ha, hp⟩ := yX.1 (show p ∈ yA h L from hp)
  exact (sLR a ha y yR).2 p hp
 ·intro a ha
  simp only [List.mem_cons, List.not_mem_nil, or_false] at ha
  rcases ha with rfl | rfl
  ·exact (yF h f L).2 ⟨⟨_, _, _, eL'⟩, kL⟩
  ·show WFN (h + 1) (ZT R) R
   rw [fR]
   exact (yF h y.1 R).2 ⟨⟨_, _, _, eR'⟩, kR⟩
 ·intro a ha
  simp only [List.mem_cons, List.not_mem_nil, or_false] at ha
  rcases ha with rfl | rfl
  ·exact ⟨⟨by show 40 <= 11 * L.length; omega, by show 11 * L.length <= 122; omega⟩, fun b hb => hfull b (hLs.subset hb)⟩
  ·exact ⟨⟨by show 40 <= 11 * R.length; omega, by show 11 * R.length <= 122; omega⟩, fun b hb => hfull b (hRs.subset hb)⟩
 ·intro a ha
  simp only [List.mem_cons, List.not_mem_nil, or_false] at ha
  rcases ha with rfl | rfl
  ·refine ⟨px, ?_, ?_⟩
   ·exact yX.2 ⟨x, hLs.subset xL, hpx⟩
   ·show ge px.1 f
    rw [<- xf]; exact (WFN.keys (kL.all x xL) px hpx).1
  ·refine ⟨py, ?_, ?_⟩
   ·exact yX.2 ⟨y, hRs.subset yR, hpy⟩
   ·show ge py.1 (ZT R)
    rw [fR]; exact (WFN.keys (kR.all y yR) py hpy).1
theorem Q2R (h : Nat) (f : ByteArray) (n : Nd h) (hw : WFN h f n) (hf : q7 h n) (h1 : 40 <= yl h n) (h2 : yl h n <= 161) : Q2O h f n (qB h f n) := by
 unfold qB
 split
 ·rename_i hle
  have hne : yN h n ≠ [] := Zl (by omega) hf
  obtain ⟨p, hp⟩ := List.exists_mem_of_ne_nil _ hne
  refine ⟨by simp [yA], ⟨by simp, by intro a ha; simp at ha; subst ha; exact hw⟩, by intro a ha; simp at ha; subst ha; exact ⟨⟨h1, hle⟩, hf⟩, ⟨_, _, rfl⟩, Or.inl rfl, ?_⟩
  intro a ha; simp at ha; subst ha
  exact ⟨p, hp, (WFN.keys hw p hp).1⟩
 ·cases h with
  | zero => exact Q2P f n hw (by omega) h2
  | succ h => exact Q2Q h f n hw hf (by omega) h2
theorem Q2S {h : Nat} {A M B M' : List (Kid h)} {f : ByteArray} {n : Nd h} (hk : KW h (A ++ (M ++ B))) (hM : ∃ m x r, M = ⟨f, m, x⟩ :: r) (hfit : Q2O h f n M') (hfl : yN h n = yA h M) : KW h (A ++ (M' ++ B)) /\ yA h (A ++ (M' ++ B)) = yA h (A ++ (M ++ B)) := by
 obtain ⟨m, mx, r, eM⟩ := hM
 have hm : ⟨f, m, mx⟩ ∈ M := by rw [eM]; simp
 obtain ⟨pA, pMB, pAMB⟩ := List.pairwise_append.1 hk.ord
 obtain ⟨pM, pB, pMB'⟩ := List.pairwise_append.1 pMB
 obtain ⟨n', r', eM'⟩ := hfit.head
 have fr : ∀ b ∈ M', ge b.1 f := by
  have := hfit.kw
  rw [eM'] at this ⊢
  exact this.froms
 refine ⟨⟨?_, ?_⟩, ?_⟩
 ·refine List.pairwise_append.2 ⟨pA, List.pairwise_append.2 ⟨hfit.kw.ord, pB, ?_⟩, ?_⟩
  ·intro a ha b hb
   refine ⟨?_, ?_⟩
   ·obtain ⟨p, hp, hg⟩ := hfit.some a ha
    rw [hfl] at hp
    obtain ⟨c, hc, hp⟩ := yX.1 hp
    exact Q9 hg ((pMB' c hc b hb).2 p hp)
   ·intro p hp
    have : p ∈ yA h M' := yX.2 ⟨a, ha, hp⟩
    rw [hfit.flat, hfl] at this
    obtain ⟨c, hc, hp⟩ := yX.1 this
    exact (pMB' c hc b hb).2 p hp
  ·intro a ha b hb
   rcases List.mem_append.1 hb with hb | hb
   ·have h1 := pAMB a ha ⟨f, m, mx⟩ (List.mem_append_left _ hm)
    exact ⟨qj h1.1 (fr b hb), fun p hp => qj (h1.2 p hp) (fr b hb)⟩
   ·exact pAMB a ha b (List.mem_append_right _ hb)
 ·intro a ha
  rcases List.mem_append.1 ha with ha | ha
  ·exact hk.all a (List.mem_append_left _ ha)
  rcases List.mem_append.1 ha with ha | ha
  ·exact hfit.kw.all a ha
  ·exact hk.all a (List.mem_append_right _ (List.mem_append_right _ ha))
 ·rw [qg, qg, qg, qg, hfit.flat, hfl]
theorem Q2T : ∀ (h : Nat) (a b : Nd h), yN h (jK h a b) = yN h a ++ yN h b
 | 0, _, _ => rfl
 | h + 1, a, b => qg h a b
theorem Q2U (a b : List Pr) : ((a ++ b).map psz).sum = (a.map psz).sum + (b.map psz).sum := by rw [List.map_append, List.sum_append]
theorem Q2V {α : Type} (a b : List α) : 11 * (a ++ b).length = 11 * a.length + 11 * b.length := by rw [List.length_append]; omega
theorem Zm : ∀ (h : Nat) (a b : Nd h), yl h (jK h a b) = yl h a + yl h b
 | 0, a, b => Q2U a b
 | h + 1, a, b => Q2V (α := Kid h) a b
theorem Q2W : ∀ (h : Nat) (a b : Nd h), q7 h a -> q7 h b -> q7 h (jK h a b)
 | 0, _, _, _, _ => trivial
 | h + 1, a, b, ha, hb => by
  intro c hc
  rcases List.mem_append.1 (show c ∈ List.append a b from hc) with hc | hc
  ·exact ha c hc
  ·exact hb c hc
theorem Q2X : ∀ (h : Nat) (x y : Kid h), Bef h x y -> WFN h x.1 x.2 -> WFN h y.1 y.2 -> q7 h x.2 -> WFN h x.1 (jK h x.2 y.2)
 | 0, x, y, hb, hx, hy, _ => by
  refine ⟨List.pairwise_append.2 ⟨hx.1, hy.1, ?_⟩, ?_⟩
  ·intro p hp q hq; exact qj (hb.2 p hp) (hy.2 q hq).1
  ·intro p hp
   rcases List.mem_append.1 (show p ∈ List.append x.2 y.2 from hp) with hp | hp
   ·exact hx.2 p hp
   ·exact ⟨gz (hy.2 p hp).1 (Qp hb.1), (hy.2 p hp).2⟩
 | h + 1, x, y, hb, hx, hy, hf => by
  obtain ⟨⟨n1, x1, r1, e1⟩, k1⟩ := (yF h x.1 x.2).1 hx
  obtain ⟨⟨n2, x2, r2, e2⟩, k2⟩ := (yF h y.1 y.2).1 hy
  have fr : ∀ b : Kid h, List.Mem b y.2 -> ge b.1 y.1 := by
   intro b hb
   have hk := k2
   rw [e2] at hk hb
   exact hk.froms b hb
  refine (yF h x.1 (List.append x.2 y.2)).2 ⟨⟨n1, x1, List.append r1 y.2, by rw [e1]; rfl⟩, ⟨List.pairwise_append.2 ⟨k1.ord, k2.ord, ?_⟩, ?_⟩⟩
  ·intro a ha b hbm
   have kk : ∀ p ∈ yN h a.2, bl p.1 b.1 = true := fun p hp => qj (hb.2 p (yX.2 ⟨a, ha, hp⟩)) (fr b hbm)
   refine ⟨?_, kk⟩
   have ha' := (yM h x.2).1 hf a ha
   obtain ⟨p, hp⟩ := List.exists_mem_of_ne_nil _ (Zl (by have := ha'.1.1; omega) ha'.2)
   exact Q9 (WFN.keys (k1.all a ha) p hp).1 (kk p hp)
  ·intro a ha
   rcases List.mem_append.1 ha with ha | ha
   ·exact k1.all a ha
   ·exact k2.all a ha
def qw (h : Nat) (ks : List (Kid h)) (i : Nat) : List (Kid h) :=
 match ks[i]? with
 | none => ks
 | some a => if yl h a.2 < 40 then
   match ks[i - 1]?, ks[i - 1 + 1]? with
   | some x, some y => ks.take (i - 1) ++ (qB h x.1 (jK h x.2 y.2) ++ ks.drop (i - 1 + 2))
   | _, _ => ks
  else ks.take i ++ (qB h a.1 a.2 ++ ks.drop (i + 1))
theorem Q2Y {α : Type} (l : List α) (i : Nat) (a : α) (h : l[i]? = some a) : l = l.take i ++ ([a] ++ l.drop (i + 1)) := by
 have hi : i < l.length := (List.getElem?_eq_some_iff.1 h).1
 conv => lhs; rw [<- List.take_append_drop i l, List.drop_eq_getElem_cons hi, (List.getElem?_eq_some_iff.1 h).2]
 rfl
theorem Q2Z {α : Type} (l : List α) (i : Nat) (a b : α) (h : l[i]? = some a) (h' : l[i + 1]? = some b) : l = l.take i ++ ([a, b] ++ l.drop (i + 2)) := by
 have hi : i + 1 < l.length := (List.getElem?_eq_some_iff.1 h').1
 conv => lhs; rw [Q2Y l i a h, List.drop_eq_getElem_cons hi, (List.getElem?_eq_some_iff.1 h').2]
 rfl
structure ZC (h : Nat) (ks : List (Kid h)) (i : Nat) : Prop where
 kw : KW h ks
 two : 2 <= ks.length
 lt : i < ks.length
 full : ∀ a ∈ ks, q7 h a.2
 rt : ∀ j a, ks[j]? = some a -> j ≠ i -> Rt h a.2
 lo : ∀ a, ks[i]? = some a -> 18 <= yl h a.2 /\ yl h a.2 <= 144
structure Q30 (h : Nat) (ks ks' : List (Kid h)) : Prop where
 kw : KW h ks'
 flat : yA h ks' = yA h ks
 full : ∀ a ∈ ks', Rt h a.2 /\ q7 h a.2
 head : ∀ f n x r, ks = ⟨f, n, x⟩ :: r -> ∃ n' x' r', ks' = ⟨f, n', x'⟩ :: r'
 lo : ks.length <= ks'.length + 1
 hi : ks'.length <= ks.length + 1
theorem Q31 {α : Type} (l M B : List α) (i : Nat) (f : α) (r : List α) (h : l = f :: r) (hi : 0 < i) : ∃ r', l.take i ++ (M ++ B) = f :: r' := by
 subst h
 obtain ⟨j, rfl⟩ : ∃ j, i = j + 1 := ⟨i - 1, by omega⟩
 exact ⟨_, by rw [List.take_succ_cons, List.cons_append]⟩
theorem Q32 {h : Nat} {ks M M' : List (Kid h)} {i m : Nat} {f : ByteArray} {n : Nd h} (hkw : KW h ks) (hsp : ks = ks.take i ++ (M ++ ks.drop (i + m))) (hm : M.length = m) (hm12 : m = 1 \/ m = 2) (hM : ∃ m x r, M = ⟨f, m, x⟩ :: r) (hfit : Q2O h f n M') (hfl : yN h n = yA h M)
  (ho : ∀ a ∈ ks.take i ++ ks.drop (i + m), Rt h a.2 /\ q7 h a.2) : Q30 h ks (ks.take i ++ (M' ++ ks.drop (i + m))) := by
 have hk := hkw
 rw [hsp] at hk
 obtain ⟨r1, r2⟩ := Q2S hk hM hfit hfl
 have hl := congrArg List.length hsp
 simp only [List.length_append] at hl
 refine ⟨r1, by rw [r2, <- hsp], ?_, ?_, ?_, ?_⟩
 ·intro a ha
  rcases List.mem_append.1 ha with ha | ha
  ·exact ho a (List.mem_append_left _ ha)
  rcases List.mem_append.1 ha with ha | ha
  ·exact hfit.full a ha
  ·exact ho a (List.mem_append_right _ ha)
 ·intro f0 n0 x0 r0 e0
  rcases Nat.eq_zero_or_pos i with h0 | h0
  ·subst h0
   obtain ⟨mm, xx, rr, eM⟩ := hM
   rw [List.take_zero, List.nil_append, eM, List.cons_append] at hsp
   rw [e0] at hsp
   have e1 := (List.cons.inj hsp).1
   obtain ⟨n', r', eM'⟩ := hfit.head
   refine ⟨n', 0, r' ++ ks.drop (0 + m), ?_⟩
   rw [List.take_zero, List.nil_append, eM', List.cons_append, (qI.mk.inj e1).1]
  ·obtain ⟨r', e'⟩ := Q31 ks M' (ks.drop (i + m)) i ⟨f0, n0, x0⟩ r0 e0 h0
   exact ⟨n0, x0, r', e'⟩
 ·simp only [List.length_append]; rcases hfit.len with e | e <;> omega
 ·simp only [List.length_append]; rcases hfit.len with e | e <;> omega
theorem Q33 {h : Nat} {ks : List (Kid h)} {i : Nat} (hl : ZC h ks i) : Q30 h ks (qw h ks i) := by
 obtain ⟨a, ha⟩ : ∃ a, ks[i]? = some a := ⟨_, List.getElem?_eq_getElem hl.lt⟩
 obtain ⟨l1, l2⟩ := hl.lo a ha
 have hmem : ∀ {j b}, ks[j]? = some b -> b ∈ ks := fun h => List.mem_of_getElem? h
 have others : ∀ (p m : Nat), p <= i -> i < p + m -> ∀ b ∈ ks.take p ++ ks.drop (p + m), Rt h b.2 /\ q7 h b.2 := by
  intro p m h1 h2 b hb
  rcases List.mem_append.1 hb with hb | hb
  ·obtain ⟨j, hj⟩ := List.mem_iff_getElem?.1 hb
   have hj' := hj
   rw [List.getElem?_take] at hj'
   split at hj'
   ·exact ⟨hl.rt j b hj' (by omega), hl.full b (hmem hj')⟩
   ·cases hj'
  ·obtain ⟨j, hj⟩ := List.mem_iff_getElem?.1 hb
   rw [List.getElem?_drop] at hj
   exact ⟨hl.rt _ b hj (by omega), hl.full b (hmem hj)⟩
 unfold qw
 rw [ha]
 simp only
 by_cases hs : yl h a.2 < 40
 ·rw [if_pos hs]
  have h2 := hl.two
  have hlt := hl.lt
  obtain ⟨x, hx⟩ : ∃ x, ks[i - 1]? = some x := ⟨_, List.getElem?_eq_getElem (by omega)⟩
  obtain ⟨y, hy⟩ : ∃ y, ks[i - 1 + 1]? = some y := ⟨_, List.getElem?_eq_getElem (by omega)⟩
  rw [hx, hy]
  simp only
  have hsp := Q2Z ks (i - 1) x y hx hy
  have hord := hl.kw.ord
  rw [hsp] at hord
  have hb : Bef h x y := by
   have := (List.pairwise_append.1 (List.pairwise_append.1 hord).2.1).1
   exact (List.pairwise_cons.1 this).1 y (by simp)
  have hw := Q2X h x y hb (hl.kw.all x (hmem hx)) (hl.kw.all y (hmem hy)) (hl.full x (hmem hx))
  have hf := Q2W h x.2 y.2 (hl.full x (hmem hx)) (hl.full y (hmem hy))
  have hsz := Zm h x.2 y.2
  have hrange : 58 <= yl h x.2 + yl h y.2 /\ yl h x.2 + yl h y.2 <= 161 := by
   by_cases hi0 : i = 0
   ·subst hi0
    have hxa : x = a := by rw [ha] at hx; cases hx; rfl
    have := hl.rt _ y hy (by omega)
    have t1 := this.1
    have t2 := this.2
    subst hxa; omega
   ·have hya : y = a := by rw [show i - 1 + 1 = i by omega, ha] at hy; cases hy; rfl
    have := hl.rt _ x hx (by omega)
    have t1 := this.1
    have t2 := this.2
    subst hya; omega
  exact Q32 hl.kw hsp rfl (Or.inr rfl) ⟨x.2, x.3, [y], rfl⟩ (Q2R h x.1 _ hw hf (by omega) (by omega)) (by rw [Q2T]; simp [yA]) (others (i - 1) 2 (by omega) (by omega))
 ·rw [if_neg hs]
  exact Q32 hl.kw (Q2Y ks i a ha) rfl (Or.inl rfl) ⟨a.2, a.3, [], rfl⟩ (Q2R h a.1 a.2 (hl.kw.all a (hmem ha)) (hl.full a (hmem ha)) (by omega) (by omega)) (by simp [yA]) (others i 1 (by omega) (by omega))
def qs {h : Nat} (ks : List (Kid h)) (k : ByteArray) : Nat := (ks.takeWhile fun a => !bl k a.1).length - 1
theorem Qr {h : Nat} (f : ByteArray) (n : Nd h) (x0 : Nat) (r : List (Kid h)) (k : ByteArray) (hk : KW h (⟨f, n, x0⟩ :: r)) (hf : ge k f) :
  ∃ A a B, ⟨f, n, x0⟩ :: r = A ++ ([a] ++ B) /\ A.length = qs (⟨f, n, x0⟩ :: r) k /\ ge k a.1 /\ (∀ b ∈ B, bl k b.1 = true) := by
 have hT : (⟨f, n, x0⟩ :: r).takeWhile (fun a => !bl k a.1) = ⟨f, n, x0⟩ :: r.takeWhile fun a => !bl k a.1 := by
  rw [List.takeWhile_cons, if_pos (by show (!bl k f) = true; rw [hf]; rfl)]
 have hne : (⟨f, n, x0⟩ :: r).takeWhile (fun a => !bl k a.1) ≠ [] := by rw [hT]; simp
 have htd := List.takeWhile_append_dropWhile (p := fun a : Kid h => !bl k a.1) (l := ⟨f, n, x0⟩ :: r)
 have hlast := List.dropLast_concat_getLast hne
 refine ⟨((⟨f, n, x0⟩ :: r).takeWhile fun a => !bl k a.1).dropLast, ((⟨f, n, x0⟩ :: r).takeWhile fun a => !bl k a.1).getLast hne, (⟨f, n, x0⟩ :: r).dropWhile fun a => !bl k a.1, ?_, ?_, ?_, ?_⟩
 ·rw [<- List.append_assoc, hlast, htd]
 ·rw [List.length_dropLast]; rfl
 ·have := List.all_takeWhile (p := fun a : Kid h => !bl k a.1) (l := ⟨f, n, x0⟩ :: r)
  rw [List.all_eq_true] at this
  have := this _ (List.getLast_mem hne)
  simpa [ge] using this
 ·intro b hb
  cases hD : (⟨f, n, x0⟩ :: r).dropWhile fun a => !bl k a.1 with
  | nil => rw [hD] at hb; cases hb
  | cons d D =>
   have hd : bl k d.1 = true := by
    have := List.head?_dropWhile_not (p := fun a : Kid h => !bl k a.1) (l := ⟨f, n, x0⟩ :: r)
    rw [hD] at this
    simpa using this
   rw [hD] at hb
   rcases List.mem_cons.1 hb with rfl | hb
   ·exact hd
   ·have hord := hk.ord
    rw [<- htd, hD] at hord
    have := (List.pairwise_cons.1 (List.pairwise_append.1 hord).2.1).1 b hb
    exact qX hd this.1
structure Qf (F : List Pr -> List Pr) (k : ByteArray) : Prop where
 mid : ∀ A l B, (∀ p ∈ A, bl p.1 k = true) -> (∀ p ∈ B, bl k p.1 = true) -> F (A ++ (l ++ B)) = A ++ (F l ++ B)
 srt : ∀ l, Srt l -> Srt (F l)
 mem : ∀ l p, p ∈ F l -> p ∈ l \/ (p.1 = k /\ okp p)
 size : ∀ l, Srt l -> (∀ p ∈ l, okp p) -> ((F l).map psz).sum <= (l.map psz).sum + 22 /\ (l.map psz).sum <= ((F l).map psz).sum + 22
def chgK (h : Nat) (g : Nd h -> Nd h) (k : ByteArray) (ks : List (Kid h)) : List (Kid h) := match ks[qs ks k]? with
 | none => ks
 | some a => qw h (ks.set (qs ks k) ⟨a.1, g a.2, a.3⟩) (qs ks k)
def yD (F : List Pr -> List Pr) (k : ByteArray) : (h : Nat) -> Nd h -> Nd h
 | 0, l => F l
 | h + 1, ks => chgK h (yD F k h) k ks
structure Chg (F : List Pr -> List Pr) (h : Nat) (f : ByteArray) (n n' : Nd h) : Prop where
 wf : WFN h f n'
 full : q7 h n'
 flat : yN h n' = F (yN h n)
 hi : yl h n' <= yl h n + 22
 lo : yl h n <= yl h n' + 22
theorem Q34 {F : List Pr -> List Pr} {k : ByteArray} (hF : Qf F k) (h : Nat) (IH : ∀ (f : ByteArray) (n : Nd h), WFN h f n -> q7 h n -> ge k f -> (0 < h -> 22 <= yl h n) -> Chg F h f n (yD F k h n))
  (f : ByteArray) (ks : List (Kid h)) (hw : WFN (h + 1) f ks) (hf : q7 (h + 1) ks) (hk : ge k f) (h22 : 0 < h + 1 -> 22 <= yl (h + 1) ks) : Chg F (h + 1) f ks (yD F k (h + 1) ks) := by
 obtain ⟨⟨n0, x0, r0, e0⟩, hkw⟩ := (yF h f ks).1 hw
 have hfull := (yM h ks).1 hf
 obtain ⟨A, a, B, esp, hlen, hga, hB⟩ := Qr f n0 x0 r0 k (by rw [<- e0]; exact hkw) hk
 rw [<- e0] at esp hlen
 have hamem : a ∈ ks := by rw [esp]; simp
 have hget : ks[qs ks k]? = some a := by
  rw [<- hlen, esp]; simp
 have haR := hfull a hamem
 have ih := IH a.1 a.2 (hkw.all a hamem) haR.2 hga (fun _ => by have := haR.1.1; omega)
 have hset : ks.set (qs ks k) ⟨a.1, yD F k h a.2, a.3⟩ = A ++ ([⟨a.1, yD F k h a.2, a.3⟩] ++ B) := by
  rw [<- hlen]
  conv => lhs; rw [esp]
  simp
 have hord := hkw.ord
 rw [esp] at hord
 obtain ⟨pA, pMB, pAMB⟩ := List.pairwise_append.1 hord
 obtain ⟨_, pB, pMB'⟩ := List.pairwise_append.1 pMB
 have hAlt : ∀ p ∈ yA h A, bl p.1 k = true := by
  intro p hp
  obtain ⟨c, hc, hp⟩ := yX.1 hp
  exact qj ((pAMB c hc a (by simp)).2 p hp) hga
 have hBgt : ∀ p ∈ yA h B, bl k p.1 = true := by
  intro p hp
  obtain ⟨c, hc, hp⟩ := yX.1 hp
  exact qj (hB c hc) (WFN.keys (hkw.all c (by rw [esp]; simp [hc])) p hp).1
 have hmemF : ∀ p ∈ yN h (yD F k h a.2), p ∈ yN h a.2 \/ p.1 = k := by
  intro p hp
  rw [ih.flat] at hp
  rcases hF.mem _ p hp with e | e
  ·exact Or.inl e
  ·exact Or.inr e.1
 have kw' : KW h (A ++ ([⟨a.1, yD F k h a.2, a.3⟩] ++ B)) := by
  refine ⟨List.pairwise_append.2 ⟨pA, List.pairwise_append.2 ⟨by simp, pB, ?_⟩, ?_⟩, ?_⟩
  ·intro x hx b hb
   simp at hx; subst hx
   have h1 := pMB' a (by simp) b hb
   refine ⟨h1.1, fun p hp => ?_⟩
   rcases hmemF p hp with e | e
   ·exact h1.2 p e
   ·rw [e]; exact hB b hb
  ·intro x hx b hb
   rcases List.mem_append.1 hb with hb | hb
   ·simp at hb; subst hb
    exact pAMB x hx a (by simp)
   ·exact pAMB x hx b (List.mem_append_right _ hb)
  ·intro x hx
   rcases List.mem_append.1 hx with hx | hx
   ·exact hkw.all x (by rw [esp]; simp [hx])
   rcases List.mem_append.1 hx with hx | hx
   ·simp at hx; subst hx; exact ih.wf
   ·exact hkw.all x (by rw [esp]; simp [hx])
 have hsz : yl (h + 1) ks = 11 * ks.length := rfl
 have hlk : ks.length = A.length + (1 + B.length) := by rw [esp]; simp; omega
 have h22' := h22 (by omega)
 have loose : ZC h (A ++ ([⟨a.1, yD F k h a.2, a.3⟩] ++ B)) (qs ks k) := by
  rw [<- hlen]
  refine ⟨kw', ?_, by simp, ?_, ?_, ?_⟩
  ·simp only [List.length_append, List.length_cons, List.length_nil]; omega
  ·intro x hx
   rcases List.mem_append.1 hx with hx | hx
   ·exact (hfull x (by rw [esp]; simp [hx])).2
   rcases List.mem_append.1 hx with hx | hx
   ·simp at hx; subst hx; exact ih.full
   ·exact (hfull x (by rw [esp]; simp [hx])).2
  ·intro j x hj hne
   have : x ∈ A \/ x ∈ B := by
    rcases Nat.lt_or_ge j A.length with hj' | hj'
    ·rw [List.getElem?_append_left hj'] at hj; exact Or.inl (List.mem_of_getElem? hj)
    ·rw [List.getElem?_append_right hj', List.getElem?_append_right (by simp; omega)] at hj
     exact Or.inr (List.mem_of_getElem? hj)
   rcases this with hx | hx
   ·exact (hfull x (by rw [esp]; simp [hx])).1
   ·exact (hfull x (by rw [esp]; simp [hx])).1
  ·intro x hx
   simp at hx; subst hx
   have := ih.hi; have := ih.lo; have := haR.1.1; have := haR.1.2
   exact ⟨by show 18 <= yl h (yD F k h a.2); omega, by show yl h (yD F k h a.2) <= 144; omega⟩
 have fin := Q33 loose
 have hres : yD F k (h + 1) ks = qw h (A ++ ([⟨a.1, yD F k h a.2, a.3⟩] ++ B)) (qs ks k) := by
  show chgK h (yD F k h) k ks = _
  unfold chgK
  rw [hget]
  simp only
  rw [hset]
 have hhead : ∃ n x r, A ++ ([⟨a.1, yD F k h a.2, a.3⟩] ++ B) = ⟨f, n, x⟩ :: r := by
  cases A with
  | nil =>
   rw [e0] at esp
   have := (List.cons.inj esp).1
   refine ⟨yD F k h a.2, a.3, B, ?_⟩
   rw [<- this]; rfl
  | cons x A' =>
   rw [e0] at esp
   have := (List.cons.inj esp).1
   exact ⟨n0, x0, A' ++ ([⟨a.1, yD F k h a.2, a.3⟩] ++ B), by rw [this]; rfl⟩
 obtain ⟨n1, x1, r1, e1⟩ := hhead
 obtain ⟨n2, x2, r2, e2⟩ := fin.head f n1 x1 r1 e1
 have hl1 : (A ++ (([⟨a.1, yD F k h a.2, a.3⟩] : List (Kid h)) ++ B)).length = ks.length := by rw [hlk]; simp; omega
 have f1 := fin.lo
 have f2 := fin.hi
 rw [hl1] at f1 f2
 rw [hres]
 refine ⟨(yF h f _).2 ⟨⟨n2, x2, r2, e2⟩, fin.kw⟩, fun x hx => fin.full x hx, ?_, ?_, ?_⟩
 ·show yA h (qw h _ _) = F (yA h ks)
  rw [fin.flat]
  conv => rhs; rw [esp]
  simp only [qg]
  rw [show yA h [⟨a.1, yD F k h a.2, a.3⟩] = yN h (yD F k h a.2) by simp [yA], show yA h [a] = yN h a.2 by simp [yA], ih.flat, hF.mid _ _ _ hAlt hBgt]
 ·show 11 * (qw h _ _).length <= 11 * ks.length + 22
  omega
 ·show 11 * ks.length <= 11 * (qw h _ _).length + 22
  omega
theorem jZ {F : List Pr -> List Pr} {k : ByteArray} (hF : Qf F k) : ∀ (h : Nat) (f : ByteArray) (n : Nd h), WFN h f n -> q7 h n -> ge k f -> (0 < h -> 22 <= yl h n) -> Chg F h f n (yD F k h n)
 | 0, f, l, hw, _, hk, _ => by
  have hs := hF.size l hw.1 fun p hp => (hw.2 p hp).2
  refine ⟨⟨hF.srt l hw.1, ?_⟩, trivial, rfl, hs.1, hs.2⟩
  intro p hp
  rcases hF.mem l p hp with h | ⟨h1, h2⟩
  ·exact hw.2 p h
  ·exact ⟨by rw [h1]; exact hk, h2⟩
 | h + 1, f, ks, hw, hf, hk, h22 => Q34 hF h (jZ hF h) f ks hw hf hk h22
theorem Zn (k v : ByteArray) (hk : jy k) (hv : v.size <= 12) : Qf (yL k v) k where
 mid A l B hA hB := by rw [Qa k v A _ hA, jz k v l B hB]
 srt l h := Q2I k v l h
 mem l p hp := by
  rcases ZR hp with rfl | h
  ·exact Or.inr ⟨rfl, hk.1, hk.2, hv⟩
  ·exact Or.inl h
 size l hs ho := by
  have hp : psz (k, v) <= 22 := Z5 ⟨hk.1, hk.2, hv⟩
  induction l with
  | nil => simp [yL, qZ]; exact hp
  | cons p r ih =>
   have hr : Srt r := (List.pairwise_cons.1 hs).2
   have hpr := (List.pairwise_cons.1 hs).1
   have hop : psz p <= 22 := Z5 (ho p (by simp))
   rcases jW p.1 k with hl | he | hl
   ·have e : yL k v (p :: r) = p :: yL k v r := Qa k v [p] r (by simp [hl])
    have := ih hr fun q hq => ho q (by simp [hq])
    rw [e]; simp; omega
   ·have e : yL k v (p :: r) = (k, v) :: r := by
     have hr' : yx k r = r := jj k r fun q hq => by rw [<- he]; exact hpr q hq
     unfold yL
     rw [qK, he, gU, j1]
     simp [gW, hr']
    rw [e]; simp; omega
   ·have hg : ∀ q ∈ p :: r, bl k q.1 = true := by
     intro q hq
     rcases List.mem_cons.1 hq with rfl | hq
     ·exact hl
     ·exact qX hl (hpr q hq)
    have e : yL k v (p :: r) = (k, v) :: p :: r := by
     have := jz k v [] (p :: r) hg
     simpa [yL, qZ] using this
    rw [e]; simp; omega
theorem ZU (k : ByteArray) : Qf (yx k) k where
 mid A l B hA hB := by rw [Z4, Z4, Q2F k A hA, jj k B hB]
 srt l h := Q2H h
 mem l p hp := Or.inl (Q2G hp)
 size l hs ho := by
  induction l with
  | nil => simp [yx]
  | cons p r ih =>
   have hr : Srt r := (List.pairwise_cons.1 hs).2
   have hpr := (List.pairwise_cons.1 hs).1
   have hop : psz p <= 22 := Z5 (ho p (by simp))
   have := ih hr fun q hq => ho q (by simp [hq])
   cases he : be p.1 k with
   | true =>
    have hk := (jg _ _).1 he
    have hr' : yx k r = r := jj k r fun q hq => by rw [<- hk]; exact hpr q hq
    have e : yx k (p :: r) = r := by
     have e1 : yx k (p :: r) = yx k r := by simp [yx, he]
     rw [e1, hr']
    rw [e]; simp; omega
   | false =>
    have e : yx k (p :: r) = p :: yx k r := by simp [yx, he]
    rw [e]; simp; omega
structure Tr where
 h : Nat
 n : Nd h
 pl : Nat
def y7 (t : Tr) : List Pr := yN t.h t.n
def qO : (h : Nat) -> Nd h -> Bool
 | 0, l => List.isEmpty (α := Pr) l
 | _ + 1, _ => false
def qH (t : Tr) : Nat := if qO t.h t.n then 0 else gm t.h t.n
theorem Q35 (t : Tr) : qH t <= gm t.h t.n := by unfold qH; split <;> omega
def yp : ByteArray := ⟨#[]⟩
theorem gH (k : ByteArray) : ge k yp := by
 unfold ge
 rw [ZO]
 simp [yp]
structure TW (t : Tr) : Prop where
 wf : WFN t.h yp t.n
 full : q7 t.h t.n
 hi : yl t.h t.n <= 122
 two : 0 < t.h -> 22 <= yl t.h t.n
 nil : qO t.h t.n = true -> t.pl = 0
def lowT : (h : Nat) -> Nd h -> Tr
 | 0, l => ⟨0, l, 0⟩
 | h + 1, ks => match (show List (Kid h) from ks) with
  | [a] => ⟨h, a.2, a.3⟩
  | ks' => ⟨h + 1, ks', 0⟩
def Q36 (h : Nat) (M : List (Kid h)) : Tr := match M with
 | [a] => lowT h a.2
 | M' => ⟨h + 1, M', 0⟩
theorem Q37 : ∀ (h : Nat) (n : Nd h), qO h n = true -> yl h n = 0
 | 0, l, e => by
  have : l = ([] : List Pr) := List.isEmpty_iff.1 e
  subst this; rfl
def qP (F : List Pr -> List Pr) (k : ByteArray) (t : Tr) : Tr := Q36 t.h (qB t.h yp (yD F k t.h t.n))
theorem Q38 (h : Nat) (n : Nd h) (hw : WFN h yp n) (hf : q7 h n) (hi : yl h n <= 122) : TW (lowT h n) /\ y7 (lowT h n) = yN h n := by
 cases h with
 | zero => exact ⟨⟨hw, hf, hi, (by intro h; cases h), fun _ => rfl⟩, rfl⟩
 | succ h =>
  obtain ⟨⟨n0, x0, r0, e0⟩, hk⟩ := (yF h yp n).1 hw
  have hfull := (yM h n).1 hf
  subst e0
  cases r0 with
  | nil =>
   have hm : ⟨yp, n0, x0⟩ ∈ [(⟨yp, n0, x0⟩ : Kid h)] := by simp
   have ha := hfull ⟨yp, n0, x0⟩ hm
   refine ⟨⟨hk.all _ hm, ha.2, ha.1.2, fun _ => by have := ha.1.1; show 22 <= yl h n0; simp at this; omega, fun e => by have := ha.1.1; have e2 := Q37 h n0 e; simp at this; omega⟩, ?_⟩
   show yN h n0 = yA h [⟨yp, n0, x0⟩]
   simp [yA]
  | cons b r =>
   refine ⟨⟨hw, hf, hi, fun _ => ?_, fun _ => rfl⟩, rfl⟩
   show 22 <= 11 * (⟨yp, n0, x0⟩ :: b :: r).length
   simp; omega
theorem Q39 {F : List Pr -> List Pr} {k : ByteArray} (hF : Qf F k) (t : Tr) (ht : TW t) : TW (qP F k t) /\ y7 (qP F k t) = F (y7 t) := by
 have hc := jZ hF t.h yp t.n ht.wf ht.full (gH k) ht.two
 have h1 := hc.hi
 have h2 := ht.hi
 unfold qP
 by_cases hs : yl t.h (yD F k t.h t.n) <= 122
 ·have e : qB t.h yp (yD F k t.h t.n) = [⟨yp, yD F k t.h t.n, 0⟩] := by unfold qB; rw [if_pos hs]
  rw [e]
  obtain ⟨a, b⟩ := Q38 t.h _ hc.wf hc.full hs
  exact ⟨a, b.trans hc.flat⟩
 ·have hfit := Q2R t.h yp _ hc.wf hc.full (by omega) (by omega)
  have e : qB t.h yp (yD F k t.h t.n) = [⟨yp, (yZ t.h (yD F k t.h t.n)).1, 0⟩, ⟨j4 t.h (yZ t.h (yD F k t.h t.n)).2, (yZ t.h (yD F k t.h t.n)).2, 0⟩] := by unfold qB; rw [if_neg hs]
  rw [e] at hfit ⊢
  refine ⟨⟨(yF t.h yp _).2 ⟨⟨_, _, _, rfl⟩, hfit.kw⟩, fun a ha => hfit.full a ha, by show 11 * 2 <= 122; omega, fun _ => by show 22 <= 11 * 2; omega, fun _ => rfl⟩, ?_⟩
  exact hfit.flat.trans hc.flat
theorem Q3a (l : List Pr) (h : ∀ p ∈ l, okp p) : (l.map psz).sum <= 22 * l.length := by
 induction l with
 | nil => simp
 | cons p r ih =>
  have := Z5 (h p (by simp))
  have := ih fun q hq => h q (by simp [hq])
  simp; omega
theorem Q3b {h : Nat} (IH : ∀ (f : ByteArray) (n : Nd h), WFN h f n -> q7 h n -> 40 <= yl h n -> 3 * gm h n + 1 <= 2 * (yN h n).length) (ks : List (Kid h)) (hk : KW h ks) (hf : ∀ a ∈ ks, Rt h a.2 /\ q7 h a.2) :
  3 * (ks.map fun k => gm h k.2).sum + ks.length <= 2 * (yA h ks).length := by
 induction ks with
 | nil => simp [yA]
 | cons a r ih =>
  have hr : KW h r := ⟨(List.pairwise_cons.1 hk.ord).2, fun b hb => hk.all b (by simp [hb])⟩
  have h1 := ih hr fun b hb => hf b (by simp [hb])
  have ha := hf a (by simp)
  have h2 := IH a.1 a.2 (hk.all a (by simp)) ha.2 ha.1.1
  rw [gN, List.length_append]
  simp; omega
theorem Q3c : ∀ (h : Nat) (f : ByteArray) (n : Nd h), WFN h f n -> q7 h n -> 40 <= yl h n -> 3 * gm h n + 1 <= 2 * (yN h n).length
 | 0, f, l, hw, _, hs => by
  have h1 := Q3a l fun p hp => (hw.2 p hp).2
  have hs' : 40 <= (List.map psz l).sum := hs
  show 3 * 1 + 1 <= 2 * List.length (α := Pr) l
  omega
 | h + 1, f, ks, hw, hf, hs => by
  obtain ⟨_, hk⟩ := (yF h f ks).1 hw
  have h1 := Q3b (fun f n => Q3c h f n) ks hk ((yM h ks).1 hf)
  have hs' : 40 <= 11 * List.length (α := Kid h) ks := hs
  show 3 * (1 + (List.map (fun k : Kid h => gm h k.2) ks).sum) + 1 <= 2 * (yA h ks).length
  omega
theorem Q3d (t : Tr) (ht : TW t) : qH t <= 1 \/ 3 * qH t <= 2 * (y7 t).length + 1 := by
 have hc := Q35 t
 obtain ⟨h, n, pl⟩ := t
 cases h with
 | zero => exact Or.inl hc
 | succ h =>
  right
  refine Nat.le_trans (Nat.mul_le_mul_left 3 hc) ?_
  obtain ⟨_, hk⟩ := (yF h yp n).1 ht.wf
  have h1 := Q3b (fun f n => Q3c h f n) n hk ((yM h n).1 ht.full)
  have h2 : 22 <= 11 * List.length (α := Kid h) n := ht.two (by simp)
  show 3 * (1 + (List.map (fun k : Kid h => gm h k.2) n).sum) <= 2 * (yA h n).length + 1
  omega
end Go.Proofs.YtcklgafpgdhnaabGreatDoor
