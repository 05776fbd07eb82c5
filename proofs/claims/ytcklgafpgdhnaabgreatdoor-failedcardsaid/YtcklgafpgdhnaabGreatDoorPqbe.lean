import Derived.Test.YtcklgafpgdhnaabGreatDoorPqbd
set_option maxRecDepth 100000
set_option maxHeartbeats 4000000
namespace Go.Proofs.YtcklgafpgdhnaabGreatDoor
open Go.RowKit
def GN (G : (h : Nat) -> Kid h -> Prop) : (h : Nat) -> Nd h -> Prop
 | 0, _ => True
 | h + 1, ks => ∀ k : Kid h, List.Mem k ks -> G h k
structure KP (G : (h : Nat) -> Kid h -> Prop) : Prop where
 down : ∀ (h : Nat) (k : Kid h), G h k -> GN G h k.2
 up : ∀ (h : Nat) (f : ByteArray) (n : Nd h), f.size <= 8 -> GN G h n -> G h ⟨f, n, 0⟩
 fr : ∀ (h : Nat) (k : Kid h), G h k -> k.1.size <= 8
theorem g9 {G : (h : Nat) -> Kid h -> Prop} {h : Nat} {ks : List (Kid h)} : GN G (h + 1) ks ↔ ∀ k ∈ ks, G h k := Iff.rfl
theorem Q8V {G : (h : Nat) -> Kid h -> Prop} {h : Nat} {n : Nd h} (g : GN G h n) : GN G h (yZ h n).1 /\ GN G h (yZ h n).2 := by
 cases h with
 | zero => exact ⟨trivial, trivial⟩
 | succ h => exact ⟨g9.2 fun k hk => g9.1 g k (List.mem_of_mem_take hk), g9.2 fun k hk => g9.1 g k (List.mem_of_mem_drop hk)⟩
theorem Q8W {G : (h : Nat) -> Kid h -> Prop} {h : Nat} {n m : Nd h} (g : GN G h n) (g' : GN G h m) : GN G h (jK h n m) := by
 cases h with
 | zero => exact trivial
 | succ h => exact g9.2 fun k hk => (List.mem_append.1 hk).elim (g9.1 g k) (g9.1 g' k)
def Sh (h : Nat) (n : Nd h) : Prop := ∀ p ∈ yN h n, p.1.size <= 8
theorem Sh.of {h : Nat} {f : ByteArray} {n : Nd h} (hw : WFN h f n) : Sh h n := fun p hp => (WFN.keys hw p hp).2.2.1
theorem Sh.join {h : Nat} {n m : Nd h} (a : Sh h n) (b : Sh h m) : Sh h (jK h n m) := fun p hp => by
 rw [Q2T] at hp
 exact (List.mem_append.1 hp).elim (a p) (b p)
theorem Q8X (l : List Pr) (hs : ∀ p ∈ l, p.1.size <= 8) : (Q2M l).size <= 8 := by
 cases l with
 | nil => show (ByteArray.mk #[]).size <= 8; decide
 | cons p r => exact hs p (by simp)
theorem Q8Y {h : Nat} (l : List (Kid h)) (hs : ∀ k ∈ l, k.1.size <= 8) : (ZT l).size <= 8 := by
 cases l with
 | nil => show (ByteArray.mk #[]).size <= 8; decide
 | cons p r => exact hs p (by simp)
theorem Q8Z {G : (h : Nat) -> Kid h -> Prop} (kp : KP G) {h : Nat} {n : Nd h} (hs : Sh h n) (g : GN G h n) : (j4 h (yZ h n).2).size <= 8 := by
 cases h with
 | zero => exact Q8X _ fun p hp => hs p (List.mem_of_mem_drop hp)
 | succ h => exact Q8Y _ fun k hk => kp.fr h k (g9.1 g k (List.mem_of_mem_drop hk))
theorem Q90 {G : (h : Nat) -> Kid h -> Prop} (kp : KP G) {h : Nat} {f : ByteArray} {n : Nd h} (hf : f.size <= 8) (hs : Sh h n) (g : GN G h n) : ∀ k ∈ qB h f n, G h k := by
 intro k hk
 unfold qB at hk
 split at hk
 ·simp at hk
  subst hk
  exact kp.up h f n hf g
 ·simp at hk
  rcases hk with rfl | rfl
  ·exact kp.up h f _ hf (Q8V g).1
  ·exact kp.up h _ _ (Q8Z kp hs g) (Q8V g).2
theorem Q91 {G : (h : Nat) -> Kid h -> Prop} (kp : KP G) {h : Nat} (ks : List (Kid h)) (i : Nat) (hi : i < ks.length) (hl : 2 <= ks.length) (hw : ∀ k ∈ ks, k.1.size <= 8 /\ GN G h k.2 /\ Sh h k.2) (ho : ∀ j k, ks[j]? = some k -> j ≠ i -> G h k) : ∀ k ∈ qw h ks i, G h k := by
 intro k hk
 unfold qw at hk
 have ha : ks[i]? = some ks[i] := List.getElem?_eq_getElem hi
 have mt : ∀ {m : Nat}, m <= i -> k ∈ ks.take m -> G h k := by
  intro m hm hk
  obtain ⟨j, hj⟩ := List.mem_iff_getElem?.1 hk
  rw [List.getElem?_take] at hj
  split at hj
  ·exact ho j k hj (by omega)
  ·cases hj
 have md : ∀ {m : Nat}, i < m -> k ∈ ks.drop m -> G h k := by
  intro m hm hk
  obtain ⟨j, hj⟩ := List.mem_iff_getElem?.1 hk
  rw [List.getElem?_drop] at hj
  exact ho (m + j) k hj (by omega)
 rw [ha] at hk
 simp only at hk
 split at hk
 ·have hx : ks[i - 1]? = some ks[i - 1] := List.getElem?_eq_getElem (by omega)
  have hy : ks[i - 1 + 1]? = some ks[i - 1 + 1] := List.getElem?_eq_getElem (by omega)
  rw [hx, hy] at hk
  simp only at hk
  have wx := hw _ (List.mem_of_getElem? hx)
  have wy := hw _ (List.mem_of_getElem? hy)
  rcases List.mem_append.1 hk with hk | hk
  ·exact mt (by omega) hk
  ·rcases List.mem_append.1 hk with hk | hk
   ·exact Q90 kp wx.1 (wx.2.2.join wy.2.2) (Q8W wx.2.1 wy.2.1) k hk
   ·exact md (by omega) hk
 ·have wx := hw _ (List.mem_of_getElem? ha)
  rcases List.mem_append.1 hk with hk | hk
  ·exact mt (Nat.le_refl _) hk
  ·rcases List.mem_append.1 hk with hk | hk
   ·exact Q90 kp wx.1 wx.2.2 wx.2.1 k hk
   ·exact md (by omega) hk
theorem Q92 {G : (h : Nat) -> Kid h -> Prop} (kp : KP G) {F : List Pr -> List Pr} {k : ByteArray} (hF : Qf F k) : ∀ (h : Nat) (f : ByteArray) (n : Nd h), WFN h f n -> q7 h n -> ge k f -> (0 < h -> 22 <= yl h n) -> GN G h n -> GN G h (yD F k h n)
 | 0, _, _, _, _, _, _, _ => trivial
 | h + 1, f, (ks : List (Kid h)), hw, hf, hk, h22, g => by
  obtain ⟨⟨n0, x0, r0, e0⟩, hkw⟩ := (yF h f ks).1 hw
  have hfull := (yM h ks).1 hf
  obtain ⟨A, a, B, esp, hlen, hga, hB⟩ := Qr f n0 x0 r0 k (by rw [<- e0]; exact hkw) hk
  rw [<- e0] at esp hlen
  have hamem : a ∈ ks := by rw [esp]; simp
  have hget : ks[qs ks k]? = some a := by
   rw [<- hlen, esp]; simp
  have haR := hfull a hamem
  have h22a : 0 < h -> 22 <= yl h a.2 := fun _ => by have := haR.1.1; omega
  have hc := jZ hF h a.1 a.2 (hkw.all a hamem) haR.2 hga h22a
  have ih := Q92 kp hF h a.1 a.2 (hkw.all a hamem) haR.2 hga h22a (kp.down h a (g9.1 g a hamem))
  have hlt : qs ks k < ks.length := (List.getElem?_eq_some_iff.1 hget).1
  have hl2 : 2 <= ks.length := by
   have : 22 <= 11 * ks.length := h22 (by omega)
   omega
  show GN G (h + 1) (chgK h (yD F k h) k ks)
  unfold chgK
  rw [hget]
  refine g9.2 (Q91 kp _ _ (by rw [List.length_set]; exact hlt) (by rw [List.length_set]; exact hl2) ?_ ?_)
  ·intro x hx
   rcases List.mem_or_eq_of_mem_set hx with hx | rfl
   ·have := g9.1 g x hx
    exact ⟨kp.fr h x this, kp.down h x this, Sh.of (hkw.all x hx)⟩
   ·exact ⟨kp.fr h a (g9.1 g a hamem), ih, Sh.of hc.wf⟩
  ·intro j x hj hne
   rw [List.getElem?_set_ne (by omega)] at hj
   exact g9.1 g x (List.mem_of_getElem? hj)
def rtK (t : Tr) : Kid t.h := ⟨yp, t.n, t.pl⟩
theorem Q93 {G : (h : Nat) -> Kid h -> Prop} (kp : KP G) (h : Nat) (m : Nd h) (hw : WFN h yp m) (gn : GN G h m) : G (lowT h m).h (rtK (lowT h m)) := by
 have hsm : yp.size <= 8 := by decide
 cases h with
 | zero => exact kp.up 0 yp m hsm trivial
 | succ h =>
  obtain ⟨⟨n0, x0, r0, e0⟩, _⟩ := (yF h yp m).1 hw
  subst e0
  cases r0 with
  | nil => exact g9.1 gn _ (List.mem_cons_self ..)
  | cons b r => exact kp.up (h + 1) yp _ hsm gn
theorem Q94 {G : (h : Nat) -> Kid h -> Prop} (kp : KP G) {F : List Pr -> List Pr} {k : ByteArray} (hF : Qf F k) (t : Tr) (ht : TW t) (g : G t.h (rtK t)) : G (qP F k t).h (rtK (qP F k t)) := by
 have hc := jZ hF t.h yp t.n ht.wf ht.full (gH k) ht.two
 have gn := Q92 kp hF t.h yp t.n ht.wf ht.full (gH k) ht.two (kp.down _ _ g)
 have hsm : yp.size <= 8 := by decide
 have gf := Q90 kp hsm (Sh.of hc.wf) gn
 have hw := hc.wf
 unfold qP
 revert gf gn hw
 generalize yD F k t.h t.n = m
 intro gf gn hw
 by_cases hs : yl t.h m <= 122
 ·have e : qB t.h yp m = [⟨yp, m, 0⟩] := by unfold qB; rw [if_pos hs]
  rw [e]
  exact Q93 kp t.h m hw gf
 ·have e : qB t.h yp m = [⟨yp, (yZ t.h m).1, 0⟩, ⟨j4 t.h (yZ t.h m).2, (yZ t.h m).2, 0⟩] := by unfold qB; rw [if_neg hs]
  rw [e] at gn ⊢
  exact kp.up (t.h + 1) yp _ hsm (g9.2 gn)
def Q95 : (h : Nat) -> Nd h -> Prop
 | 0, _ => True
 | h + 1, ks => ∀ k : Kid h, List.Mem k ks -> k.3 ≠ 0
def GlN (lk : Nat -> List UInt8) : (h : Nat) -> Nd h -> Prop
 | 0, _ => True
 | h + 1, ks => ∀ k : Kid h, List.Mem k ks -> k.1.size <= 8 /\ GlN lk h k.2 /\ (k.3 ≠ 0 -> lk k.3 = j3 (nbN h k.2) /\ Q95 h k.2)
def Gl (lk : Nat -> List UInt8) (h : Nat) (k : Kid h) : Prop := k.1.size <= 8 /\ GlN lk h k.2 /\ (k.3 ≠ 0 -> lk k.3 = j3 (nbN h k.2) /\ Q95 h k.2)
theorem Q96 (lk : Nat -> List UInt8) : ∀ (h : Nat) (n : Nd h), GN (Gl lk) h n ↔ GlN lk h n
 | 0, _ => Iff.rfl
 | _ + 1, _ => Iff.rfl
theorem Q97 (lk : Nat -> List UInt8) : KP (Gl lk) := ⟨fun h k g => (Q96 lk h k.2).2 g.2.1, fun h _ n hf g => ⟨hf, (Q96 lk h n).1 g, fun e => absurd rfl e⟩, fun _ _ g => g.1⟩
theorem jD {lk : Nat -> List UInt8} {h : Nat} {ks : List (Kid h)} : GlN lk (h + 1) ks ↔ ∀ k ∈ ks, Gl lk h k := Iff.rfl
theorem GlN.lies {lk : Nat -> List UInt8} : ∀ {h : Nat} {n : Nd h}, GlN lk h n -> Q95 h n -> gZ lk h n /\ 0 ∉ gB h n /\ jJ h n = gB h n
 | 0, _, _, _ => ⟨trivial, by simp [gB], rfl⟩
 | h + 1, (ks : List (Kid h)), g, ha => by
  have hk : ∀ k ∈ ks, (lk k.3 = j3 (nbN h k.2) /\ gZ lk h k.2) /\ 0 ∉ qW h k /\ qu h k = qW h k := by
   intro k hk
   obtain ⟨_, g2, g3⟩ := jD.1 g k hk
   have hne : k.3 ≠ 0 := ha k hk
   obtain ⟨e, al⟩ := g3 hne
   obtain ⟨i1, i2, i3⟩ := g2.lies al
   refine ⟨⟨e, i1⟩, ?_, by rw [qu, if_neg hne]; rfl⟩
   intro hm
   rcases List.mem_cons.1 hm with e0 | hm
   ·exact hne e0.symm
   ·exact i2 hm
  refine ⟨jm.2 fun k hm => (hk k hm).1, ?_, ?_⟩
  ·intro hm
   obtain ⟨k, h1, h2⟩ := List.mem_flatMap.1 hm
   exact (hk k h1).2.1 h2
  ·have : ∀ L : List (Kid h), (∀ k ∈ L, qu h k = qW h k) -> L.flatMap (qu h) = L.flatMap (qW h) := by
    intro L
    induction L with
    | nil => intro _; rfl
    | cons a r ih => intro hL; rw [List.flatMap_cons, List.flatMap_cons, hL a (by simp), ih fun k hk => hL k (by simp [hk])]
   exact this ks fun k hm => (hk k hm).2.2
theorem Gl.sub {lk : Nat -> List UInt8} {h : Nat} {k : Kid h} (g : Gl lk h k) : (jJ h k.2).Sublist (qu h k) := by
 unfold qu
 split
 ·exact List.Sublist.refl _
 ·rename_i hne
  obtain ⟨_, g2, g3⟩ := g
  obtain ⟨_, _, e⟩ := g2.lies (g3 hne).2
  rw [e]
  exact List.sublist_cons_self _ _
theorem GlN.pl {lk : Nat -> List UInt8} : ∀ {h : Nat} {n : Nd h}, GlN lk h n -> PlN lk h n
 | 0, _, _ => trivial
 | h + 1, ks, g => Q8S.2 fun k hk => by
  obtain ⟨_, g2, g3⟩ := jD.1 g k hk
  exact ⟨fun hne => ⟨(g3 hne).1, (g2.lies (g3 hne).2).1⟩, fun _ => g2.pl⟩
theorem Q98 (h : Nat) (n m : Nd h) : jJ h (jK h n m) = jJ h n ++ jJ h m := by
 cases h with
 | zero => rfl
 | succ h =>
  show List.flatMap (qu h) (List.append n m) = List.flatMap (qu h) n ++ List.flatMap (qu h) m
  exact List.flatMap_append
theorem Q99 (h : Nat) (n : Nd h) : jJ h (yZ h n).1 ++ jJ h (yZ h n).2 = jJ h n := by
 cases h with
 | zero => rfl
 | succ h =>
  have : ∀ (L : List (Kid h)) (i : Nat), (L.take i).flatMap (qu h) ++ (L.drop i).flatMap (qu h) = L.flatMap (qu h) := by
   intro L i
   rw [<- List.flatMap_append, List.take_append_drop]
  exact this n _
theorem Q9a (h : Nat) (f : ByteArray) (n : Nd h) : (qB h f n).flatMap (qu h) = jJ h n := by
 unfold qB
 split
 ·simp [qu]
 ·simp only [List.flatMap_cons, List.flatMap_nil, qu, if_true, List.append_nil]
  exact Q99 h n
theorem Q9b {h : Nat} (ks : List (Kid h)) (i : Nat) (a : Kid h) (hi : ks[i]? = some a) (hl : 2 <= ks.length) (ho : ∀ j k, ks[j]? = some k -> j ≠ i -> (jJ h k.2).Sublist (qu h k)) :
  ((qw h ks i).flatMap (qu h)).Sublist ((ks.take i).flatMap (qu h) ++ (jJ h a.2 ++ (ks.drop (i + 1)).flatMap (qu h))) := by
 unfold qw
 rw [hi]
 simp only
 have hil := (List.getElem?_eq_some_iff.1 hi).1
 split
 ·cases i with
  | zero =>
   have hy : ks[0 - 1 + 1]? = some ks[1] := List.getElem?_eq_getElem (by omega)
   have hx : ks[0 - 1]? = some a := hi
   rw [hx, hy]
   simp only
   have hd : ks.drop (0 + 1) = ks[1] :: ks.drop 2 := List.drop_eq_getElem_cons (by omega)
   rw [hd]
   simp only [List.flatMap_append, Q9a, Q98, List.flatMap_cons, List.take_zero, List.flatMap_nil, List.nil_append, Nat.zero_sub, List.append_assoc]
   exact List.Sublist.append (List.Sublist.refl _) (List.Sublist.append (ho 1 _ (List.getElem?_eq_getElem (by omega)) (by omega)) (List.Sublist.refl _))
  | succ m =>
   have hx : ks[m + 1 - 1]? = some ks[m] := List.getElem?_eq_getElem (by omega)
   have hy : ks[m + 1 - 1 + 1]? = some a := hi
   rw [hx, hy]
   simp only
   have ht : ks.take (m + 1) = ks.take m ++ [ks[m]] := List.take_succ_eq_append_getElem (by omega)
   rw [ht]
   simp only [List.flatMap_append, Q9a, Q98, List.flatMap_cons, List.flatMap_nil, List.append_nil, Nat.add_sub_cancel, List.append_assoc]
   exact List.Sublist.append (List.Sublist.refl _) (List.Sublist.append (ho m _ (List.getElem?_eq_getElem (by omega)) (by omega)) (List.Sublist.refl _))
 ·simp only [List.flatMap_append, Q9a]
  exact List.Sublist.refl _
theorem Q9c {lk : Nat -> List UInt8} {F : List Pr -> List Pr} {k : ByteArray} (hF : Qf F k) : ∀ (h : Nat) (f : ByteArray) (n : Nd h), WFN h f n -> q7 h n -> ge k f -> (0 < h -> 22 <= yl h n) -> GlN lk h n -> (jJ h (yD F k h n)).Sublist (jJ h n)
 | 0, _, _, _, _, _, _, _ => List.Sublist.refl _
 | h + 1, f, (ks : List (Kid h)), hw, hf, hk, h22, g => by
  obtain ⟨⟨n0, x0, r0, e0⟩, hkw⟩ := (yF h f ks).1 hw
  have hfull := (yM h ks).1 hf
  obtain ⟨A, a, B, esp, hlen, hga, hB⟩ := Qr f n0 x0 r0 k (by rw [<- e0]; exact hkw) hk
  rw [<- e0] at esp hlen
  have hamem : a ∈ ks := by rw [esp]; simp
  have hget : ks[qs ks k]? = some a := by
   rw [<- hlen, esp]; simp
  have haR := hfull a hamem
  have h22a : 0 < h -> 22 <= yl h a.2 := fun _ => by have := haR.1.1; omega
  have ga := jD.1 g a hamem
  have ih := Q9c hF h a.1 a.2 (hkw.all a hamem) haR.2 hga h22a ga.2.1
  have hlt : qs ks k < ks.length := (List.getElem?_eq_some_iff.1 hget).1
  have hl2 : 2 <= ks.length := by
   have : 22 <= 11 * ks.length := h22 (by omega)
   omega
  show ((chgK h (yD F k h) k ks).flatMap (qu h)).Sublist (ks.flatMap (qu h))
  unfold chgK
  rw [hget]
  simp only
  have hs := Q9b (ks.set (qs ks k) ⟨a.1, yD F k h a.2, a.3⟩) (qs ks k) ⟨a.1, yD F k h a.2, a.3⟩ (by rw [List.getElem?_set_self hlt]) (by rw [List.length_set]; exact hl2) (by
   intro j x hj hne
   rw [List.getElem?_set_ne (by omega)] at hj
   exact (jD.1 g x (List.mem_of_getElem? hj)).sub)
  refine hs.trans ?_
  have e1 : (ks.set (qs ks k) ⟨a.1, yD F k h a.2, a.3⟩).take (qs ks k) = A := by
   rw [List.take_set_of_le (Nat.le_refl _), <- hlen, esp]
   exact List.take_left' rfl
  have e2 : (ks.set (qs ks k) ⟨a.1, yD F k h a.2, a.3⟩).drop (qs ks k + 1) = B := by
   rw [List.drop_set_of_lt (by omega), <- hlen, esp, <- List.append_assoc]
   exact List.drop_left' (by simp)
  rw [e1, e2]
  conv => rhs; rw [esp]
  simp only [List.flatMap_append, List.flatMap_cons, List.flatMap_nil, List.append_nil]
  exact List.Sublist.append (List.Sublist.refl _) (List.Sublist.append (ih.trans ga.sub) (List.Sublist.refl _))
theorem Q9d (h : Nat) (m : Nd h) : qu (lowT h m).h (rtK (lowT h m)) = jJ h m := by
 cases h with
 | zero => rfl
 | succ h =>
  match m with
  | [] => rfl
  | [a] =>
   show qu h ⟨yp, a.2, a.3⟩ = List.flatMap (qu h) [a]
   simp [qu]
  | a :: b :: r => rfl
theorem Q9e {lk : Nat -> List UInt8} {F : List Pr -> List Pr} {k : ByteArray} (hF : Qf F k) (t : Tr) (ht : TW t) (g : Gl lk t.h (rtK t)) : (qu (qP F k t).h (rtK (qP F k t))).Sublist (jJ t.h t.n) := by
 have h1 := Q9c (lk := lk) hF t.h yp t.n ht.wf ht.full (gH k) ht.two g.2.1
 refine List.Sublist.trans ?_ h1
 unfold qP
 generalize yD F k t.h t.n = m
 have ep := Q9a t.h yp m
 by_cases hs : yl t.h m <= 122
 ·have e : qB t.h yp m = [⟨yp, m, 0⟩] := by unfold qB; rw [if_pos hs]
  rw [e]
  show (qu (lowT t.h m).h (rtK (lowT t.h m))).Sublist (jJ t.h m)
  rw [Q9d]
  exact List.Sublist.refl _
 ·have e : qB t.h yp m = [⟨yp, (yZ t.h m).1, 0⟩, ⟨j4 t.h (yZ t.h m).2, (yZ t.h m).2, 0⟩] := by unfold qB; rw [if_neg hs]
  rw [e] at ep ⊢
  rw [<- ep]
  exact List.Sublist.refl _
theorem Q9f {lk : Nat -> List UInt8} {F : List Pr -> List Pr} {k : ByteArray} (hF : Qf F k) (t : Tr) (ht : TW t) (g : Gl lk t.h (rtK t)) : (qu (qP F k t).h (rtK (qP F k t))).Sublist (qu t.h (rtK t)) := (Q9e hF t ht g).trans g.sub
def FmS : (h : Nat) -> Nd h -> Prop
 | 0, _ => True
 | h + 1, ks => ∀ k : Kid h, List.Mem k ks -> k.1.size <= 8 /\ FmS h k.2
def Q9g (lk : Nat -> List UInt8) (t : Tr) : Prop := qO t.h t.n = true \/ (lk t.pl = j3 (nbN t.h t.n) /\ gZ lk t.h t.n)
structure StK (n : Nat) (lk : Nat -> List UInt8) (lt t : Tr) : Prop where
 tw : TW t
 ltw : TW lt
 lies : Q9g lk lt
 us : (usL lt).Nodup
 ub : ∀ p ∈ qU lt, p < n
 g : Gl lk t.h (rtK t)
 pls : ∀ b ∈ qu t.h (rtK t), b ∈ qU lt
 nd : (qu t.h (rtK t)).Nodup
 fm : FmS lt.h lt.n
theorem StK.chg {n : Nat} {lk : Nat -> List UInt8} {lt t : Tr} {F : List Pr -> List Pr} {k : ByteArray} (h : StK n lk lt t) (hF : Qf F k) : StK n lk lt (qP F k t) :=
 ⟨(Q39 hF t h.tw).1, h.ltw, h.lies, h.us, h.ub, Q94 (Q97 lk) hF t h.tw h.g, fun b hb => h.pls b ((Q9f hF t h.tw h.g).subset hb), h.nd.sublist (Q9f hF t h.tw h.g), h.fm⟩
theorem Q9h {lk : Nat -> List UInt8} : ∀ (h : Nat) (f : ByteArray) (n : Nd h), WFN h f n -> q7 h n -> yl h n <= 122 -> GlN lk h n -> (∀ b ∈ jJ h n, b < 65536) -> CkN h n
 | 0, f, l, hw, _, hs, _, _ => ⟨fun p hp => ⟨(hw.2 p hp).2.2.1, (hw.2 p hp).2.2.2⟩, hs⟩
 | h + 1, f, (ks : List (Kid h)), hw, hf, hs, hg, hb => by
  refine Q7J.2 ⟨hs, fun k hk => ?_⟩
  have hg := jD.1 hg k hk
  have hf := (yM h ks).1 hf k hk
  have hw := ((yF h f ks).1 hw).2.all k hk
  have hb' : ∀ b ∈ qu h k, b < 65536 := fun b hb1 => hb b (by rw [Q8T]; exact List.mem_flatMap.2 ⟨k, hk, hb1⟩)
  refine ⟨hg.1, ?_, fun hz => Q9h h k.1 k.2 hw hf.2 hf.1.2 hg.2.1 fun b hb1 => hb' b (by unfold qu; rw [if_pos hz]; exact hb1)⟩
  by_cases hz : k.3 = 0
  ·omega
  ·exact hb' _ (by unfold qu; rw [if_neg hz]; simp)
theorem StK.lyp {n : Nat} {lk : Nat -> List UInt8} {c : Hd} {t : Tr} (h : StK n lk c.lt t) (hn : n <= 65536) : LyP c t n := by
 refine ⟨h.us, h.ub, ⟨show yp.size <= 8 by decide, ?_, fun hz => Q9h t.h yp t.n h.tw.wf h.tw.full h.tw.hi h.g.2.1 fun b hb => ?_⟩⟩
 ·show t.pl < 65536
  by_cases hz : t.pl = 0
  ·omega
  ·have := h.ub _ (h.pls t.pl (by unfold qu rtK; rw [if_neg hz]; simp))
   omega
 ·have := h.ub _ (h.pls b (by unfold qu; rw [if_pos (show (rtK t).3 = 0 from hz)]; exact hb))
  omega
theorem Q9i {h : Nat} {ks : List (Kid h)} : FmS (h + 1) ks ↔ ∀ k ∈ ks, k.1.size <= 8 /\ FmS h k.2 := Iff.rfl
theorem Q9j : ∀ (h : Nat) (n : Nd h), FmS h (erN h n) ↔ FmS h n
 | 0, _ => Iff.rfl
 | h + 1, (ks : List (Kid h)) => by
  show (∀ k ∈ ks.map (erK h), k.1.size <= 8 /\ FmS h k.2) ↔ ∀ k ∈ ks, k.1.size <= 8 /\ FmS h k.2
  constructor
  ·intro H k hk
   have := H _ (List.mem_map.2 ⟨k, hk, rfl⟩)
   exact ⟨this.1, (Q9j h k.2).1 this.2⟩
  ·intro H k hk
   obtain ⟨k0, hk0, rfl⟩ := List.mem_map.1 hk
   exact ⟨(H k0 hk0).1, (Q9j h k0.2).2 (H k0 hk0).2⟩
theorem GlN.frs {lk : Nat -> List UInt8} : ∀ {h : Nat} {n : Nd h}, GlN lk h n -> FmS h n
 | 0, _, _ => trivial
 | _ + 1, _, g => Q9i.2 fun k hk => ⟨(jD.1 g k hk).1, GlN.frs (jD.1 g k hk).2.1⟩
theorem Q9k {lk : Nat -> List UInt8} : ∀ {h : Nat} {n : Nd h}, gZ lk h n -> 0 ∉ gB h n -> FmS h n -> GlN lk h n /\ Q95 h n
 | 0, _, _, _, _ => ⟨trivial, trivial⟩
 | h + 1, (ks : List (Kid h)), hl, h0, hf => by
  have h0 : 0 ∉ ks.flatMap (qW h) := h0
  have key : ∀ k ∈ ks, k.3 ≠ 0 /\ 0 ∉ gB h k.2 := by
   intro k hk
   have : 0 ∉ qW h k := fun hm => h0 (List.mem_flatMap.2 ⟨k, hk, hm⟩)
   unfold qW at this
   simp only [List.mem_cons, not_or] at this
   exact ⟨fun e => this.1 e.symm, this.2⟩
  refine ⟨jD.2 fun k hk => ?_, fun k hk => (key k hk).1⟩
  have h1 := jm.1 hl k hk
  have h2 := Q9i.1 hf k hk
  have h3 := Q9k h1.2 (key k hk).2 h2.2
  exact ⟨h2.1, h3.1, fun _ => ⟨h1.1, h3.2⟩⟩
structure Whl (n : Nat) (lk : Nat -> List UInt8) (t : Tr) : Prop where
 tw : TW t
 nil : qO t.h t.n = false
 at_ : lk t.pl = j3 (nbN t.h t.n)
 lies : gZ lk t.h t.n
 nd : (t.pl :: gB t.h t.n).Nodup
 off : ∀ b ∈ t.pl :: gB t.h t.n, 2 <= b /\ b < n
 frs : FmS t.h t.n
theorem Q9l {l : List Nat} (h : l.Nodup) (h2 : ∀ b ∈ l, 2 <= b) : (l.reverse ++ [1, 0]).Nodup := by
 refine List.nodup_append.2 ⟨((List.reverse_perm l).nodup_iff).2 h, by decide, ?_⟩
 intro a ha b hb e
 subst e
 have := h2 a (List.mem_reverse.1 ha)
 simp at hb
 omega
theorem Whl.pre {n : Nat} {lk : Nat -> List UInt8} {t : Tr} (h : Whl n lk t) : qU t = t.pl :: gB t.h t.n := by unfold qU; rw [h.nil]; rfl
theorem Whl.stk {n : Nat} {lk : Nat -> List UInt8} {t : Tr} (h : Whl n lk t) : StK n lk t t := by
 have h0 : 0 ∉ gB t.h t.n := fun hm => by have := h.off 0 (List.mem_cons_of_mem _ hm); omega
 have hp : t.pl ≠ 0 := by have := h.off t.pl (by simp); omega
 have hg := Q9k h.lies h0 h.frs
 have hk : qu t.h (rtK t) = qU t := by rw [h.pre]; unfold qu rtK; rw [if_neg hp]
 refine ⟨h.tw, h.tw, Or.inr ⟨h.at_, h.lies⟩, ?_, ?_, ⟨show yp.size <= 8 by decide, hg.1, fun _ => ⟨h.at_, hg.2⟩⟩, ?_, ?_, h.frs⟩
 ·unfold usL
  rw [h.pre]
  exact Q9l h.nd fun b hb => (h.off b hb).1
 ·rw [h.pre]
  exact fun b hb => (h.off b hb).2
 ·rw [hk]
  exact fun b hb => hb
 ·rw [hk, h.pre]
  exact h.nd
theorem Q9m {lt : Tr} {b : Nat} (h : b ∈ qU lt) : b ∈ usL lt := List.mem_append_left _ (List.mem_reverse.2 h)
theorem Q9n {lt : Tr} (h : (usL lt).Nodup) {b : Nat} (hb : b ∈ qU lt) : 2 <= b := by
  have := (List.nodup_append.1 h).2.2 b (List.mem_reverse.2 hb)
  rcases Nat.lt_or_ge b 2 with h2 | h2
  · exact absurd rfl (this b (by have : b = 0 \/ b = 1 := by omega
                                 rcases this with rfl | rfl <;> simp))
  · exact h2
theorem Q9o {t : Tr} (h : qO t.h t.n = true) (ht : TW t) : t = ⟨0, ([] : List Pr), 0⟩ := by
  have hp := ht.nil h
  obtain ⟨hh, nn, pl⟩ := t
  cases hh with
  | zero =>
    have h' : List.isEmpty (α := Pr) nn = true := h
    have : nn = ([] : List Pr) := List.isEmpty_iff.1 h'
    subst this
    have hp : pl = 0 := hp
    rw [hp]
  | succ h => cases h
theorem StK.none (n : Nat) (lk : Nat -> List UInt8) : StK n lk ⟨0, ([] : List Pr), 0⟩ ⟨0, ([] : List Pr), 0⟩ := by
  have ht : TW ⟨0, ([] : List Pr), 0⟩ := ⟨⟨List.Pairwise.nil, fun p hp => by cases hp⟩, trivial, by decide, (fun h => by cases h), fun _ => rfl⟩
  exact ⟨ht, ht, Or.inl rfl, (show ([1, 0] : List Nat).Nodup by decide), (fun p hp => absurd (show p ∈ ([] : List Nat) from hp) List.not_mem_nil), ⟨show yp.size <= 8 by decide, trivial, fun h => absurd rfl h⟩, (fun b hb => absurd (show b ∈ ([] : List Nat) from hb) List.not_mem_nil), List.nodup_nil, trivial⟩
theorem StK.sync {n : Nat} {lk lk' : Nat -> List UInt8} {c : Hd} {t : Tr} (h : StK n lk c.lt t) (hb : Bd n (yw c t).2) (hold : ∀ b ∈ qU c.lt, lk' b = lk b) (hnew : ∀ x ∈ (yw c t).2.ws, lk' x.1 = x.2) : StK n lk' (yw c t).1 (yw c t).1 := by
  cases hn : qO t.h t.n with
  | true =>
    have e := Q9o hn h.tw
    subst e
    exact StK.none n lk'
  | false =>
    by_cases hz : t.pl = 0
    · have hEq : yw c t = (⟨t.h, (qa t.h t.n ⟨usL c.lt, []⟩).1, tk (qa t.h t.n ⟨usL c.lt, []⟩).2.us⟩, (qa t.h t.n ⟨usL c.lt, []⟩).2.step (j3 (nbN t.h (qa t.h t.n ⟨usL c.lt, []⟩).1))) := by
        unfold yw
        rw [Zs hn, show qh t.h ⟨yp, t.n, t.pl⟩ ⟨usL c.lt, []⟩ = _ from Qu (k := rtK t) hz ⟨usL c.lt, []⟩]
        rfl
      rw [hEq] at hb hnew ⊢
      have hpl : qu t.h (rtK t) = jJ t.h t.n := by unfold qu; rw [if_pos (show (rtK t).3 = 0 from hz)]; rfl
      have hL := Q8U lk lk' (qU c.lt) hold t.h t.n ⟨usL c.lt, []⟩ h.g.2.1.pl (by rw [<- hpl]; exact h.nd) (fun b hb1 => h.pls b (by rw [hpl]; exact hb1)) (fun b hb1 => Q9m hb1) (fun x hx => hnew x (by show x ∈ (qa t.h t.n ⟨usL c.lt, []⟩).2.ws ++ _; exact List.mem_append_left _ hx))
      have hE := Q68 (Q67 t.h t.n ⟨usL c.lt, []⟩)
      have hS := (QM t.h t.n ⟨usL c.lt, []⟩).1
      have hin : ∀ b ∈ gB t.h (qa t.h t.n ⟨usL c.lt, []⟩).1, 2 <= b /\ b ∈ (qa t.h t.n ⟨usL c.lt, []⟩).2.us := by
        intro b hb1
        rcases hL.mem b hb1 with h1 | ⟨h1, h2⟩
        · have h3 := h.pls b (by rw [hpl]; exact h1)
          exact ⟨Q9n h.us h3, hS.us b (Q9m h3)⟩
        · refine ⟨?_, h1⟩
          rcases Nat.lt_or_ge b 2 with h3 | h3
          · exact absurd (show b ∈ usL c.lt from List.mem_append_right _ (by have : b = 0 \/ b = 1 := by omega
                                                                             rcases this with rfl | rfl <;> simp)) h2
          · exact h3
      have htk := Q5U (qa t.h t.n ⟨usL c.lt, []⟩).2.us
      refine Whl.stk ⟨⟨hE.2.2.2.2.1 _ h.tw.wf, hE.2.2.2.2.2 h.tw.full, ?_, ?_, ?_⟩, ?_, ?_, hL.lies, ?_, ?_, ?_⟩
      · show yl t.h (qa t.h t.n ⟨usL c.lt, []⟩).1 <= 122
        rw [hE.2.1]
        exact h.tw.hi
      · intro h0
        show 22 <= yl t.h (qa t.h t.n ⟨usL c.lt, []⟩).1
        rw [hE.2.1]
        exact h.tw.two h0
      · intro h1
        have h1 : qO t.h (qa t.h t.n ⟨usL c.lt, []⟩).1 = true := h1
        rw [hE.2.2.2.1, hn] at h1
        cases h1
      · show qO t.h (qa t.h t.n ⟨usL c.lt, []⟩).1 = false
        rw [hE.2.2.2.1]
        exact hn
      · exact hnew (tk (qa t.h t.n ⟨usL c.lt, []⟩).2.us, j3 (nbN t.h (qa t.h t.n ⟨usL c.lt, []⟩).1)) (List.mem_append_right _ (List.mem_cons_self ..))
      · exact List.nodup_cons.2 ⟨fun hm => htk (hin _ hm).2, hL.nd⟩
      · intro b hb1
        rcases List.mem_cons.1 hb1 with e | hb1
        · subst e
          refine ⟨?_, hb _ (List.mem_cons_self ..)⟩
          rcases Nat.lt_or_ge (tk (qa t.h t.n ⟨usL c.lt, []⟩).2.us) 2 with h3 | h3
          · refine absurd (hS.us _ ?_) htk
            refine List.mem_append_right _ ?_
            have : tk (qa t.h t.n ⟨usL c.lt, []⟩).2.us = 0 \/ tk (qa t.h t.n ⟨usL c.lt, []⟩).2.us = 1 := by omega
            rcases this with e | e <;> rw [e] <;> simp
          · exact h3
        · exact ⟨(hin b hb1).1, hb b (List.mem_cons_of_mem _ (hin b hb1).2)⟩
      · exact (Q9j _ _).1 (by rw [Q67]; exact (Q9j _ _).2 h.g.2.1.frs)
    · have hEq : yw c t = (⟨t.h, t.n, t.pl⟩, ⟨usL c.lt, []⟩) := by
        unfold yw
        rw [Zs hn, show qh t.h ⟨yp, t.n, t.pl⟩ ⟨usL c.lt, []⟩ = _ from jC (k := rtK t) hz ⟨usL c.lt, []⟩]
        rfl
      rw [hEq]
      have hg := h.g.2.2 hz
      have hl := h.g.2.1.lies hg.2
      have hk : qu t.h (rtK t) = t.pl :: gB t.h t.n := by unfold qu; rw [if_neg (show (rtK t).3 ≠ 0 from hz)]; rfl
      have hin : ∀ b ∈ t.pl :: gB t.h t.n, b ∈ qU c.lt := fun b hb1 => h.pls b (by rw [hk]; exact hb1)
      refine Whl.stk (t := ⟨t.h, t.n, t.pl⟩) ⟨h.tw, hn, ?_, hl.1.agree fun b hb1 => hold b (hin b (List.mem_cons_of_mem _ hb1)), by rw [<- hk]; exact h.nd, fun b hb1 => ⟨Q9n h.us (hin b hb1), h.ub b (hin b hb1)⟩, h.g.2.1.frs⟩
      show lk' t.pl = _
      rw [hold t.pl (hin t.pl (by simp))]
      exact hg.1
end Go.Proofs.YtcklgafpgdhnaabGreatDoor
