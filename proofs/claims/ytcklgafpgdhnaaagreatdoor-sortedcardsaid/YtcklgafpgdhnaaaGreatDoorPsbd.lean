import Derived.Test.YtcklgafpgdhnaaaGreatDoorPsbc
set_option maxRecDepth 100000
set_option maxHeartbeats 4000000
namespace Go.Proofs.YtcklgafpgdhnaaaGreatDoor
open Go.RowKit
def GN (G : (h : Nat) -> Kid h -> Prop) : (h : Nat) -> Nd h -> Prop
 | 0, _ => True
 | h + 1, ks => ∀ k : Kid h, List.Mem k ks -> G h k
structure KP (G : (h : Nat) -> Kid h -> Prop) : Prop where
 down : ∀ (h : Nat) (k : Kid h), G h k -> GN G h k.2
 up : ∀ (h : Nat) (f : ByteArray) (n : Nd h), f.size <= 8 -> GN G h n -> G h ⟨f, n, 0⟩
 fr : ∀ (h : Nat) (k : Kid h), G h k -> k.1.size <= 8
theorem QbX {G : (h : Nat) -> Kid h -> Prop} {h : Nat} {ks : List (Kid h)} : GN G (h + 1) ks ↔ ∀ k ∈ ks, G h k := Iff.rfl
theorem QbY {G : (h : Nat) -> Kid h -> Prop} {h : Nat} {n : Nd h} (g : GN G h n) : GN G h (Q4q h n).1 /\ GN G h (Q4q h n).2 := by
 cases h with
 | zero => exact ⟨trivial, trivial⟩
 | succ h => exact ⟨QbX.2 fun k hk => QbX.1 g k (List.mem_of_mem_take hk), QbX.2 fun k hk => QbX.1 g k (List.mem_of_mem_drop hk)⟩
theorem QbZ {G : (h : Nat) -> Kid h -> Prop} {h : Nat} {n m : Nd h} (g : GN G h n) (g' : GN G h m) : GN G h (Q4u h n m) := by
 cases h with
 | zero => exact trivial
 | succ h => exact QbX.2 fun k hk => (List.mem_append.1 hk).elim (QbX.1 g k) (QbX.1 g' k)
def Sh (h : Nat) (n : Nd h) : Prop := ∀ p ∈ Q49 h n, p.1.size <= 8
theorem Sh.of {h : Nat} {f : ByteArray} {n : Nd h} (hw : WFN h f n) : Sh h n := fun p hp => (WFN.keys hw p hp).2.2.1
theorem Sh.join {h : Nat} {n m : Nd h} (a : Sh h n) (b : Sh h m) : Sh h (Q4u h n m) := fun p hp => by
 rw [Q4C] at hp
 exact (List.mem_append.1 hp).elim (a p) (b p)
theorem Qc0 (l : List Pr) (hs : ∀ p ∈ l, p.1.size <= 8) : (Q4r l).size <= 8 := by
 cases l with
 | nil => show (ByteArray.mk #[]).size <= 8; decide
 | cons p r => exact hs p (by simp)
theorem Qc1 {h : Nat} (l : List (Kid h)) (hs : ∀ k ∈ l, k.1.size <= 8) : (Q4s l).size <= 8 := by
 cases l with
 | nil => show (ByteArray.mk #[]).size <= 8; decide
 | cons p r => exact hs p (by simp)
theorem Qc2 {G : (h : Nat) -> Kid h -> Prop} (kp : KP G) {h : Nat} {n : Nd h} (hs : Sh h n) (g : GN G h n) : (Q4t h (Q4q h n).2).size <= 8 := by
 cases h with
 | zero => exact Qc0 _ fun p hp => hs p (List.mem_of_mem_drop hp)
 | succ h => exact Qc1 _ fun k hk => kp.fr h k (QbX.1 g k (List.mem_of_mem_drop hk))
theorem Qc3 {G : (h : Nat) -> Kid h -> Prop} (kp : KP G) {h : Nat} {f : ByteArray} {n : Nd h} (hf : f.size <= 8) (hs : Sh h n) (g : GN G h n) : ∀ k ∈ fitN h f n, G h k := by
 intro k hk
 unfold fitN at hk
 split at hk
 ·simp at hk
  subst hk
  exact kp.up h f n hf g
 ·simp at hk
  rcases hk with rfl | rfl
  ·exact kp.up h f _ hf (QbY g).1
  ·exact kp.up h _ _ (Qc2 kp hs g) (QbY g).2
theorem Qc4 {G : (h : Nat) -> Kid h -> Prop} (kp : KP G) {h : Nat} (ks : List (Kid h)) (i : Nat) (hi : i < ks.length) (hl : 2 <= ks.length) (hw : ∀ k ∈ ks, k.1.size <= 8 /\ GN G h k.2 /\ Sh h k.2) (ho : ∀ j k, ks[j]? = some k -> j ≠ i -> G h k) : ∀ k ∈ Q4I h ks i, G h k := by
 intro k hk
 unfold Q4I at hk
 have ha : ks[i]? = some ks[i] := List.getElem?_eq_getElem hi
 have mt : ∀ {m : Nat}, m <= i -> k ∈ ks.take m -> G h k := by
  intro m hm hk
  obtain ⟨j, hj⟩ := List.mem_iff_getElem?.1 hk
  rw [List.getElem?_take] at hj
  split at hj
  ·exact ho j k hj (by omega)
  ·cases hj
 have md : ∀ {m : Nat}, i < m -> k ∈ ks.drop m -> G h k := by
  intro m hm hk
  obtain ⟨j, hj⟩ := List.mem_iff_getElem?.1 hk
  rw [List.getElem?_drop] at hj
  exact ho (m + j) k hj (by omega)
 rw [ha] at hk
 simp only at hk
 split at hk
 ·have hx : ks[i - 1]? = some ks[i - 1] := List.getElem?_eq_getElem (by omega)
  have hy : ks[i - 1 + 1]? = some ks[i - 1 + 1] := List.getElem?_eq_getElem (by omega)
  rw [hx, hy] at hk
  simp only at hk
  have wx := hw _ (List.mem_of_getElem? hx)
  have wy := hw _ (List.mem_of_getElem? hy)
  rcases List.mem_append.1 hk with hk | hk
  ·exact mt (by omega) hk
  ·rcases List.mem_append.1 hk with hk | hk
   ·exact Qc3 kp wx.1 (wx.2.2.join wy.2.2) (QbZ wx.2.1 wy.2.1) k hk
   ·exact md (by omega) hk
 ·have wx := hw _ (List.mem_of_getElem? ha)
  rcases List.mem_append.1 hk with hk | hk
  ·exact mt (Nat.le_refl _) hk
  ·rcases List.mem_append.1 hk with hk | hk
   ·exact Qc3 kp wx.1 wx.2.2 wx.2.1 k hk
   ·exact md (by omega) hk
theorem Qc5 {G : (h : Nat) -> Kid h -> Prop} (kp : KP G) {F : List Pr -> List Pr} {k : ByteArray} (hF : OpAt F k) : ∀ (h : Nat) (f : ByteArray) (n : Nd h), WFN h f n -> Q4j h n -> ge k f -> (0 < h -> 22 <= Q4a h n) -> GN G h n -> GN G h (chgN F k h n)
 | 0, _, _, _, _, _, _, _ => trivial
 | h + 1, f, (ks : List (Kid h)), hw, hf, hk, h22, g => by
  obtain ⟨⟨n0, x0, r0, e0⟩, hkw⟩ := (Q4i h f ks).1 hw
  have hfull := (Q4k h ks).1 hf
  obtain ⟨A, a, B, esp, hlen, hga, hB⟩ := Q4Q f n0 x0 r0 k (by rw [<- e0]; exact hkw) hk
  rw [<- e0] at esp hlen
  have hamem : a ∈ ks := by rw [esp]; simp
  have hget : ks[wayK ks k]? = some a := by
   rw [<- hlen, esp]; simp
  have haR := hfull a hamem
  have h22a : 0 < h -> 22 <= Q4a h a.2 := fun _ => by have := haR.1.1; omega
  have hc := Q4S hF h a.1 a.2 (hkw.all a hamem) haR.2 hga h22a
  have ih := Qc5 kp hF h a.1 a.2 (hkw.all a hamem) haR.2 hga h22a (kp.down h a (QbX.1 g a hamem))
  have hlt : wayK ks k < ks.length := (List.getElem?_eq_some_iff.1 hget).1
  have hl2 : 2 <= ks.length := by
   have : 22 <= 11 * ks.length := h22 (by omega)
   omega
  show GN G (h + 1) (chgK h (chgN F k h) k ks)
  unfold chgK
  rw [hget]
  refine QbX.2 (Qc4 kp _ _ (by rw [List.length_set]; exact hlt) (by rw [List.length_set]; exact hl2) ?_ ?_)
  ·intro x hx
   rcases List.mem_or_eq_of_mem_set hx with hx | rfl
   ·have := QbX.1 g x hx
    exact ⟨kp.fr h x this, kp.down h x this, Sh.of (hkw.all x hx)⟩
   ·exact ⟨kp.fr h a (QbX.1 g a hamem), ih, Sh.of hc.wf⟩
  ·intro j x hj hne
   rw [List.getElem?_set_ne (by omega)] at hj
   exact QbX.1 g x (List.mem_of_getElem? hj)
def rtK (t : Tr) : Kid t.h := ⟨nil8, t.n, t.pl⟩
theorem Qc6 {G : (h : Nat) -> Kid h -> Prop} (kp : KP G) (h : Nat) (m : Nd h) (hw : WFN h nil8 m) (gn : GN G h m) : G (lowT h m).h (rtK (lowT h m)) := by
 have hsm : nil8.size <= 8 := by decide
 cases h with
 | zero => exact kp.up 0 nil8 m hsm trivial
 | succ h =>
  obtain ⟨⟨n0, x0, r0, e0⟩, _⟩ := (Q4i h nil8 m).1 hw
  subst e0
  cases r0 with
  | nil => exact QbX.1 gn _ (List.mem_cons_self ..)
  | cons b r => exact kp.up (h + 1) nil8 _ hsm gn
theorem Qc7 {G : (h : Nat) -> Kid h -> Prop} (kp : KP G) {F : List Pr -> List Pr} {k : ByteArray} (hF : OpAt F k) (t : Tr) (ht : TW t) (g : G t.h (rtK t)) : G (chgT F k t).h (rtK (chgT F k t)) := by
 have hc := Q4S hF t.h nil8 t.n ht.wf ht.full (Q4X k) ht.two
 have gn := Qc5 kp hF t.h nil8 t.n ht.wf ht.full (Q4X k) ht.two (kp.down _ _ g)
 have hsm : nil8.size <= 8 := by decide
 have gf := Qc3 kp hsm (Sh.of hc.wf) gn
 have hw := hc.wf
 unfold chgT
 revert gf gn hw
 generalize chgN F k t.h t.n = m
 intro gf gn hw
 by_cases hs : Q4a t.h m <= 122
 ·have e : fitN t.h nil8 m = [⟨nil8, m, 0⟩] := by unfold fitN; rw [if_pos hs]
  rw [e]
  exact Qc6 kp t.h m hw gf
 ·have e : fitN t.h nil8 m = [⟨nil8, (Q4q t.h m).1, 0⟩, ⟨Q4t t.h (Q4q t.h m).2, (Q4q t.h m).2, 0⟩] := by unfold fitN; rw [if_neg hs]
  rw [e] at gn ⊢
  exact kp.up (t.h + 1) nil8 _ hsm (QbX.2 gn)
def Qc8 : (h : Nat) -> Nd h -> Prop
 | 0, _ => True
 | h + 1, ks => ∀ k : Kid h, List.Mem k ks -> k.3 ≠ 0
def GlN (lk : Nat -> List UInt8) : (h : Nat) -> Nd h -> Prop
 | 0, _ => True
 | h + 1, ks => ∀ k : Kid h, List.Mem k ks -> k.1.size <= 8 /\ GlN lk h k.2 /\ (k.3 ≠ 0 -> lk k.3 = encN (nbN h k.2) /\ Qc8 h k.2)
def Gl (lk : Nat -> List UInt8) (h : Nat) (k : Kid h) : Prop := k.1.size <= 8 /\ GlN lk h k.2 /\ (k.3 ≠ 0 -> lk k.3 = encN (nbN h k.2) /\ Qc8 h k.2)
theorem Qc9 (lk : Nat -> List UInt8) : ∀ (h : Nat) (n : Nd h), GN (Gl lk) h n ↔ GlN lk h n
 | 0, _ => Iff.rfl
 | _ + 1, _ => Iff.rfl
theorem Qca (lk : Nat -> List UInt8) : KP (Gl lk) := ⟨fun h k g => (Qc9 lk h k.2).2 g.2.1, fun h _ n hf g => ⟨hf, (Qc9 lk h n).1 g, fun e => absurd rfl e⟩, fun _ _ g => g.1⟩
theorem Qcb {lk : Nat -> List UInt8} {h : Nat} {ks : List (Kid h)} : GlN lk (h + 1) ks ↔ ∀ k ∈ ks, Gl lk h k := Iff.rfl
theorem GlN.lies {lk : Nat -> List UInt8} : ∀ {h : Nat} {n : Nd h}, GlN lk h n -> Qc8 h n -> QbS lk h n /\ 0 ∉ preN h n /\ plsN h n = preN h n
 | 0, _, _, _ => ⟨trivial, by simp [preN], rfl⟩
 | h + 1, (ks : List (Kid h)), g, ha => by
  have hk : ∀ k ∈ ks, (lk k.3 = encN (nbN h k.2) /\ QbS lk h k.2) /\ 0 ∉ preK h k /\ plsK h k = preK h k := by
   intro k hk
   obtain ⟨_, g2, g3⟩ := Qcb.1 g k hk
   have hne : k.3 ≠ 0 := ha k hk
   obtain ⟨e, al⟩ := g3 hne
   obtain ⟨i1, i2, i3⟩ := g2.lies al
   refine ⟨⟨e, i1⟩, ?_, by rw [plsK, if_neg hne]; rfl⟩
   intro hm
   rcases List.mem_cons.1 hm with e0 | hm
   ·exact hne e0.symm
   ·exact i2 hm
  refine ⟨QbT.2 fun k hm => (hk k hm).1, ?_, ?_⟩
  ·intro hm
   obtain ⟨k, h1, h2⟩ := List.mem_flatMap.1 hm
   exact (hk k h1).2.1 h2
  ·have : ∀ L : List (Kid h), (∀ k ∈ L, plsK h k = preK h k) -> L.flatMap (plsK h) = L.flatMap (preK h) := by
    intro L
    induction L with
    | nil => intro _; rfl
    | cons a r ih => intro hL; rw [List.flatMap_cons, List.flatMap_cons, hL a (by simp), ih fun k hk => hL k (by simp [hk])]
   exact this ks fun k hm => (hk k hm).2.2
theorem Gl.sub {lk : Nat -> List UInt8} {h : Nat} {k : Kid h} (g : Gl lk h k) : (plsN h k.2).Sublist (plsK h k) := by
 unfold plsK
 split
 ·exact List.Sublist.refl _
 ·rename_i hne
  obtain ⟨_, g2, g3⟩ := g
  obtain ⟨_, _, e⟩ := g2.lies (g3 hne).2
  rw [e]
  exact List.sublist_cons_self _ _
theorem GlN.pl {lk : Nat -> List UInt8} : ∀ {h : Nat} {n : Nd h}, GlN lk h n -> PlN lk h n
 | 0, _, _ => trivial
 | h + 1, ks, g => QbU.2 fun k hk => by
  obtain ⟨_, g2, g3⟩ := Qcb.1 g k hk
  exact ⟨fun hne => ⟨(g3 hne).1, (g2.lies (g3 hne).2).1⟩, fun _ => g2.pl⟩
theorem Qcc (h : Nat) (n m : Nd h) : plsN h (Q4u h n m) = plsN h n ++ plsN h m := by
 cases h with
 | zero => rfl
 | succ h =>
  show List.flatMap (plsK h) (List.append n m) = List.flatMap (plsK h) n ++ List.flatMap (plsK h) m
  exact List.flatMap_append
theorem Qcd (h : Nat) (n : Nd h) : plsN h (Q4q h n).1 ++ plsN h (Q4q h n).2 = plsN h n := by
 cases h with
 | zero => rfl
 | succ h =>
  have : ∀ (L : List (Kid h)) (i : Nat), (L.take i).flatMap (plsK h) ++ (L.drop i).flatMap (plsK h) = L.flatMap (plsK h) := by
   intro L i
   rw [<- List.flatMap_append, List.take_append_drop]
  exact this n _
theorem Qce (h : Nat) (f : ByteArray) (n : Nd h) : (fitN h f n).flatMap (plsK h) = plsN h n := by
 unfold fitN
 split
 ·simp [plsK]
 ·simp only [List.flatMap_cons, List.flatMap_nil, plsK, if_true, List.append_nil]
  exact Qcd h n
theorem Qcf {h : Nat} (ks : List (Kid h)) (i : Nat) (a : Kid h) (hi : ks[i]? = some a) (hl : 2 <= ks.length) (ho : ∀ j k, ks[j]? = some k -> j ≠ i -> (plsN h k.2).Sublist (plsK h k)) :
  ((Q4I h ks i).flatMap (plsK h)).Sublist ((ks.take i).flatMap (plsK h) ++ (plsN h a.2 ++ (ks.drop (i + 1)).flatMap (plsK h))) := by
 unfold Q4I
 rw [hi]
 simp only
 have hil := (List.getElem?_eq_some_iff.1 hi).1
 split
 ·cases i with
  | zero =>
   have hy : ks[0 - 1 + 1]? = some ks[1] := List.getElem?_eq_getElem (by omega)
   have hx : ks[0 - 1]? = some a := hi
   rw [hx, hy]
   simp only
   have hd : ks.drop (0 + 1) = ks[1] :: ks.drop 2 := List.drop_eq_getElem_cons (by omega)
   rw [hd]
   simp only [List.flatMap_append, Qce, Qcc, List.flatMap_cons, List.take_zero, List.flatMap_nil, List.nil_append, Nat.zero_sub, List.append_assoc]
   exact List.Sublist.append (List.Sublist.refl _) (List.Sublist.append (ho 1 _ (List.getElem?_eq_getElem (by omega)) (by omega)) (List.Sublist.refl _))
  | succ m =>
   have hx : ks[m + 1 - 1]? = some ks[m] := List.getElem?_eq_getElem (by omega)
   have hy : ks[m + 1 - 1 + 1]? = some a := hi
   rw [hx, hy]
   simp only
   have ht : ks.take (m + 1) = ks.take m ++ [ks[m]] := List.take_succ_eq_append_getElem (by omega)
   rw [ht]
   simp only [List.flatMap_append, Qce, Qcc, List.flatMap_cons, List.flatMap_nil, List.append_nil, Nat.add_sub_cancel, List.append_assoc]
   exact List.Sublist.append (List.Sublist.refl _) (List.Sublist.append (ho m _ (List.getElem?_eq_getElem (by omega)) (by omega)) (List.Sublist.refl _))
 ·simp only [List.flatMap_append, Qce]
  exact List.Sublist.refl _
theorem Qcg {lk : Nat -> List UInt8} {F : List Pr -> List Pr} {k : ByteArray} (hF : OpAt F k) : ∀ (h : Nat) (f : ByteArray) (n : Nd h), WFN h f n -> Q4j h n -> ge k f -> (0 < h -> 22 <= Q4a h n) -> GlN lk h n -> (plsN h (chgN F k h n)).Sublist (plsN h n)
 | 0, _, _, _, _, _, _, _ => List.Sublist.refl _
 | h + 1, f, (ks : List (Kid h)), hw, hf, hk, h22, g => by
  obtain ⟨⟨n0, x0, r0, e0⟩, hkw⟩ := (Q4i h f ks).1 hw
  have hfull := (Q4k h ks).1 hf
  obtain ⟨A, a, B, esp, hlen, hga, hB⟩ := Q4Q f n0 x0 r0 k (by rw [<- e0]; exact hkw) hk
  rw [<- e0] at esp hlen
  have hamem : a ∈ ks := by rw [esp]; simp
  have hget : ks[wayK ks k]? = some a := by
   rw [<- hlen, esp]; simp
  have haR := hfull a hamem
  have h22a : 0 < h -> 22 <= Q4a h a.2 := fun _ => by have := haR.1.1; omega
  have ga := Qcb.1 g a hamem
  have ih := Qcg hF h a.1 a.2 (hkw.all a hamem) haR.2 hga h22a ga.2.1
  have hlt : wayK ks k < ks.length := (List.getElem?_eq_some_iff.1 hget).1
  have hl2 : 2 <= ks.length := by
   have : 22 <= 11 * ks.length := h22 (by omega)
   omega
  show ((chgK h (chgN F k h) k ks).flatMap (plsK h)).Sublist (ks.flatMap (plsK h))
  unfold chgK
  rw [hget]
  simp only
  have hs := Qcf (ks.set (wayK ks k) ⟨a.1, chgN F k h a.2, a.3⟩) (wayK ks k) ⟨a.1, chgN F k h a.2, a.3⟩ (by rw [List.getElem?_set_self hlt]) (by rw [List.length_set]; exact hl2) (by
   intro j x hj hne
   rw [List.getElem?_set_ne (by omega)] at hj
   exact (Qcb.1 g x (List.mem_of_getElem? hj)).sub)
  refine hs.trans ?_
  have e1 : (ks.set (wayK ks k) ⟨a.1, chgN F k h a.2, a.3⟩).take (wayK ks k) = A := by
   rw [List.take_set_of_le (Nat.le_refl _), <- hlen, esp]
   exact List.take_left' rfl
  have e2 : (ks.set (wayK ks k) ⟨a.1, chgN F k h a.2, a.3⟩).drop (wayK ks k + 1) = B := by
   rw [List.drop_set_of_lt (by omega), <- hlen, esp, <- List.append_assoc]
   exact List.drop_left' (by simp)
  rw [e1, e2]
  conv => rhs; rw [esp]
  simp only [List.flatMap_append, List.flatMap_cons, List.flatMap_nil, List.append_nil]
  exact List.Sublist.append (List.Sublist.refl _) (List.Sublist.append (ih.trans ga.sub) (List.Sublist.refl _))
theorem Qch (h : Nat) (m : Nd h) : plsK (lowT h m).h (rtK (lowT h m)) = plsN h m := by
 cases h with
 | zero => rfl
 | succ h =>
  match m with
  | [] => rfl
  | [a] =>
   show plsK h ⟨nil8, a.2, a.3⟩ = List.flatMap (plsK h) [a]
   simp [plsK]
  | a :: b :: r => rfl
theorem Qci {lk : Nat -> List UInt8} {F : List Pr -> List Pr} {k : ByteArray} (hF : OpAt F k) (t : Tr) (ht : TW t) (g : Gl lk t.h (rtK t)) : (plsK (chgT F k t).h (rtK (chgT F k t))).Sublist (plsN t.h t.n) := by
 have h1 := Qcg (lk := lk) hF t.h nil8 t.n ht.wf ht.full (Q4X k) ht.two g.2.1
 refine List.Sublist.trans ?_ h1
 unfold chgT
 generalize chgN F k t.h t.n = m
 have ep := Qce t.h nil8 m
 by_cases hs : Q4a t.h m <= 122
 ·have e : fitN t.h nil8 m = [⟨nil8, m, 0⟩] := by unfold fitN; rw [if_pos hs]
  rw [e]
  show (plsK (lowT t.h m).h (rtK (lowT t.h m))).Sublist (plsN t.h m)
  rw [Qch]
  exact List.Sublist.refl _
 ·have e : fitN t.h nil8 m = [⟨nil8, (Q4q t.h m).1, 0⟩, ⟨Q4t t.h (Q4q t.h m).2, (Q4q t.h m).2, 0⟩] := by unfold fitN; rw [if_neg hs]
  rw [e] at ep ⊢
  rw [<- ep]
  exact List.Sublist.refl _
theorem Qcj {lk : Nat -> List UInt8} {F : List Pr -> List Pr} {k : ByteArray} (hF : OpAt F k) (t : Tr) (ht : TW t) (g : Gl lk t.h (rtK t)) : (plsK (chgT F k t).h (rtK (chgT F k t))).Sublist (plsK t.h (rtK t)) := (Qci hF t ht g).trans g.sub
def FmS : (h : Nat) -> Nd h -> Prop
 | 0, _ => True
 | h + 1, ks => ∀ k : Kid h, List.Mem k ks -> k.1.size <= 8 /\ FmS h k.2
def Qck (lk : Nat -> List UInt8) (t : Tr) : Prop := nilN t.h t.n = true \/ (lk t.pl = encN (nbN t.h t.n) /\ QbS lk t.h t.n)
structure StK (n : Nat) (lk : Nat -> List UInt8) (lt t : Tr) : Prop where
 tw : TW t
 ltw : TW lt
 lies : Qck lk lt
 us : (usL lt).Nodup
 ub : ∀ p ∈ preT lt, p < n
 g : Gl lk t.h (rtK t)
 pls : ∀ b ∈ plsK t.h (rtK t), b ∈ preT lt
 nd : (plsK t.h (rtK t)).Nodup
 fm : FmS lt.h lt.n
theorem StK.chg {n : Nat} {lk : Nat -> List UInt8} {lt t : Tr} {F : List Pr -> List Pr} {k : ByteArray} (h : StK n lk lt t) (hF : OpAt F k) : StK n lk lt (chgT F k t) :=
 ⟨(Q51 hF t h.tw).1, h.ltw, h.lies, h.us, h.ub, Qc7 (Qca lk) hF t h.tw h.g, fun b hb => h.pls b ((Qcj hF t h.tw h.g).subset hb), h.nd.sublist (Qcj hF t h.tw h.g), h.fm⟩
theorem Qcl {lk : Nat -> List UInt8} : ∀ (h : Nat) (f : ByteArray) (n : Nd h), WFN h f n -> Q4j h n -> Q4a h n <= 122 -> GlN lk h n -> (∀ b ∈ plsN h n, b < 65536) -> CkN h n
 | 0, f, l, hw, _, hs, _, _ => ⟨fun p hp => ⟨(hw.2 p hp).2.2.1, (hw.2 p hp).2.2.2⟩, hs⟩
 | h + 1, f, (ks : List (Kid h)), hw, hf, hs, hg, hb => by
  refine Qay.2 ⟨hs, fun k hk => ?_⟩
  have hg := Qcb.1 hg k hk
  have hf := (Q4k h ks).1 hf k hk
  have hw := ((Q4i h f ks).1 hw).2.all k hk
  have hb' : ∀ b ∈ plsK h k, b < 65536 := fun b hb1 => hb b (by rw [QbV]; exact List.mem_flatMap.2 ⟨k, hk, hb1⟩)
  refine ⟨hg.1, ?_, fun hz => Qcl h k.1 k.2 hw hf.2 hf.1.2 hg.2.1 fun b hb1 => hb' b (by unfold plsK; rw [if_pos hz]; exact hb1)⟩
  by_cases hz : k.3 = 0
  ·omega
  ·exact hb' _ (by unfold plsK; rw [if_neg hz]; simp)
theorem StK.lyp {n : Nat} {lk : Nat -> List UInt8} {c : Hd} {t : Tr} (h : StK n lk c.lt t) (hn : n <= 65536) : LyP c t n := by
 refine ⟨h.us, h.ub, ⟨show nil8.size <= 8 by decide, ?_, fun hz => Qcl t.h nil8 t.n h.tw.wf h.tw.full h.tw.hi h.g.2.1 fun b hb => ?_⟩⟩
 ·show t.pl < 65536
  by_cases hz : t.pl = 0
  ·omega
  ·have := h.ub _ (h.pls t.pl (by unfold plsK rtK; rw [if_neg hz]; simp))
   omega
 ·have := h.ub _ (h.pls b (by unfold plsK; rw [if_pos (show (rtK t).3 = 0 from hz)]; exact hb))
  omega
theorem Qcm {h : Nat} {ks : List (Kid h)} : FmS (h + 1) ks ↔ ∀ k ∈ ks, k.1.size <= 8 /\ FmS h k.2 := Iff.rfl
theorem Qcn : ∀ (h : Nat) (n : Nd h), FmS h (erN h n) ↔ FmS h n
 | 0, _ => Iff.rfl
 | h + 1, (ks : List (Kid h)) => by
  show (∀ k ∈ ks.map (erK h), k.1.size <= 8 /\ FmS h k.2) ↔ ∀ k ∈ ks, k.1.size <= 8 /\ FmS h k.2
  constructor
  ·intro H k hk
   have := H _ (List.mem_map.2 ⟨k, hk, rfl⟩)
   exact ⟨this.1, (Qcn h k.2).1 this.2⟩
  ·intro H k hk
   obtain ⟨k0, hk0, rfl⟩ := List.mem_map.1 hk
   exact ⟨(H k0 hk0).1, (Qcn h k0.2).2 (H k0 hk0).2⟩
theorem GlN.frs {lk : Nat -> List UInt8} : ∀ {h : Nat} {n : Nd h}, GlN lk h n -> FmS h n
 | 0, _, _ => trivial
 | _ + 1, _, g => Qcm.2 fun k hk => ⟨(Qcb.1 g k hk).1, GlN.frs (Qcb.1 g k hk).2.1⟩
theorem Qco {lk : Nat -> List UInt8} : ∀ {h : Nat} {n : Nd h}, QbS lk h n -> 0 ∉ preN h n -> FmS h n -> GlN lk h n /\ Qc8 h n
 | 0, _, _, _, _ => ⟨trivial, trivial⟩
 | h + 1, (ks : List (Kid h)), hl, h0, hf => by
  have h0 : 0 ∉ ks.flatMap (preK h) := h0
  have key : ∀ k ∈ ks, k.3 ≠ 0 /\ 0 ∉ preN h k.2 := by
   intro k hk
   have : 0 ∉ preK h k := fun hm => h0 (List.mem_flatMap.2 ⟨k, hk, hm⟩)
   unfold preK at this
   simp only [List.mem_cons, not_or] at this
   exact ⟨fun e => this.1 e.symm, this.2⟩
  refine ⟨Qcb.2 fun k hk => ?_, fun k hk => (key k hk).1⟩
  have h1 := QbT.1 hl k hk
  have h2 := Qcm.1 hf k hk
  have h3 := Qco h1.2 (key k hk).2 h2.2
  exact ⟨h2.1, h3.1, fun _ => ⟨h1.1, h3.2⟩⟩
structure Whl (n : Nat) (lk : Nat -> List UInt8) (t : Tr) : Prop where
 tw : TW t
 nil : nilN t.h t.n = false
 at_ : lk t.pl = encN (nbN t.h t.n)
 lies : QbS lk t.h t.n
 nd : (t.pl :: preN t.h t.n).Nodup
 off : ∀ b ∈ t.pl :: preN t.h t.n, 2 <= b /\ b < n
 frs : FmS t.h t.n
theorem Qcp {l : List Nat} (h : l.Nodup) (h2 : ∀ b ∈ l, 2 <= b) : (l.reverse ++ [1, 0]).Nodup := by
 refine List.nodup_append.2 ⟨((List.reverse_perm l).nodup_iff).2 h, by decide, ?_⟩
 intro a ha b hb e
 subst e
 have := h2 a (List.mem_reverse.1 ha)
 simp at hb
 omega
theorem Whl.pre {n : Nat} {lk : Nat -> List UInt8} {t : Tr} (h : Whl n lk t) : preT t = t.pl :: preN t.h t.n := by unfold preT; rw [h.nil]; rfl
theorem Whl.stk {n : Nat} {lk : Nat -> List UInt8} {t : Tr} (h : Whl n lk t) : StK n lk t t := by
 have h0 : 0 ∉ preN t.h t.n := fun hm => by have := h.off 0 (List.mem_cons_of_mem _ hm); omega
 have hp : t.pl ≠ 0 := by have := h.off t.pl (by simp); omega
 have hg := Qco h.lies h0 h.frs
 have hk : plsK t.h (rtK t) = preT t := by rw [h.pre]; unfold plsK rtK; rw [if_neg hp]
 refine ⟨h.tw, h.tw, Or.inr ⟨h.at_, h.lies⟩, ?_, ?_, ⟨show nil8.size <= 8 by decide, hg.1, fun _ => ⟨h.at_, hg.2⟩⟩, ?_, ?_, h.frs⟩
 ·unfold usL
  rw [h.pre]
  exact Qcp h.nd fun b hb => (h.off b hb).1
 ·rw [h.pre]
  exact fun b hb => (h.off b hb).2
 ·rw [hk]
  exact fun b hb => hb
 ·rw [hk, h.pre]
  exact h.nd
theorem Qcq {lt : Tr} {b : Nat} (h : b ∈ preT lt) : b ∈ usL lt := List.mem_append_left _ (List.mem_reverse.2 h)
theorem Qcr {lt : Tr} (h : (usL lt).Nodup) {b : Nat} (hb : b ∈ preT lt) : 2 <= b := by
  have := (List.nodup_append.1 h).2.2 b (List.mem_reverse.2 hb)
  rcases Nat.lt_or_ge b 2 with h2 | h2
  · exact absurd rfl (this b (by have : b = 0 \/ b = 1 := by omega
                                 rcases this with rfl | rfl <;> simp))
  · exact h2
theorem Qcs {t : Tr} (h : nilN t.h t.n = true) (ht : TW t) : t = ⟨0, ([] : List Pr), 0⟩ := by
  have hp := ht.nil h
  obtain ⟨hh, nn, pl⟩ := t
  cases hh with
  | zero =>
    have h' : List.isEmpty (α := Pr) nn = true := h
    have : nn = ([] : List Pr) := List.isEmpty_iff.1 h'
    subst this
    have hp : pl = 0 := hp
    rw [hp]
  | succ h => cases h
theorem StK.none (n : Nat) (lk : Nat -> List UInt8) : StK n lk ⟨0, ([] : List Pr), 0⟩ ⟨0, ([] : List Pr), 0⟩ := by
  have ht : TW ⟨0, ([] : List Pr), 0⟩ := ⟨⟨List.Pairwise.nil, fun p hp => by cases hp⟩, trivial, by decide, (fun h => by cases h), fun _ => rfl⟩
  exact ⟨ht, ht, Or.inl rfl, (show ([1, 0] : List Nat).Nodup by decide), (fun p hp => absurd (show p ∈ ([] : List Nat) from hp) List.not_mem_nil), ⟨show nil8.size <= 8 by decide, trivial, fun h => absurd rfl h⟩, (fun b hb => absurd (show b ∈ ([] : List Nat) from hb) List.not_mem_nil), List.nodup_nil, trivial⟩
theorem StK.sync {n : Nat} {lk lk' : Nat -> List UInt8} {c : Hd} {t : Tr} (h : StK n lk c.lt t) (hb : Bd n (sysL c t).2) (hold : ∀ b ∈ preT c.lt, lk' b = lk b) (hnew : ∀ x ∈ (sysL c t).2.ws, lk' x.1 = x.2) : StK n lk' (sysL c t).1 (sysL c t).1 := by
  cases hn : nilN t.h t.n with
  | true =>
    have e := Qcs hn h.tw
    subst e
    exact StK.none n lk'
  | false =>
    by_cases hz : t.pl = 0
    · have hEq : sysL c t = (⟨t.h, (layN t.h t.n ⟨usL c.lt, []⟩).1, tk (layN t.h t.n ⟨usL c.lt, []⟩).2.us⟩, (layN t.h t.n ⟨usL c.lt, []⟩).2.step (encN (nbN t.h (layN t.h t.n ⟨usL c.lt, []⟩).1))) := by
        unfold sysL
        rw [QaY hn, show layK t.h ⟨nil8, t.n, t.pl⟩ ⟨usL c.lt, []⟩ = _ from Q8x (k := rtK t) hz ⟨usL c.lt, []⟩]
        rfl
      rw [hEq] at hb hnew ⊢
      have hpl : plsK t.h (rtK t) = plsN t.h t.n := by unfold plsK; rw [if_pos (show (rtK t).3 = 0 from hz)]; rfl
      have hL := QbW lk lk' (preT c.lt) hold t.h t.n ⟨usL c.lt, []⟩ h.g.2.1.pl (by rw [<- hpl]; exact h.nd) (fun b hb1 => h.pls b (by rw [hpl]; exact hb1)) (fun b hb1 => Qcq hb1) (fun x hx => hnew x (by show x ∈ (layN t.h t.n ⟨usL c.lt, []⟩).2.ws ++ _; exact List.mem_append_left _ hx))
      have hE := Q8G (Q8F t.h t.n ⟨usL c.lt, []⟩)
      have hS := (Q8H t.h t.n ⟨usL c.lt, []⟩).1
      have hin : ∀ b ∈ preN t.h (layN t.h t.n ⟨usL c.lt, []⟩).1, 2 <= b /\ b ∈ (layN t.h t.n ⟨usL c.lt, []⟩).2.us := by
        intro b hb1
        rcases hL.mem b hb1 with h1 | ⟨h1, h2⟩
        · have h3 := h.pls b (by rw [hpl]; exact h1)
          exact ⟨Qcr h.us h3, hS.us b (Qcq h3)⟩
        · refine ⟨?_, h1⟩
          rcases Nat.lt_or_ge b 2 with h3 | h3
          · exact absurd (show b ∈ usL c.lt from List.mem_append_right _ (by have : b = 0 \/ b = 1 := by omega
                                                                             rcases this with rfl | rfl <;> simp)) h2
          · exact h3
      have htk := Q8q (layN t.h t.n ⟨usL c.lt, []⟩).2.us
      refine Whl.stk ⟨⟨hE.2.2.2.2.1 _ h.tw.wf, hE.2.2.2.2.2 h.tw.full, ?_, ?_, ?_⟩, ?_, ?_, hL.lies, ?_, ?_, ?_⟩
      · show Q4a t.h (layN t.h t.n ⟨usL c.lt, []⟩).1 <= 122
        rw [hE.2.1]
        exact h.tw.hi
      · intro h0
        show 22 <= Q4a t.h (layN t.h t.n ⟨usL c.lt, []⟩).1
        rw [hE.2.1]
        exact h.tw.two h0
      · intro h1
        have h1 : nilN t.h (layN t.h t.n ⟨usL c.lt, []⟩).1 = true := h1
        rw [hE.2.2.2.1, hn] at h1
        cases h1
      · show nilN t.h (layN t.h t.n ⟨usL c.lt, []⟩).1 = false
        rw [hE.2.2.2.1]
        exact hn
      · exact hnew (tk (layN t.h t.n ⟨usL c.lt, []⟩).2.us, encN (nbN t.h (layN t.h t.n ⟨usL c.lt, []⟩).1)) (List.mem_append_right _ (List.mem_cons_self ..))
      · exact List.nodup_cons.2 ⟨fun hm => htk (hin _ hm).2, hL.nd⟩
      · intro b hb1
        rcases List.mem_cons.1 hb1 with e | hb1
        · subst e
          refine ⟨?_, hb _ (List.mem_cons_self ..)⟩
          rcases Nat.lt_or_ge (tk (layN t.h t.n ⟨usL c.lt, []⟩).2.us) 2 with h3 | h3
          · refine absurd (hS.us _ ?_) htk
            refine List.mem_append_right _ ?_
            have : tk (layN t.h t.n ⟨usL c.lt, []⟩).2.us = 0 \/ tk (layN t.h t.n ⟨usL c.lt, []⟩).2.us = 1 := by omega
            rcases this with e | e <;> rw [e] <;> simp
          · exact h3
        · exact ⟨(hin b hb1).1, hb b (List.mem_cons_of_mem _ (hin b hb1).2)⟩
      · exact (Qcn _ _).1 (by rw [Q8F]; exact (Qcn _ _).2 h.g.2.1.frs)
    · have hEq : sysL c t = (⟨t.h, t.n, t.pl⟩, ⟨usL c.lt, []⟩) := by
        unfold sysL
        rw [QaY hn, show layK t.h ⟨nil8, t.n, t.pl⟩ ⟨usL c.lt, []⟩ = _ from Q8w (k := rtK t) hz ⟨usL c.lt, []⟩]
        rfl
      rw [hEq]
      have hg := h.g.2.2 hz
      have hl := h.g.2.1.lies hg.2
      have hk : plsK t.h (rtK t) = t.pl :: preN t.h t.n := by unfold plsK; rw [if_neg (show (rtK t).3 ≠ 0 from hz)]; rfl
      have hin : ∀ b ∈ t.pl :: preN t.h t.n, b ∈ preT c.lt := fun b hb1 => h.pls b (by rw [hk]; exact hb1)
      refine Whl.stk (t := ⟨t.h, t.n, t.pl⟩) ⟨h.tw, hn, ?_, hl.1.agree fun b hb1 => hold b (hin b (List.mem_cons_of_mem _ hb1)), by rw [<- hk]; exact h.nd, fun b hb1 => ⟨Qcr h.us (hin b hb1), h.ub b (hin b hb1)⟩, h.g.2.1.frs⟩
      show lk' t.pl = _
      rw [hold t.pl (hin t.pl (by simp))]
      exact hg.1
end Go.Proofs.YtcklgafpgdhnaaaGreatDoor
