import Derived.Test.YtcklgafpgdhnaabGreatDoorPfbv
import Derived.Test.YtcklgafpgdhnaabGreatDoorPfbu
import Derived.Test.YtcklgafpgdhnaabGreatDoorPfag
import Derived.Test.YtcklgafpgdhnaabGreatDoorPfac
import Derived.Test.YtcklgafpgdhnaabGreatDoorPfbw
import Derived.Test.YtcklgafpgdhnaabGreatDoorPfaf
import Derived.Test.YtcklgafpgdhnaabGreatDoorPfad
import Derived.Shelf.Strconv.Itoa3
import Derived.Lib.ItoaLen
set_option maxRecDepth 100000
set_option maxHeartbeats 4000000
open Go.Proofs.Tryz
namespace Go.Proofs.YtcklgafpgdhnaabGreatDoor
open Go.RowKit
def Sld (B : List UInt8) : Prop := ∃ p, B = p ++ Q2f (crc p) 4
theorem Qh8 (n : Nb) : Sld (encN n) := by
 cases n with
 | leaf l => exact ⟨_, rfl⟩
 | branch ks => exact ⟨_, rfl⟩
theorem Qh9 (t r : Nat) : Sld (sec t r) := by
 refine ⟨(sec2 t r).take 28, ?_⟩
 unfold sec Q2v splice
 rw [Q2z, Q2w]
 have : (sec2 t r).drop (32 - 4 + 4) = [] := List.drop_eq_nil_of_le (by rw [Q2z]; omega)
 rw [this, List.append_nil]
theorem Qha (L : List UInt8) : crc L < 4294967296 := by
 rw [Q46]
 exact Nat.xor_lt_two_pow (n := 32) (by omega) (Q43 _ _ (by decide))
theorem Qhb {p q : List UInt8} (h : Q2f (crc p) 4 = Q2f (crc q) 4) : crc p = crc q := by
 have h1 := congrArg Q28 h
 rw [Q2g, Q2g] at h1
 have h2 := Qha p
 have h3 := Qha q
 have e : 2 ^ (8 * 4) = 4294967296 := by decide
 rw [e] at h1
 omega
theorem Qhc {B : List UInt8} {i : Nat} {b : UInt8} (h : Sld B) (hi : i < B.length) (hb : B[i]? ≠ some b) : ¬ Sld (B.set i b) := by
 obtain ⟨p, rfl⟩ := h
 rintro ⟨q, e⟩
 have hl := congrArg List.length e
 simp only [List.length_set, List.length_append, Q2w] at hl
 rw [List.length_append, Q2w] at hi
 by_cases hip : i < p.length
 ·rw [List.set_append_left _ _ hip] at e
  obtain ⟨e1, e2⟩ := List.append_inj e (by rw [List.length_set]; omega)
  have hc := Qhb e2
  have hp : p = p.take i ++ p[i] :: p.drop (i + 1) := by
   conv => lhs; rw [<- List.take_append_drop i p, List.drop_eq_getElem_cons hip]
  have hq : q = p.take i ++ b :: p.drop (i + 1) := by
   rw [<- e1]
   conv => lhs; rw [hp]
   rw [List.set_append_right _ _ (by rw [List.length_take]; omega), List.length_take, Nat.min_eq_left (by omega), Nat.sub_self]
   rfl
  have hc2 : crc (p.take i ++ p[i] :: p.drop (i + 1)) = crc (p.take i ++ b :: p.drop (i + 1)) := by
   rw [<- hq, <- hp]
   exact hc
  have := Q47 (p.take i) p[i] b (p.drop (i + 1)) hc2
  apply hb
  rw [List.getElem?_append_left hip, List.getElem?_eq_getElem hip, this]
 ·rw [List.set_append_right _ _ (by omega)] at e
  obtain ⟨e1, e2⟩ := List.append_inj e (by omega)
  subst e1
  apply hb
  rw [List.getElem?_append_right (by omega)]
  have h3 : ((Q2f (crc p) 4).set (i - p.length) b)[i - p.length]? = (Q2f (crc p) 4)[i - p.length]? := by rw [e2]
  rw [List.getElem?_set_self (by rw [Q2w]; omega)] at h3
  exact h3.symm
theorem Qhd (L : List UInt8) (i j : Nat) (b : UInt8) : Q10 (L.set i b) j = if i / 128 = j then (Q10 L j).set (i % 128) b else Q10 L j := by
 unfold Q10
 by_cases hj : i / 128 = j
 ·rw [if_pos hj, List.drop_set, if_neg (by omega), List.take_set, show i - j * 128 = i % 128 by omega]
 ·rw [if_neg hj, List.drop_set]
  split
  ·rfl
  ·rw [List.take_set, List.set_eq_of_length_le (by rw [List.length_take]; omega)]
theorem Qhe {lk : Nat -> List UInt8} : ∀ {h : Nat} {n : Nd h} {p : Nat}, Qde lk h n -> p ∈ preN h n -> ∃ b, lk p = encN b
 | 0, _, _, _, hp => by cases hp
 | h + 1, (ks : List (Kid h)), p, hl, hp => by
  rw [Q9q] at hp
  obtain ⟨k, hk, hp⟩ := List.mem_flatMap.1 hp
  have hk1 := Qdf.1 hl k hk
  rcases List.mem_cons.1 hp with rfl | hp
  ·exact ⟨_, hk1.1⟩
  ·exact Qhe hk1.2 hp
theorem Qhf {x y : Nb} (hx : Q4L x) (hy : Q4L y) (h : encN x = encN y) : x = y := by
 have h1 := Q4U hx
 rw [h, Q4U hy] at h1
 exact (Option.some.inj h1).symm
theorem Qhg {lk lk' : Nat -> List UInt8} {q : Nat} (ha : ∀ p, p ≠ q -> lk' p = lk p) : ∀ {h : Nat} {n : Nd h} {h' : Nat} {n' : Nd h'}, Qde lk h n -> Qde lk' h' n' -> FitA h n -> FitA h' n' -> nbN h n = nbN h' n' -> q ∈ preN h n -> ∃ b, lk' q = encN b
 | 0, _, _, _, _, _, _, _, _, hp => by cases hp
 | h + 1, (ks : List (Kid h)), 0, _, _, _, _, _, e, _ => by cases e
 | h + 1, (ks : List (Kid h)), h' + 1, (ks' : List (Kid h')), hl, hl', hf, hf', e, hp => by
  rw [Q9q] at hp
  obtain ⟨k, hk, hp⟩ := List.mem_flatMap.1 hp
  have e : ks.map (fun k : Kid h => (k.1, k.3)) = ks'.map (fun k : Kid h' => (k.1, k.3)) := Nb.branch.inj e
  obtain ⟨i, hi⟩ := List.mem_iff_getElem?.1 hk
  have e2 := congrArg (fun l => l[i]?) e
  simp only [List.getElem?_map, hi, Option.map_some] at e2
  obtain ⟨k', hi', e3⟩ := Option.map_eq_some_iff.1 e2.symm
  have hk' := List.mem_of_getElem? hi'
  have e4 : k'.3 = k.3 := (Prod.mk.inj e3).2
  have a1 := Qdf.1 hl k hk
  have a2 := Qdf.1 hl' k' hk'
  rcases List.mem_cons.1 hp with rfl | hp
  ·exact ⟨_, by rw [<- e4]; exact a2.1⟩
  ·by_cases hq : k.3 = q
   ·exact ⟨_, by rw [<- hq, <- e4]; exact a2.1⟩
   ·have e5 : encN (nbN h k.2) = encN (nbN h' k'.2) := by rw [<- a1.1, <- a2.1, e4, ha _ hq]
    exact Qhg ha a1.2 a2.2 (hf.2 k hk) (hf'.2 k' hk') (Qhf (hf.2 k hk).fits (hf'.2 k' hk').fits e5) hp
theorem Whl.fit {n : Nat} {lk : Nat -> List UInt8} {t : Tr} (h : Whl n lk t) (hn : n <= 65536) : FitA t.h t.n := Qgh h.tw.wf h.tw.full h.tw.hi h.frs fun b hb => by have := (h.off b (List.mem_cons_of_mem _ hb)).2; omega
theorem Qhh {n : Nat} {lk : Nat -> List UInt8} {r : Nat} {t : Tr} (h : rdT n lk r = some t) : t.pl = r := by
 unfold rdT at h
 split at h
 ·cases h
  rename_i e
  exact e.symm
 ·split at h
  ·cases h
  ·split at h
   ·cases h
   ·cases h
    rfl
theorem Whl.down {n : Nat} {lk lk' : Nat -> List UInt8} {t t' : Tr} {q : Nat} (h : Whl n lk t) (h' : Whl n lk' t') (hp : t'.pl = t.pl) (hn : n <= 65536) (ha : ∀ p, p ≠ q -> lk' p = lk p) (hq : q ∈ preT t) : ∃ b b', lk q = encN b /\ lk' q = encN b' := by
 rw [h.pre] at hq
 by_cases e : t.pl = q
 ·exact ⟨_, _, by rw [<- e]; exact h.at_, by rw [<- e, <- hp]; exact h'.at_⟩
 ·have hq : q ∈ preN t.h t.n := (List.mem_cons.1 hq).resolve_left fun e2 => e e2.symm
  obtain ⟨b, hb⟩ := Qhe h.lies hq
  have e5 : encN (nbN t.h t.n) = encN (nbN t'.h t'.n) := by rw [<- h.at_, <- h'.at_, hp, ha _ e]
  obtain ⟨b', hb'⟩ := Qhg ha h.lies h'.lies (h.fit hn) (h'.fit hn) (Qhf (h.fit hn).fits (h'.fit hn).fits e5) hq
  exact ⟨b, b', hb, hb'⟩
theorem Qhi {n : Nat} {L L' : List UInt8} {tu ro : Nat} {T : Tr} (hf : Fnd n L tu ro T) (h8 : 8 <= n) (h4 : n <= 400) (hs : Q23 L L') : (QaO (.new L')).2 = false \/ Qga n (.new L') = none \/ ((QaO (.new L')).2 = true /\ Qga n (.new L') = some T) := by
 obtain ⟨i, b, hi, hb, rfl⟩ := hs
 have hlen : (L.set i b).length = n * 128 := by rw [List.length_set]; exact hf.len
 have hpre : Pre n ⟨2, tu, ro, T, .nilIface⟩ T (.new L) := ⟨hf.st, rfl, hf.hd, hf.ro, hf.tu, hf.len, h8, h4⟩
 have hget : (Q10 L (i / 128))[i % 128]? = L[i]? := by
  unfold Q10
  rw [List.getElem?_take, if_pos (Nat.mod_lt _ (by omega)), List.getElem?_drop]
  congr 1
  omega
 have hbl : (Q10 L (i / 128)).length = 128 := Q11 L n _ hf.len (by have := hf.len; omega)
 have hbk := fun j => Qhd L i j b
 have same : (∀ b' ∈ preT T, Q10 (L.set i b) b' = Q10 L b') -> (∀ j, j < 2 -> (Q10 (L.set i b) j).take 32 = (Q10 L j).take 32) -> (QaO (.new (L.set i b))).2 = true /\ Qga n (.new (L.set i b)) = some T := fun h1 h2 => by
  have := hpre.old (L1 := L.set i b) hlen h1 (h2 0 (by omega)) (h2 1 (by omega))
  exact ⟨by rw [this.hd], this.tree (by omega)⟩
 have htwo : ∀ p ∈ preT T, 2 <= p := fun p hp => QdN hf.st.us hp
 by_cases hj : i / 128 < 2
 ·by_cases ho : i % 128 < 32
  ·left
   have hnone : rdH (i / 128) (Q10 (L.set i b) (i / 128)) = none := by
    cases hc : rdH (i / 128) (Q10 (L.set i b) (i / 128)) with
    | none => rfl
    | some x =>
     exfalso
     obtain ⟨t', r'⟩ := x
     have h1 := (QdZ hc).2
     have h2 : ∃ t r, rdH (i / 128) (Q10 L (i / 128)) = some (t, r) := by
      have hh := hf.hd
      unfold QaO at hh
      rw [Qgy, Qgy] at hh
      have hcase : i / 128 = 0 \/ i / 128 = 1 := by omega
      cases e0 : rdH 0 (Q10 L 0) with
      | none => rw [e0] at hh; cases e1 : rdH 1 (Q10 L 1) <;> rw [e1] at hh <;> cases hh
      | some y =>
       cases e1 : rdH 1 (Q10 L 1) with
       | none => rw [e0, e1] at hh; cases hh
       | some z =>
        rcases hcase with e | e <;> rw [e]
        ·exact ⟨_, _, e0⟩
        ·exact ⟨_, _, e1⟩
     obtain ⟨t, r, h2⟩ := h2
     have h3 := (QdZ h2).2
     rw [hbk, if_pos rfl, List.take_set, h3] at h1
     have hs1 := Qh9 t r
     refine Qhc hs1 (i := i % 128) (b := b) (by rw [Q2B]; exact ho) ?_ (by rw [h1]; exact Qh9 t' r')
     rw [<- h3, List.getElem?_take, if_pos ho, hget]
     exact hb
   unfold QaO
   rw [Qgy, Qgy]
   have hcase : i / 128 = 0 \/ i / 128 = 1 := by omega
   rcases hcase with e | e
   ·rw [e] at hnone
    rw [hnone]
    cases rdH 1 (Q10 (L.set i b) 1) <;> rfl
   ·rw [e] at hnone
    rw [hnone]
    cases rdH 0 (Q10 (L.set i b) 0) <;> rfl
  ·right; right
   refine same (fun p hp => ?_) fun j _ => ?_
   ·have := htwo p hp
    rw [hbk, if_neg (by omega)]
   ·rw [hbk]
    split
    ·rw [List.take_set, List.set_eq_of_length_le (by rw [List.length_take]; omega)]
    ·rfl
 ·by_cases hm : i / 128 ∈ preT T
  ·right; left
   cases hc : Qga n (.new (L.set i b)) with
   | none => rfl
   | some t' =>
    exfalso
    have hhd : QaO (.new (L.set i b)) = ((tu, ro), true) := by
     rw [<- hf.hd]
     unfold QaO
     rw [Qgy, Qgy, Qgy, Qgy, hbk, hbk, if_neg (by omega), if_neg (by omega)]
    unfold Qga at hc
    rw [hhd] at hc
    have hc : rdT n (Dv.new (L.set i b)).view ro = some t' := hc
    have hnil : nilN T.h T.n = false := by
     cases e : nilN T.h T.n with
     | false => rfl
     | true => unfold preT at hm; rw [e] at hm; cases hm
    have hr0 : ro ≠ 0 := by
     rw [hf.ro]
     have := htwo T.pl (by unfold preT; rw [hnil]; simp)
     omega
    have hw' := Qgl hr0 (by omega) hc
    have hpl := Qhh hc
    obtain ⟨x, x', e1, e2⟩ := (hf.st.whl hnil).down hw' (by rw [hpl]; exact hf.ro) (by omega) (q := i / 128) (fun p hp => by rw [Qgy, Qgy, hbk, if_neg (fun e => hp e.symm)]) hm
    rw [Qgy] at e1 e2
    rw [hbk, if_pos rfl] at e2
    refine Qhc (B := Q10 L (i / 128)) (i := i % 128) (b := b) (by rw [e1]; exact Qh8 x) (by rw [hbl]; exact Nat.mod_lt _ (by omega)) (by rw [hget]; exact hb) (by rw [e2]; exact Qh8 x')
  ·right; right
   refine same (fun p hp => ?_) fun j hj2 => ?_
   ·rw [hbk, if_neg (fun e => hm (by rw [e]; exact hp))]
   ·rw [hbk, if_neg (by omega)]
theorem Qhj {w : World} {a n : Nat} {bv : Value} {L L' : List UInt8} {tu ro : Nat} {T : Tr} (hf : Fnd n L tu ro T) (hs : L' = L \/ Q23 L L') (hd : DQ w a bv n (.slice none 0 0) (.new L')) (h8 : 8 <= n) (h4 : n <= 400) (hT : Tab w) :
  Calls prog 17 #[.pointer (some ⟨a, 0, none⟩)] w fun e w' => (∃ err, e = .returned (.tuple #[.pointer none, err]) /\ Q3n w' err 7 /\ Kept [a] w w') \/ ∃ x v c r, e = .returned (.tuple #[.pointer (some ⟨x, 0, none⟩), .nilIface]) /\ Rec x v a n c r T w' /\ Kept [a] w w' := by
 have hfound : ∀ t', (QaO (.new L')).2 = true -> Qga n (.new L') = some t' -> t' = T := fun t' h1 h2 => by
  rcases hs with rfl | hs
  ·rw [hf.tree (by omega)] at h2
   exact (Option.some.inj h2).symm
  ·rcases Qhi hf h8 h4 hs with h | h | ⟨_, h⟩
   ·rw [h] at h1; cases h1
   ·rw [h] at h2; cases h2
   ·rw [h] at h2
    exact (Option.some.inj h2).symm
 refine Qfi a w _ ((Qgb a bv n _ (.new L') w hd h8 h4 (by simp [Dv.new]) hT).mono ?_)
 rintro e w' ⟨o, pv, err, D', rfl, hc, hd', hk, ⟨_, he, _⟩ | ⟨rfl, _, rfl, _⟩ | ⟨rfl, _, hh, t', r, x, v, ht', rfl, hr, hx⟩⟩
 ·exact absurd (show Good (Dv.new L') from ⟨rfl, rfl, rfl⟩) he.bad
 ·exact ⟨_, _, rfl, Or.inl ⟨err, rfl, hc, hk⟩⟩
 ·have he : err = .nilIface := hc
  subst he
  obtain rfl := hfound t' hh ht'
  exact ⟨_, _, rfl, Or.inr ⟨x, v, _, r, rfl, hr, hk⟩⟩
theorem Qhk (z y u : Int) (w : World) (hz1 : -9223372036854775808 <= z) (hz2 : z <= 9223372036854775807) (hy1 : -9223372036854775808 <= y) (hy2 : y <= 9223372036854775807) (hu1 : -9223372036854775808 <= u) (hu2 : u <= 9223372036854775807) (hG : Glob w) (hT : Tab w) :
  Calls prog 5 #[.int .i64 z, .int .i64 y, .int .i64 u] w (QgB w) := by
 have HB : Hid (∀ W, Calls _ _ _ W _) := fun W => Qh2 80 z W (by omega) (by omega) hz1 hz2
 have HPy : Hid (∀ W, Calls _ _ _ W _) := fun W => QgA y 20 W (by omega) (by omega) hy1 hy2
 have hmy : pk y 20 < 20 := Q1S y 20 (by omega)
 generalize hpy : pk y 20 = my at *
 have HY : Hid ((-9223372036854775808 <= y /\ y <= 9223372036854775807) /\ -9223372036854775808 <= u /\ u <= 9223372036854775807) := ⟨⟨hy1, hy2⟩, hu1, hu2⟩
 have HGT : Hid (Glob w /\ Tab w) := ⟨hG, hT⟩
 clear hG hT hpy
 go_enter func5, ntmps5
 go_wp2_with fail
 refine (HB.out _).mono ?_
 rintro e w1 ⟨x, a, bv, c, D, vl, rfl, hm1, hs1, _, hpl1, _, _, hA, htu, _⟩
 have hlen : (Q69 c.lt).length <= 21 := by have := hA.len hs1.st.tw; rw [QgZ] at this; exact this
 have HCh : Hid (Calls _ _ _ _ _) := QgL (Am (kys 20)) y (1 + my) 20 hm1 hs1 (by omega) (by omega) hA (fun l j v hv hj hl => hl.put (Qh0 hj)) (fun l j hj hl => hl.del) (fun t ht hl => Rm.ky ht hl (by omega)) (by omega) (by omega) (by omega) HY.out.1.1 HY.out.1.2
 rw [show ((1 + my : Nat) : Int) = 1 + (my : Int) by omega] at HCh
 obtain ⟨v1, r1, hR1⟩ := hm1.rc
 have H1 : Hid (PL w1 52 vl (Q69 c.lt) /\ Am (kys 20) (Q69 c.lt) /\ Np w1 [x]) := ⟨hpl1, hA, Np.x hR1⟩
 obtain ⟨lp, lc, rfl⟩ := hpl1.shape
 clear hm1 hs1 hpl1 hA HB hR1
 go_wp2_with fail
 refine (HPy.out _).mono ?_
 rintro e w3 ⟨rfl, hw3⟩
 obtain rfl := hw3.symm
 go_wp2_with fail
 refine HCh.out.mono ?_
 rintro e w4 ⟨rfl, t1, hm4, hs4, hP4, hk4⟩
 have hpl4 : PL w4 52 (.slice lp (Q69 c.lt).length lc) (Q69 c.lt) := H1.out.1.kept hk4 fun b hb => by
  obtain ⟨cs, fr, hh⟩ := H1.out.1.tag hb
  exact H1.out.2.2 b cs _ fr hh (Or.inl rfl)
 have hlen1 : (Q69 t1).length <= 21 := by have := hP4.len hs4.st.tw; rw [QgZ] at this; exact this
 have HA : Hid (Calls _ _ _ _ _) := hm4.all hs4.st.tw (by omega)
 have H4 : Hid (Sd 80 c t1 D /\ Am (kys 20) (Q69 t1) /\ PL w4 52 (.slice lp (Q69 c.lt).length lc) (Q69 c.lt)) := ⟨hs4, hP4, hpl4⟩
 clear hm4 hs4 hP4 hpl4 HCh HPy
 go_wp2_with fail
 refine HA.out.mono ?_
 rintro e w5 ⟨vm, rfl, hpl5, _, hm5, hk5⟩
 have HS : Hid (Calls _ _ _ _ _) := hm5.sync H4.out.1 (by omega) (by omega) (Rm.ky H4.out.1.st.tw H4.out.2.1 (by omega)) (Rm.ky H4.out.1.st.ltw H1.out.2.1 (by omega)) (by omega)
 have H5 : Hid (Smm w x a bv 80 c t1 D w5 /\ PL w5 52 (.slice lp (Q69 c.lt).length lc) (Q69 c.lt) /\ PL w5 52 vm (Q69 t1)) := ⟨hm5, H4.out.2.2.kept hk5 (by simp), hpl5⟩
 obtain ⟨mp, mc, rfl⟩ := hpl5.shape
 clear hm5 hpl5 HA
 go_wp2_with fail
 refine HS.out.mono ?_
 rintro e w6 ⟨rfl, hk6, c6, D6, hm6, hs6, _, _, hf6, _, _, _⟩
 have hpl6 := H5.out.1.pl H5.out.2.1 hk6
 have hpm6 := H5.out.1.pl H5.out.2.2 hk6
 have HTu : Hid (Calls _ _ _ _ _) := Q27 a bv 80 _ D6 u w6 hm6.dq (by omega) (by rw [hs6.q]; simp) HY.out.2.1 HY.out.2.2
 have H6 : Hid (PL w6 52 (.slice lp (Q69 c.lt).length lc) (Q69 c.lt) /\ PL w6 52 (.slice mp (Q69 t1).length mc) (Q69 t1) /\ Fnd 80 D6.L c6.tu c6.ro c6.lt /\ D6.q = [] /\ Kept [] w w6 /\ Q69 c6.lt = Q69 t1 /\ TW c6.lt) := ⟨hpl6, hpm6, (hs6.pre hm6.dq.l (by omega) (by omega)).self, hs6.q, hm6.k, hf6, hs6.st.tw⟩
 clear hm6 hs6 hpl6 hpm6 hf6 HS H5
 go_wp2_with fail
 refine HTu.out.mono ?_
 rintro e w7 ⟨L1, L2, a7, bv7, rfl, hsr, hsp, haft⟩
 have hsp : L2 = D6.L \/ Q23 D6.L L2 := by
  rw [H6.out.2.2.2.1] at hsr
  rw [<- hsr.nil_eq]
  exact hsp
 have K7 : Kept [] w w7 := H6.out.2.2.2.2.1.trans haft.k
 have ha7 : w.heap.size <= a7 := by have h1 := H6.out.2.2.2.2.1.size; have h2 := haft.a; omega
 have HOp : Hid (Calls _ _ _ _ _) := Qhj H6.out.2.2.1 hsp haft.d (by omega) (by omega) (HGT.out.2.k K7)
 have H7 : Hid (PL w7 52 (.slice lp (Q69 c.lt).length lc) (Q69 c.lt) /\ PL w7 52 (.slice mp (Q69 t1).length mc) (Q69 t1) /\ Np w7 [a7] /\ Kept [] w w7) := ⟨H6.out.1.kept haft.k (by simp), H6.out.2.1.kept haft.k (by simp), Np.dq haft.d, K7⟩
 clear hsr hsp haft K7 HTu
 go_wp2_with fail
 refine HOp.out.mono ?_
 rintro e w8 (⟨err, rfl, hch, hk8⟩ | ⟨x8, v8, c8, r8, rfl, hR8, hk8⟩)
 ·have K8 : Kept [] w w8 := H7.out.2.2.2.trans2 hk8 (by intro q hq; simp at hq; subst hq; exact Or.inr ha7)
  have HTd : Hid (Calls _ _ _ _ _) := Q3q err 7 w8 (HGT.out.1.kept K8 (by simp)) hch
  obtain ⟨f1, f2, o1, o2, rfl, h1, h2⟩ := hch.ex
  clear h1 h2 hch
  go_wp2_with fail
  refine HTd.out.mono ?_
  rintro e w9 ⟨rfl, hk9⟩
  go_wp2
  go_ret
  exact ⟨rfl, K8.trans hk9⟩
 ·have K8 : Kept [] w w8 := H7.out.2.2.2.trans2 hk8 (by intro q hq; simp at hq; subst hq; exact Or.inr ha7)
  have hkp : ∀ {v : Value} {l : List Pr}, PL w7 52 v l -> PL w8 52 v l := fun {v l} hp => hp.kept hk8 fun b hb => by
   obtain ⟨cs, fr, hh⟩ := hp.tag hb
   exact H7.out.2.2.1 b cs _ fr hh (Or.inl rfl)
  have hpl8 := hkp H7.out.1
  have hpm8 := hkp H7.out.2.1
  have HA8 : Hid (Calls _ _ _ _ _) := QgU x8 v8 a7 80 c8 r8 c6.lt H6.out.2.2.2.2.2.2 (by rw [H6.out.2.2.2.2.2.1]; omega) w8 hR8
  rw [H6.out.2.2.2.2.2.1] at HA8
  have H8 : Hid (PL w8 52 (.slice lp (Q69 c.lt).length lc) (Q69 c.lt) /\ PL w8 52 (.slice mp (Q69 t1).length mc) (Q69 t1)) := ⟨hpl8, hpm8⟩
  clear hpl8 hpm8 hkp hR8
  go_wp2_with fail
  refine HA8.out.mono ?_
  rintro e w9 ⟨vg, rfl, hpl9, _, hk9⟩
  have HS1 : Hid (Calls _ _ _ _ _) := Qh7 vg _ (Q69 t1) (Q69 c.lt) w9 hpl9 (H8.out.1.kept hk9 (by simp)) (by omega)
  have HS2 : Hid (∀ W, Kept [] w9 W -> Calls _ _ _ W _) := fun W kW => Qh7 vg _ (Q69 t1) (Q69 t1) W (hpl9.kept kW (by simp)) (H8.out.2.kept (hk9.trans kW) (by simp)) (by omega)
  obtain ⟨gp, gc, rfl⟩ := hpl9.shape
  clear hpl9 HA8
  go_wp2_with fail
  refine HS1.out.mono ?_
  rintro e w10 ⟨rfl, hk10⟩
  generalize decide (Q69 t1 = Q69 c.lt) = bo
  have HS2' : Hid (Calls _ _ _ _ _) := HS2.out w10 hk10
  clear HS2
  go_wp2_with fail
  refine HS2'.out.mono ?_
  rintro e w11 ⟨rfl, hk11⟩
  simp only [decide_true]
  have KF : Kept [] w w11 := ((K8.trans hk9).trans hk10).trans hk11
  cases bo
  all_goals
   go_wp2
   go_ret
   exact ⟨rfl, KF⟩
end Go.Proofs.YtcklgafpgdhnaabGreatDoor
namespace Go.Proofs.YtcklgafpgdhnaabGreatDoor
open Go.Shelf Go.RowKit
def Qhl : Go.Shelf.Ren := ⟨fun | 171 => 93 | 243 => 115 | 246 => 127 | 283 => 133 | 284 => 134 | 285 => 135 | 286 => 136 | 129 => 144 | 317 => 143 | 318 => 145 | 319 => 146 | 320 => 147 | 337 => 151 | 338 => 152 | n => n, fun | 3 => 3 | 9 => 9 | 2 => 2 | 4 => 4 | 171 => 213 | 0 => 0 | 53 => 69 | 37 => 83 | 5 => 5 | 173 => 215 | 212 => 225 | 51 => 209 | 20 => 20 | 213 => 226 | 46 => 207 | 232 => 157 | 233 => 231 | n => n, fun | 17 => 2 | 18 => 3 | 19 => 4 | n => n⟩
theorem Qhm : Go.Proofs.LaysM.n171 prog Qhl := {
 mixed := by kernel_rfl
 f129 := func144.trans (congrArg some (by kernel_rfl))
 f171 := func93.trans (congrArg some (by kernel_rfl))
 f243 := func115.trans (congrArg some (by kernel_rfl))
 f246 := func127.trans (congrArg some (by kernel_rfl))
 f283 := func133.trans (congrArg some (by kernel_rfl))
 f284 := func134.trans (congrArg some (by kernel_rfl))
 f285 := func135.trans (congrArg some (by kernel_rfl))
 f286 := func136.trans (congrArg some (by kernel_rfl))
 f317 := func143.trans (congrArg some (by kernel_rfl))
 f318 := func145.trans (congrArg some (by kernel_rfl))
 f319 := func146.trans (congrArg some (by kernel_rfl))
 f320 := func147.trans (congrArg some (by kernel_rfl))
 f337 := func151.trans (congrArg some (by kernel_rfl))
 f338 := func152.trans (congrArg some (by kernel_rfl))
 t0 := underlying0
 a0 := Tryz.isAgg0
 z0 := Tryz.sizeOf0
 v0 := Tryz.zeroValue0
 t2 := underlying2
 a2 := Tryz.isAgg2
 z2 := Tryz.sizeOf2
 v2 := Tryz.zeroValue2
 t3 := underlying3
 a3 := Tryz.isAgg3
 z3 := Tryz.sizeOf3
 v3 := Tryz.zeroValue3
 t4 := underlying4
 a4 := Tryz.isAgg4
 z4 := Tryz.sizeOf4
 v4 := Tryz.zeroValue4
 t5 := underlying5
 a5 := Tryz.isAgg5
 z5 := Tryz.sizeOf5
 v5 := Tryz.zeroValue5
 t9 := underlying9
 a9 := Tryz.isAgg9
 z9 := Tryz.sizeOf9
 v9 := Tryz.zeroValue9
 t20 := underlying20
 a20 := Tryz.isAgg20
 z20 := Tryz.sizeOf20
 v20 := Tryz.zeroValue20
 t37 := underlying83
 a37 := Tryz.isAgg83
 z37 := Tryz.sizeOf83
 v37 := Tryz.zeroValue83
 t46 := underlying207
 a46 := Tryz.isAgg207
 z46 := Tryz.sizeOf207
 v46 := Tryz.zeroValue207
 t51 := underlying209
 a51 := Tryz.isAgg209
 z51 := Tryz.sizeOf209
 v51 := Tryz.zeroValue209
 t53 := underlying69
 a53 := Tryz.isAgg69
 z53 := Tryz.sizeOf69
 v53 := Tryz.zeroValue69
 t171 := underlying213
 a171 := Tryz.isAgg213
 z171 := Tryz.sizeOf213
 v171 := Tryz.zeroValue213
 t173 := underlying215
 a173 := Tryz.isAgg215
 z173 := Tryz.sizeOf215
 v173 := Tryz.zeroValue215
 t212 := underlying225
 a212 := Tryz.isAgg225
 z212 := Tryz.sizeOf225
 v212 := Tryz.zeroValue225
 t213 := underlying226
 a213 := Tryz.isAgg226
 z213 := Tryz.sizeOf226
 t232 := underlying157
 a232 := Tryz.isAgg157
 z232 := Tryz.sizeOf157
 v232 := Tryz.zeroValue157
 t233 := underlying231
 a233 := Tryz.isAgg231
 z233 := Tryz.sizeOf231
 v233 := Tryz.zeroValue231
 g17 := by kernel_rfl
 g18 := by kernel_rfl
 g19 := by kernel_rfl
 i0 := by kernel_rfl
 i2 := by kernel_rfl
 i3 := by kernel_rfl
 i4 := by kernel_rfl
 i5 := by kernel_rfl
 i9 := by kernel_rfl
 i20 := by kernel_rfl
 i37 := by kernel_rfl
 i46 := by kernel_rfl
 i51 := by kernel_rfl
 i53 := by kernel_rfl
 i171 := by kernel_rfl
 i173 := by kernel_rfl
 i212 := by kernel_rfl
 i232 := by kernel_rfl
 i233 := by kernel_rfl
 m17 := by kernel_rfl
 m18 := by kernel_rfl
 m19 := by kernel_rfl }
theorem Qhn (n : Int) (h0 : -9223372036854775808 <= n) (h1 : n <= 9223372036854775807) (w : World) (htab : Lib.TabIs prog w "internal/strconv.uint64pow10" .u64 Lib.pow10Tab) :
  Calls prog 93 #[.int .i64 n] w fun e w' => e = .returned (.string ⟨(Lib.itoa n).toArray⟩) /\ ∃ k os, w' = Sort.grow (w.drewN k) os := Any.strconv_Itoa Qhm n h0 h1 w htab
theorem Kept.grown (w : World) (k : Nat) (os : Array Obj) : Kept [] w (Sort.grow (w.drewN k) os) := by
 have h : Kept [] w (w.drewN k) := ⟨rfl, rfl, rfl, Nat.le_refl _, fun _ _ _ => rfl⟩
 refine ⟨h.os, h.tape, h.output, ?_, fun i hi hn => ?_⟩
 ·have := h.size
  simp [Sort.grow]
 ·rw [<- h.block i hi hn]
  have : i < (w.drewN k).heap.size := Nat.lt_of_lt_of_le hi h.size
  simp only [Sort.grow]
  rw [Array.getElem?_append_left this]
theorem gPow : prog.globalNamed "internal/strconv.uint64pow10" = some 2 := by kernel_rfl
theorem Qho {W : World} {cs : Array Value} {fr : Nat × Nat} (hr : W.heap[2]? = some (.cells cs 225 fr)) (ht : Lib.TabIs prog W "internal/strconv.uint64pow10" .u64 Lib.pow10Tab) : Tab W where
 row := ⟨cs, fr, hr⟩
 ito := by
  intro W' hW i hi
  have ht' : Lib.TabIs prog W' "internal/strconv.uint64pow10" .u64 Lib.pow10Tab := by
   unfold Lib.TabIs World.var? at ht ⊢
   rw [gPow] at ht ⊢
   simp only [Option.bind_some] at ht ⊢
   rw [hW]
   exact ht
  refine (Qhn (i : Int) (by omega) (by omega) W' ht').mono ?_
  rintro e w' ⟨rfl, k, os, rfl⟩
  refine ⟨_, rfl, ?_, Kept.grown W' k os⟩
  have := Lib.itoa_length_le (i : Int) (by omega) (by omega)
  show (Lib.itoa (i : Int)).toArray.size <= 1000
  simp
  omega
theorem Qhp {W : World} (h : W.ShapedOpen prog) : ∃ cs, W.heap[2]? = some (.cells cs 225 (0, 0)) := by
 have hz : (((begin prog (fun _ _ => 0) default).world.heap[2]?).bind Obj.row?).map (·.2) = some 225 := by kernel_rfl
 obtain ⟨⟨z, t⟩, hz, rfl⟩ := Option.map_eq_some_iff.1 hz
 obtain ⟨cs, hcs, _⟩ := h.1 2 z _ (of_decide_eq_true (by kernel_rfl)) hz
 exact ⟨cs, hcs⟩
end Go.Proofs.YtcklgafpgdhnaabGreatDoor
