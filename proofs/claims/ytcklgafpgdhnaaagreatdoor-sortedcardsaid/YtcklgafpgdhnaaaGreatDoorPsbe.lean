import Derived.Test.YtcklgafpgdhnaaaGreatDoorPsau
import Derived.Test.YtcklgafpgdhnaaaGreatDoorPsbd
import Derived.Test.YtcklgafpgdhnaaaGreatDoorPsaw
set_option maxRecDepth 100000
set_option maxHeartbeats 4000000
open Go.Proofs.Tryz
namespace Go.Proofs.YtcklgafpgdhnaaaGreatDoor
open Go.RowKit
theorem Qct {α : Type} {l cs : List α} {o : Nat} (h : o + cs.length <= l.length) (j : Nat) : (splice l o cs)[j]? = if j < o then l[j]? else if j < o + cs.length then cs[j - o]? else l[j]? := by
 unfold splice
 by_cases h1 : j < o
 ·rw [if_pos h1, List.getElem?_append_left (by rw [List.length_take]; omega), List.getElem?_take, if_pos h1]
 ·rw [if_neg h1, List.getElem?_append_right (by rw [List.length_take]; omega), List.length_take, Nat.min_eq_left (by omega)]
  by_cases h2 : j < o + cs.length
  ·rw [if_pos h2, List.getElem?_append_left (by omega)]
  ·rw [if_neg h2, List.getElem?_append_right (by omega), List.getElem?_drop]
   congr 1
   omega
theorem Qcu {α : Type} {l cs : List α} {o : Nat} (h : o + cs.length <= l.length) (m : Nat) (hm : m = cs.length) : ((splice l o cs).drop o).take m = cs := by
 subst hm
 apply List.ext_getElem?
 intro j
 rw [List.getElem?_take, List.getElem?_drop, Qct h]
 by_cases hj : j < cs.length
 ·rw [if_pos hj, if_neg (by omega), if_pos (by omega)]
  congr 1
  omega
 ·rw [if_neg hj, List.getElem?_eq_none (by omega)]
theorem Qcv {α : Type} {l cs : List α} {o p m : Nat} (h : o + cs.length <= l.length) (hp : p + m <= o \/ o + cs.length <= p) : ((splice l o cs).drop p).take m = (l.drop p).take m := by
 apply List.ext_getElem?
 intro j
 rw [List.getElem?_take, List.getElem?_take, List.getElem?_drop, List.getElem?_drop, Qct h]
 by_cases hj : j < m
 ·rw [if_pos hj, if_pos hj]
  rcases hp with hp | hp
  ·rw [if_pos (by omega)]
  ·rw [if_neg (by omega), if_neg (by omega)]
 ·rw [if_neg hj, if_neg hj]
theorem Qcw (t r : Nat) : ((sec t r).drop 8).take 8 = Q22 t 8 := by
 unfold sec Q2i
 rw [Q2m, Qcv (by rw [Q2j, Q2m]; omega) (Or.inl (by omega))]
 unfold sec2
 rw [Qcv (by rw [Q2j, Q2l]; omega) (Or.inl (by omega))]
 unfold sec1
 exact Qcu (by rw [Q2j, Q2k]; omega) _ (by rw [Q2j])
theorem Qcx (t r : Nat) : ((sec t r).drop 16).take 2 = Q22 r 2 := by
 unfold sec Q2i
 rw [Q2m, Qcv (by rw [Q2j, Q2m]; omega) (Or.inl (by omega))]
 unfold sec2
 exact Qcu (by rw [Q2j, Q2l]; omega) _ (by rw [Q2j])
theorem Qcy (t r : Nat) : (sec t r).take 8 = Q2h := by
 have h : ((sec t r).drop 0).take 8 = Q2h := by
  unfold sec Q2i
  rw [Q2m, Qcv (by rw [Q2j, Q2m]; omega) (Or.inl (by omega))]
  unfold sec2
  rw [Qcv (by rw [Q2j, Q2l]; omega) (Or.inl (by omega))]
  unfold sec1
  rw [Qcv (by rw [Q2j, Q2k]; omega) (Or.inl (by omega))]
  decide
 simpa using h
theorem Qcz (t r : Nat) : (blk t r).take 32 = sec t r := by
 have h : ((blk t r).drop 0).take 32 = sec t r := Qcu (by rw [Q2o, List.length_replicate]; omega) _ (by rw [Q2o])
 simpa using h
theorem QcA {α : Type} (B : List α) (p m k : Nat) (h : p + m <= k) : (B.drop p).take m = ((B.take k).drop p).take m := by
 rw [List.drop_take, List.take_take, Nat.min_eq_left (by omega)]
theorem QcB {t r : Nat} {B : List UInt8} (hB : B.take 32 = sec t r) (ht : t < 18446744073709551616) (hr : r < 65536) : rdH (t % 2) B = some (t, r) := by
 unfold rdH
 rw [QcA B 8 8 32 (by omega), QcA B 16 2 32 (by omega), hB, Qcw, Qcx, Q23, Q23, show t % 2 ^ (8 * 8) = t from Nat.mod_eq_of_lt (by simpa using ht), show r % 2 ^ (8 * 2) = r from Nat.mod_eq_of_lt (by simpa using hr), if_pos ⟨rfl, rfl⟩]
theorem QcC {t r : Nat} (ht : t < 18446744073709551616) (hr : r < 65536) : rdH (t % 2) (blk t r) = some (t, r) := QcB (Qcz t r) ht hr
theorem QcD {i t r : Nat} {B : List UInt8} (h : rdH i B = some (t, r)) : t % 2 = i /\ B.take 32 = sec t r := by
 unfold rdH at h
 split at h
 ·rename_i hc
  simp only [Option.some.injEq, Prod.mk.injEq] at h
  rw [h.1, h.2] at hc
  exact ⟨hc.1, hc.2.symm⟩
 ·cases h
theorem QcE {i : Nat} {B : List UInt8} (h : B.take 8 ≠ Q2h) : rdH i B = none := by
 cases hc : rdH i B with
 | none => rfl
 | some x =>
  obtain ⟨t, r⟩ := x
  have h2 := (QcD hc).2
  have h3 := Qcy t r
  rw [<- h2, List.take_take, Nat.min_eq_left (by omega)] at h3
  exact absurd h3 h
theorem QcF {L B : List UInt8} {n i : Nat} (hL : L.length = n * 128) (hi : i < n) (hB : B.length = 128) (j : Nat) : Q10 (Q1C L i B) j = if j = i then B else Q10 L j := by
 have hn : i * 128 + 128 <= n * 128 := by omega
 unfold Q10 Q1C
 by_cases h : j = i
 ·subst h
  rw [if_pos rfl]
  exact Qcu (by rw [hB, hL]; omega) _ hB.symm
 ·rw [if_neg h]
  exact Qcv (by rw [hB, hL]; omega) (by rw [hB]; omega)
theorem QcG {n : Nat} {L : List UInt8} {q : List Wt} (hL : L.length = n * 128) (hq : Fit n q) (i : Nat) : Q10 (lay L q) i = vf (Q10 L i) i q := by
 induction q generalizing L with
 | nil => rfl
 | cons x r ih =>
  have hx := hq x (by simp)
  have h1 := ih (L := Q1C L x.1 x.2) (Q1F L x.2 n x.1 hL hx.1 hx.2) (fun y hy => hq y (by simp [hy]))
  show Q10 (lay (Q1C L x.1 x.2) r) i = vf (if x.1 = i then x.2 else Q10 L i) i r
  rw [h1, QcF hL hx.1 hx.2]
  by_cases e : x.1 = i
  ·rw [if_pos e, if_pos e.symm]
  ·rw [if_neg e, if_neg fun h => e h.symm]
theorem Fl.view {n : Nat} {D E : Dv} (h : Fl D E) (hL : D.L.length = n * 128) (hq : Fit n D.q) (i : Nat) : E.view i = D.view i := by
 unfold Dv.view
 rw [h.q, h.L]
 exact QcG hL hq i
theorem Wn.view {D E : Dv} {i : Nat} {B : List UInt8} (h : Wn D i B E) (j : Nat) : E.view j = if i = j then B else D.view j := by
 unfold Dv.view
 rw [h.q, h.L, Q12]
theorem QcH {b : List UInt8} {i : Nat} {q : List Wt} (h : ∀ x ∈ q, x.1 ≠ i) : vf b i q = b := by
 induction q generalizing b with
 | nil => rfl
 | cons x r ih =>
  show vf (if x.1 = i then x.2 else b) i r = b
  rw [if_neg (h x (by simp))]
  exact ih fun y hy => h y (by simp [hy])
theorem QcI (b : List UInt8) (i : Nat) (q r : List Wt) : vf b i (q ++ r) = vf (vf b i q) i r := by simp [vf, List.foldl_append]
theorem QcJ {b : List UInt8} {q : List Wt} {x : Wt} (hn : (q.map fun y => y.1).Nodup) (hx : x ∈ q) : vf b x.1 q = x.2 := by
 induction q generalizing b with
 | nil => cases hx
 | cons y r ih =>
  rw [List.map_cons, List.nodup_cons] at hn
  show vf (if y.1 = x.1 then y.2 else b) x.1 r = x.2
  rcases List.mem_cons.1 hx with e | hx
  ·subst e
   rw [if_pos rfl]
   exact QcH fun z hz e => hn.1 (List.mem_map.2 ⟨z, hz, e⟩)
  ·exact ih hn.2 hx
theorem Wrs.other {D E : Dv} {ws : List (Nat × List UInt8)} (h : Wrs D ws E) {i : Nat} (hi : ∀ x ∈ ws, x.1 ≠ i) : E.view i = D.view i := by
 unfold Dv.view
 rw [h.q, h.L, QcI]
 exact QcH hi
theorem Wrs.at {D E : Dv} {ws : List (Nat × List UInt8)} (h : Wrs D ws E) (hn : (ws.map fun y => y.1).Nodup) {x : Nat × List UInt8} (hx : x ∈ ws) : E.view x.1 = x.2 := by
 unfold Dv.view
 rw [h.q, QcI]
 exact QcJ hn hx
theorem Stp.ws {s s' : Ls} (h : Stp s s') : ∃ ws, s'.ws = s.ws ++ ws /\ s'.us = (ws.map fun x => x.1).reverse ++ s.us /\ (ws.map fun x => x.1).Nodup /\ ∀ x ∈ ws, x.1 ∉ s.us := by
 induction h with
 | refl => exact ⟨[], by simp, by simp, List.nodup_nil, fun x hx => by cases hx⟩
 | step _ B ih =>
  rename_i s2 _
  obtain ⟨ws, e1, e2, h1, h2⟩ := ih
  have hno := Q8q s2.us
  have hin : ∀ y, y ∈ (ws.map fun x => x.1).reverse ++ _ -> y ∈ s2.us := fun y hy => by rw [e2]; exact hy
  refine ⟨ws ++ [(tk s2.us, B)], ?_, ?_, ?_, ?_⟩
  ·simp [Ls.step, e1]
  ·simp [Ls.step, e2]
  ·rw [List.map_append, List.nodup_append]
   refine ⟨h1, by simp, ?_⟩
   intro a ha b hb e
   simp at hb
   subst hb
   subst e
   exact hno (hin _ (List.mem_append_left _ (List.mem_reverse.2 ha)))
  ·intro x hx
   rcases List.mem_append.1 hx with hx | hx
   ·exact h2 x hx
   ·simp at hx
    subst hx
    intro hm
    exact hno (hin _ (List.mem_append_right _ hm))
theorem QcK (c : Hd) (t : Tr) : ((sysL c t).2.ws.map fun x => x.1).Nodup /\ ∀ x ∈ (sysL c t).2.ws, x.1 ∉ usL c.lt := by
 obtain ⟨ws, e1, _, h1, h2⟩ := (QbQ t ⟨usL c.lt, []⟩).1.ws
 have e : (sysL c t).2.ws = ws := by
  have : (sysL c t).2.ws = [] ++ ws := e1
  rw [this]; rfl
 rw [e]
 exact ⟨h1, h2⟩
theorem Sy0.view {c : Hd} {n : Nat} {D D0 : Dv} (h : Sy0 c D D0) (hL : D.L.length = n * 128) (hq : Fit n D.q) : (∀ b, D0.view b = D.view b) /\ D0.L.length = n * 128 /\ Fit n D0.q := by
 rcases h with ⟨_, h⟩ | ⟨_, rfl⟩
 ·refine ⟨h.view hL hq, by rw [h.L]; exact Q1G hL hq, ?_⟩
  rw [h.q]
  exact fun x hx => by cases hx
 ·exact ⟨fun _ => rfl, hL, hq⟩
theorem QcL {n : Nat} {c : Hd} {t : Tr} {D D0 D' : Dv} {tu' ro' : Nat} (h : StK n D.view c.lt t) (hn : 2 <= n) (hL : D.L.length = n * 128) (hq : Fit n D.q) (h0 : Sy0 c D D0) (hk : SyOk c t D0 tu' ro' D') (hb : Bd n (sysL c t).2) (hfr : FrW c.lt n (sysL c t).2.ws) :
  StK n D'.view (sysL c t).1 (sysL c t).1 := by
 obtain ⟨hv, hL0, hq0⟩ := h0.view hL hq
 obtain ⟨hws1, hws2⟩ := QcK c t
 have h1 : ∀ {D1 : Dv}, Wrs D0 (sysL c t).2.ws D1 -> (∀ b ∈ usL c.lt, D1.view b = D.view b) /\ (∀ x ∈ (sysL c t).2.ws, D1.view x.1 = x.2) /\ D1.L.length = n * 128 /\ Fit n D1.q := by
  intro D1 hw
  refine ⟨fun b hb1 => ?_, fun x hx => hw.at hws1 hx, by rw [hw.L]; exact hL0, ?_⟩
  ·rw [hw.other fun x hx e => hws2 x hx (by rw [e]; exact hb1), hv]
  ·rw [hw.q]
   intro x hx
   rcases List.mem_append.1 hx with hx | hx
   ·exact hq0 x hx
   ·exact (hfr x hx).2
 rcases hk with ⟨_, _, _, hw⟩ | ⟨_, _, _, D1, D2, D3, hw, hf1, hwn, hf2⟩
 ·obtain ⟨a1, a2, _, _⟩ := h1 hw
  exact h.sync hb (fun b hb1 => a1 b (Qcq hb1)) a2
 ·obtain ⟨a1, a2, a3, a4⟩ := h1 hw
  have hL2 : D2.L.length = n * 128 := by rw [hf1.L]; exact Q1G a3 a4
  have hi : nxt c.tu % 2 < 2 := Nat.mod_lt _ (by omega)
  have hq3 : Fit n D3.q := by
   rw [hwn.q, hf1.q]
   intro x hx
   simp at hx
   subst hx
   exact ⟨by show nxt c.tu % 2 < n; omega, Q9u _ _⟩
  have hv' : ∀ b, 2 <= b -> D'.view b = D1.view b := by
   intro b hb1
   rw [hf2.view (by rw [hwn.L]; exact hL2) hq3, hwn.view, if_neg (by omega), hf1.view a3 a4]
  refine h.sync hb (fun b hb1 => ?_) fun x hx => ?_
  ·rw [hv' b (Qcr h.us hb1)]
   exact a1 b (Qcq hb1)
  ·have hx2 : 2 <= x.1 := by
    rcases Nat.lt_or_ge x.1 2 with h3 | h3
    ·refine absurd (List.mem_append_right _ ?_) (hws2 x hx)
     have : x.1 = 0 \/ x.1 = 1 := by omega
     rcases this with e | e <;> rw [e] <;> simp
    ·exact h3
   rw [hv' x.1 hx2]
   exact a2 x hx
theorem Sy0.good {c : Hd} {D D0 : Dv} (h : Sy0 c D D0) : Good D0 ↔ Good D := by
 rcases h with ⟨_, h⟩ | ⟨_, rfl⟩
 ·exact h.good
 ·exact Iff.rfl
theorem QcM (x v a n : Nat) (bv cv : Value) (c : Hd) (r : Value) (t : Tr) (D : Dv) (w : World) (hR : Rec x v a n c r t w) (hs : c.s = 1 \/ c.s = 2) (hd : DQ w a bv n cv D) (hk : StK n D.view c.lt t) (hg : Good D) (hn8 : 8 <= n) (hn : n <= 400) (hq : D.q.length <= 800000) (htu : (nxt c.tu : Int) < 18446744073709551616) (hroom : cntT c.lt + 2 + cntT t <= n) :
  Calls prog 28 #[.pointer (some ⟨x, 0, none⟩)] w fun e w' => e = .returned .nilIface /\ Kept (x :: Q0Z a bv cv) w w' /\ ∃ cv' D' r' tu' ro' D0, DQ w' a bv n cv' D' /\ Rec x v a n ⟨2, tu', ro', (sysL c t).1, r'⟩ r' (sysL c t).1 w' /\ StK n D'.view (sysL c t).1 (sysL c t).1 /\ Good D' /\ Sy0 c D D0 /\ SyOk c t D0 tu' ro' D' /\ FrW c.lt n (sysL c t).2.ws := by
 have hb := QbR (c := c) (t := t) (by omega) hk.ub hroom
 refine (QbO x v a n bv cv c r t D w hR hs hd (hk.lyp (by omega)) hn8 hn hq htu (Or.inl hg)).mono ?_
 rintro e w' ⟨o, err, rfl, hc, ⟨cv', D', hd', hcase⟩, hkk⟩
 rcases hcase with ⟨rfl, D0, r', tu', ro', h0, hok, hfr, _, hrec⟩ | ⟨q, tu', ro', rfl, _, hbad⟩
 ·have he : err = .nilIface := hc
  subst he
  have hg' : Good D' := by
   rcases hok with ⟨_, _, _, hw⟩ | ⟨_, _, _, D1, D2, D3, hw, hf1, hwn, hf2⟩
   ·exact hw.good.2 (h0.good.2 hg)
   ·exact hf2.good.2 (hwn.good.2 (hf1.good.2 (hw.good.2 (h0.good.2 hg))))
  exact ⟨rfl, hkk, cv', D', r', tu', ro', D0, hd', hrec, QcL hk (by omega) hd.l hd.q h0 hok hb hfr, hg', h0, hok, hfr⟩
 ·exfalso
  rcases hbad with ⟨_, _, he⟩ | ⟨D0, h0, hbad⟩
  ·exact he.bad hg
  ·have hg0 := h0.good.2 hg
   rcases hbad with ⟨ws, D1, _, hw, ⟨_, he⟩ | ⟨_, _, hno⟩⟩ | ⟨_, _, D1, D2, hw, hf, he | ⟨D3, hwn, he⟩⟩
   ·exact he.bad (hw.good.2 hg0)
   ·exact hno hb
   ·exact he.bad (hf.good.2 (hw.good.2 hg0))
   ·exact he.bad (hwn.good.2 (hf.good.2 (hw.good.2 hg0)))
theorem QcN (c : Hd) (t : Tr) : Q4V (sysL c t).1 = Q4V t /\ cntT (sysL c t).1 = cntT t := by
 unfold sysL
 cases hn : nilN t.h t.n with
 | true =>
  have e : (layT t ⟨usL c.lt, []⟩).1 = t := by unfold layT; simp [hn]
  rw [e]
  exact ⟨rfl, rfl⟩
 | false =>
  rw [QaY hn]
  by_cases hz : t.pl = 0
  ·rw [show layK t.h ⟨nil8, t.n, t.pl⟩ ⟨usL c.lt, []⟩ = _ from Q8x (k := rtK t) hz ⟨usL c.lt, []⟩]
   have hE := Q8G (Q8F t.h t.n ⟨usL c.lt, []⟩)
   refine ⟨hE.1, ?_⟩
   unfold cntT
   show (if nilN t.h (layN t.h t.n ⟨usL c.lt, []⟩).1 = true then 0 else cntN t.h (layN t.h t.n ⟨usL c.lt, []⟩).1) = _
   rw [hE.2.2.2.1, hE.2.2.1]
  ·rw [show layK t.h ⟨nil8, t.n, t.pl⟩ ⟨usL c.lt, []⟩ = _ from Q8w (k := rtK t) hz ⟨usL c.lt, []⟩]
   exact ⟨rfl, rfl⟩
theorem QcO {t : Nat} (h : t < 18446744073709551616) : nwr (nxt t) t = true /\ nwr t (nxt t) = false := by
 have e1 : IntKind.u64.wrap 1 = 1 := by kernel_rfl
 have e2 : IntKind.u64.wrap (-18446744073709551615) = 1 := by kernel_rfl
 have e3 : IntKind.u64.wrap (-1) = 18446744073709551615 := by kernel_rfl
 have e4 : IntKind.u64.wrap 18446744073709551615 = 18446744073709551615 := by kernel_rfl
 unfold nwr nxt
 by_cases hm : t + 1 = 18446744073709551616
 ·have : (t + 1) % 18446744073709551616 = 0 := by rw [hm]
  rw [this]
  have a1 : (((0 : Nat) : Int) - (t : Int)) = -18446744073709551615 := by omega
  have a2 : ((t : Int) - ((0 : Nat) : Int)) = 18446744073709551615 := by omega
  rw [a1, a2, e2, e4]
  exact ⟨decide_eq_true (by simp [wrap64]), decide_eq_false (by simp [wrap64])⟩
 ·have : (t + 1) % 18446744073709551616 = t + 1 := Nat.mod_eq_of_lt (by omega)
  rw [this]
  have a1 : (((t + 1 : Nat) : Int) - (t : Int)) = 1 := by omega
  have a2 : ((t : Int) - ((t + 1 : Nat) : Int)) = -1 := by omega
  rw [a1, a2, e1, e3]
  exact ⟨decide_eq_true (by simp [wrap64]), decide_eq_false (by simp [wrap64])⟩
theorem QcP {t : Nat} : nxt t % 2 = (t + 1) % 2 := by unfold nxt; omega
theorem QcQ {D : Dv} {t r : Nat} (h : Q9z D = ((t, r), true)) : rdH (t % 2) (D.view (t % 2)) = some (t, r) := by
 unfold Q9z at h
 cases h0 : rdH 0 (D.view 0) with
 | none => rw [h0] at h; cases h1 : rdH 1 (D.view 1) <;> rw [h1] at h <;> cases h
 | some x =>
  cases h1 : rdH 1 (D.view 1) with
  | none => rw [h0, h1] at h; cases h
  | some y =>
   rw [h0, h1] at h
   simp only [nwst] at h
   split at h
   ·cases h
    rw [(QcD h1).1]
    exact h1
   ·cases h
    rw [(QcD h0).1]
    exact h0
theorem QcR {D : Dv} {t r r' : Nat} (ht : t < 18446744073709551616) (h1 : rdH (t % 2) (D.view (t % 2)) = some (t, r)) (h2 : rdH (nxt t % 2) (D.view (nxt t % 2)) = some (nxt t, r')) : Q9z D = ((nxt t, r'), true) := by
 obtain ⟨n1, n2⟩ := QcO ht
 unfold Q9z
 rw [QcP] at h2
 rcases Nat.mod_two_eq_zero_or_one t with e | e
 ·have e' : (t + 1) % 2 = 1 := by omega
  rw [e] at h1
  rw [e'] at h2
  rw [h1, h2]
  simp [nwst, n1]
 ·have e' : (t + 1) % 2 = 0 := by omega
  rw [e] at h1
  rw [e'] at h2
  rw [h1, h2]
  simp [nwst, n2]
theorem QcS {n : Nat} {c : Hd} {t : Tr} {D D0 D' : Dv} {tu' ro' : Nat} (hn : 2 <= n) (hL : D.L.length = n * 128) (hq : Fit n D.q) (h0 : Sy0 c D D0) (hk : SyOk c t D0 tu' ro' D') (hfr : FrW c.lt n (sysL c t).2.ws) (hh : Q9z D = ((c.tu, c.ro), true)) (hro : c.ro = c.lt.pl) (htu : c.tu < 18446744073709551616) (hpl : (sysL c t).1.pl < 65536) :
  Q9z D' = ((tu', ro'), true) /\ ro' = (sysL c t).1.pl /\ tu' < 18446744073709551616 := by
 obtain ⟨hv, hL0, hq0⟩ := h0.view hL hq
 obtain ⟨_, hws2⟩ := QcK c t
 have h1 : ∀ {D1 : Dv}, Wrs D0 (sysL c t).2.ws D1 -> (∀ b, b < 2 -> D1.view b = D.view b) /\ D1.L.length = n * 128 /\ Fit n D1.q := by
  intro D1 hw
  refine ⟨fun b hb => ?_, by rw [hw.L]; exact hL0, ?_⟩
  ·rw [hw.other fun x hx e => hws2 x hx (by
    rw [e]
    refine List.mem_append_right _ ?_
    have : b = 0 \/ b = 1 := by omega
    rcases this with e | e <;> rw [e] <;> simp), hv]
  ·rw [hw.q]
   intro x hx
   rcases List.mem_append.1 hx with hx | hx
   ·exact hq0 x hx
   ·exact (hfr x hx).2
 rcases hk with ⟨e1, rfl, rfl, hw⟩ | ⟨_, rfl, rfl, D1, D2, D3, hw, hf1, hwn, hf2⟩
 ·obtain ⟨a1, _, _⟩ := h1 hw
  refine ⟨?_, by rw [e1]; exact hro, htu⟩
  rw [<- hh]
  unfold Q9z
  rw [a1 0 (by omega), a1 1 (by omega)]
 ·obtain ⟨a1, a3, a4⟩ := h1 hw
  have hL2 : D2.L.length = n * 128 := by rw [hf1.L]; exact Q1G a3 a4
  have hi : nxt c.tu % 2 < 2 := Nat.mod_lt _ (by omega)
  have hq3 : Fit n D3.q := by
   rw [hwn.q, hf1.q]
   intro x hx
   simp at hx
   subst hx
   exact ⟨by show nxt c.tu % 2 < n; omega, Q9u _ _⟩
  have hnx : nxt c.tu < 18446744073709551616 := Nat.mod_lt _ (by omega)
  have hv' : ∀ b, b < 2 -> D'.view b = if nxt c.tu % 2 = b then blk (nxt c.tu) (sysL c t).1.pl else D.view b := by
   intro b hb
   rw [hf2.view (by rw [hwn.L]; exact hL2) hq3, hwn.view]
   split
   ·rfl
   ·rw [hf1.view a3 a4, a1 b hb]
  refine ⟨QcR (r := c.ro) htu ?_ ?_, rfl, hnx⟩
  ·rw [hv' _ (Nat.mod_lt _ (by omega)), if_neg (by rw [QcP]; omega)]
   exact QcQ hh
  ·rw [hv' _ hi, if_pos rfl]
   exact QcC hnx hpl
def TrdR (a : Nat) (bv : Value) (n : Nat) (cv : Value) (D : Dv) (rt : Option Tr) (w : World) (e : Ending) (w' : World) : Prop :=
 ∃ D', DQ w' a bv n cv D' /\ Kept [a] w w' /\ ((Qt D D' /\ ∃ t r, rt = some t /\ e = .returned (.agg #[.string ⟨#[]⟩, .int .i64 (t.pl : Nat), r]) /\ TV w' Tru t r) \/ (Qt D D' /\ rt = none /\ Thr 7 e w') \/ (Er D D' /\ Thr 6 e w'))
def SNil (sv : Nat) (W : World) : Prop := W.heap[sv]? = some (.cells #[.pointer none] 27 (0, 0))
def OpE (sv a : Nat) (bv : Value) (n : Nat) (cv : Value) (D : Dv) (h : (Nat × Nat) × Bool) (rt : Option Tr) (B : Nat) (o : Option Int) (W : World) : Prop :=
 ∃ D', DQ W a bv n cv D' /\ ((o = some 6 /\ Er D D' /\ SNil sv W) \/ (o = some 7 /\ Qt D D' /\ SNil sv W /\ (h.2 = false \/ rt = none)) \/
  (o = none /\ Qt D D' /\ h.2 = true /\ ∃ t r x v, rt = some t /\ W.heap[sv]? = some (.cells #[.pointer (some ⟨x, 0, none⟩)] 27 (0, 0)) /\ Rec x v a n ⟨1, h.1.1, h.1.2, t, r⟩ r t W /\ B <= x /\ B <= v))
theorem OpE.err {sv a : Nat} {bv : Value} {n : Nat} {cv : Value} {D : Dv} {h : (Nat × Nat) × Bool} {rt : Option Tr} {B : Nat} {o : Option Int} {W W' : World} {T : List Nat} (g : OpE sv a bv n cv D h rt B o W) (k : Kept T W W') (hT : ∀ x ∈ T, Tg W x 35) : OpE sv a bv n cv D h rt B o W' := by
 obtain ⟨D', hd, hr⟩ := g
 have hn : ∀ {y : Nat} {t : TypeId}, Tg W y t -> t ≠ 35 -> y ∉ T := fun hy hne hm => hne (hy.ne (hT _ hm))
 refine ⟨D', hd.kept k ?_, ?_⟩
 ·intro y hy hm
  obtain ⟨cs, fr, hh⟩ := hT y hm
  exact hd.no hh (by decide) hy
 ·rcases hr with ⟨h1, h2, h3⟩ | ⟨h1, h2, h3, h4⟩ | ⟨h1, h2, h3, t, r, x, v, h4, h5, h6, h7⟩
  ·exact Or.inl ⟨h1, h2, k.get h3 (hn ⟨_, _, h3⟩ (by decide))⟩
  ·exact Or.inr (Or.inl ⟨h1, h2, k.get h3 (hn ⟨_, _, h3⟩ (by decide)), h4⟩)
  ·exact Or.inr (Or.inr ⟨h1, h2, h3, t, r, x, v, h4, k.get h5 (hn ⟨_, _, h5⟩ (by decide)), h6.err k hT, h7⟩)
theorem szp : (prog.info? 27).map (·.size) = some 1 := by kernel_rfl
theorem stHd : (prog.info? 76).map (·.size) = some 2 := by kernel_rfl
theorem QcT (p sv a : Nat) (bv : Value) (n : Nat) (cv : Value) (D : Dv) (rt : Option Tr) (w : World) (hp : w.heap[p]? = some (.cells #[.iface 26 (.pointer (some ⟨a, 0, none⟩))] 126 (0, 0))) (hsv : SNil sv w) (h : DQ w a bv n cv D) (hn8 : 8 <= n) (hn : n <= 400) (hq : D.q.length < 1000000) (hT : Good D \/ Tab w)
  (hR : ∀ v W D1, Vol W v a n -> DQ W a bv n cv D1 -> Qt D D1 -> (Good D1 \/ Tab W) -> (Tab w -> Tab W) -> Calls prog 90 #[.pointer (some ⟨v, 0, none⟩), .int .i64 ((Q9z D).1.2 : Nat)] W (TrdR a bv n cv D1 rt W)) :
  Calls prog 89 #[.pointer (some ⟨p, 0, none⟩), .pointer (some ⟨sv, 0, none⟩)] w (Q2W [a, sv] (OpE sv a bv n cv D (Q9z D) rt w.heap.size) w) := by
 have c0 : w.cell? ⟨p, 0, none⟩ = some (.iface 26 (.pointer (some ⟨a, 0, none⟩))) := Q02 hp rfl
 obtain ⟨bp, bc, rfl⟩ := Q0U h.b
 have HN : Hid (∀ v W, Vol W v a n -> DQ W a (.slice bp n bc) n cv D -> (Good D \/ Tab W) -> Calls prog 88 #[.pointer (some ⟨v, 0, none⟩)] W (RdR a (.slice bp n bc) n cv D (fun e _ => e = .returned (nwV (Q9z D))) W)) := fun v W hV hD hT => Q9t v a _ n cv D W hV hD hn8 (by omega) (by omega) hT
 have HR : Hid (∀ v W D1, Vol W v a n -> DQ W a (.slice bp n bc) n cv D1 -> Qt D D1 -> (Good D1 \/ Tab W) -> (Tab w -> Tab W) -> Calls prog 90 #[.pointer (some ⟨v, 0, none⟩), .int .i64 ((Q9z D).1.2 : Nat)] W (TrdR a (.slice bp n bc) n cv D1 rt W)) := hR
 clear hR
 obtain ⟨⟨⟨t0, r0⟩, b0⟩, hx⟩ : ∃ x, x = Q9z D := ⟨_, rfl⟩
 rw [<- hx] at HN HR ⊢
 clear hx
 have hsl := Q00 hsv
 go_enter func89, ntmps89
 go_wp2_with fail
 refine (Q2M a n bc bp cv D w h.d hn8 hn).mono ?_
 rintro e w1 ⟨v, rfl, hv1, hvl, hk1⟩
 have h1 := h.k0 hk1
 have hT1 : Good D \/ Tab w1 := hT.imp id fun hT => hT.k hk1
 have nv : v ∉ Q0Z a (.slice bp n bc) cv := h1.no hv1 (by decide)
 have sub1 : ∀ y ∈ [a], y ∈ Q0Z a (.slice bp n bc) cv := by intro y hy; simp at hy; subst hy; simp [Q0Z]
 have nsv : sv ∉ Q0Z a (.slice bp n bc) cv := h.no hsv (by decide)
 go_wp2_with fail
 refine (HN.out v w1 hv1 h1 hT1).mono ?_
 rintro e w2 ⟨D2, hd2, hk2, ⟨hq2, rfl⟩ | ⟨he2, ht2⟩⟩
 rotate_left
 ·obtain ⟨f, o, rfl, hf⟩ := ht2.ex
  exact ⟨rfl, some 6, ht2, ⟨D2, hd2, Or.inl ⟨rfl, he2, hk2.get (hk1.get hsv (by simp)) fun hm => nsv (sub1 _ hm)⟩⟩, (hk1.mono (by simp)).trans (hk2.mono (by simp))⟩
 have hv2 : Vol w2 v a n := hk2.get hv1 (fun hm => nv (sub1 _ hm))
 have hs2 : SNil sv w2 := hk2.get (hk1.get hsv (by simp)) fun hm => nsv (sub1 _ hm)
 have hT2 : Good D2 \/ Tab w2 := hT1.imp hq2.good.2 fun hT => hT.kept hk2 (hT.dqa h1)
 have HTT : Hid (Tab w -> Tab w2) := fun hT => (hT.k hk1).kept hk2 ((hT.k hk1).dqa h1)
 have hk02 : Kept [a] w w2 := (hk1.mono (by simp)).trans hk2
 have k3 := (Kept.refl [] w2).alloc (.cells #[.int .u64 (t0 : Int), .int .i64 (r0 : Int)] 76)
 have n3 := heap_alloc_new w2 (.cells #[.int .u64 (t0 : Int), .int .i64 (r0 : Int)] 76)
 have HK3 : Hid (Kept [] w2 _) := k3
 have hd3 := hd2.k0 k3
 have hv3 : Vol (w2.alloc (.cells #[.int .u64 (t0 : Int), .int .i64 (r0 : Int)] 76)) v a n := k3.get hv2 (by simp)
 have hs3 : SNil sv (w2.alloc (.cells #[.int .u64 (t0 : Int), .int .i64 (r0 : Int)] 76)) := k3.get hs2 (by simp)
 have hk03 := hk02.trans2 k3 (by simp)
 have hT3 : Good D2 \/ Tab (w2.alloc (.cells #[.int .u64 (t0 : Int), .int .i64 (r0 : Int)] 76)) := hT2.imp id fun hT => hT.k k3
 have hz2 := hk02.size
 clear h1 hk1 hT1
 simp only [nwV]
 generalize hW3 : w2.alloc (.cells #[.int .u64 (t0 : Int), .int .i64 (r0 : Int)] 76) = w3 at *
 have HW3 : Hid _ := hW3
 clear hW3
 cases b0 with
 | false =>
  go_wp2_with fail
  rw [HW3.out]
  go_wp2_with (first | (go_at_call 62; refine (Q2K _ _ _).mono ?_; rintro e w4 ⟨f, o, rfl, hf, hk4⟩))
  exact ⟨rfl, some 7, ⟨f, o, rfl, hf⟩, ⟨D2, hd3.k0 hk4, Or.inr (Or.inl ⟨rfl, hq2, hk4.get hs3 (by simp), Or.inl rfl⟩)⟩, (hk03.mono (by simp)).trans (hk4.mono (by simp))⟩
 | true =>
  have c30 : w3.cell? ⟨w2.heap.size, 0, none⟩ = some (.int .u64 t0) := Q02 n3 rfl
  have c31 : w3.cell? ⟨w2.heap.size, 1, none⟩ = some (.int .i64 r0) := Q02 n3 rfl
  go_wp2_with fail
  rw [HW3.out]
  go_wp2_with (first | (go_at_call 91; refine (Q2c t0 r0 _).mono ?_; rintro e w4 ⟨rfl, hk4⟩))
  refine (HR.out v w4 D2 (hk4.get hv3 (by simp)) (hd3.k0 hk4) hq2 (hT3.imp id fun hT => hT.k hk4) (fun hT => ((HTT.out hT).k HK3.out).k hk4)).mono ?_
  rintro e w5 ⟨D5, hd5, hk5, ⟨hq5, t, r, hrt, rfl, htv⟩ | ⟨hq5, hrt, ht5⟩ | ⟨he5, ht5⟩⟩
  rotate_left
  ·obtain ⟨f, o, rfl, hf⟩ := ht5.ex
   exact ⟨rfl, some 7, ht5, ⟨D5, hd5, Or.inr (Or.inl ⟨rfl, hq2.trans hq5, hk5.get (hk4.get hs3 (by simp)) fun hm => nsv (sub1 _ hm), Or.inr hrt⟩)⟩, ((hk03.mono (by simp)).trans (hk4.mono (by simp))).trans (hk5.mono (by simp))⟩
  ·obtain ⟨f, o, rfl, hf⟩ := ht5.ex
   exact ⟨rfl, some 6, ht5, ⟨D5, hd5, Or.inl ⟨rfl, hq2.er he5, hk5.get (hk4.get hs3 (by simp)) fun hm => nsv (sub1 _ hm)⟩⟩, ((hk03.mono (by simp)).trans (hk4.mono (by simp))).trans (hk5.mono (by simp))⟩
  have hr1 := htv.one
  have hs5 : SNil sv w5 := hk5.get (hk4.get hs3 (by simp)) fun hm => nsv (sub1 _ hm)
  have hv5 : Vol w5 v a n := hk5.get (hk4.get hv3 (by simp)) fun hm => nv (sub1 _ hm)
  have n5 := hk5.get (hk4.get n3 (by simp)) (fun hm => hd2.ge (Nat.le_refl _) (sub1 _ hm))
  have c50 : w5.cell? ⟨w2.heap.size, 0, none⟩ = some (.int .u64 t0) := Q02 n5 rfl
  have c51 : w5.cell? ⟨w2.heap.size, 1, none⟩ = some (.int .i64 r0) := Q02 n5 rfl
  have cs5 : w5.cell? ⟨sv, 0, none⟩ = some (.pointer none) := Q02 hs5 rfl
  have fs5 : w5.frozen? ⟨sv, 0, none⟩ = false := frozen_of_row _ _ _ _ _ hs5
  have K5 : Kept [a, sv] w w5 := ((hk03.mono (by simp)).trans (hk4.mono (by simp))).trans (hk5.mono (by simp))
  have k6 := (Kept.refl [] w5).alloc (.cells #[.string ⟨#[]⟩, .int .i64 0, .nilIface] 82)
  have z6 := heap_alloc_new w5 (.cells #[.string ⟨#[]⟩, .int .i64 0, .nilIface] 82)
  have hlt2 := Q00 n5
  have hlt3 := Q00 hs5
  clear hk03 hk02 hk2 hs2 hs3 hv2 hv3 hd2 hd3 hT2 hT3 n3 k3
  go_wp2_with (first
   | (refine Q0c rfl 82 (.tmp 5) (.tmp 19) rfl w5.heap.size #[.string ⟨#[]⟩, .int .i64 (t.pl : Int), r] rfl rfl 82 _ z6 stT rfl (one3 _ hr1) ?_; intro w6 t6 hk6; have n6 := hk6.get (k6.get n5 (by simp)) (by simp; omega); have s6 := hk6.get (k6.get hs5 (by simp)) (by simp; omega); have K6 : Kept [] w5 w6 := k6.trans2 hk6 (by intro y hy; simp at hy; subst hy; exact Or.inr (Nat.le_refl _)); have k7 := (Kept.refl [] w6).alloc (.cells #[.int .i64 1, .pointer (some ⟨v, 0, none⟩), .int .u64 (t0 : Int), .int .i64 (r0 : Int), .string ⟨#[]⟩, .int .i64 (t.pl : Int), r, .string ⟨#[]⟩, .int .i64 (t.pl : Int), r] 84); have s7 := k7.get s6 (by simp); have x7 := heap_alloc_new w6 (.cells #[.int .i64 1, .pointer (some ⟨v, 0, none⟩), .int .u64 (t0 : Int), .int .i64 (r0 : Int), .string ⟨#[]⟩, .int .i64 (t.pl : Int), r, .string ⟨#[]⟩, .int .i64 (t.pl : Int), r] 84))
   | (refine Q05 rfl _ (Q0m 27 (.tmp 1) (.tmp 25) rfl ⟨sv, 0, none⟩ rfl _ rfl (Q0q szp rfl s7 (by simp))) ?_)
   | (refine wpList_load_row rfl 76 (.tmp 3) rfl w2.heap.size rfl 76 #[.int .u64 (t0 : Int), .int .i64 (r0 : Int)] (0, 0) _ n6 underlying76 rfl stHd ?_)
   | (refine wpList_load_row rfl 82 (.tmp 5) rfl w5.heap.size rfl 82 #[.string ⟨#[]⟩, .int .i64 (t.pl : Int), r] (0, 0) _ t6 underlying82 rfl stT ?_))
  go_end0
  have kb : Kept [sv] (w6.alloc (.cells (rowS ⟨1, t0, r0, t, r⟩ v t r) 84)) ((w6.alloc (.cells (rowS ⟨1, t0, r0, t, r⟩ v t r) 84)).setCell ⟨sv, 0, none⟩ (.pointer (some ⟨w6.heap.size, 0, none⟩))) := (Kept.refl _ _).setCell (Or.inl (by simp)) _
  have K7 : Kept [] w5 (w6.alloc (.cells (rowS ⟨1, t0, r0, t, r⟩ v t r) 84)) := K6.trans k7
  have tv7 := (htv.k K7).tags
  have nsT : ∀ y ∈ [sv], ¬ TT (w6.alloc (.cells (rowS ⟨1, t0, r0, t, r⟩ v t r) 84)) y := by
   intro y hy
   simp at hy
   subst hy
   rintro (h1 | h1)
   ·have := Tg.ne ⟨_, _, s7⟩ h1
    revert this; decide
   ·have := Tg.ne ⟨_, _, s7⟩ h1
    revert this; decide
  have h56 := K6.size
  refine ⟨none, rfl, ⟨D5, (hd5.k0 K7).k1 kb nsv, Or.inr (Or.inr ⟨rfl, hq2.trans hq5, rfl, t, r, w6.heap.size, v, rfl, Q03 (i := 0) _ s7, ⟨kb.get x7 (by simp; omega), kb.get (K7.get hv5 (by simp)) (by simp; intro e; subst e; have := Tg.ne ⟨_, _, hs5⟩ ⟨_, _, hv5⟩; revert this; decide), ⟨Nat.le_refl _, by show 1 <= 3; decide⟩, TV.kept tv7 kb nsT fun _ _ => trivial, TV.kept tv7 kb nsT fun _ _ => trivial⟩, by have := K5.size; omega, by omega⟩)⟩, (K5.trans (K7.mono (by simp))).trans (kb.mono (by simp))⟩
end Go.Proofs.YtcklgafpgdhnaaaGreatDoor
