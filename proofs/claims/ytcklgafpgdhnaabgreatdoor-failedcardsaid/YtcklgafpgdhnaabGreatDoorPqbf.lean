import Derived.Test.YtcklgafpgdhnaabGreatDoorPqau
import Derived.Test.YtcklgafpgdhnaabGreatDoorPqbe
import Derived.Test.YtcklgafpgdhnaabGreatDoorPqaq
import Derived.Test.YtcklgafpgdhnaabGreatDoorPqaj
import Derived.Test.YtcklgafpgdhnaabGreatDoorPqay
set_option maxRecDepth 100000
set_option maxHeartbeats 4000000
open Go.Proofs.Tryz
namespace Go.Proofs.YtcklgafpgdhnaabGreatDoor
open Go.RowKit
theorem Q9p {α : Type} {l cs : List α} {o : Nat} (h : o + cs.length <= l.length) (j : Nat) : (splice l o cs)[j]? = if j < o then l[j]? else if j < o + cs.length then cs[j - o]? else l[j]? := by
 unfold splice
 by_cases h1 : j < o
 ·rw [if_pos h1, List.getElem?_append_left (by rw [List.length_take]; omega), List.getElem?_take, if_pos h1]
 ·rw [if_neg h1, List.getElem?_append_right (by rw [List.length_take]; omega), List.length_take, Nat.min_eq_left (by omega)]
  by_cases h2 : j < o + cs.length
  ·rw [if_pos h2, List.getElem?_append_left (by omega)]
  ·rw [if_neg h2, List.getElem?_append_right (by omega), List.getElem?_drop]
   congr 1
   omega
theorem Q9q {α : Type} {l cs : List α} {o : Nat} (h : o + cs.length <= l.length) (m : Nat) (hm : m = cs.length) : ((splice l o cs).drop o).take m = cs := by
 subst hm
 apply List.ext_getElem?
 intro j
 rw [List.getElem?_take, List.getElem?_drop, Q9p h]
 by_cases hj : j < cs.length
 ·rw [if_pos hj, if_neg (by omega), if_pos (by omega)]
  congr 1
  omega
 ·rw [if_neg hj, List.getElem?_eq_none (by omega)]
theorem jQ {α : Type} {l cs : List α} {o p m : Nat} (h : o + cs.length <= l.length) (hp : p + m <= o \/ o + cs.length <= p) : ((splice l o cs).drop p).take m = (l.drop p).take m := by
 apply List.ext_getElem?
 intro j
 rw [List.getElem?_take, List.getElem?_take, List.getElem?_drop, List.getElem?_drop, Q9p h]
 by_cases hj : j < m
 ·rw [if_pos hj, if_pos hj]
  rcases hp with hp | hp
  ·rw [if_pos (by omega)]
  ·rw [if_neg (by omega), if_neg (by omega)]
 ·rw [if_neg hj, if_neg hj]
theorem Q9r (t r : Nat) : ((sec t r).drop 8).take 8 = yC t 8 := by
 unfold sec Qm
 rw [qz, jQ (by rw [yI, qz]; omega) (Or.inl (by omega))]
 unfold sec2
 rw [jQ (by rw [yI, gS]; omega) (Or.inl (by omega))]
 unfold sec1
 exact Q9q (by rw [yI, jw]; omega) _ (by rw [yI])
theorem Q9s (t r : Nat) : ((sec t r).drop 16).take 2 = yC r 2 := by
 unfold sec Qm
 rw [qz, jQ (by rw [yI, qz]; omega) (Or.inl (by omega))]
 unfold sec2
 exact Q9q (by rw [yI, gS]; omega) _ (by rw [yI])
theorem Q9t (t r : Nat) : (sec t r).take 8 = Q1d := by
 have h : ((sec t r).drop 0).take 8 = Q1d := by
  unfold sec Qm
  rw [qz, jQ (by rw [yI, qz]; omega) (Or.inl (by omega))]
  unfold sec2
  rw [jQ (by rw [yI, gS]; omega) (Or.inl (by omega))]
  unfold sec1
  rw [jQ (by rw [yI, jw]; omega) (Or.inl (by omega))]
  decide
 simpa using h
theorem Q9u (t r : Nat) : (blk t r).take 32 = sec t r := by
 have h : ((blk t r).drop 0).take 32 = sec t r := Q9q (by rw [qG, List.length_replicate]; omega) _ (by rw [qG])
 simpa using h
theorem Zt {α : Type} (B : List α) (p m k : Nat) (h : p + m <= k) : (B.drop p).take m = ((B.take k).drop p).take m := by
 rw [List.drop_take, List.take_take, Nat.min_eq_left (by omega)]
theorem Q9v {t r : Nat} {B : List UInt8} (hB : B.take 32 = sec t r) (ht : t < 18446744073709551616) (hr : r < 65536) : rdH (t % 2) B = some (t, r) := by
 unfold rdH
 rw [Zt B 8 8 32 (by omega), Zt B 16 2 32 (by omega), hB, Q9r, Q9s, Qd, Qd, show t % 2 ^ (8 * 8) = t from Nat.mod_eq_of_lt (by simpa using ht), show r % 2 ^ (8 * 2) = r from Nat.mod_eq_of_lt (by simpa using hr), if_pos ⟨rfl, rfl⟩]
theorem Q9w {t r : Nat} (ht : t < 18446744073709551616) (hr : r < 65536) : rdH (t % 2) (blk t r) = some (t, r) := Q9v (Q9u t r) ht hr
theorem Q9x {i t r : Nat} {B : List UInt8} (h : rdH i B = some (t, r)) : t % 2 = i /\ B.take 32 = sec t r := by
 unfold rdH at h
 split at h
 ·rename_i hc
  simp only [Option.some.injEq, Prod.mk.injEq] at h
  rw [h.1, h.2] at hc
  exact ⟨hc.1, hc.2.symm⟩
 ·cases h
theorem Q9y {i : Nat} {B : List UInt8} (h : B.take 8 ≠ Q1d) : rdH i B = none := by
 cases hc : rdH i B with
 | none => rfl
 | some x =>
  obtain ⟨t, r⟩ := x
  have h2 := (Q9x hc).2
  have h3 := Q9t t r
  rw [<- h2, List.take_take, Nat.min_eq_left (by omega)] at h3
  exact absurd h3 h
theorem Zu {L B : List UInt8} {n i : Nat} (hL : L.length = n * 128) (hi : i < n) (hB : B.length = 128) (j : Nat) : yz (qN L i B) j = if j = i then B else yz L j := by
 have hn : i * 128 + 128 <= n * 128 := by omega
 unfold yz qN
 by_cases h : j = i
 ·subst h
  rw [if_pos rfl]
  exact Q9q (by rw [hB, hL]; omega) _ hB.symm
 ·rw [if_neg h]
  exact jQ (by rw [hB, hL]; omega) (by rw [hB]; omega)
theorem Q9z {n : Nat} {L : List UInt8} {q : List Wt} (hL : L.length = n * 128) (hq : Fit n q) (i : Nat) : yz (lay L q) i = vf (yz L i) i q := by
 induction q generalizing L with
 | nil => rfl
 | cons x r ih =>
  have hx := hq x (by simp)
  have h1 := ih (L := qN L x.1 x.2) (jG L x.2 n x.1 hL hx.1 hx.2) (fun y hy => hq y (by simp [hy]))
  show yz (lay (qN L x.1 x.2) r) i = vf (if x.1 = i then x.2 else yz L i) i r
  rw [h1, Zu hL hx.1 hx.2]
  by_cases e : x.1 = i
  ·rw [if_pos e, if_pos e.symm]
  ·rw [if_neg e, if_neg fun h => e h.symm]
theorem Fl.view {n : Nat} {D E : Dv} (h : Fl D E) (hL : D.L.length = n * 128) (hq : Fit n D.q) (i : Nat) : E.view i = D.view i := by
 unfold Dv.view
 rw [h.q, h.L]
 exact Q9z hL hq i
theorem Wn.view {D E : Dv} {i : Nat} {B : List UInt8} (h : Wn D i B E) (j : Nat) : E.view j = if i = j then B else D.view j := by
 unfold Dv.view
 rw [h.q, h.L, Q0l]
theorem Q9A {b : List UInt8} {i : Nat} {q : List Wt} (h : ∀ x ∈ q, x.1 ≠ i) : vf b i q = b := by
 induction q generalizing b with
 | nil => rfl
 | cons x r ih =>
  show vf (if x.1 = i then x.2 else b) i r = b
  rw [if_neg (h x (by simp))]
  exact ih fun y hy => h y (by simp [hy])
theorem Q9B (b : List UInt8) (i : Nat) (q r : List Wt) : vf b i (q ++ r) = vf (vf b i q) i r := by simp [vf, List.foldl_append]
theorem Q9C {b : List UInt8} {q : List Wt} {x : Wt} (hn : (q.map fun y => y.1).Nodup) (hx : x ∈ q) : vf b x.1 q = x.2 := by
 induction q generalizing b with
 | nil => cases hx
 | cons y r ih =>
  rw [List.map_cons, List.nodup_cons] at hn
  show vf (if y.1 = x.1 then y.2 else b) x.1 r = x.2
  rcases List.mem_cons.1 hx with e | hx
  ·subst e
   rw [if_pos rfl]
   exact Q9A fun z hz e => hn.1 (List.mem_map.2 ⟨z, hz, e⟩)
  ·exact ih hn.2 hx
theorem Wrs.other {D E : Dv} {ws : List (Nat × List UInt8)} (h : Wrs D ws E) {i : Nat} (hi : ∀ x ∈ ws, x.1 ≠ i) : E.view i = D.view i := by
 unfold Dv.view
 rw [h.q, h.L, Q9B]
 exact Q9A hi
theorem Wrs.at {D E : Dv} {ws : List (Nat × List UInt8)} (h : Wrs D ws E) (hn : (ws.map fun y => y.1).Nodup) {x : Nat × List UInt8} (hx : x ∈ ws) : E.view x.1 = x.2 := by
 unfold Dv.view
 rw [h.q, Q9B]
 exact Q9C hn hx
theorem Stp.ws {s s' : Ls} (h : Stp s s') : ∃ ws, s'.ws = s.ws ++ ws /\ s'.us = (ws.map fun x => x.1).reverse ++ s.us /\ (ws.map fun x => x.1).Nodup /\ ∀ x ∈ ws, x.1 ∉ s.us := by
 induction h with
 | refl => exact ⟨[], by simp, by simp, List.nodup_nil, fun x hx => by cases hx⟩
 | step _ B ih =>
  rename_i s2 _
  obtain ⟨ws, e1, e2, h1, h2⟩ := ih
  have hno := Q5U s2.us
  have hin : ∀ y, y ∈ (ws.map fun x => x.1).reverse ++ _ -> y ∈ s2.us := fun y hy => by rw [e2]; exact hy
  refine ⟨ws ++ [(tk s2.us, B)], ?_, ?_, ?_, ?_⟩
  ·simp [Ls.step, e1]
  ·simp [Ls.step, e2]
  ·rw [List.map_append, List.nodup_append]
   refine ⟨h1, by simp, ?_⟩
   intro a ha b hb e
   simp at hb
   subst hb
   subst e
   exact hno (hin _ (List.mem_append_left _ (List.mem_reverse.2 ha)))
  ·intro x hx
   rcases List.mem_append.1 hx with hx | hx
   ·exact h2 x hx
   ·simp at hx
    subst hx
    intro hm
    exact hno (hin _ (List.mem_append_right _ hm))
theorem Q9D (c : Hd) (t : Tr) : ((yw c t).2.ws.map fun x => x.1).Nodup /\ ∀ x ∈ (yw c t).2.ws, x.1 ∉ usL c.lt := by
 obtain ⟨ws, e1, _, h1, h2⟩ := (Q8Q t ⟨usL c.lt, []⟩).1.ws
 have e : (yw c t).2.ws = ws := by
  have : (yw c t).2.ws = [] ++ ws := e1
  rw [this]; rfl
 rw [e]
 exact ⟨h1, h2⟩
theorem Sy0.view {c : Hd} {n : Nat} {D D0 : Dv} (h : Sy0 c D D0) (hL : D.L.length = n * 128) (hq : Fit n D.q) : (∀ b, D0.view b = D.view b) /\ D0.L.length = n * 128 /\ Fit n D0.q := by
 rcases h with ⟨_, h⟩ | ⟨_, rfl⟩
 ·refine ⟨h.view hL hq, by rw [h.L]; exact qR hL hq, ?_⟩
  rw [h.q]
  exact fun x hx => by cases hx
 ·exact ⟨fun _ => rfl, hL, hq⟩
theorem Q9E {n : Nat} {c : Hd} {t : Tr} {D D0 D' : Dv} {tu' ro' : Nat} (h : StK n D.view c.lt t) (hn : 2 <= n) (hL : D.L.length = n * 128) (hq : Fit n D.q) (h0 : Sy0 c D D0) (hk : SyOk c t D0 tu' ro' D') (hb : Bd n (yw c t).2) (hfr : FrW c.lt n (yw c t).2.ws) :
  StK n D'.view (yw c t).1 (yw c t).1 := by
 obtain ⟨hv, hL0, hq0⟩ := h0.view hL hq
 obtain ⟨hws1, hws2⟩ := Q9D c t
 have h1 : ∀ {D1 : Dv}, Wrs D0 (yw c t).2.ws D1 -> (∀ b ∈ usL c.lt, D1.view b = D.view b) /\ (∀ x ∈ (yw c t).2.ws, D1.view x.1 = x.2) /\ D1.L.length = n * 128 /\ Fit n D1.q := by
  intro D1 hw
  refine ⟨fun b hb1 => ?_, fun x hx => hw.at hws1 hx, by rw [hw.L]; exact hL0, ?_⟩
  ·rw [hw.other fun x hx e => hws2 x hx (by rw [e]; exact hb1), hv]
  ·rw [hw.q]
   intro x hx
   rcases List.mem_append.1 hx with hx | hx
   ·exact hq0 x hx
   ·exact (hfr.1 x hx).2
 rcases hk with ⟨_, _, _, hw⟩ | ⟨_, _, _, D1, D2, D3, hw, hf1, hwn, hf2⟩
 ·obtain ⟨a1, a2, _, _⟩ := h1 hw
  exact h.sync hb (fun b hb1 => a1 b (Q9m hb1)) a2
 ·obtain ⟨a1, a2, a3, a4⟩ := h1 hw
  have hL2 : D2.L.length = n * 128 := by rw [hf1.L]; exact qR a3 a4
  have hi : nxt c.tu % 2 < 2 := Nat.mod_lt _ (by omega)
  have hq3 : Fit n D3.q := by
   rw [hwn.q, hf1.q]
   intro x hx
   simp at hx
   subst hx
   exact ⟨by show nxt c.tu % 2 < n; omega, qT _ _⟩
  have hv' : ∀ b, 2 <= b -> D'.view b = D1.view b := by
   intro b hb1
   rw [hf2.view (by rw [hwn.L]; exact hL2) hq3, hwn.view, if_neg (by omega), hf1.view a3 a4]
  refine h.sync hb (fun b hb1 => ?_) fun x hx => ?_
  ·rw [hv' b (Q9n h.us hb1)]
   exact a1 b (Q9m hb1)
  ·have hx2 : 2 <= x.1 := by
    rcases Nat.lt_or_ge x.1 2 with h3 | h3
    ·refine absurd (List.mem_append_right _ ?_) (hws2 x hx)
     have : x.1 = 0 \/ x.1 = 1 := by omega
     rcases this with e | e <;> rw [e] <;> simp
    ·exact h3
   rw [hv' x.1 hx2]
   exact a2 x hx
theorem Sy0.good {c : Hd} {D D0 : Dv} (h : Sy0 c D D0) : qc D0 ↔ qc D := by
 rcases h with ⟨_, h⟩ | ⟨_, rfl⟩
 ·exact h.good
 ·exact Iff.rfl
theorem Q9F (x v a n : Nat) (bv cv : Value) (c : Hd) (r : Value) (t : Tr) (D : Dv) (w : World) (hR : Rec x v a n c r t w) (hs : c.s = 1 \/ c.s = 2) (hd : DQ w a bv n cv D) (hk : StK n D.view c.lt t) (hg : qc D) (hn8 : 8 <= n) (hn : n <= 400) (hq : D.q.length <= 800000) (htu : (nxt c.tu : Int) < 18446744073709551616) (hroom : qH c.lt + 2 + qH t <= n) :
  Calls prog 13 #[.pointer (some ⟨x, 0, none⟩)] w fun e w' => e = .returned .nilIface /\ y5 (x :: ym a bv cv) w w' /\ ∃ cv' D' r' tu' ro' D0, DQ w' a bv n cv' D' /\ Rec x v a n ⟨2, tu', ro', (yw c t).1, r'⟩ r' (yw c t).1 w' /\ StK n D'.view (yw c t).1 (yw c t).1 /\ qc D' /\ Sy0 c D D0 /\ SyOk c t D0 tu' ro' D' /\ FrW c.lt n (yw c t).2.ws := by
 have hb := Q8R (c := c) (t := t) (by omega) hk.ub hroom
 refine (Q8O x v a n bv cv c r t D w hR hs hd (hk.lyp (by omega)) hn8 hn hq htu (Or.inl hg)).mono ?_
 rintro e w' ⟨o, err, rfl, hc, ⟨cv', D', ⟨hd', _⟩, hcase⟩, hkk⟩
 rcases hcase with ⟨rfl, D0, r', tu', ro', h0, hok, hfr, _, hrec⟩ | ⟨q, tu', ro', rfl, _, hbad⟩
 ·have he : err = .nilIface := hc
  subst he
  have hg' : qc D' := by
   rcases hok with ⟨_, _, _, hw⟩ | ⟨_, _, _, D1, D2, D3, hw, hf1, hwn, hf2⟩
   ·exact hw.good.2 (h0.good.2 hg)
   ·exact hf2.good.2 (hwn.good.2 (hf1.good.2 (hw.good.2 (h0.good.2 hg))))
  exact ⟨rfl, hkk, cv', D', r', tu', ro', D0, hd', hrec, Q9E hk (by omega) hd.l hd.q h0 hok hb hfr, hg', h0, hok, hfr⟩
 ·exfalso
  rcases hbad with ⟨_, _, he⟩ | ⟨D0, h0, hbad⟩
  ·exact he.bad hg
  ·have hg0 := h0.good.2 hg
   rcases hbad with ⟨ws, D1, _, hw, ⟨_, he⟩ | ⟨_, _, hno⟩⟩ | ⟨_, _, D1, D2, hw, hf, he | ⟨D3, hwn, he⟩⟩
   ·exact he.bad (hw.good.2 hg0)
   ·exact hno hb
   ·exact he.bad (hf.good.2 (hw.good.2 hg0))
   ·exact he.bad (hwn.good.2 (hf.good.2 (hw.good.2 hg0)))
theorem QA (c : Hd) (t : Tr) : y7 (yw c t).1 = y7 t /\ qH (yw c t).1 = qH t := by
 unfold yw
 cases hn : qO t.h t.n with
 | true =>
  have e : (QW t ⟨usL c.lt, []⟩).1 = t := by unfold QW; simp [hn]
  rw [e]
  exact ⟨rfl, rfl⟩
 | false =>
  rw [Zs hn]
  by_cases hz : t.pl = 0
  ·rw [show qh t.h ⟨yp, t.n, t.pl⟩ ⟨usL c.lt, []⟩ = _ from Qu (k := rtK t) hz ⟨usL c.lt, []⟩]
   have hE := Q68 (Q67 t.h t.n ⟨usL c.lt, []⟩)
   refine ⟨hE.1, ?_⟩
   unfold qH
   show (if qO t.h (qa t.h t.n ⟨usL c.lt, []⟩).1 = true then 0 else gm t.h (qa t.h t.n ⟨usL c.lt, []⟩).1) = _
   rw [hE.2.2.2.1, hE.2.2.1]
  ·rw [show qh t.h ⟨yp, t.n, t.pl⟩ ⟨usL c.lt, []⟩ = _ from jC (k := rtK t) hz ⟨usL c.lt, []⟩]
   exact ⟨rfl, rfl⟩
theorem Q9G {t : Nat} (h : t < 18446744073709551616) : nwr (nxt t) t = true /\ nwr t (nxt t) = false := by
 have e1 : IntKind.u64.wrap 1 = 1 := by kernel_rfl
 have e2 : IntKind.u64.wrap (-18446744073709551615) = 1 := by kernel_rfl
 have e3 : IntKind.u64.wrap (-1) = 18446744073709551615 := by kernel_rfl
 have e4 : IntKind.u64.wrap 18446744073709551615 = 18446744073709551615 := by kernel_rfl
 unfold nwr nxt
 by_cases hm : t + 1 = 18446744073709551616
 ·have : (t + 1) % 18446744073709551616 = 0 := by rw [hm]
  rw [this]
  have a1 : (((0 : Nat) : Int) - (t : Int)) = -18446744073709551615 := by omega
  have a2 : ((t : Int) - ((0 : Nat) : Int)) = 18446744073709551615 := by omega
  rw [a1, a2, e2, e4]
  exact ⟨decide_eq_true (by simp [wrap64]), decide_eq_false (by simp [wrap64])⟩
 ·have : (t + 1) % 18446744073709551616 = t + 1 := Nat.mod_eq_of_lt (by omega)
  rw [this]
  have a1 : (((t + 1 : Nat) : Int) - (t : Int)) = 1 := by omega
  have a2 : ((t : Int) - ((t + 1 : Nat) : Int)) = -1 := by omega
  rw [a1, a2, e1, e3]
  exact ⟨decide_eq_true (by simp [wrap64]), decide_eq_false (by simp [wrap64])⟩
theorem Q9H {t : Nat} : nxt t % 2 = (t + 1) % 2 := by unfold nxt; omega
theorem Q9I {D : Dv} {t r : Nat} (h : yn D = ((t, r), true)) : rdH (t % 2) (D.view (t % 2)) = some (t, r) := by
 unfold yn at h
 cases h0 : rdH 0 (D.view 0) with
 | none => rw [h0] at h; cases h1 : rdH 1 (D.view 1) <;> rw [h1] at h <;> cases h
 | some x =>
  cases h1 : rdH 1 (D.view 1) with
  | none => rw [h0, h1] at h; cases h
  | some y =>
   rw [h0, h1] at h
   simp only [nwst] at h
   split at h
   ·cases h
    rw [(Q9x h1).1]
    exact h1
   ·cases h
    rw [(Q9x h0).1]
    exact h0
theorem Q9J {D : Dv} {t r r' : Nat} (ht : t < 18446744073709551616) (h1 : rdH (t % 2) (D.view (t % 2)) = some (t, r)) (h2 : rdH (nxt t % 2) (D.view (nxt t % 2)) = some (nxt t, r')) : yn D = ((nxt t, r'), true) := by
 obtain ⟨n1, n2⟩ := Q9G ht
 unfold yn
 rw [Q9H] at h2
 rcases Nat.mod_two_eq_zero_or_one t with e | e
 ·have e' : (t + 1) % 2 = 1 := by omega
  rw [e] at h1
  rw [e'] at h2
  rw [h1, h2]
  simp [nwst, n1]
 ·have e' : (t + 1) % 2 = 0 := by omega
  rw [e] at h1
  rw [e'] at h2
  rw [h1, h2]
  simp [nwst, n2]
theorem Q9K {n : Nat} {c : Hd} {t : Tr} {D D0 D' : Dv} {tu' ro' : Nat} (hn : 2 <= n) (hL : D.L.length = n * 128) (hq : Fit n D.q) (h0 : Sy0 c D D0) (hk : SyOk c t D0 tu' ro' D') (hfr : FrW c.lt n (yw c t).2.ws) (hh : yn D = ((c.tu, c.ro), true)) (hro : c.ro = c.lt.pl) (htu : c.tu < 18446744073709551616) (hpl : (yw c t).1.pl < 65536) :
  yn D' = ((tu', ro'), true) /\ ro' = (yw c t).1.pl /\ tu' < 18446744073709551616 := by
 obtain ⟨hv, hL0, hq0⟩ := h0.view hL hq
 obtain ⟨_, hws2⟩ := Q9D c t
 have h1 : ∀ {D1 : Dv}, Wrs D0 (yw c t).2.ws D1 -> (∀ b, b < 2 -> D1.view b = D.view b) /\ D1.L.length = n * 128 /\ Fit n D1.q := by
  intro D1 hw
  refine ⟨fun b hb => ?_, by rw [hw.L]; exact hL0, ?_⟩
  ·rw [hw.other fun x hx e => hws2 x hx (by
    rw [e]
    refine List.mem_append_right _ ?_
    have : b = 0 \/ b = 1 := by omega
    rcases this with e | e <;> rw [e] <;> simp), hv]
  ·rw [hw.q]
   intro x hx
   rcases List.mem_append.1 hx with hx | hx
   ·exact hq0 x hx
   ·exact (hfr.1 x hx).2
 rcases hk with ⟨e1, rfl, rfl, hw⟩ | ⟨_, rfl, rfl, D1, D2, D3, hw, hf1, hwn, hf2⟩
 ·obtain ⟨a1, _, _⟩ := h1 hw
  refine ⟨?_, by rw [e1]; exact hro, htu⟩
  rw [<- hh]
  unfold yn
  rw [a1 0 (by omega), a1 1 (by omega)]
 ·obtain ⟨a1, a3, a4⟩ := h1 hw
  have hL2 : D2.L.length = n * 128 := by rw [hf1.L]; exact qR a3 a4
  have hi : nxt c.tu % 2 < 2 := Nat.mod_lt _ (by omega)
  have hq3 : Fit n D3.q := by
   rw [hwn.q, hf1.q]
   intro x hx
   simp at hx
   subst hx
   exact ⟨by show nxt c.tu % 2 < n; omega, qT _ _⟩
  have hnx : nxt c.tu < 18446744073709551616 := Nat.mod_lt _ (by omega)
  have hv' : ∀ b, b < 2 -> D'.view b = if nxt c.tu % 2 = b then blk (nxt c.tu) (yw c t).1.pl else D.view b := by
   intro b hb
   rw [hf2.view (by rw [hwn.L]; exact hL2) hq3, hwn.view]
   split
   ·rfl
   ·rw [hf1.view a3 a4, a1 b hb]
  refine ⟨Q9J (r := c.ro) htu ?_ ?_, rfl, hnx⟩
  ·rw [hv' _ (Nat.mod_lt _ (by omega)), if_neg (by rw [Q9H]; omega)]
   exact Q9I hh
  ·rw [hv' _ hi, if_pos rfl]
   exact Q9w hnx hpl
theorem gk (w : World) : Calls prog 141 #[.bool true] w fun e w' => e = .returned (.tuple #[]) /\ w' = w := by
 go_enter func141, ntmps141
 go_wp2
 go_end0
 exact ⟨rfl, rfl⟩
theorem gg (w : World) : Calls prog 141 #[.bool false] w fun e w' => Thr 7 e w' /\ y5 [] w w' := by
 go_enter func141, ntmps141
 go_wp2_with (go_at_call 46; refine (QD _ _ _).mono ?_; rintro e w4 ⟨ht, hk4⟩; obtain ⟨f, o, rfl, hf⟩ := ht.ex)
 exact ⟨rfl, ht, hk4⟩
structure Rst (w : World) (q g : Nat) (B R : List UInt8) : Prop where
 v : w.heap[q]? = some (.cells #[.slice (some ⟨g, 124 - R.length, none⟩) R.length (R.length + 4)] 217 (0, 0))
 b : w.heap[g]? = some (.cells (u8s B).toArray 80 (0, 0))
 l : B.length = 128
 r : R.length <= 122
 e : R = (B.drop (124 - R.length)).take R.length
theorem Rst.k {w w' : World} {q g : Nat} {B R : List UInt8} (h : Rst w q g B R) (k : y5 [] w w') : Rst w' q g B R := ⟨k.get h.v (by simp), k.get h.b (by simp), h.l, h.r, h.e⟩
theorem Rst.ne {w : World} {q g : Nat} {B R : List UInt8} (h : Rst w q g B R) : g ≠ q := yP h.b h.v (by decide)
theorem Q9L : (prog.info? 217).map (·.size) = some 1 := by kernel_rfl
theorem Rst.part {w : World} {q g : Nat} {B R : List UInt8} (h : Rst w q g B R) (n : Nat) (hn : n <= R.length) : (B.drop (124 - R.length)).take n = R.take n := by
 conv => rhs; rw [h.e]
 rw [List.take_take, Nat.min_eq_left hn]
theorem Rst.next {w w' : World} {q g : Nat} {B R : List UInt8} (h : Rst w q g B R) (n : Nat) (hn : n <= R.length) (k : y5 [q] w w') (hv : w'.heap[q]? = some (.cells #[.slice (some ⟨g, 124 - R.length + n, none⟩) (R.length - n) (R.length + 4 - n)] 217 (0, 0))) : Rst w' q g B (R.drop n) := by
 have hr := h.r
 have hl : (R.drop n).length = R.length - n := List.length_drop ..
 refine ⟨?_, k.get h.b (by simp; exact h.ne), h.l, by omega, ?_⟩
 ·rw [hl, show 124 - (R.length - n) = 124 - R.length + n by omega, show R.length - n + 4 = R.length + 4 - n by omega]
  exact hv
 ·rw [hl, show 124 - (R.length - n) = 124 - R.length + n by omega, <- List.drop_drop, <- List.drop_take, <- h.e]
theorem Q9M (q g : Nat) (B R : List UInt8) (n : Nat) (w : World) (h : Rst w q g B R) (hn : n <= R.length) :
  Calls prog 149 #[.pointer (some ⟨q, 0, none⟩), .int .i64 (n : Nat)] w fun e w' => e = .returned (.slice (some ⟨g, 124 - R.length, none⟩) n (R.length + 4)) /\ Rst w' q g B (R.drop n) /\ y5 [q] w w' := by
 have c0 : w.cell? ⟨q, 0, none⟩ = some (.slice (some ⟨g, 124 - R.length, none⟩) R.length (R.length + 4)) := y6 h.v rfl
 have hle : (n : Int) <= (R.length : Int) := by omega
 have hr := h.r
 have hs1 : ∀ W : World, (Instr.sliceAt 217 (.slice (some ⟨g, 124 - R.length, none⟩) R.length (R.length + 4)) none (some (.int .i64 (n : Nat))) none).run prog W = .ok (.slice (some ⟨g, 124 - R.length, none⟩) n (R.length + 4)) W := fun W => yq W 217 5 1 g (124 - R.length) R.length (R.length + 4) underlying217 su8 n (by omega)
 have hs2 : ∀ W : World, (Instr.sliceAt 217 (.slice (some ⟨g, 124 - R.length, none⟩) R.length (R.length + 4)) (some (.int .i64 (n : Nat))) none none).run prog W = .ok (.slice (some ⟨g, 124 - R.length + n, none⟩) (R.length - n) (R.length + 4 - n)) W := fun W => by
  rw [yi W 217 5 1 g (124 - R.length) R.length (R.length + 4) underlying217 su8 n hn]
  unfold yS
  rw [if_neg (by omega), Nat.mul_one]
 have HN : Hid (Calls _ _ _ _ _) := gk w
 have hv := h.v
 have HR : Hid (Rst w q g B R) := h
 clear h hr
 go_enter func149, ntmps149
 go_wp2_with (first
  | (go_at_call 141; refine HN.out.mono ?_; rintro e w1 ⟨rfl, ew⟩; rw [ew]; clear ew w1)
  | (refine y8 rfl _ _ (yu 217 (.tmp 15) none (some (.tmp 16)) none rfl _ none (some (.int .i64 (n : Nat))) none rfl rfl (by rfl) rfl _ (hs1 _)) ?_)
  | (refine y8 rfl _ _ (yu 217 (.tmp 21) (some (.tmp 22)) none none rfl _ (some (.int .i64 (n : Nat))) none none rfl (by rfl) rfl rfl _ (hs2 _)) ?_)
  | (refine gl rfl 217 (.tmp 24) (.tmp 23) rfl q 0 rfl (.slice (some ⟨g, 124 - R.length + n, none⟩) (R.length - n) (R.length + 4 - n)) rfl 217 _ hv Q9L rfl (by simp) ?_; intro w2 n2 k2))
 go_ret
 exact ⟨rfl, HR.out.next n hn k2 n2, k2⟩
theorem Q9N (q g : Nat) (B R : List UInt8) (n : Nat) (w : World) (h : Rst w q g B R) (hn : R.length < n) :
  Calls prog 149 #[.pointer (some ⟨q, 0, none⟩), .int .i64 (n : Nat)] w fun e w' => Thr 7 e w' /\ y5 [] w w' := by
 have c0 : w.cell? ⟨q, 0, none⟩ = some (.slice (some ⟨g, 124 - R.length, none⟩) R.length (R.length + 4)) := y6 h.v rfl
 have hle : ¬ (n : Int) <= (R.length : Int) := by omega
 have HN : Hid (Calls _ _ _ _ _) := gg w
 go_enter func149, ntmps149
 go_wp2_with (go_at_call 141; refine HN.out.mono ?_; rintro e w1 ⟨ht, hk⟩; obtain ⟨f, o, rfl, hf⟩ := ht.ex)
 exact ⟨rfl, ht, hk⟩
theorem Q9O (q g : Nat) (B R : List UInt8) (n : Nat) (w : World) (h : Rst w q g B R) (hn : n <= R.length) (h2 : n <= 2) :
  Calls prog 150 #[.pointer (some ⟨q, 0, none⟩), .int .i64 (n : Nat)] w fun e w' => e = .returned (.int .i64 (qe (R.take n) : Nat)) /\ Rst w' q g B (R.drop n) /\ y5 [q] w w' := by
 have HB : Hid (Calls _ _ _ _ _) := Q9M q g B R n w h hn
 have HM : Hid (∀ W, Rst W q g B (R.drop n) -> Calls prog 120 #[.slice (some ⟨g, 124 - R.length, none⟩) n (R.length + 4)] W fun e w' => e = .returned (.int .u64 (qe (R.take n) : Nat)) /\ w' = W) := by
  intro W hW
  have := Q1h g (124 - R.length) (R.length + 4) n n B 80 (0, 0) W hW.b (by rw [h.part n hn, List.length_take]; omega) (by omega)
  rw [h.part n hn] at this
  exact this
 have hlt : qe (R.take n) < 65536 := by
  have h1 := Ql (R.take n)
  have h3 : (R.take n).length <= 2 := by rw [List.length_take]; omega
  have : 2 ^ (8 * (R.take n).length) <= 2 ^ 16 := Nat.pow_le_pow_right (by omega) (by omega)
  omega
 generalize qe (R.take n) = m at *
 clear h
 go_enter func150, ntmps150
 go_wp2_with (first
  | (go_at_call 149; refine HB.out.mono ?_; rintro e w1 ⟨rfl, hr1, hk1⟩)
  | (go_at_call 120; refine (HM.out _ hr1).mono ?_; rintro e w2 ⟨rfl, ew⟩; rw [ew]; clear ew w2))
 go_ret
 exact ⟨rfl, hr1, hk1⟩
theorem Q9P (q g : Nat) (B R : List UInt8) (n : Nat) (w : World) (h : Rst w q g B R) (hn : R.length < n) :
  Calls prog 150 #[.pointer (some ⟨q, 0, none⟩), .int .i64 (n : Nat)] w fun e w' => Thr 7 e w' /\ y5 [] w w' := by
 have HB : Hid (Calls _ _ _ _ _) := Q9N q g B R n w h hn
 clear h
 go_enter func150, ntmps150
 go_wp2_with (go_at_call 149; refine HB.out.mono ?_; rintro e w1 ⟨ht, hk⟩; obtain ⟨f, o, rfl, hf⟩ := ht.ex)
 exact ⟨rfl, ht, hk⟩
def TkE (q g : Nat) (B : List UInt8) {α : Type} (enc : α -> Value) (o : Option (α × List UInt8)) (w : World) (e : Ending) (w' : World) : Prop :=
 (match o with
  | some (x, R') => e = .returned (enc x) /\ Rst w' q g B R'
  | none => Thr 7 e w') /\ y5 [q] w w'
theorem Q9Q (c : UInt8) (r : List UInt8) : qe ((c :: r).take 1) = c.toNat := by
 simp [qe]
theorem Q9R (q g : Nat) (B R : List UInt8) (m : Nat) (w : World) (h : Rst w q g B R) :
  Calls prog 148 #[.pointer (some ⟨q, 0, none⟩), .int .i64 (m : Nat)] w (TkE q g B Value.string (j2 m R) w) := by
 cases R with
 | nil =>
  have HB : Hid (Calls _ _ _ _ _) := Q9P q g B [] 1 w h (by simp)
  clear h
  go_enter func148, ntmps148
  go_wp2_with (go_at_call 150; refine HB.out.mono ?_; rintro e w1 ⟨ht, hk⟩; obtain ⟨f, o, rfl, hf⟩ := ht.ex)
  exact ⟨rfl, ht, hk.mono (by simp)⟩
 | cons c r =>
  have HB := Q9O q g B (c :: r) 1 w h (by simp) (by omega)
  rw [Q9Q] at HB
  have HB' : Hid (Calls _ _ _ _ _) := HB
  have hc := c.toNat_lt
  clear HB
  by_cases h1 : c.toNat <= m
  ·have h1' : (c.toNat : Int) <= (m : Int) := by omega
   by_cases h2 : c.toNat <= r.length
   ·have HY : Hid (∀ W, Rst W q g B r -> Calls prog 149 #[.pointer (some ⟨q, 0, none⟩), .int .i64 (c.toNat : Nat)] W fun e w' => e = .returned (.slice (some ⟨g, 124 - r.length, none⟩) c.toNat (r.length + 4)) /\ Rst w' q g B (r.drop c.toNat) /\ y5 [q] W w') := fun W hW => Q9M q g B r c.toNat W hW h2
    have hcv : ∀ W, Rst W q g B (r.drop c.toNat) -> (convert 83 9 (.slice (some ⟨g, 124 - r.length, none⟩) c.toNat (r.length + 4))).run prog W = .ok (.string ⟨(r.take c.toNat).toArray⟩) W := by
     intro W hW
     have hl : (r.take c.toNat).length = c.toNat := by rw [List.length_take]; omega
     have hpart : (B.drop (124 - r.length)).take c.toNat = r.take c.toNat := by
      have he := h.e
      have hr := h.r
      simp only [List.length_cons] at he hr
      have e1 : r = (B.drop (124 - r.length)).take r.length := by
       have e2 := congrArg (List.drop 1) he
       rw [List.drop_succ_cons, List.drop_zero, List.drop_take, List.drop_drop] at e2
       rw [show 124 - (r.length + 1) + 1 = 124 - r.length by omega, Nat.add_sub_cancel] at e2
       exact e2
      conv => rhs; rw [e1]
      rw [List.take_take, Nat.min_eq_left h2]
     have := run_convert_bytes_back (P := prog) W 83 9 5 ⟨g, 124 - r.length, none⟩ (r.length + 4) (r.take c.toNat) underlying83 underlying5 underlying9 (by
      intro j hj
      rw [add_lit, cell_of_row _ _ _ _ _ _ hW.b]
      have h3 := Q1f B (124 - r.length) c.toNat j (by rw [hpart]; exact hj)
      simp only [hpart] at h3
      exact h3)
     rw [hl] at this
     exact this
    have HCv : Hid _ := hcv
    have HT : Hid (j2 m (c :: r) = some (⟨(r.take c.toNat).toArray⟩, r.drop c.toNat)) := by show _ = _; simp only [j2]; rw [if_pos ⟨h1, h2⟩]
    clear hcv h
    go_enter func148, ntmps148
    go_wp2_with (first
     | (go_at_call 150; refine HB'.out.mono ?_; rintro e w1 ⟨rfl, hr1, hk1⟩)
     | (go_at_call 141; refine (gk _).mono ?_; rintro e w2 ⟨rfl, ew⟩; rw [ew]; clear ew w2)
     | (go_at_call 149; refine (HY.out _ hr1).mono ?_; rintro e w3 ⟨rfl, hr3, hk3⟩; have hcv3 := HCv.out w3 hr3))
    go_ret
    rw [HT.out]
    exact ⟨⟨rfl, hr3⟩, hk1.trans hk3⟩
   ·have HY : Hid (∀ W, Rst W q g B r -> Calls prog 149 #[.pointer (some ⟨q, 0, none⟩), .int .i64 (c.toNat : Nat)] W fun e w' => Thr 7 e w' /\ y5 [] W w') := fun W hW => Q9N q g B r c.toNat W hW (by omega)
    have HT : Hid (j2 m (c :: r) = none) := by show _ = _; simp only [j2]; rw [if_neg (by omega)]
    clear h
    go_enter func148, ntmps148
    go_wp2_with (first
     | (go_at_call 150; refine HB'.out.mono ?_; rintro e w1 ⟨rfl, hr1, hk1⟩)
     | (go_at_call 141; refine (gk _).mono ?_; rintro e w2 ⟨rfl, ew⟩; rw [ew]; clear ew w2)
     | (go_at_call 149; refine (HY.out _ hr1).mono ?_; rintro e w3 ⟨ht, hk3⟩; obtain ⟨f, o, rfl, hf⟩ := ht.ex))
    refine ⟨rfl, ?_⟩
    rw [HT.out]
    exact ⟨ht, hk1.trans2 hk3 (by simp)⟩
  ·have h1' : ¬ (c.toNat : Int) <= (m : Int) := by omega
   have HT : Hid (j2 m (c :: r) = none) := by show _ = _; simp only [j2]; rw [if_neg (by omega)]
   clear h
   go_enter func148, ntmps148
   go_wp2_with (first
    | (go_at_call 150; refine HB'.out.mono ?_; rintro e w1 ⟨rfl, hr1, hk1⟩)
    | (go_at_call 141; refine (gg _).mono ?_; rintro e w3 ⟨ht, hk3⟩; obtain ⟨f, o, rfl, hf⟩ := ht.ex))
   refine ⟨rfl, ?_⟩
   rw [HT.out]
   exact ⟨ht, hk1.trans2 hk3 (by simp)⟩
end Go.Proofs.YtcklgafpgdhnaabGreatDoor
