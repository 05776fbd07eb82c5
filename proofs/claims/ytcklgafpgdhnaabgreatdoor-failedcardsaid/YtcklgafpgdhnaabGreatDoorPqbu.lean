import Derived.Test.YtcklgafpgdhnaabGreatDoorPqbf
import Derived.Test.YtcklgafpgdhnaabGreatDoorPqbt
import Derived.Test.YtcklgafpgdhnaabGreatDoorPqbb
import Derived.Test.YtcklgafpgdhnaabGreatDoorPqac
set_option maxRecDepth 100000
set_option maxHeartbeats 4000000
open Go.Proofs.Tryz
namespace Go.Proofs.YtcklgafpgdhnaabGreatDoor
open Go.RowKit
structure Sd (n : Nat) (c : Hd) (t : Tr) (D : Dv) : Prop where
 s : c.s = 1 \/ c.s = 2
 st : StK n D.view c.lt t
 gd : qc D
 q : D.q = []
 hd : yn D = ((c.tu, c.ro), true)
 ro : c.ro = c.lt.pl
 tu : c.tu < 18446744073709551616
structure Smg (w0 : World) (x a : Nat) (bv : Value) (n : Nat) (cv : Value) (c : Hd) (t : Tr) (D : Dv) (w : World) : Prop where
 rc : ∃ v r, Rec x v a n c r t w
 dq : DQ w a bv n cv D
 k : y5 [] w0 w
 fx : w0.heap.size <= x
 fd : ∀ y ∈ ym a bv cv, w0.heap.size <= y
abbrev Smm (w0 : World) (x a : Nat) (bv : Value) (n : Nat) (c : Hd) (t : Tr) (D : Dv) (w : World) : Prop := Smg w0 x a bv n (.slice none 0 0) c t D w
def ft (x a : Nat) (bv : Value) : List Nat := x :: ym a bv (.slice none 0 0)
def Rm (n : Nat) (l : List Pr) : Prop := 4 * l.length + 8 <= 3 * n
theorem Rm.cnt {n : Nat} {t : Tr} (h : Rm n (y7 t)) (hn : 8 <= n) (ht : TW t) : ¬ (n - 2) / 2 < qH t := by
 have := Q3d t ht
 unfold Rm at h
 omega
theorem Rm.two {n : Nat} {t u : Tr} (h : Rm n (y7 t)) (g : Rm n (y7 u)) (hn : 8 <= n) (ht : TW t) (hu : TW u) : qH t + 2 + qH u <= n := by
 have h1 := Q3d t ht
 have h2 := Q3d u hu
 unfold Rm at h g
 omega
section
variable {w0 w w' : World} {x a : Nat} {bv : Value} {n : Nat} {c : Hd} {t : Tr} {D : Dv}
theorem Smg.k0 {cv : Value} (h : Smg w0 x a bv n cv c t D w) (k : y5 [] w w') : Smg w0 x a bv n cv c t D w' := by
 obtain ⟨v, r, hr⟩ := h.rc
 exact ⟨⟨v, r, hr.k k⟩, h.dq.k0 k, h.k.trans k, h.fx, h.fd⟩
theorem Smg.no {cv : Value} (h : Smg w0 x a bv n cv c t D w) : x ∉ ym a bv cv := by
 obtain ⟨v, r, hr⟩ := h.rc
 exact h.dq.no hr.row (by decide)
theorem Smm.old (h : Smm w0 x a bv n c t D w) (k : y5 (ft x a bv) w w') : y5 [] w0 w' := h.k.trans2 k fun y hy => by
 rcases List.mem_cons.1 hy with rfl | hy
 ·exact Or.inr h.fx
 ·exact Or.inr (h.fd y hy)
theorem Sd.put {k y : ByteArray} (h : Sd n c t D) (hk : jy k) (hy : y.size <= 12) : Sd n c (qP (yL k y) k t) D := { h with st := h.st.chg (Zn k y hk hy) }
theorem StK.del {lk : Nat -> List UInt8} {lt : Tr} {k : ByteArray} (h : StK n lk lt t) : StK n lk lt (delT k t) := by
 unfold delT
 split
 ·exact h.chg (ZU k)
 ·exact h
theorem Smg.put {cv : Value} {k y : ByteArray} (h : Smg w0 x a bv n cv c t D w) (hs : c.s = 1 \/ c.s = 2) (ht : TW t) (hk : jy k) (hy : y.size <= 12) (h8 : 8 <= n) (h4 : n <= 400) (hr : Rm n (yL k y (y7 t))) :
  Calls prog 20 #[.pointer (some ⟨x, 0, none⟩), .string k, .string y] w fun e w' => e = .returned .nilIface /\ Smg w0 x a bv n cv c (qP (yL k y) k t) D w' /\ y5 [x] w w' := by
 obtain ⟨v, r, hR⟩ := h.rc
 obtain ⟨htw, hfl⟩ := Q39 (Zn k y hk hy) t ht
 have hro : ¬ (n - 2) / 2 < qH (qP (yL k y) k t) := Rm.cnt (by rw [hfl]; exact hr) h8 htw
 refine (Q8q x v a n c r t k y w hR hs ht hk hy h8 h4 hro).mono ?_
 rintro e w' ⟨err, rfl, ⟨rfl, r', hr'⟩, hk'⟩
 exact ⟨rfl, ⟨⟨v, r', hr'⟩, h.dq.k1 hk' h.no, h.k.trans2 hk' (by intro q hq; simp at hq; subst hq; exact Or.inr h.fx), h.fx, h.fd⟩, hk'⟩
theorem Smg.del {cv : Value} {k : ByteArray} (h : Smg w0 x a bv n cv c t D w) (hs : c.s = 1 \/ c.s = 2) (ht : TW t) (hk : jy k) :
  Calls prog 30 #[.pointer (some ⟨x, 0, none⟩), .string k] w fun e w' => e = .returned .nilIface /\ Smg w0 x a bv n cv c (delT k t) D w' /\ y5 [x] w w' := by
 obtain ⟨v, r, hR⟩ := h.rc
 refine (Q8h x v a n c r t k w hR ht hs hk).mono ?_
 rintro e w' ⟨err, rfl, ⟨rfl, r', hr'⟩, hk'⟩
 exact ⟨rfl, ⟨⟨v, r', hr'⟩, h.dq.k1 hk' h.no, h.k.trans2 hk' (by intro q hq; simp at hq; subst hq; exact Or.inr h.fx), h.fx, h.fd⟩, hk'⟩
theorem Smm.put {k y : ByteArray} (h : Smm w0 x a bv n c t D w) (hs : Sd n c t D) (hk : jy k) (hy : y.size <= 12) (h8 : 8 <= n) (h4 : n <= 400) (hr : Rm n (yL k y (y7 t))) :
  Calls prog 20 #[.pointer (some ⟨x, 0, none⟩), .string k, .string y] w fun e w' => e = .returned .nilIface /\ Smm w0 x a bv n c (qP (yL k y) k t) D w' /\ y5 [x] w w' := Smg.put h hs.s hs.st.tw hk hy h8 h4 hr
end
theorem QbU {n : Nat} {lk : Nat -> List UInt8} {c : Hd} {t : Tr} (h : StK n lk c.lt t) (e : (yw c t).1.pl = c.lt.pl) : (yw c t).2.ws = [] := by
 unfold yw at *
 cases hn : qO t.h t.n with
 | true =>
  have e : (QW t ⟨usL c.lt, []⟩).2 = ⟨usL c.lt, []⟩ := by unfold QW; simp [hn]
  rw [e]
 | false =>
  rw [Zs hn] at *
  by_cases hz : t.pl = 0
  ·exfalso
   have e1 : qh t.h ⟨yp, t.n, t.pl⟩ ⟨usL c.lt, []⟩ = _ := Qu (k := rtK t) hz ⟨usL c.lt, []⟩
   rw [e1] at e
   have e : tk (qa t.h t.n ⟨usL c.lt, []⟩).2.us = c.lt.pl := e
   have h1 := Q5U (qa t.h t.n ⟨usL c.lt, []⟩).2.us
   obtain ⟨ws, _, h2, _, _⟩ := Stp.ws (QM t.h t.n ⟨usL c.lt, []⟩).1
   rw [e, h2] at h1
   apply h1
   apply List.mem_append_right
   show c.lt.pl ∈ usL c.lt
   unfold usL
   cases hl : qO c.lt.h c.lt.n with
   | true => rw [h.ltw.nil hl]; simp
   | false => exact List.mem_append_left _ (List.mem_reverse.2 (by unfold qU; rw [hl]; simp))
  ·rw [show qh t.h ⟨yp, t.n, t.pl⟩ ⟨usL c.lt, []⟩ = _ from jC (k := rtK t) hz ⟨usL c.lt, []⟩]
theorem StK.lpl {n : Nat} {lk : Nat -> List UInt8} {lt t : Tr} (h : StK n lk lt t) (hn : n <= 65536) : lt.pl < 65536 := by
 cases hl : qO lt.h lt.n with
 | true => rw [h.ltw.nil hl]; omega
 | false =>
  have := h.ub lt.pl (by unfold qU; rw [hl]; simp)
  omega
def syN (c : Hd) (t : Tr) : Nat := if (yw c t).1.pl = c.lt.pl then 0 else (yw c t).2.ws.length + 1
theorem Smm.sync {w0 w : World} {x a : Nat} {bv : Value} {n : Nat} {c : Hd} {t : Tr} {D : Dv} (h : Smm w0 x a bv n c t D w) (hs : Sd n c t D) (h8 : 8 <= n) (h4 : n <= 400) (hr : Rm n (y7 t)) (hl : Rm n (y7 c.lt)) (htu : c.tu + 1 < 18446744073709551616) :
  Calls prog 13 #[.pointer (some ⟨x, 0, none⟩)] w fun e w' => e = .returned .nilIface /\ y5 (ft x a bv) w w' /\ ∃ c' D', Smm w0 x a bv n c' c'.lt D' w' /\ Sd n c' c'.lt D' /\ c'.s = 2 /\ c'.lt = (yw c t).1 /\ y7 c'.lt = y7 t /\ c.tu <= c'.tu /\ c'.tu <= c.tu + 1 /\ D'.wr = wrN (syN c t) D.wr := by
 obtain ⟨v, r, hR⟩ := h.rc
 have hnx : nxt c.tu = c.tu + 1 := Nat.mod_eq_of_lt htu
 refine (Q9F x v a n _ _ c r t D w hR hs.s h.dq hs.st hs.gd h8 h4 (by rw [hs.q]; simp) (by rw [hnx]; omega) (Rm.two hl hr h8 hs.st.ltw hs.st.tw)).mono ?_
 rintro e w' ⟨rfl, hk, cv', D', r', tu', ro', D0, hd', hR', hst', hg', h0, hok, hfr⟩
 obtain ⟨hhd, hro, htu'⟩ := Q9K (by omega) h.dq.l h.dq.q h0 hok hfr hs.hd hs.ro hs.tu (hst'.lpl (by omega))
 have hw0 : D0.q = [] /\ D0.wr = D.wr := by
  rcases h0 with ⟨_, hf⟩ | ⟨_, rfl⟩
  ·exact ⟨hf.q, hf.wr⟩
  ·exact ⟨hs.q, rfl⟩
 have hq' : D'.q = [] /\ D'.wr = wrN (syN c t) D.wr /\ c.tu <= tu' /\ tu' <= c.tu + 1 := by
  unfold syN
  rcases hok with ⟨e1, e2, _, hw⟩ | ⟨e1, e2, _, D1, D2, D3, hw, hf1, hwn, hf2⟩
  ·have e3 := QbU hs.st e1
   rw [e3] at hw
   refine ⟨by rw [hw.q, hw0.1]; rfl, ?_, by omega, by omega⟩
   rw [if_pos e1, hw.wr, hw0.2]
   rfl
  ·refine ⟨hf2.q, ?_, by omega, by omega⟩
   rw [if_neg e1, hf2.wr, hwn.wr, hf1.wr, hw.wr, hw0.2]
   rfl
 obtain rfl := hd'.z hq'.1
 have hold := h.old hk
 exact ⟨rfl, hk, ⟨2, tu', ro', (yw c t).1, r'⟩, D', ⟨⟨v, r', hR'⟩, hd', hold, h.fx, h.fd⟩, ⟨Or.inr rfl, hst', hg', hq'.1, hhd, hro, htu'⟩, rfl, rfl, (QA c t).1, hq'.2.2.1, hq'.2.2.2, hq'.2.1⟩
theorem QbV {w0 w : World} {a g n : Nat} {L : List UInt8} {c wr t : Int} (h : Dev w a g n L c wr t) (h8 : 8 <= n) (h4 : n <= 400) (hs : St 1 L) (hk : y5 [] w0 w) (ha : w0.heap.size <= a) (hg : w0.heap.size <= g) : Calls prog 17 #[.pointer (some ⟨a, 0, none⟩)] w fun e w' =>
  ∃ x c D, e = .returned (.tuple #[.pointer (some ⟨x, 0, none⟩), .nilIface]) /\ Smm w0 x a (.slice (some ⟨g, 0, none⟩) n n) n c c.lt D w' /\ Sd n c c.lt D /\ y7 c.lt = [] /\ c.tu = 2 /\ D.wr = wr /\ y5 [a] w w' := by
 refine QaJ a w _ ((QbT h h8 h4 (by omega) hs).mono ?_)
 rintro e w' ⟨o, pv, err, D', rfl, hc, hd, hkk, h1 | h1 | ⟨rfl, h2, _, t', r, x, v, h3, rfl, h5, h6⟩⟩
 ·exact absurd (Dev.good L c wr t) h1.2.1.bad
 ·rcases h1.2.2.2 with h2 | h2
  ·cases h2
  ·cases h2
 ·have herr : err = .nilIface := hc
  subst herr
  simp only [Option.some.injEq] at h3
  subst h3
  have hsz := hk.size
  refine ⟨_, _, rfl, x, _, D', rfl, ⟨⟨v, r, h5⟩, hd, hk.trans2 hkk (by intro q hq; simp at hq; subst hq; exact Or.inr ha), by omega, (fun y hy => by simp [ym, Value.ownBlock] at hy; rcases hy with rfl | rfl <;> assumption)⟩, ⟨Or.inl rfl, StK.none n _, h2.good.2 ⟨rfl, rfl, rfl⟩, h2.q, ?_, rfl, ?_⟩, rfl, rfl, h2.wr, hkk⟩
  ·have e1 : yn D' = yn (Dq L c wr t) := by
    unfold yn
    rw [h2.view, h2.view]
   rw [e1, hs.newest (by omega)]
   rfl
  ·show 2 < 18446744073709551616
   omega
theorem QbW {α : Type} [DecidableEq α] : ∀ {l m : List α}, l.Nodup -> (∀ x ∈ l, x ∈ m) -> l.length <= m.length
 | [], _, _, _ => Nat.zero_le _
 | a :: l, m, h, hs => by
  rw [List.nodup_cons] at h
  have h1 := hs a (by simp)
  have h2 : ∀ x ∈ l, x ∈ m.erase a := fun x hx => (List.mem_erase_of_ne (fun e => h.1 (by rw [<- e]; exact hx))).2 (hs x (by simp [hx]))
  have h3 := QbW h.2 h2
  rw [List.length_erase_of_mem h1] at h3
  have : 0 < m.length := List.length_pos_of_mem h1
  simp only [List.length_cons]
  omega
theorem QbX {α : Type} {l m : List α} (h : l.Nodup) (hs : ∀ x ∈ l, x ∈ m) : l.length <= m.length := by
 classical
 exact QbW h hs
def Am (m : List ByteArray) (l : List Pr) : Prop := ∀ p ∈ l, p.1 ∈ m
theorem Srt.nodup {l : List Pr} (h : Srt l) : (l.map fun p => p.1).Nodup := by
 unfold List.Nodup
 rw [List.pairwise_map]
 refine List.Pairwise.imp ?_ h
 intro p q hpq e
 rw [e] at hpq
 exact absurd hpq (by simp [gU])
theorem Am.len {m : List ByteArray} {t : Tr} (h : Am m (y7 t)) (ht : TW t) : (y7 t).length <= m.length := by
 have h1 := Srt.nodup (WFN.srt ht.wf)
 have h2 := QbX h1 (m := m) (by
  intro x hx
  obtain ⟨p, hp, rfl⟩ := List.mem_map.1 hx
  exact h p hp)
 rw [List.length_map] at h2
 exact h2
theorem Am.put {m : List ByteArray} {l : List Pr} {k y : ByteArray} (h : Am m l) (hk : k ∈ m) : Am m (yL k y l) := by
 intro p hp
 rcases ZR hp with rfl | hp
 ·exact hk
 ·exact h p hp
theorem Am.del {m : List ByteArray} {l : List Pr} {k : ByteArray} (h : Am m l) : Am m (yx k l) := fun p hp => h p (Q2G hp)
theorem QbY {i : Nat} {A B : List UInt8} (h : A.take 32 = B.take 32) : rdH i A = rdH i B := by
 unfold rdH
 rw [Zt A 8 8 32 (by omega), Zt A 16 2 32 (by omega), Zt B 8 8 32 (by omega), Zt B 16 2 32 (by omega), h]
theorem QbZ {c : Nat -> Bool} {L : List UInt8} {x : Wt} {n : Nat} (hL : L.length = n * 128) (hx : x.1 < n) (h2 : x.2.length = 128) {j : Nat} (hj : x.1 ≠ j) : ∀ s, s <= 4 -> yz (svN c L x s) j = yz L j
 | 0, _ => rfl
 | s + 1, hs => by
  have ih := QbZ (c := c) hL hx h2 hj s (by omega)
  have hl := jf (c := c) hL hx h2 s (by omega)
  have hc : ((x.2.drop (s * 32)).take 32).length = 32 := by rw [List.length_take, List.length_drop]; omega
  rw [svN]
  split
  ·unfold yz put1 at *
   rw [jQ (by rw [hc]; omega) (by rw [hc]; omega), ih]
  ·exact ih
theorem Qc0 (L : List UInt8) (i : Nat) : (yz L i).take 32 = (L.drop (i * 128)).take 32 := by unfold yz; rw [List.take_take, Nat.min_eq_left (by omega)]
theorem Qc1 {c : Nat -> Bool} {L : List UInt8} {x : Wt} {n : Nat} (hL : L.length = n * 128) (hx : x.1 < n) (h2 : x.2.length = 128) : ∀ s, s <= 4 -> (yz (svN c L x s) x.1).take 32 = x.2.take 32 \/ (yz (svN c L x s) x.1).take 32 = (yz L x.1).take 32
 | 0, _ => Or.inr rfl
 | s + 1, hs => by
  have ih := Qc1 (c := c) hL hx h2 s (by omega)
  have hl := jf (c := c) hL hx h2 s (by omega)
  have hc : ((x.2.drop (s * 32)).take 32).length = 32 := by rw [List.length_take, List.length_drop]; omega
  rw [svN]
  split
  ·rw [Qc0] at *
   unfold put1
   cases s with
   | zero =>
    left
    rw [Nat.zero_mul, Nat.add_zero, Q9q (by rw [Nat.zero_mul] at hc; rw [hc]; omega) _ (by rw [Nat.zero_mul] at hc; rw [hc])]
    rfl
   | succ s =>
    rw [jQ (by rw [hc]; omega) (by rw [hc]; omega)]
    exact ih
  ·exact ih
theorem Sr.nil_eq {L L1 : List UInt8} (h : Sr L [] L1) : L1 = L := by
 generalize e : ([] : List Wt) = q at h
 cases h with
 | nil => rfl
 | snoc h x c => simp at e
theorem Sr.one {L L1 : List UInt8} {x : Wt} (h : Sr L [x] L1) : ∃ c, L1 = svN c L x 4 := by
 generalize e : [x] = q at h
 cases h with
 | nil => cases e
 | @snoc q' L2 h y c =>
  have e : ([] : List Wt) ++ [x] = q' ++ [y] := e
  obtain ⟨e1, e2⟩ := List.append_inj' e rfl
  cases e2
  subst e1
  rw [h.nil_eq]
  exact ⟨c, rfl⟩
theorem Sr.other {L L1 : List UInt8} {q : List Wt} {n : Nat} (h : Sr L q L1) (hL : L.length = n * 128) (hq : Fit n q) {j : Nat} (hj : ∀ x ∈ q, x.1 ≠ j) : yz L1 j = yz L j := by
 induction h with
 | nil => rfl
 | @snoc q' L2 h x c ih =>
  have hq' : Fit n q' := fun y hy => hq y (by simp [hy])
  rw [QbZ (h.len hL hq') (hq x (by simp)).1 (hq x (by simp)).2 (hj x (by simp)) 4 (by omega)]
  exact ih hq' fun y hy => hj y (by simp [hy])
theorem Whl.agree {n : Nat} {lk lk' : Nat -> List UInt8} {t : Tr} (h : Whl n lk t) (ha : ∀ b ∈ qU t, lk' b = lk b) : Whl n lk' t := by
 rw [h.pre] at ha
 exact ⟨h.tw, h.nil, by rw [ha _ (by simp)]; exact h.at_, h.lies.agree fun b hb => ha b (by simp [hb]), h.nd, h.off, h.frs⟩
theorem StK.agree {n : Nat} {lk lk' : Nat -> List UInt8} {lt t : Tr} (h : StK n lk lt t) (ha : ∀ b ∈ qU lt, lk' b = lk b) : StK n lk' lt lt := by
 cases hn : qO lt.h lt.n with
 | false => exact ((h.whl hn).agree ha).stk
 | true =>
  have hp := h.ltw.nil hn
  obtain ⟨hh, nn, pl⟩ := lt
  cases hh with
  | succ hh => cases hn
  | zero =>
   have : nn = ([] : List Pr) := List.isEmpty_iff.1 hn
   subst this
   have hp : pl = 0 := hp
   subst hp
   exact StK.none n lk'
theorem gE (L : List UInt8) (i : Nat) : (Dv.new L).view i = yz L i := rfl
theorem Qj {D : Dv} (h : D.q = []) (i : Nat) : D.view i = yz D.L i := by unfold Dv.view; rw [h]; rfl
structure Fnd (n : Nat) (L : List UInt8) (tu ro : Nat) (T : Tr) : Prop where
 len : L.length = n * 128
 hd : yn (.new L) = ((tu, ro), true)
 ro : ro = T.pl
 st : StK n (Dv.new L).view T T
 tu : tu < 18446744073709551616
theorem Fnd.tree {n : Nat} {L : List UInt8} {tu ro : Nat} {T : Tr} (h : Fnd n L tu ro T) (hn : n <= 65536) : QU n (.new L) = some T := h.st.found (by rw [h.hd]; exact h.ro) hn
structure Pre (n : Nat) (c : Hd) (t : Tr) (D : Dv) : Prop where
 st : StK n D.view c.lt t
 q : D.q = []
 hd : yn D = ((c.tu, c.ro), true)
 ro : c.ro = c.lt.pl
 tu : c.tu < 18446744073709551616
 l : D.L.length = n * 128
 n8 : 8 <= n
 n4 : n <= 400
section
variable {n : Nat} {c : Hd} {t : Tr} {D D0 D' : Dv} {L1 : List UInt8}
theorem Pre.old (h : Pre n c t D) (hl : L1.length = n * 128) (hv : ∀ b ∈ qU c.lt, yz L1 b = D.view b) (h0 : (yz L1 0).take 32 = (D.view 0).take 32) (h1 : (yz L1 1).take 32 = (D.view 1).take 32) : Fnd n L1 c.tu c.ro c.lt := by
 refine ⟨hl, ?_, h.ro, h.st.agree fun b hb => ?_, h.tu⟩
 ·rw [<- h.hd]
  unfold yn
  rw [gE, gE, QbY h0, QbY h1]
 ·rw [gE]; exact hv b hb
theorem Pre.self (h : Pre n c t D) : Fnd n D.L c.tu c.ro c.lt := h.old h.l (fun b _ => (Qj h.q b).symm) (by rw [Qj h.q]) (by rw [Qj h.q])
theorem Pre.d0 (h : Pre n c t D) (h0 : Sy0 c D D0) : D0.L = D.L /\ D0.q = [] /\ D0.wr = D.wr := by
 rcases h0 with ⟨_, hf⟩ | ⟨_, rfl⟩
 ·exact ⟨by rw [hf.L, h.q]; rfl, hf.q, hf.wr⟩
 ·exact ⟨rfl, h.q, rfl⟩
theorem Pre.ok (h : Pre n c t D) (hb : Bd n (yw c t).2) {tu' ro' : Nat} (h0 : Sy0 c D D0) (hk : SyOk c t D0 tu' ro' D') (hfr : FrW c.lt n (yw c t).2.ws) : D'.q = [] /\ Fnd n D'.L tu' ro' (yw c t).1 /\ (tu' = c.tu \/ tu' = nxt c.tu) := by
 have hn2 : 2 <= n := by have := h.n8; omega
 have hqf : Fit n D.q := by rw [h.q]; exact fun x hx => by cases hx
 have hst := Q9E h.st hn2 h.l hqf h0 hk hb hfr
 obtain ⟨a1, a2, a3⟩ := Q9K hn2 h.l hqf h0 hk hfr h.hd h.ro h.tu (hst.lpl (by have := h.n4; omega))
 obtain ⟨e1, e2, _⟩ := h.d0 h0
 have key : D'.q = [] /\ D'.L.length = n * 128 := by
  have hF : ∀ {D1 : Dv}, Wrs D0 (yw c t).2.ws D1 -> D1.L.length = n * 128 /\ Fit n D1.q := fun hw => ⟨by rw [hw.L, e1]; exact h.l, by
   rw [hw.q, e2]
   exact fun x hx => (hfr.1 x (by simpa using hx)).2⟩
  rcases hk with ⟨b1, _, _, hw⟩ | ⟨_, _, _, D1, D2, D3, hw, hf1, hwn, hf2⟩
  ·have b3 := QbU h.st b1
   refine ⟨by rw [hw.q, e2, b3]; rfl, (hF hw).1⟩
  ·refine ⟨hf2.q, ?_⟩
   rw [hf2.L]
   refine qR (by rw [hwn.L, hf1.L]; exact qR (hF hw).1 (hF hw).2) ?_
   rw [hwn.q, hf1.q]
   intro x hx
   simp at hx
   subst hx
   exact ⟨by show nxt c.tu % 2 < n; have := Nat.mod_lt (nxt c.tu) (show 0 < 2 by omega); omega, qT _ _⟩
 refine ⟨key.1, ⟨key.2, ?_, a2, ?_, a3⟩, ?_⟩
 ·rw [<- a1]
  unfold yn
  rw [gE, gE, Qj key.1, Qj key.1]
 ·have : (Dv.new D'.L).view = D'.view := funext fun i => by rw [gE, Qj key.1]
  rw [this]
  exact hst
 ·rcases hk with ⟨_, b2, _⟩ | ⟨_, b2, _⟩
  ·exact Or.inl b2
  ·exact Or.inr b2
theorem Pre.bad (h : Pre n c t D) (hb : Bd n (yw c t).2) {o : Int} (h0 : Sy0 c D D0) (hk : Q8K c t n D0 o D') (hs : Sr D'.L D'.q L1) : Fnd n L1 c.tu c.ro c.lt \/ Fnd n L1 (nxt c.tu) (yw c t).1.pl (yw c t).1 := by
 obtain ⟨e1, e2, _⟩ := h.d0 h0
 have hn2 : 2 <= n := by have := h.n8; omega
 obtain ⟨hws1, hws2⟩ := Q9D c t
 have hus : ∀ b ∈ qU c.lt, b ∈ usL c.lt := fun b hb => Q9m hb
 have h01 : 0 ∈ usL c.lt /\ 1 ∈ usL c.lt := ⟨List.mem_append_right _ (by simp), List.mem_append_right _ (by simp)⟩
 have hview : ∀ b, D.view b = yz D.L b := Qj h.q
 rcases hk with ⟨ws, D1, hfr, hw, ⟨_, he⟩ | ⟨_, _, hno⟩⟩ | ⟨_, hfr, D1, D2, hw, hf, hcase⟩
 ·left
  have hL : D'.L = D.L := by rw [he.L, hw.L, e1]
  have hq : D'.q = ws := by rw [he.q, hw.q, e2]; rfl
  rw [hL, hq] at hs
  have hfit : Fit n ws := fun x hx => (hfr.1 x hx).2
  have hv : ∀ b ∈ usL c.lt, yz L1 b = D.view b := fun b hb1 => by
   rw [hview, hs.other h.l hfit fun x hx e => (hfr.1 x hx).1 (by rw [e]; exact hb1)]
  exact h.old (hs.len h.l hfit) (fun b hb1 => hv b (hus b hb1)) (by rw [hv 0 h01.1]) (by rw [hv 1 h01.2])
 ·exact absurd hb hno
 ·have hL1 : D1.L.length = n * 128 := by rw [hw.L, e1]; exact h.l
  have hq1 : Fit n D1.q := by rw [hw.q, e2]; exact fun x hx => (hfr.1 x (by simpa using hx)).2
  have hL2 : D2.L.length = n * 128 := by rw [hf.L]; exact qR hL1 hq1
  have hv0 : ∀ b ∈ usL c.lt, yz D2.L b = D.view b := fun b hb1 => by
   have a1 := hf.view hL1 hq1 b
   rw [Qj hf.q] at a1
   rw [a1, hw.other fun x hx e => hws2 x hx (by rw [e]; exact hb1), Qj e2, e1, hview]
  have hvw : ∀ x ∈ (yw c t).2.ws, yz D2.L x.1 = x.2 := fun x hx => by
   have a1 := hf.view hL1 hq1 x.1
   rw [Qj hf.q] at a1
   rw [a1]
   exact hw.at hws1 hx
  rcases hcase with he | ⟨D3, hwn, he⟩
  ·left
   have hs : Sr D2.L [] L1 := by rw [<- he.L, <- hf.q, <- he.q]; exact hs
   obtain rfl := hs.nil_eq
   exact h.old hL2 (fun b hb1 => hv0 b (hus b hb1)) (by rw [hv0 0 h01.1]) (by rw [hv0 1 h01.2])
  ·have hs : Sr D2.L [(nxt c.tu % 2, blk (nxt c.tu) (yw c t).1.pl)] L1 := by
    have e3 : D'.q = [(nxt c.tu % 2, blk (nxt c.tu) (yw c t).1.pl)] := by rw [he.q, hwn.q, hf.q]; rfl
    rw [<- e3, <- hwn.L, <- he.L]
    exact hs
   obtain ⟨cc, rfl⟩ := hs.one
   have hi : nxt c.tu % 2 < n := by have := Nat.mod_lt (nxt c.tu) (show 0 < 2 by omega); omega
   have hlb : (blk (nxt c.tu) (yw c t).1.pl).length = 128 := qT _ _
   have hot : ∀ b, nxt c.tu % 2 ≠ b -> yz (svN cc D2.L (nxt c.tu % 2, blk (nxt c.tu) (yw c t).1.pl) 4) b = yz D2.L b := fun b hb1 => QbZ hL2 hi hlb hb1 4 (by omega)
   have hlen := jf (c := cc) (x := (nxt c.tu % 2, blk (nxt c.tu) (yw c t).1.pl)) hL2 hi hlb 4 (by omega)
   have hhd := Qc1 (c := cc) (x := (nxt c.tu % 2, blk (nxt c.tu) (yw c t).1.pl)) hL2 hi hlb 4 (by omega)
   generalize svN cc D2.L (nxt c.tu % 2, blk (nxt c.tu) (yw c t).1.pl) 4 = L1 at *
   have hpar : nxt c.tu % 2 = 0 \/ nxt c.tu % 2 = 1 := by omega
   have hlo : ∀ b ∈ qU c.lt, nxt c.tu % 2 ≠ b := fun b hb1 => by have := Q9n h.st.us hb1; omega
   have hvo : ∀ b ∈ qU c.lt, yz L1 b = D.view b := fun b hb1 => by rw [hot b (hlo b hb1), hv0 b (hus b hb1)]
   rcases hhd with hhd | hhd
   ·right
    have hst : StK n (Dv.new L1).view (yw c t).1 (yw c t).1 := h.st.sync hb (fun b hb1 => by rw [gE]; exact hvo b hb1) fun x hx => by
     rw [gE, hot x.1 (fun e => hws2 x hx (by rw [<- e]; rcases hpar with e2 | e2 <;> rw [e2]; exact h01.1; exact h01.2)), hvw x hx]
    have hnx : nxt c.tu < 18446744073709551616 := Nat.mod_lt _ (by omega)
    refine ⟨hlen, Q9J (r := c.ro) h.tu ?_ ?_, rfl, hst, hnx⟩
    ·rw [gE, hot (c.tu % 2) (by rw [Q9H]; omega), hv0 (c.tu % 2) (by rcases Nat.mod_two_eq_zero_or_one c.tu with e2 | e2 <;> rw [e2]; exact h01.1; exact h01.2)]
     exact Q9I h.hd
    ·rw [gE]
     have hnn : nxt c.tu % 2 % 2 = nxt c.tu % 2 := by omega
     refine Q9v ?_ hnx (hst.lpl (by have := h.n4; omega))
     rw [hhd]
     exact Q9u _ _
   ·left
    have hb01 : ∀ b, b = 0 \/ b = 1 -> (yz L1 b).take 32 = (D.view b).take 32 := fun b hb1 => by
     have hbu : b ∈ usL c.lt := by rcases hb1 with e2 | e2 <;> rw [e2]; exact h01.1; exact h01.2
     by_cases e : nxt c.tu % 2 = b
     ·subst e
      rw [hhd, hv0 _ hbu]
     ·rw [hot b e, hv0 b hbu]
    exact h.old hlen hvo (hb01 0 (Or.inl rfl)) (hb01 1 (Or.inr rfl))
end
theorem DQ.qlen {w : World} {a n : Nat} {bv cv : Value} {D : Dv} (h : DQ w a bv n cv D) : D.q.length <= 9223372036854775807 := by
  obtain ⟨_, ⟨_, h0⟩ | ⟨g, cap, cur, rfl, _, _, h1, h2, _⟩⟩ := h.o
  · omega
  · unfold maxLen at h2
    omega
theorem Rec.disk {x v a n : Nat} {c : Hd} {r : Value} {t : Tr} {w w' : World} {bv cv : Value} {D : Dv} (h : Rec x v a n c r t w) (hd : DQ w a bv n cv D) (k : y5 [a] w w') : Rec x v a n c r t w' := by
  have ht : Tg w a 65 := ⟨_, _, hd.d⟩
  refine h.kept k (fun hm => ?_) fun y hy => ?_
  · simp at hm
    subst hm
    exact absurd (ht.ne ⟨_, _, h.row⟩) (by decide)
  · simp at hy
    subst hy
    refine ⟨fun e => absurd (ht.ne e) (by decide), fun e => ?_⟩
    rcases e with e | e
    · exact absurd (ht.ne e) (by decide)
    · exact absurd (ht.ne e) (by decide)
def CutR (x v a n : Nat) (bv : Value) (c : Hd) (r : Value) (t : Tr) (D : Dv) (w : World) (e : Ending) (w' : World) : Prop := ∃ o err cv' D', e = .returned err /\ CEnd o err w' /\ y5 (ft x a bv) w w' /\ DQ w' a bv n cv' D' /\ D'.q.length <= 1000 /\ D'.off = D.off /\ CvN (.slice none 0 0) cv' w.heap.size /\
  ((o = none /\ D'.q = [] /\ ∃ tu ro r', Rec x v a n ⟨2, tu, ro, (yw c t).1, r'⟩ r' (yw c t).1 w' /\ Fnd n D'.L tu ro (yw c t).1 /\ (tu = c.tu \/ tu = nxt c.tu)) \/
   (o = some 6 /\ (∃ tu ro, Rec x v a n ⟨3, tu, ro, c.lt, c.lr⟩ r t w') /\ ∀ L1, Sr D'.L D'.q L1 -> Fnd n L1 c.tu c.ro c.lt \/ Fnd n L1 (nxt c.tu) (yw c t).1.pl (yw c t).1))
theorem Qc2 {x v a n : Nat} {bv : Value} {c : Hd} {r : Value} {t : Tr} {D : Dv} {w : World} (hR : Rec x v a n c r t w) (hd : DQ w a bv n (.slice none 0 0) D) (hp : Pre n c t D) (hs : c.s = 1 \/ c.s = 2) (hr : Rm n (y7 t)) (hl : Rm n (y7 c.lt)) (htu : c.tu + 1 < 18446744073709551616) (hT : Tab w) :
    Calls prog 13 #[.pointer (some ⟨x, 0, none⟩)] w (CutR x v a n bv c r t D w) := by
  have hnx : nxt c.tu = c.tu + 1 := Nat.mod_eq_of_lt htu
  have hb := Q8R (c := c) (t := t) (by have := hp.n8; omega) hp.st.ub (Rm.two hl hr hp.n8 hp.st.ltw hp.st.tw)
  refine (Q8O x v a n bv _ c r t D w hR hs hd (hp.st.lyp (by have := hp.n4; omega)) hp.n8 hp.n4 (by rw [hp.q]; simp) (by rw [hnx]; omega) (Or.inr hT)).mono ?_
  rintro e w' ⟨o, err, rfl, hc, ⟨cv', D', ⟨hd', hcv'⟩, hcase⟩, hk⟩
  have hn4 := hp.n4
  have hlo : D'.q.length <= 1000 /\ D'.off = D.off := by
    have h00 : ∀ {D0 : Dv}, Sy0 c D D0 -> D0.q = [] /\ D0.off = D.off := fun h0 => by
      rcases h0 with ⟨_, hf⟩ | ⟨_, rfl⟩
      · exact ⟨hf.q, hf.off⟩
      · exact ⟨hp.q, rfl⟩
    rcases hcase with ⟨_, D0, _, _, _, h0, hok, hfr, _⟩ | ⟨_, _, _, _, _, ⟨_, _, he⟩ | ⟨D0, h0, hbad⟩⟩
    · have h1 := h00 h0
      rcases hok with ⟨_, _, _, hw⟩ | ⟨_, _, _, D1, D2, D3, hw, hf1, hwn, hf2⟩
      · exact ⟨by rw [hw.q, h1.1]; have := hfr.2; simp; omega, by rw [hw.off, h1.2]⟩
      · exact ⟨by rw [hf2.q]; simp, by rw [hf2.off, hwn.off, hf1.off, hw.off, h1.2]⟩
    · exact ⟨by rw [he.q, hp.q]; simp, he.off⟩
    · have h1 := h00 h0
      rcases hbad with ⟨ws, D1, hfr, hw, ⟨_, he⟩ | ⟨_, rfl, _⟩⟩ | ⟨_, _, D1, D2, hw, hf, he | ⟨D3, hwn, he⟩⟩
      · exact ⟨by rw [he.q, hw.q, h1.1]; have := hfr.2; simp; omega, by rw [he.off, hw.off, h1.2]⟩
      · exact ⟨by rw [hw.q, h1.1]; have := hfr.2; simp; omega, by rw [hw.off, h1.2]⟩
      · exact ⟨by rw [he.q, hf.q]; simp, by rw [he.off, hf.off, hw.off, h1.2]⟩
      · exact ⟨by rw [he.q, hwn.q, hf.q]; simp, by rw [he.off, hwn.off, hf.off, hw.off, h1.2]⟩
  refine ⟨o, err, cv', D', rfl, hc, hk, hd', hlo.1, hlo.2, hcv', ?_⟩
  rcases hcase with ⟨rfl, D0, r', tu', ro', h0, hok, hfr, _, hrec⟩ | ⟨q, tu', ro', rfl, hrec, ⟨rfl, _, he⟩ | ⟨D0, h0, hbad⟩⟩
  · obtain ⟨a1, a2, a3⟩ := hp.ok hb h0 hok hfr
    exact Or.inl ⟨rfl, a1, tu', ro', r', hrec, a2, a3⟩
  · refine Or.inr ⟨rfl, ⟨tu', ro', hrec⟩, fun L1 hs1 => Or.inl ?_⟩
    rw [he.L, he.q, hp.q] at hs1
    rw [hs1.nil_eq]
    exact hp.self
  · have hq6 : q = 6 := by
      rcases hbad with ⟨ws, D1, _, _, ⟨e1, _⟩ | ⟨_, _, hno⟩⟩ | ⟨e1, _⟩
      · exact e1
      · exact absurd hb hno
      · exact e1
    subst hq6
    exact Or.inr ⟨rfl, ⟨tu', ro', hrec⟩, fun L1 hs1 => hp.bad hb h0 hbad hs1⟩
theorem CutR.any {x v a n : Nat} {c : Hd} {r : Value} {t : Tr} {D' : Dv} {o : Option Int} {W : World}
    (h : (o = none /\ D'.q = [] /\ ∃ tu ro r', Rec x v a n ⟨2, tu, ro, (yw c t).1, r'⟩ r' (yw c t).1 W /\ Fnd n D'.L tu ro (yw c t).1 /\ (tu = c.tu \/ tu = nxt c.tu)) \/
      (o = some 6 /\ (∃ tu ro, Rec x v a n ⟨3, tu, ro, c.lt, c.lr⟩ r t W) /\ ∀ L1, Sr D'.L D'.q L1 -> Fnd n L1 c.tu c.ro c.lt \/ Fnd n L1 (nxt c.tu) (yw c t).1.pl (yw c t).1)) {L1 : List UInt8} (hs : Sr D'.L D'.q L1) :
    ∃ tu ro T, Fnd n L1 tu ro T /\ (tu = c.tu \/ tu = nxt c.tu) /\ ((T = c.lt /\ o ≠ none) \/ T = (yw c t).1) := by
  rcases h with ⟨rfl, hq, tu, ro, r', _, hf, ht⟩ | ⟨rfl, _, h⟩
  · rw [hq] at hs
    rw [hs.nil_eq]
    exact ⟨tu, ro, _, hf, ht, Or.inr rfl⟩
  · rcases h L1 hs with h | h
    · exact ⟨_, _, _, h, Or.inl rfl, Or.inl ⟨rfl, by simp⟩⟩
    · exact ⟨_, _, _, h, Or.inr rfl, Or.inr rfl⟩
theorem Qc3 (a : Nat) (bv : Value) (n : Nat) (cv : Value) (D : Dv) (z y : Int) (w : World) (h : DQ w a bv n cv D) : Calls prog 18 #[.pointer (some ⟨a, 0, none⟩), .int .i64 z, .int .i64 y] w fun e w' => e = .returned (.tuple #[]) /\ DQ w' a bv n cv { D with fr := wrap64 (D.c + z), «to» := wrap64 (wrap64 (D.c + z) + y) } /\ y5 [a] w w' := by
  refine (Q0e a bv cv D z y w h.d).mono ?_
  rintro e w' ⟨h1, h2, h3⟩
  exact ⟨h1, h.upd h3 h2 rfl rfl, h3⟩
theorem Pre.bd {n : Nat} {c : Hd} {t : Tr} {D : Dv} (h : Pre n c t D) (z y : Int) : Pre n c t { D with fr := z, «to» := y } := ⟨h.st, h.q, h.hd, h.ro, h.tu, h.l, h.n8, h.n4⟩
theorem Qc4 (a : Nat) (bv : Value) (n : Nat) (cv : Value) (D : Dv) (z : Int) (w : World) (h : DQ w a bv n cv D) : Calls prog 12 #[.pointer (some ⟨a, 0, none⟩), .int .i64 z] w fun e w' => e = .returned (.tuple #[]) /\ DQ w' a bv n cv { D with off := wrap64 (D.c + z) } /\ y5 [a] w w' := by
  refine (Q0d a bv cv D z w h.d).mono ?_
  rintro e w' ⟨h1, h2, h3⟩
  exact ⟨h1, h.upd h3 h2 rfl rfl, h3⟩
theorem jR (c : Int) (n : Nat) (w : World) (hn : 0 < n) (hb : (n : Int) <= 4294967296) (h1 : -9223372036854775808 <= c) (h2 : c <= 9223372036854775807) :
  Calls prog 10 #[.int .i64 c, .int .i64 n] w fun e w' => e = .returned (.int .i64 (pk c n)) /\ w' = w := by
 by_cases hc : c < 0
 ·have hp : (pk c n : Int) = (-(c + 1)) % n := by unfold pk; rw [if_pos hc]; have := Int.emod_nonneg (-(c + 1)) (show (n : Int) ≠ 0 by omega); omega
  have H : Hid (-((c + 1).tmod n) = (pk c n : Int)) := by show _ = _; rw [hp, <- Int.neg_tmod, Int.tmod_eq_emod_of_nonneg (by omega)]
  clear hp
  have hnz : ¬ (n : Int) = 0 := by omega
  go_enter func10, ntmps10
  go_wp2
  go_ret
  exact ⟨Q0M H.out, rfl⟩
 ·have hp : (pk c n : Int) = c % n := by unfold pk; rw [if_neg hc]; have := Int.emod_nonneg c (show (n : Int) ≠ 0 by omega); omega
  have H : Hid ((pk c n : Int) = c % n) := hp
  clear hp
  have hnz : ¬ (n : Int) = 0 := by omega
  go_enter func10, ntmps10
  go_wp2
  go_ret
  exact ⟨Q0M H.out.symm, rfl⟩
end Go.Proofs.YtcklgafpgdhnaabGreatDoor
