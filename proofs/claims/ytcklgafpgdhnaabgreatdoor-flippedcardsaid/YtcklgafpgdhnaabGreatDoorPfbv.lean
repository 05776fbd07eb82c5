import Derived.Test.YtcklgafpgdhnaabGreatDoorPfaw
import Derived.Test.YtcklgafpgdhnaabGreatDoorPfbn
import Derived.Test.YtcklgafpgdhnaabGreatDoorPfbu
import Derived.Test.YtcklgafpgdhnaabGreatDoorPfai
import Derived.Test.YtcklgafpgdhnaabGreatDoorPfbg
import Derived.Test.YtcklgafpgdhnaabGreatDoorPfbc
import Derived.Test.YtcklgafpgdhnaabGreatDoorPfac
import Derived.Test.YtcklgafpgdhnaabGreatDoorPfab
import Derived.BigRegion
set_option maxRecDepth 100000
set_option maxHeartbeats 4000000
open Go.Proofs.Tryz
namespace Go.Proofs.YtcklgafpgdhnaabGreatDoor
open Go.RowKit
theorem Lh.wr {D D' : Dv} {T R : Nat} (h : Lh D T R D') : D'.wr = wrap64 (D.wr + 1) := by
 obtain ⟨D1, h1, h2⟩ := h
 rw [h2.wr, h1.wr]
theorem Qgp {w : World} {a g n k : Nat} {L : List UInt8} {c wr t : Int} (h : Dev w a g n L c wr t) (h8 : 8 <= n) (h4 : n <= 400) (hk : k <= 50000) (hs : St k L) : Calls prog 27 #[.pointer (some ⟨a, 0, none⟩)] w fun e w' =>
  e = .returned .nilIface /\ (∃ L' c' wr', Dev w' a g n L' c' wr' t /\ St (k + 1) L' /\ wr' = wrap64 (wrap64 (wr + 1) + 1)) /\ Kept [a, g] w w' := by
 refine (QaT a w _ _ (QaS a _ n _ _ w h.dq h8 h4 (by show ([] : List _).length < _; simp) (Or.inl (Dev.good L c wr t)))).mono ?_
 rintro e w' ⟨o, err, rfl, hc, ⟨cv', D', hd', _, hP⟩, hk'⟩
 have e0 : nxt (2 * k) = 2 * k + 1 := Nat.mod_eq_of_lt (by omega)
 have e1 : nxt (2 * k + 1) = 2 * k + 2 := Nat.mod_eq_of_lt (by omega)
 unfold FmtP at hP
 rw [hs.newest hk] at hP
 simp only [e0, e1] at hP
 rcases hP with ⟨rfl, D1, l1, l2⟩ | ⟨rfl, hP⟩
 ·have hw1 := l1.wr
  have d1 := l1.dev
  rw [d1] at l2
  have hw2 := l2.wr
  have d2 := l2.dev
  have herr : err = .nilIface := hc
  subst herr
  rw [d2] at hd'
  exact ⟨rfl, ⟨_, _, _, hd'.dev rfl ⟨rfl, rfl, rfl⟩ (by omega), St.next hk h.l h8, by
   rw [hw2]
   show wrap64 (D1.wr + 1) = _
   rw [hw1]
   rfl⟩, hk'.mono (by intro y hy; simpa [Q0Z, Value.ownBlock] using hy)⟩
 ·rcases hP with hP | ⟨D1, l1, hP⟩
  ·exact hP.bad.elim
  ·have d1 := l1.dev
   rw [d1] at hP
   exact hP.bad.elim
theorem Qgq {w : World} {a g n k : Nat} {L : List UInt8} {c wr t : Int} (h : Dev w a g n L c wr t) (h8 : 8 <= n) (h4 : n <= 400) (hk : k <= 50000) (hs : St k L) : Calls prog 27 #[.pointer (some ⟨a, 0, none⟩)] w fun e w' =>
  e = .returned .nilIface /\ (∃ L' c' wr', Dev w' a g n L' c' wr' t /\ St (k + 1) L') /\ Kept [a, g] w w' :=
 (Qgp h h8 h4 hk hs).mono fun _ _ ⟨h1, ⟨L', c', wr', h2, h3, _⟩, h4⟩ => ⟨h1, ⟨L', c', wr', h2, h3⟩, h4⟩
theorem Qgr {a n : Nat} {bv cv : Value} (h8 : 8 <= n) : ∀ v W D1, Vol W v a n -> DQ W a bv n cv D1 -> Calls prog 71 #[.pointer (some ⟨v, 0, none⟩), .int .i64 0] W (TrdR a bv n cv D1 (some ⟨0, ([] : List Pr), 0⟩) W) := by
 intro v W D1 hv hd
 refine (Qfk v a n W hv h8).mono ?_
 rintro e w' ⟨rfl, k⟩
 exact ⟨D1, hd.k0 k, k.mono (by simp), Or.inl ⟨Qt.refl D1, _, _, rfl, rfl, Or.inl ⟨rfl, rfl⟩⟩⟩
theorem Qgs {w : World} {a g n k : Nat} {L : List UInt8} {c wr t : Int} (h : Dev w a g n L c wr t) (h8 : 8 <= n) (h4 : n <= 400) (hk : k <= 50000) (hs : St k L) :
  Calls prog 37 #[.iface 23 (.pointer (some ⟨a, 0, none⟩))] w (Qfg a (.slice (some ⟨g, 0, none⟩) n n) n (.slice none 0 0) (Dq L c wr t) ((2 * k, 0), decide (0 < k)) (some ⟨0, ([] : List Pr), 0⟩) w) := by
 have hR := Qfh a _ n _ _ (some ⟨0, ([] : List Pr), 0⟩) w h.dq h8 h4 (by show ([] : List _).length < _; simp) (Or.inl (Dev.good L c wr t)) (by
  rw [hs.newest hk]
  exact fun v W D1 hv hd _ _ _ => Qgr h8 v W D1 hv hd)
 rw [hs.newest hk] at hR
 exact hR
structure Sd (n : Nat) (c : Hd) (t : Tr) (D : Dv) : Prop where
 s : c.s = 1 \/ c.s = 2
 st : StK n D.view c.lt t
 gd : Good D
 q : D.q = []
 hd : QaO D = ((c.tu, c.ro), true)
 ro : c.ro = c.lt.pl
 tu : c.tu < 18446744073709551616
structure Smm (w0 : World) (x a : Nat) (bv : Value) (n : Nat) (c : Hd) (t : Tr) (D : Dv) (w : World) : Prop where
 rc : ∃ v r, Rec x v a n c r t w
 dq : DQ w a bv n (.slice none 0 0) D
 k : Kept [] w0 w
 fx : w0.heap.size <= x
 fd : ∀ y ∈ Q0Z a bv (.slice none 0 0), w0.heap.size <= y
def ft (x a : Nat) (bv : Value) : List Nat := x :: Q0Z a bv (.slice none 0 0)
def Rm (n : Nat) (l : List Pr) : Prop := 4 * l.length + 8 <= 3 * n
theorem Rm.cnt {n : Nat} {t : Tr} (h : Rm n (Q69 t)) (hn : 8 <= n) (ht : TW t) : ¬ (n - 2) / 2 < cntT t := by
 have := Q6j t ht
 unfold Rm at h
 omega
theorem Rm.two {n : Nat} {t u : Tr} (h : Rm n (Q69 t)) (g : Rm n (Q69 u)) (hn : 8 <= n) (ht : TW t) (hu : TW u) : cntT t + 2 + cntT u <= n := by
 have h1 := Q6j t ht
 have h2 := Q6j u hu
 unfold Rm at h g
 omega
section
variable {w0 w w' : World} {x a : Nat} {bv : Value} {n : Nat} {c : Hd} {t : Tr} {D : Dv}
theorem Smm.k0 (h : Smm w0 x a bv n c t D w) (k : Kept [] w w') : Smm w0 x a bv n c t D w' := by
 obtain ⟨v, r, hr⟩ := h.rc
 exact ⟨⟨v, r, hr.k k⟩, h.dq.k0 k, h.k.trans k, h.fx, h.fd⟩
theorem Smm.no (h : Smm w0 x a bv n c t D w) : x ∉ Q0Z a bv (.slice none 0 0) := by
 obtain ⟨v, r, hr⟩ := h.rc
 exact h.dq.no hr.row (by decide)
theorem Smm.old (h : Smm w0 x a bv n c t D w) (k : Kept (ft x a bv) w w') : Kept [] w0 w' := h.k.trans2 k fun y hy => by
 rcases List.mem_cons.1 hy with rfl | hy
 ·exact Or.inr h.fx
 ·exact Or.inr (h.fd y hy)
theorem Sd.put {k y : ByteArray} (h : Sd n c t D) (hk : Q52 k) (hy : y.size <= 12) : Sd n c (chgT (Q4n k y) k t) D := { h with st := h.st.chg (Q67 k y hk hy) }
theorem Sd.del {k : ByteArray} (h : Sd n c t D) : Sd n c (delT k t) D := by
 refine { h with st := ?_ }
 unfold delT
 split
 ·exact h.st.chg (Q68 k)
 ·exact h.st
theorem Smm.put {k y : ByteArray} (h : Smm w0 x a bv n c t D w) (hs : Sd n c t D) (hk : Q52 k) (hy : y.size <= 12) (h8 : 8 <= n) (h4 : n <= 400) (hr : Rm n (Q4n k y (Q69 t))) :
  Calls prog 20 #[.pointer (some ⟨x, 0, none⟩), .string k, .string y] w fun e w' => e = .returned .nilIface /\ Smm w0 x a bv n c (chgT (Q4n k y) k t) D w' /\ Kept [x] w w' := by
 obtain ⟨v, r, hR⟩ := h.rc
 obtain ⟨htw, hfl⟩ := Q6f (Q67 k y hk hy) t hs.st.tw
 have hro : ¬ (n - 2) / 2 < cntT (chgT (Q4n k y) k t) := Rm.cnt (by rw [hfl]; exact hr) h8 htw
 refine (QcM x v a n c r t k y w hR hs.s hs.st.tw hk hy h8 h4 hro).mono ?_
 rintro e w' ⟨err, rfl, ⟨rfl, r', hr'⟩, hk'⟩
 exact ⟨rfl, ⟨⟨v, r', hr'⟩, h.dq.k1 hk' h.no, h.k.trans2 hk' (by intro q hq; simp at hq; subst hq; exact Or.inr h.fx), h.fx, h.fd⟩, hk'⟩
theorem Smm.del {k : ByteArray} (h : Smm w0 x a bv n c t D w) (hs : Sd n c t D) (hk : Q52 k) :
  Calls prog 30 #[.pointer (some ⟨x, 0, none⟩), .string k] w fun e w' => e = .returned .nilIface /\ Smm w0 x a bv n c (delT k t) D w' /\ Kept [x] w w' := by
 obtain ⟨v, r, hR⟩ := h.rc
 refine (Qcy x v a n c r t k w hR hs.st.tw hs.s hk).mono ?_
 rintro e w' ⟨err, rfl, ⟨rfl, r', hr'⟩, hk'⟩
 exact ⟨rfl, ⟨⟨v, r', hr'⟩, h.dq.k1 hk' h.no, h.k.trans2 hk' (by intro q hq; simp at hq; subst hq; exact Or.inr h.fx), h.fx, h.fd⟩, hk'⟩
end
theorem Qgt {n : Nat} {lk : Nat -> List UInt8} {c : Hd} {t : Tr} (h : StK n lk c.lt t) (e : (sysL c t).1.pl = c.lt.pl) : (sysL c t).2.ws = [] := by
 unfold sysL at *
 cases hn : nilN t.h t.n with
 | true =>
  have e : (layT t ⟨usL c.lt, []⟩).2 = ⟨usL c.lt, []⟩ := by unfold layT; simp [hn]
  rw [e]
 | false =>
  rw [Qck hn] at *
  by_cases hz : t.pl = 0
  ·exfalso
   have e1 : layK t.h ⟨nil8, t.n, t.pl⟩ ⟨usL c.lt, []⟩ = _ := Q9M (k := rtK t) hz ⟨usL c.lt, []⟩
   rw [e1] at e
   have e : tk (layN t.h t.n ⟨usL c.lt, []⟩).2.us = c.lt.pl := e
   have h1 := Q9F (layN t.h t.n ⟨usL c.lt, []⟩).2.us
   obtain ⟨ws, _, h2, _, _⟩ := Stp.ws (Q9W t.h t.n ⟨usL c.lt, []⟩).1
   rw [e, h2] at h1
   apply h1
   apply List.mem_append_right
   show c.lt.pl ∈ usL c.lt
   unfold usL
   cases hl : nilN c.lt.h c.lt.n with
   | true => rw [h.ltw.nil hl]; simp
   | false => exact List.mem_append_left _ (List.mem_reverse.2 (by unfold preT; rw [hl]; simp))
  ·rw [show layK t.h ⟨nil8, t.n, t.pl⟩ ⟨usL c.lt, []⟩ = _ from Q9L (k := rtK t) hz ⟨usL c.lt, []⟩]
theorem StK.lpl {n : Nat} {lk : Nat -> List UInt8} {lt t : Tr} (h : StK n lk lt t) (hn : n <= 65536) : lt.pl < 65536 := by
 cases hl : nilN lt.h lt.n with
 | true => rw [h.ltw.nil hl]; omega
 | false =>
  have := h.ub lt.pl (by unfold preT; rw [hl]; simp)
  omega
def syN (c : Hd) (t : Tr) : Nat := if (sysL c t).1.pl = c.lt.pl then 0 else (sysL c t).2.ws.length + 1
theorem Smm.sync {w0 w : World} {x a : Nat} {bv : Value} {n : Nat} {c : Hd} {t : Tr} {D : Dv} (h : Smm w0 x a bv n c t D w) (hs : Sd n c t D) (h8 : 8 <= n) (h4 : n <= 400) (hr : Rm n (Q69 t)) (hl : Rm n (Q69 c.lt)) (htu : c.tu + 1 < 18446744073709551616) :
  Calls prog 13 #[.pointer (some ⟨x, 0, none⟩)] w fun e w' => e = .returned .nilIface /\ Kept (ft x a bv) w w' /\ ∃ c' D', Smm w0 x a bv n c' c'.lt D' w' /\ Sd n c' c'.lt D' /\ c'.s = 2 /\ c'.lt = (sysL c t).1 /\ Q69 c'.lt = Q69 t /\ c.tu <= c'.tu /\ c'.tu <= c.tu + 1 /\ D'.wr = wrN (syN c t) D.wr := by
 obtain ⟨v, r, hR⟩ := h.rc
 have hnx : nxt c.tu = c.tu + 1 := Nat.mod_eq_of_lt htu
 refine (Qe8 x v a n _ _ c r t D w hR hs.s h.dq hs.st hs.gd h8 h4 (by rw [hs.q]; simp) (by rw [hnx]; omega) (Rm.two hl hr h8 hs.st.ltw hs.st.tw)).mono ?_
 rintro e w' ⟨rfl, hk, cv', D', r', tu', ro', D0, hd', hR', hst', hg', h0, hok, hfr⟩
 obtain ⟨hhd, hro, htu'⟩ := Qee (by omega) h.dq.l h.dq.q h0 hok hfr hs.hd hs.ro hs.tu (hst'.lpl (by omega))
 have hw0 : D0.q = [] /\ D0.wr = D.wr := by
  rcases h0 with ⟨_, hf⟩ | ⟨_, rfl⟩
  ·exact ⟨hf.q, hf.wr⟩
  ·exact ⟨hs.q, rfl⟩
 have hq' : D'.q = [] /\ D'.wr = wrN (syN c t) D.wr /\ c.tu <= tu' /\ tu' <= c.tu + 1 := by
  unfold syN
  rcases hok with ⟨e1, e2, _, hw⟩ | ⟨e1, e2, _, D1, D2, D3, hw, hf1, hwn, hf2⟩
  ·have e3 := Qgt hs.st e1
   rw [e3] at hw
   refine ⟨by rw [hw.q, hw0.1]; rfl, ?_, by omega, by omega⟩
   rw [if_pos e1, hw.wr, hw0.2]
   rfl
  ·refine ⟨hf2.q, ?_, by omega, by omega⟩
   rw [if_neg e1, hf2.wr, hwn.wr, hf1.wr, hw.wr, hw0.2]
   rfl
 obtain rfl := hd'.z hq'.1
 have hold := h.old hk
 exact ⟨rfl, hk, ⟨2, tu', ro', (sysL c t).1, r'⟩, D', ⟨⟨v, r', hR'⟩, hd', hold, h.fx, h.fd⟩, ⟨Or.inr rfl, hst', hg', hq'.1, hhd, hro, htu'⟩, rfl, rfl, (Qe9 c t).1, hq'.2.2.1, hq'.2.2.2, hq'.2.1⟩
theorem Qgu {w0 w : World} {a g n : Nat} {L : List UInt8} {c wr t : Int} (h : Dev w a g n L c wr t) (h8 : 8 <= n) (h4 : n <= 400) (hs : St 1 L) (hk : Kept [] w0 w) (ha : w0.heap.size <= a) (hg : w0.heap.size <= g) : Calls prog 17 #[.pointer (some ⟨a, 0, none⟩)] w fun e w' =>
  ∃ x c D, e = .returned (.tuple #[.pointer (some ⟨x, 0, none⟩), .nilIface]) /\ Smm w0 x a (.slice (some ⟨g, 0, none⟩) n n) n c c.lt D w' /\ Sd n c c.lt D /\ Q69 c.lt = [] /\ c.tu = 2 /\ D.wr = wr /\ Kept [a] w w' := by
 refine Qfi a w _ ((Qgs h h8 h4 (by omega) hs).mono ?_)
 rintro e w' ⟨o, pv, err, D', rfl, hc, hd, hkk, h1 | h1 | ⟨rfl, h2, _, t', r, x, v, h3, rfl, h5, h6⟩⟩
 ·exact absurd (Dev.good L c wr t) h1.2.1.bad
 ·rcases h1.2.2.2 with h2 | h2
  ·cases h2
  ·cases h2
 ·have herr : err = .nilIface := hc
  subst herr
  simp only [Option.some.injEq] at h3
  subst h3
  have hsz := hk.size
  refine ⟨_, _, rfl, x, _, D', rfl, ⟨⟨v, r, h5⟩, hd, hk.trans2 hkk (by intro q hq; simp at hq; subst hq; exact Or.inr ha), by omega, (fun y hy => by simp [Q0Z, Value.ownBlock] at hy; rcases hy with rfl | rfl <;> assumption)⟩, ⟨Or.inl rfl, StK.none n _, h2.good.2 ⟨rfl, rfl, rfl⟩, h2.q, ?_, rfl, ?_⟩, rfl, rfl, h2.wr, hkk⟩
  ·have e1 : QaO D' = QaO (Dq L c wr t) := by
    unfold QaO
    rw [h2.view, h2.view]
   rw [e1, hs.newest (by omega)]
   rfl
  ·show 2 < 18446744073709551616
   omega
theorem Qgv {α : Type} [DecidableEq α] : ∀ {l m : List α}, l.Nodup -> (∀ x ∈ l, x ∈ m) -> l.length <= m.length
 | [], _, _, _ => Nat.zero_le _
 | a :: l, m, h, hs => by
  rw [List.nodup_cons] at h
  have h1 := hs a (by simp)
  have h2 : ∀ x ∈ l, x ∈ m.erase a := fun x hx => (List.mem_erase_of_ne (fun e => h.1 (by rw [<- e]; exact hx))).2 (hs x (by simp [hx]))
  have h3 := Qgv h.2 h2
  rw [List.length_erase_of_mem h1] at h3
  have : 0 < m.length := List.length_pos_of_mem h1
  simp only [List.length_cons]
  omega
theorem Qgw {α : Type} {l m : List α} (h : l.Nodup) (hs : ∀ x ∈ l, x ∈ m) : l.length <= m.length := by
 classical
 exact Qgv h hs
def Am (m : List ByteArray) (l : List Pr) : Prop := ∀ p ∈ l, p.1 ∈ m
theorem Srt.nodup {l : List Pr} (h : Srt l) : (l.map fun p => p.1).Nodup := by
 unfold List.Nodup
 rw [List.pairwise_map]
 refine List.Pairwise.imp ?_ h
 intro p q hpq e
 rw [e] at hpq
 exact absurd hpq (by simp [Q4j])
theorem Am.len {m : List ByteArray} {t : Tr} (h : Am m (Q69 t)) (ht : TW t) : (Q69 t).length <= m.length := by
 have h1 := Srt.nodup (WFN.srt ht.wf)
 have h2 := Qgw h1 (m := m) (by
  intro x hx
  obtain ⟨p, hp, rfl⟩ := List.mem_map.1 hx
  exact h p hp)
 rw [List.length_map] at h2
 exact h2
theorem Am.put {m : List ByteArray} {l : List Pr} {k y : ByteArray} (h : Am m l) (hk : k ∈ m) : Am m (Q4n k y l) := by
 intro p hp
 rcases Q5i hp with rfl | hp
 ·exact hk
 ·exact h p hp
theorem Am.del {m : List ByteArray} {l : List Pr} {k : ByteArray} (h : Am m l) : Am m (Q4o k l) := fun p hp => h p (Q5j hp)
theorem Qgx {i : Nat} {A B : List UInt8} (h : A.take 32 = B.take 32) : rdH i A = rdH i B := by
 unfold rdH
 rw [QdW A 8 8 32 (by omega), QdW A 16 2 32 (by omega), QdW B 8 8 32 (by omega), QdW B 16 2 32 (by omega), h]
theorem Sr.nil_eq {L L1 : List UInt8} (h : Sr L [] L1) : L1 = L := by
 generalize e : ([] : List Wt) = q at h
 cases h with
 | nil => rfl
 | snoc h x c => simp at e
theorem Whl.agree {n : Nat} {lk lk' : Nat -> List UInt8} {t : Tr} (h : Whl n lk t) (ha : ∀ b ∈ preT t, lk' b = lk b) : Whl n lk' t := by
 rw [h.pre] at ha
 exact ⟨h.tw, h.nil, by rw [ha _ (by simp)]; exact h.at_, h.lies.agree fun b hb => ha b (by simp [hb]), h.nd, h.off, h.frs⟩
theorem StK.agree {n : Nat} {lk lk' : Nat -> List UInt8} {lt t : Tr} (h : StK n lk lt t) (ha : ∀ b ∈ preT lt, lk' b = lk b) : StK n lk' lt lt := by
 cases hn : nilN lt.h lt.n with
 | false => exact ((h.whl hn).agree ha).stk
 | true =>
  have hp := h.ltw.nil hn
  obtain ⟨hh, nn, pl⟩ := lt
  cases hh with
  | succ hh => cases hn
  | zero =>
   have : nn = ([] : List Pr) := List.isEmpty_iff.1 hn
   subst this
   have hp : pl = 0 := hp
   subst hp
   exact StK.none n lk'
theorem Qgy (L : List UInt8) (i : Nat) : (Dv.new L).view i = Q10 L i := rfl
theorem Qgz {D : Dv} (h : D.q = []) (i : Nat) : D.view i = Q10 D.L i := by unfold Dv.view; rw [h]; rfl
structure Fnd (n : Nat) (L : List UInt8) (tu ro : Nat) (T : Tr) : Prop where
 len : L.length = n * 128
 hd : QaO (.new L) = ((tu, ro), true)
 ro : ro = T.pl
 st : StK n (Dv.new L).view T T
 tu : tu < 18446744073709551616
theorem Fnd.tree {n : Nat} {L : List UInt8} {tu ro : Nat} {T : Tr} (h : Fnd n L tu ro T) (hn : n <= 65536) : Qga n (.new L) = some T := h.st.found (by rw [h.hd]; exact h.ro) hn
structure Pre (n : Nat) (c : Hd) (t : Tr) (D : Dv) : Prop where
 st : StK n D.view c.lt t
 q : D.q = []
 hd : QaO D = ((c.tu, c.ro), true)
 ro : c.ro = c.lt.pl
 tu : c.tu < 18446744073709551616
 l : D.L.length = n * 128
 n8 : 8 <= n
 n4 : n <= 400
section
variable {n : Nat} {c : Hd} {t : Tr} {D D0 D' : Dv} {L1 : List UInt8}
theorem Pre.old (h : Pre n c t D) (hl : L1.length = n * 128) (hv : ∀ b ∈ preT c.lt, Q10 L1 b = D.view b) (h0 : (Q10 L1 0).take 32 = (D.view 0).take 32) (h1 : (Q10 L1 1).take 32 = (D.view 1).take 32) : Fnd n L1 c.tu c.ro c.lt := by
 refine ⟨hl, ?_, h.ro, h.st.agree fun b hb => ?_, h.tu⟩
 ·rw [<- h.hd]
  unfold QaO
  rw [Qgy, Qgy, Qgx h0, Qgx h1]
 ·rw [Qgy]; exact hv b hb
theorem Pre.self (h : Pre n c t D) : Fnd n D.L c.tu c.ro c.lt := h.old h.l (fun b _ => (Qgz h.q b).symm) (by rw [Qgz h.q]) (by rw [Qgz h.q])
end
theorem QgA (c : Int) (n : Nat) (w : World) (hn : 0 < n) (hb : (n : Int) <= 4294967296) (h1 : -9223372036854775808 <= c) (h2 : c <= 9223372036854775807) :
  Calls prog 10 #[.int .i64 c, .int .i64 n] w fun e w' => e = .returned (.int .i64 (pk c n)) /\ w' = w := by
 by_cases hc : c < 0
 ·have hp : (pk c n : Int) = (-(c + 1)) % n := by unfold pk; rw [if_pos hc]; have := Int.emod_nonneg (-(c + 1)) (show (n : Int) ≠ 0 by omega); omega
  have H : Hid (-((c + 1).tmod n) = (pk c n : Int)) := by show _ = _; rw [hp, <- Int.neg_tmod, Int.tmod_eq_emod_of_nonneg (by omega)]
  clear hp
  have hnz : ¬ (n : Int) = 0 := by omega
  go_enter func10, ntmps10
  go_wp2
  go_ret
  exact ⟨Q1R H.out, rfl⟩
 ·have hp : (pk c n : Int) = c % n := by unfold pk; rw [if_neg hc]; have := Int.emod_nonneg c (show (n : Int) ≠ 0 by omega); omega
  have H : Hid ((pk c n : Int) = c % n) := hp
  clear hp
  have hnz : ¬ (n : Int) = 0 := by omega
  go_enter func10, ntmps10
  go_wp2
  go_ret
  exact ⟨Q1R H.out.symm, rfl⟩
def QgB (w : World) (e : Ending) (w' : World) : Prop := e = .returned (.bool true) /\ Kept [] w w'
def QgC : ByteArray := ⟨#[255, 255, 255, 255, 255, 255, 255, 255, 255]⟩
def mx (n : Nat) : Nat := (n * 1103515245 + 12345) % 2147483648
theorem QgD (n : Nat) : mx n < 2147483648 := Nat.mod_lt _ (by omega)
theorem QgE (n : Nat) (w : World) (hn : n < 2147483648) : Calls prog 28 #[.int .i64 (n : Nat)] w fun e w' => e = .returned (.int .i64 (mx n : Nat)) /\ w' = w := by
 have H : Hid (((n : Int) * 1103515245 + 12345) % 2147483648 = (mx n : Int)) := by
  show _ = _
  unfold mx
  omega
 have h1 : (0 : Int) <= n := by omega
 have h2 : (n : Int) < 2147483648 := by omega
 go_enter func28, ntmps28
 go_wp2
 go_ret
 exact ⟨Q1R (by first | exact H.out | (rw [<- H.out]; rfl)), rfl⟩
def val0 : ByteArray := ⟨#[118, 97, 108, 117, 101, 48, 49, 50, 51, 52, 53, 54]⟩
theorem QgF (n : Nat) (w : World) (hn : n < 2147483648) : Calls prog 31 #[.int .i64 (n : Nat)] w fun e w' => e = .returned (.string (val0.extract 0 (n % 13))) /\ w' = w := by
 have h1 : (0 : Int) <= n := by omega
 have h2 : (n : Int) < 2147483648 := by omega
 go_enter func31, ntmps31
 go_wp2
 go_ret
 exact ⟨rfl, rfl⟩
theorem QgG (n : Nat) : (val0.extract 0 (n % 13)).size <= 12 := by
 have : (val0.extract 0 (n % 13)).size <= val0.size := by rw [ByteArray.size_extract]; omega
 exact this
theorem QgH {n : Nat} (h : n < 256) : ((UInt8.ofNat n).toNat : Int) = (n : Int) := by
 rw [UInt8.toNat_ofNat_of_lt' (by simpa using h)]
theorem QgI (w W : World) (cs : List Value) (l : List UInt8) (k : Nat) (hk : l.length = k) (hW : W.heap[w.heap.size]? = some (.cells cs.toArray 5 (0, 0))) (hl : cs = u8s l) : (convert 83 9 (.slice (some ⟨w.heap.size, 0, none⟩) k k)).run prog W = .ok (.string ⟨l.toArray⟩) W := by
 subst hk hl
 refine run_convert_bytes_back (P := prog) W 83 9 5 ⟨w.heap.size, 0, none⟩ _ l underlying83 underlying5 underlying9 fun j hj => ?_
 refine Q16 hW j _ ?_
 rw [Q0a, List.getElem?_eq_getElem hj]
 rfl
def kyA (n : Nat) : ByteArray := if n % 3 = 0 then (ByteArray.mk #[107, 101, 121, 48, 48, 48]).extract 0 (1 + n % 2 * 5) else (ByteArray.mk #[107]).extract 0 1
def ky (n : Nat) : ByteArray := kyA n ++ (ByteArray.mk #[97 + UInt8.ofNat (n % 26), 97 + UInt8.ofNat (n / 26 % 26)]).extract 0 (2 - n % 5 / 4)
theorem QgJ (n : Nat) : 1 <= (ky n).size /\ (ky n).size <= 8 := by
 have h1 : 1 <= (kyA n).size /\ (kyA n).size <= 6 := by
  unfold kyA
  split
  ·rw [ByteArray.size_extract]
   show 1 <= min _ 6 - 0 /\ min _ 6 - 0 <= 6
   omega
  ·rw [ByteArray.size_extract]
   show 1 <= min 1 1 - 0 /\ min 1 1 - 0 <= 6
   omega
 have h2 : ((ByteArray.mk #[97 + UInt8.ofNat (n % 26), 97 + UInt8.ofNat (n / 26 % 26)]).extract 0 (2 - n % 5 / 4)).size <= 2 := by
  rw [ByteArray.size_extract]
  show min _ 2 - 0 <= 2
  omega
 unfold ky
 rw [ByteArray.size_append]
 omega
theorem QgK (n : Nat) (w : World) (hn : n < 1000) : Calls prog 29 #[.int .i64 (n : Nat)] w fun e w' => e = .returned (.string (ky n)) /\ Kept [] w w' := by
 have h1 : (0 : Int) <= n := by omega
 have h2 : (n : Int) < 1000 := by omega
 have hc := QgI w (w.alloc (.cells #[.int .u8 (97 + (n : Int) % 26), .int .u8 (97 + (n : Int) / 26 % 26)] 5)).drew [.int .u8 (97 + (n : Int) % 26), .int .u8 (97 + (n : Int) / 26 % 26)] [UInt8.ofNat (97 + n % 26), UInt8.ofNat (97 + n / 26 % 26)] 2 rfl (heap_alloc_new w _) (by
  simp only [u8s, List.map_cons, List.map_nil]
  rw [QgH (by omega), QgH (by omega)]
  rfl)
 by_cases h3 : n % 3 = 0
 ·have h3' : ((n : Int) % 3) = 0 := by omega
  go_enter func29, ntmps29
  go_wp2
  go_region
  go_wp2
  go_ret
  exact ⟨by unfold ky kyA; rw [if_pos h3]; rfl, ((Kept.refl [] w).alloc _).drew⟩
 ·have h3' : ¬ ((n : Int) % 3) = 0 := by omega
  go_enter func29, ntmps29
  go_wp2
  go_region
  go_wp2
  go_ret
  exact ⟨by unfold ky kyA; rw [if_neg h3]; rfl, ((Kept.refl [] w).alloc _).drew⟩
def KcI (w0 w : World) (x a : Nat) (bv : Value) (n m : Nat) (c : Hd) (D : Dv) (P : List Pr -> Prop) (v i : Value) (wr : World) : Prop := ∃ (vv j : Nat) (t : Tr), v = .int .i64 (vv : Nat) /\ vv < 2147483648 /\ i = .int .i64 (j : Nat) /\ j <= m /\ Smm w0 x a bv n c t D wr /\ Sd n c t D /\ P (Q69 t) /\ Kept [x] w wr
theorem QgL {w0 w : World} {x a : Nat} {bv : Value} {n : Nat} {c : Hd} {t : Tr} {D : Dv} (P : List Pr -> Prop) (z : Int) (m K : Nat) (h : Smm w0 x a bv n c t D w) (hs : Sd n c t D) (h8 : 8 <= n) (h4 : n <= 400) (hP : P (Q69 t))
  (hput : ∀ l j v, v.size <= 12 -> j < K -> P l -> P (Q4n (ky j) v l)) (hdel : ∀ l j, j < K -> P l -> P (Q4o (ky j) l)) (hroom : ∀ t, TW t -> P (Q69 t) -> Rm n (Q69 t)) (hm : m <= 100000) (hK : 0 < K) (hK2 : K < 1000) (hz1 : -9223372036854775808 <= z) (hz2 : z <= 9223372036854775807) :
  Calls prog 9 #[.pointer (some ⟨x, 0, none⟩), .int .i64 z, .int .i64 (m : Nat), .int .i64 (K : Nat)] w fun e w' => e = .returned (.bool true) /\ ∃ t', Smm w0 x a bv n c t' D w' /\ Sd n c t' D /\ P (Q69 t') /\ Kept [x] w w' := by
 have HQ : Hid (∀ W, Calls _ _ _ W _) := fun W => QgA z 2147483648 W (by omega) (by omega) hz1 hz2
 have hvv : pk z 2147483648 < 2147483648 := Q1S z _ (by omega)
 generalize pk z 2147483648 = vv0 at *
 have HS : Hid (Smm w0 x a bv n c t D w /\ Sd n c t D /\ P (Q69 t)) := ⟨h, hs, hP⟩
 have HH : Hid ((∀ l j v, v.size <= 12 -> j < K -> P l -> P (Q4n (ky j) v l)) /\ (∀ l j, j < K -> P l -> P (Q4o (ky j) l)) /\ (∀ t, TW t -> P (Q69 t) -> Rm n (Q69 t))) := ⟨hput, hdel, hroom⟩
 clear h hs hP hput hdel hroom
 have hK' : (0 : Int) < K := by omega
 have hm' : (m : Int) <= 100000 := by omega
 go_enter func9, ntmps9
 go_wp2_with fail
 refine (HQ.out _).mono ?_
 rintro e w1 ⟨rfl, hw1⟩
 obtain rfl := hw1.symm
 go_wp2
 go_loopw [9, 10] (fun v i wr => KcI w0 w x a bv n m c D P v i wr) (fun _ i _ => m - (intOf i).toNat)
 case atStart => exact ⟨vv0, 0, t, rfl, hvv, rfl, Nat.zero_le _, HS.out.1, HS.out.2.1, HS.out.2.2, Kept.refl _ _⟩
 case round =>
  obtain ⟨vv, j, t1, rfl, hvv1, rfl, hj, hm1, hs1, hP1, hk1⟩ := hrel
  have HM : Hid (∀ W, Calls _ _ _ W _) := fun W => QgE vv W hvv1
  have hmx := QgD vv
  by_cases hlt : j < m
  ·have hlt' : (j : Int) < m := by omega
   have hq2 : mx vv / 16 % K < K := Nat.mod_lt _ hK
   have HKY : Hid (∀ W, Calls _ _ _ W _) := fun W => QgK (mx vv / 16 % K) W (by omega)
   rw [show ((mx vv / 16 % K : Nat) : Int) = (((mx vv : Nat) : Int) / 16 % (K : Int)) from by rw [Int.natCast_emod, Int.natCast_ediv]; rfl] at HKY
   have HVL : Hid (∀ W, Calls _ _ _ W _) := fun W => QgF (mx vv / 64) W (by omega)
   rw [show ((mx vv / 64 : Nat) : Int) = ((mx vv : Nat) : Int) / 64 from by rw [Int.natCast_ediv]; rfl] at HVL
   have hvs := QgG (mx vv / 64)
   have hko : Q52 (ky (mx vv / 16 % K)) := QgJ _
   generalize hu : mx vv = u at *
   have hmi : (u : Int) < 2147483648 := by omega
   have hm0 : (0 : Int) <= u := by omega
   generalize hkk : u / 16 % K = kk at *
   generalize hvx : val0.extract 0 (u / 64 % 13) = vx at *
   have HX : Hid (Smm w0 x a bv n c t1 D wr /\ Sd n c t1 D /\ P (Q69 t1) /\ Kept [x] w wr) := ⟨hm1, hs1, hP1, hk1⟩
   have HC : Hid (Q52 (ky kk) /\ vx.size <= 12 /\ kk < K) := ⟨hko, hvs, hq2⟩
   clear hm1 hs1 hP1 hk1 hko hvs hq2 hkk hvx
   go_wp2_with fail
   refine (HM.out _).mono ?_
   rintro e w2 ⟨rfl, hw2⟩
   obtain rfl := hw2.symm
   go_wp2_with fail
   refine (HKY.out _).mono ?_
   rintro e w3 ⟨rfl, hk3⟩
   have hm3 := HX.out.1.k0 hk3
   by_cases hd : (u : Int) / 4 % 4 = 0
   ·have HD : Hid (Calls _ _ _ _ _) := hm3.del HX.out.2.1 HC.out.1
    clear hm3
    go_wp2_with fail
    refine HD.out.mono ?_
    rintro e w4 ⟨rfl, hm4, hk4⟩
    have FIN : Hid (KcI w0 w x a bv n m c D P (.int .i64 (u : Nat)) (.int .i64 ((j + 1 : Nat) : Int)) w4) := ⟨u, j + 1, _, rfl, hmx, rfl, hlt, hm4, HX.out.2.1.del, by
     rw [(Qbs _ t1 HX.out.2.1.st.tw).2]
     exact HH.out.2.1 _ _ HC.out.2.2 HX.out.2.2.1, (HX.out.2.2.2.trans (hk3.mono (by simp))).trans hk4⟩
    clear hm4 hk4
    go_wp2
    go_roundw
    case rel => exact FIN.out
    case measure => simp [intOf]; omega
   ·have hc3 := Q6f (Q67 (ky kk) vx HC.out.1 HC.out.2.1) t1 HX.out.2.1.st.tw
    have hP3 : P (Q69 (chgT (Q4n (ky kk) vx) (ky kk) t1)) := by rw [hc3.2]; exact HH.out.1 _ _ _ HC.out.2.1 HC.out.2.2 HX.out.2.2.1
    have HPu : Hid (Calls _ _ _ _ _) := hm3.put HX.out.2.1 HC.out.1 HC.out.2.1 h8 h4 (by rw [<- hc3.2]; exact HH.out.2.2 _ hc3.1 hP3)
    have HP3 : Hid (P (Q69 (chgT (Q4n (ky kk) vx) (ky kk) t1))) := hP3
    clear hm3 hP3 hc3
    have hd' : ((u : Int) / 4 % 4 == 0) = false := by rw [beq_eq_false_iff_ne]; exact hd
    clear hd
    go_wp2_with fail
    refine (HVL.out _).mono ?_
    rintro e w4 ⟨rfl, hw4⟩
    obtain rfl := hw4.symm
    go_wp2_with fail
    refine HPu.out.mono ?_
    rintro e w5 ⟨rfl, hm5, hk5⟩
    have FIN : Hid (KcI w0 w x a bv n m c D P (.int .i64 (u : Nat)) (.int .i64 ((j + 1 : Nat) : Int)) w5) := ⟨u, j + 1, _, rfl, hmx, rfl, hlt, hm5, HX.out.2.1.put HC.out.1 HC.out.2.1, HP3.out, (HX.out.2.2.2.trans (hk3.mono (by simp))).trans hk5⟩
    clear hm5 hk5
    go_wp2
    go_roundw
    case rel => exact FIN.out
    case measure => simp [intOf]; omega
  ·have hge : ¬ (j : Int) < (m : Int) := by omega
   go_wp2
   go_ret
   exact ⟨rfl, t1, hm1, hs1, hP1, hk1⟩
theorem QgM : ∀ (l : List UInt8) (n : Nat), l.length < n -> l < List.replicate n 255
 | [], n + 1, _ => by rw [List.replicate_succ]; exact List.nil_lt_cons _ _
 | a :: l, n + 1, h => by
  rw [List.replicate_succ, List.cons_lt_cons_iff]
  by_cases e : a = 255
  ·exact Or.inr ⟨e, QgM l n (by simpa using h)⟩
  ·left
   have h1 : a.toNat < 256 := a.toNat_lt
   have h2 : a.toNat ≠ 255 := fun h => e (UInt8.toNat_inj.1 h)
   show a.toNat < (255 : UInt8).toNat
   have : (255 : UInt8).toNat = 255 := rfl
   omega
theorem QgN {α : Type} {f : α -> Bool} {l : List α} (h : ∀ x ∈ l, f x = true) : l.filter f = l := List.filter_eq_self.2 h
theorem QgO {t : Tr} (ht : TW t) (hl : (Q69 t).length <= 1048576) : Q4p ⟨#[]⟩ ⟨#[255, 255, 255, 255, 255, 255, 255, 255, 255]⟩ 1048576 (Q69 t) = Q69 t := by
 unfold Q4p
 rw [QgN, List.take_of_length_le hl]
 intro p hp
 have hk := (WFN.keys ht.wf p hp).2
 unfold inR
 have h1 : bl p.1 ⟨#[]⟩ = false := by rw [Q4f]; simp
 have h2 : bl p.1 ⟨#[255, 255, 255, 255, 255, 255, 255, 255, 255]⟩ = true := by
  rw [Q4f]
  have h3 := hk.2.1
  have h4 : p.1.data.toList.length = p.1.size := Array.length_toList
  have := QgM p.1.data.toList 9 (by omega)
  exact decide_eq_true this
 rw [h1, h2]
 rfl
theorem QgP {k k' v : ByteArray} (h : be k k' = false) : ∀ (l : List Pr) (b : Bool), (Q4m k v b l).filter (fun p => be p.1 k') = l.filter fun p => be p.1 k'
 | [], b => by rw [Q4Y]; cases b <;> simp [h]
 | p :: r, b => by
  rw [Q4Z, List.filter_append, List.filter_append, QgP h r _]
  have h1 : (if (!b && !bl p.1 k) = true then [(k, v)] else []).filter (fun p : Pr => be p.1 k') = [] := by split <;> simp [h]
  rw [h1, List.nil_append]
  cases h2 : be p.1 k with
  | true =>
   have : be p.1 k' = false := by rw [(Q4g _ _).1 h2]; exact h
   simp [this]
  | false => cases h3 : be p.1 k' <;> simp [h3]
theorem QgQ (k : ByteArray) : ∀ (l : List Pr), getL k l = ((l.filter fun p => be p.1 k).head?).map fun p => p.2
 | [] => rfl
 | p :: r => by
  simp only [getL, List.filter_cons]
  cases h : be p.1 k with
  | true => simp
  | false => simpa using QgQ k r
theorem QgR {k k' v : ByteArray} {l : List Pr} (h : k ≠ k') : getL k' (Q4n k v l) = getL k' l := by
 rw [QgQ, QgQ]
 unfold Q4n
 rw [QgP ((Q4h _ _).2 h)]
theorem QgS {k k' : ByteArray} {l : List Pr} (h : k ≠ k') : getL k' (Q4o k l) = getL k' l := by
 rw [QgQ, QgQ]
 unfold Q4o
 rw [List.filter_filter]
 congr 3
 funext p
 cases h1 : be p.1 k' with
 | false => rfl
 | true =>
  have : be p.1 k = false := by rw [(Q4g _ _).1 h1]; exact (Q4h _ _).2 fun e => h e.symm
  simp [this]
end Go.Proofs.YtcklgafpgdhnaabGreatDoor
