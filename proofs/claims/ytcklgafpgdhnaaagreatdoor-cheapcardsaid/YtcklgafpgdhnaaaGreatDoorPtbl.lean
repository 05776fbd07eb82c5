import Derived.Test.YtcklgafpgdhnaaaGreatDoorPtax
import Derived.Test.YtcklgafpgdhnaaaGreatDoorPtbk
import Derived.Test.YtcklgafpgdhnaaaGreatDoorPtai
import Derived.Test.YtcklgafpgdhnaaaGreatDoorPtbj
import Derived.Test.YtcklgafpgdhnaaaGreatDoorPtbf
import Derived.Test.YtcklgafpgdhnaaaGreatDoorPtad
import Derived.Test.YtcklgafpgdhnaaaGreatDoorPtab
import Derived.BigRegion
set_option maxRecDepth 100000
set_option maxHeartbeats 4000000
open List renaming getElem_toArray → zA, getElem_cons_succ → zB, getElem_cons_zero → zC, setIfInBounds_toArray → zD, set_cons_succ → zE, set_cons_zero → zF
namespace Go.Proofs.YtcklgafpgdhnaaaGreatDoor
open Go.RowKit

theorem Lh.wr {D D' : Dv} {T R : Nat} (h : Lh D T R D') : D'.wr = wrap64 (D.wr + 1) := by
 obtain ⟨D1, h1, h2⟩ := h
 rw [h2.wr, h1.wr]
theorem fmt_of2 {w : World} {a g n k : Nat} {L : List UInt8} {c wr t : Int} (h : Dev w a g n L c wr t) (h8 : 8 ≤ n) (h4 : n ≤ 400) (hk : k ≤ 50000) (hs : St k L) : Calls Tryz.prog 33 #[.pointer (some ⟨a, 0, none⟩)] w fun e w' =>
  e = .returned .nilIface ∧ (∃ L' c' wr', Dev w' a g n L' c' wr' t ∧ St (k + 1) L' ∧ wr' = wrap64 (wrap64 (wr + 1) + 1)) ∧ Kept [a, g] w w' := by
 refine (PFormat_of a w _ _ (Format_fits a _ n _ _ w h.dq h8 h4 (by show ([] : List _).length < _; simp) (Or.inl (Dev.good L c wr t)))).mono ?_
 rintro e w' ⟨o, err, rfl, hc, ⟨cv', D', hd', _, hP⟩, hk'⟩
 have e0 : nxt (2 * k) = 2 * k + 1 := Nat.mod_eq_of_lt (by omega)
 have e1 : nxt (2 * k + 1) = 2 * k + 2 := Nat.mod_eq_of_lt (by omega)
 unfold FmtP at hP
 rw [hs.newest hk] at hP
 simp only [e0, e1] at hP
 rcases hP with ⟨rfl, D1, l1, l2⟩ | ⟨rfl, hP⟩
 ·have hw1 := l1.wr
  have d1 := l1.dev
  rw [d1] at l2
  have hw2 := l2.wr
  have d2 := l2.dev
  have herr : err = .nilIface := hc
  subst herr
  rw [d2] at hd'
  exact ⟨rfl, ⟨_, _, _, hd'.dev rfl ⟨rfl, rfl, rfl⟩ (by omega), St.next hk h.l h8, by
   rw [hw2]
   show wrap64 (D1.wr + 1) = _
   rw [hw1]
   rfl⟩, hk'.mono (by intro y hy; simpa [dfoot, Value.ownBlock] using hy)⟩
 ·rcases hP with hP | ⟨D1, l1, hP⟩
  ·exact hP.bad.elim
  ·have d1 := l1.dev
   rw [d1] at hP
   exact hP.bad.elim
theorem Qt.dev {w : World} {a g n : Nat} {cv : Value} {L : List UInt8} {c wr t : Int} {D : Dv} (q : Qt (Dq L c wr t) D) (h : DQ w a (.slice (some ⟨g, 0, none⟩) n n) n cv D) (hn : n ≤ 1000) : Dev w a g n L D.c wr t := by
 have := h.dev q.q (q.good.2 ⟨rfl, rfl, rfl⟩) hn
 rw [q.L, q.wr, q.t] at this
 exact this
theorem read_zero {a n : Nat} {bv cv : Value} (h8 : 8 ≤ n) : ∀ v W D1, Vol W v a n → DQ W a bv n cv D1 → Calls Tryz.prog 90 #[.pointer (some ⟨v, 0, none⟩), .int .i64 0] W (TrdR a bv n cv D1 (some ⟨0, ([] : List Pr), 0⟩) W) := by
 intro v W D1 hv hd
 refine (SRead_zero v a n W hv h8).mono ?_
 rintro e w' ⟨rfl, k⟩
 exact ⟨D1, hd.k0 k, k.mono (by simp), Or.inl ⟨Qt.refl D1, _, _, rfl, rfl, Or.inl ⟨rfl, rfl⟩⟩⟩
theorem open_of {w : World} {a g n k : Nat} {L : List UInt8} {c wr t : Int} (h : Dev w a g n L c wr t) (h8 : 8 ≤ n) (h4 : n ≤ 400) (hk : k ≤ 50000) (hs : St k L) :
  Calls Tryz.prog 55 #[.iface 26 (.pointer (some ⟨a, 0, none⟩))] w (OpenR a (.slice (some ⟨g, 0, none⟩) n n) n (.slice none 0 0) (Dq L c wr t) ((2 * k, 0), decide (0 < k)) (some ⟨0, ([] : List Pr), 0⟩) w) := by
 have hR := Open_any a _ n _ _ (some ⟨0, ([] : List Pr), 0⟩) w h.dq h8 h4 (by show ([] : List _).length < _; simp) (Or.inl (Dev.good L c wr t)) (by
  rw [hs.newest hk]
  exact fun v W D1 hv hd _ _ _ => read_zero h8 v W D1 hv hd)
 rw [hs.newest hk] at hR
 exact hR

end Go.Proofs.YtcklgafpgdhnaaaGreatDoor

namespace Go.Proofs.YtcklgafpgdhnaaaGreatDoor
open Go.RowKit

structure Sd (n : Nat) (c : Hd) (t : Tr) (D : Dv) : Prop where
 s : c.s = 1 ∨ c.s = 2
 st : StK n D.view c.lt t
 gd : Good D
 q : D.q = []
 hd : newestD D = ((c.tu, c.ro), true)
 ro : c.ro = c.lt.pl
 tu : c.tu < 18446744073709551616
structure Smm (w0 : World) (x a : Nat) (bv : Value) (n : Nat) (c : Hd) (t : Tr) (D : Dv) (w : World) : Prop where
 rc : ∃ v r, Rec x v a n c r t w
 dq : DQ w a bv n (.slice none 0 0) D
 k : Kept [] w0 w
 fx : w0.heap.size ≤ x
 fd : ∀ y ∈ dfoot a bv (.slice none 0 0), w0.heap.size ≤ y
def ft (x a : Nat) (bv : Value) : List Nat := x :: dfoot a bv (.slice none 0 0)
def Rm (n : Nat) (l : List Pr) : Prop := 4 * l.length + 8 ≤ 3 * n
theorem Rm.cnt {n : Nat} {t : Tr} (h : Rm n (flatT t)) (hn : 8 ≤ n) (ht : TW t) : ¬ (n - 2) / 2 < cntT t := by
 have := cntT_le t ht
 unfold Rm at h
 omega
theorem Rm.two {n : Nat} {t u : Tr} (h : Rm n (flatT t)) (g : Rm n (flatT u)) (hn : 8 ≤ n) (ht : TW t) (hu : TW u) : cntT t + 2 + cntT u ≤ n := by
 have h1 := cntT_le t ht
 have h2 := cntT_le u hu
 unfold Rm at h g
 omega
section
variable {w0 w w' : World} {x a : Nat} {bv : Value} {n : Nat} {c : Hd} {t : Tr} {D : Dv}
theorem Smm.k0 (h : Smm w0 x a bv n c t D w) (k : Kept [] w w') : Smm w0 x a bv n c t D w' := by
 obtain ⟨v, r, hr⟩ := h.rc
 exact ⟨⟨v, r, hr.k k⟩, h.dq.k0 k, h.k.trans k, h.fx, h.fd⟩
theorem Smm.no (h : Smm w0 x a bv n c t D w) : x ∉ dfoot a bv (.slice none 0 0) := by
 obtain ⟨v, r, hr⟩ := h.rc
 exact h.dq.no hr.row (by decide)
theorem Smm.old (h : Smm w0 x a bv n c t D w) (k : Kept (ft x a bv) w w') : Kept [] w0 w' := h.k.trans2 k fun y hy => by
 rcases List.mem_cons.1 hy with rfl | hy
 ·exact Or.inr h.fx
 ·exact Or.inr (h.fd y hy)
theorem Sd.put {k y : ByteArray} (h : Sd n c t D) (hk : keyOk k) (hy : y.size ≤ 12) : Sd n c (chgT (withL k y) k t) D := { h with st := h.st.chg (op_with k y hk hy) }
theorem Sd.del {k : ByteArray} (h : Sd n c t D) : Sd n c (delT k t) D := by
 refine { h with st := ?_ }
 unfold delT
 split
 ·exact h.st.chg (op_without k)
 ·exact h.st
theorem Smm.put {k y : ByteArray} (h : Smm w0 x a bv n c t D w) (hs : Sd n c t D) (hk : keyOk k) (hy : y.size ≤ 12) (h8 : 8 ≤ n) (h4 : n ≤ 400) (hr : Rm n (withL k y (flatT t))) :
  Calls Tryz.prog 36 #[.pointer (some ⟨x, 0, none⟩), .string k, .string y] w fun e w' => e = .returned .nilIface ∧ Smm w0 x a bv n c (chgT (withL k y) k t) D w' ∧ Kept [x] w w' := by
 obtain ⟨v, r, hR⟩ := h.rc
 obtain ⟨htw, hfl⟩ := chgT_ok (op_with k y hk hy) t hs.st.tw
 have hro : ¬ (n - 2) / 2 < cntT (chgT (withL k y) k t) := Rm.cnt (by rw [hfl]; exact hr) h8 htw
 refine (Put_yes x v a n c r t k y w hR hs.s hs.st.tw hk hy h8 h4 hro).mono ?_
 rintro e w' ⟨err, rfl, ⟨rfl, r', hr'⟩, hk'⟩
 exact ⟨rfl, ⟨⟨v, r', hr'⟩, h.dq.k1 hk' h.no, h.k.trans2 hk' (by intro q hq; simp at hq; subst hq; exact Or.inr h.fx), h.fx, h.fd⟩, hk'⟩
theorem Smm.del {k : ByteArray} (h : Smm w0 x a bv n c t D w) (hs : Sd n c t D) (hk : keyOk k) :
  Calls Tryz.prog 22 #[.pointer (some ⟨x, 0, none⟩), .string k] w fun e w' => e = .returned .nilIface ∧ Smm w0 x a bv n c (delT k t) D w' ∧ Kept [x] w w' := by
 obtain ⟨v, r, hR⟩ := h.rc
 refine (Delete_yes x v a n c r t k w hR hs.st.tw hs.s hk).mono ?_
 rintro e w' ⟨err, rfl, ⟨rfl, r', hr'⟩, hk'⟩
 exact ⟨rfl, ⟨⟨v, r', hr'⟩, h.dq.k1 hk' h.no, h.k.trans2 hk' (by intro q hq; simp at hq; subst hq; exact Or.inr h.fx), h.fx, h.fd⟩, hk'⟩
end
theorem sys_same {n : Nat} {lk : Nat → List UInt8} {c : Hd} {t : Tr} (h : StK n lk c.lt t) (e : (sysL c t).1.pl = c.lt.pl) : (sysL c t).2.ws = [] := by
 unfold sysL at *
 cases hn : nilN t.h t.n with
 | true =>
  have e : (layT t ⟨usL c.lt, []⟩).2 = ⟨usL c.lt, []⟩ := by unfold layT; simp [hn]
  rw [e]
 | false =>
  rw [layT_nd hn] at *
  by_cases hz : t.pl = 0
  ·exfalso
   have e1 : layK t.h ⟨nil8, t.n, t.pl⟩ ⟨usL c.lt, []⟩ = _ := layK_new (k := rtK t) hz ⟨usL c.lt, []⟩
   rw [e1] at e
   have e : tk (layN t.h t.n ⟨usL c.lt, []⟩).2.us = c.lt.pl := e
   have h1 := tk_not (layN t.h t.n ⟨usL c.lt, []⟩).2.us
   obtain ⟨ws, _, h2, _, _⟩ := Stp.ws (lay_stp t.h t.n ⟨usL c.lt, []⟩).1
   rw [e, h2] at h1
   apply h1
   apply List.mem_append_right
   show c.lt.pl ∈ usL c.lt
   unfold usL
   cases hl : nilN c.lt.h c.lt.n with
   | true => rw [h.ltw.nil hl]; simp
   | false => exact List.mem_append_left _ (List.mem_reverse.2 (by unfold preT; rw [hl]; simp))
  ·rw [show layK t.h ⟨nil8, t.n, t.pl⟩ ⟨usL c.lt, []⟩ = _ from layK_old (k := rtK t) hz ⟨usL c.lt, []⟩]
theorem StK.lpl {n : Nat} {lk : Nat → List UInt8} {lt t : Tr} (h : StK n lk lt t) (hn : n ≤ 65536) : lt.pl < 65536 := by
 cases hl : nilN lt.h lt.n with
 | true => rw [h.ltw.nil hl]; omega
 | false =>
  have := h.ub lt.pl (by unfold preT; rw [hl]; simp)
  omega
def syN (c : Hd) (t : Tr) : Nat := if (sysL c t).1.pl = c.lt.pl then 0 else (sysL c t).2.ws.length + 1
theorem Smm.sync {w0 w : World} {x a : Nat} {bv : Value} {n : Nat} {c : Hd} {t : Tr} {D : Dv} (h : Smm w0 x a bv n c t D w) (hs : Sd n c t D) (h8 : 8 ≤ n) (h4 : n ≤ 400) (hr : Rm n (flatT t)) (hl : Rm n (flatT c.lt)) (htu : c.tu + 1 < 18446744073709551616) :
  Calls Tryz.prog 28 #[.pointer (some ⟨x, 0, none⟩)] w fun e w' => e = .returned .nilIface ∧ Kept (ft x a bv) w w' ∧ ∃ c' D', Smm w0 x a bv n c' c'.lt D' w' ∧ Sd n c' c'.lt D' ∧ c'.s = 2 ∧ c'.lt = (sysL c t).1 ∧ flatT c'.lt = flatT t ∧ c.tu ≤ c'.tu ∧ c'.tu ≤ c.tu + 1 ∧ D'.wr = wrN (syN c t) D.wr := by
 obtain ⟨v, r, hR⟩ := h.rc
 have hnx : nxt c.tu = c.tu + 1 := Nat.mod_eq_of_lt htu
 refine (Sync_good x v a n _ _ c r t D w hR hs.s h.dq hs.st hs.gd h8 h4 (by rw [hs.q]; simp) (by rw [hnx]; omega) (Rm.two hl hr h8 hs.st.ltw hs.st.tw)).mono ?_
 rintro e w' ⟨rfl, hk, cv', D', r', tu', ro', D0, hd', hR', hst', hg', h0, hok, hfr⟩
 obtain ⟨hhd, hro, htu'⟩ := sync_head (by omega) h.dq.l h.dq.q h0 hok hfr hs.hd hs.ro hs.tu (hst'.lpl (by omega))
 have hw0 : D0.q = [] ∧ D0.wr = D.wr := by
  rcases h0 with ⟨_, hf⟩ | ⟨_, rfl⟩
  ·exact ⟨hf.q, hf.wr⟩
  ·exact ⟨hs.q, rfl⟩
 have hq' : D'.q = [] ∧ D'.wr = wrN (syN c t) D.wr ∧ c.tu ≤ tu' ∧ tu' ≤ c.tu + 1 := by
  unfold syN
  rcases hok with ⟨e1, e2, _, hw⟩ | ⟨e1, e2, _, D1, D2, D3, hw, hf1, hwn, hf2⟩
  ·have e3 := sys_same hs.st e1
   rw [e3] at hw
   refine ⟨by rw [hw.q, hw0.1]; rfl, ?_, by omega, by omega⟩
   rw [if_pos e1, hw.wr, hw0.2]
   rfl
  ·refine ⟨hf2.q, ?_, by omega, by omega⟩
   rw [if_neg e1, hf2.wr, hwn.wr, hf1.wr, hw.wr, hw0.2]
   rfl
 obtain rfl := hd'.z hq'.1
 have hold := h.old hk
 exact ⟨rfl, hk, ⟨2, tu', ro', (sysL c t).1, r'⟩, D', ⟨⟨v, r', hR'⟩, hd', hold, h.fx, h.fd⟩, ⟨Or.inr rfl, hst', hg', hq'.1, hhd, hro, htu'⟩, rfl, rfl, (sys_flat c t).1, hq'.2.2.1, hq'.2.2.2, hq'.2.1⟩
theorem opn_new {w0 w : World} {a g n : Nat} {L : List UInt8} {c wr t : Int} (h : Dev w a g n L c wr t) (h8 : 8 ≤ n) (h4 : n ≤ 400) (hs : St 1 L) (hk : Kept [] w0 w) (ha : w0.heap.size ≤ a) (hg : w0.heap.size ≤ g) : Calls Tryz.prog 34 #[.pointer (some ⟨a, 0, none⟩)] w fun e w' =>
  ∃ x c D, e = .returned (.tuple #[.pointer (some ⟨x, 0, none⟩), .nilIface]) ∧ Smm w0 x a (.slice (some ⟨g, 0, none⟩) n n) n c c.lt D w' ∧ Sd n c c.lt D ∧ flatT c.lt = [] ∧ c.tu = 2 ∧ D.wr = wr ∧ Kept [a] w w' := by
 refine POpen_of a w _ ((open_of h h8 h4 (by omega) hs).mono ?_)
 rintro e w' ⟨o, pv, err, D', rfl, hc, hd, hkk, h1 | h1 | ⟨rfl, h2, _, t', r, x, v, h3, rfl, h5, h6⟩⟩
 ·exact absurd (Dev.good L c wr t) h1.2.1.bad
 ·rcases h1.2.2.2 with h2 | h2
  ·cases h2
  ·cases h2
 ·have herr : err = .nilIface := hc
  subst herr
  simp only [Option.some.injEq] at h3
  subst h3
  have hsz := hk.size
  refine ⟨_, _, rfl, x, _, D', rfl, ⟨⟨v, r, h5⟩, hd, hk.trans2 hkk (by intro q hq; simp at hq; subst hq; exact Or.inr ha), by omega, (fun y hy => by simp [dfoot, Value.ownBlock] at hy; rcases hy with rfl | rfl <;> assumption)⟩, ⟨Or.inl rfl, StK.none n _, h2.good.2 ⟨rfl, rfl, rfl⟩, h2.q, ?_, rfl, ?_⟩, rfl, rfl, h2.wr, hkk⟩
  ·have e1 : newestD D' = newestD (Dq L c wr t) := by
    unfold newestD
    rw [h2.view, h2.view]
   rw [e1, hs.newest (by omega)]
   rfl
  ·show 2 < 18446744073709551616
   omega

theorem nodup_leD {α : Type} [DecidableEq α] : ∀ {l m : List α}, l.Nodup → (∀ x ∈ l, x ∈ m) → l.length ≤ m.length
 | [], _, _, _ => Nat.zero_le _
 | a :: l, m, h, hs => by
  rw [List.nodup_cons] at h
  have h1 := hs a (by simp)
  have h2 : ∀ x ∈ l, x ∈ m.erase a := fun x hx => (List.mem_erase_of_ne (fun e => h.1 (by rw [← e]; exact hx))).2 (hs x (by simp [hx]))
  have h3 := nodup_leD h.2 h2
  rw [List.length_erase_of_mem h1] at h3
  have : 0 < m.length := List.length_pos_of_mem h1
  simp only [List.length_cons]
  omega
theorem nodup_le {α : Type} {l m : List α} (h : l.Nodup) (hs : ∀ x ∈ l, x ∈ m) : l.length ≤ m.length := by
 classical
 exact nodup_leD h hs
def Am (m : List ByteArray) (l : List Pr) : Prop := ∀ p ∈ l, p.1 ∈ m
theorem Srt.nodup {l : List Pr} (h : Srt l) : (l.map fun p => p.1).Nodup := by
 unfold List.Nodup
 rw [List.pairwise_map]
 refine List.Pairwise.imp ?_ h
 intro p q hpq e
 rw [e] at hpq
 exact absurd hpq (by simp [bl_irrefl])
theorem Am.len {m : List ByteArray} {t : Tr} (h : Am m (flatT t)) (ht : TW t) : (flatT t).length ≤ m.length := by
 have h1 := Srt.nodup (WFN.srt ht.wf)
 have h2 := nodup_le h1 (m := m) (by
  intro x hx
  obtain ⟨p, hp, rfl⟩ := List.mem_map.1 hx
  exact h p hp)
 rw [List.length_map] at h2
 exact h2
theorem Am.put {m : List ByteArray} {l : List Pr} {k y : ByteArray} (h : Am m l) (hk : k ∈ m) : Am m (withL k y l) := by
 intro p hp
 rcases mem_withGo hp with rfl | hp
 ·exact hk
 ·exact h p hp
theorem Am.del {m : List ByteArray} {l : List Pr} {k : ByteArray} (h : Am m l) : Am m (withoutL k l) := fun p hp => h p (mem_without hp)

end Go.Proofs.YtcklgafpgdhnaaaGreatDoor

namespace Go.Proofs.YtcklgafpgdhnaaaGreatDoor
open Go.RowKit

theorem kpick_any (c : Int) (n : Nat) (w : World) (hn : 0 < n) (hb : (n : Int) ≤ 4294967296) (h1 : -9223372036854775808 ≤ c) (h2 : c ≤ 9223372036854775807) :
  Calls Tryz.prog 21 #[.int .i64 c, .int .i64 n] w fun e w' => e = .returned (.int .i64 (pk c n)) ∧ w' = w := by
 by_cases hc : c < 0
 ·have hp : (pk c n : Int) = (-(c + 1)) % n := by unfold pk; rw [if_pos hc]; have := Int.emod_nonneg (-(c + 1)) (show (n : Int) ≠ 0 by omega); omega
  have H : Hid (-((c + 1).tmod n) = (pk c n : Int)) := by show _ = _; rw [hp, ← Int.neg_tmod, Int.tmod_eq_emod_of_nonneg (by omega)]
  clear hp
  have hnz : ¬ (n : Int) = 0 := by omega
  go_enter Tryz.func21, Tryz.ntmps21
  go_wp2
  go_ret
  exact ⟨ret_int H.out, rfl⟩
 ·have hp : (pk c n : Int) = c % n := by unfold pk; rw [if_neg hc]; have := Int.emod_nonneg c (show (n : Int) ≠ 0 by omega); omega
  have H : Hid ((pk c n : Int) = c % n) := hp
  clear hp
  have hnz : ¬ (n : Int) = 0 := by omega
  go_enter Tryz.func21, Tryz.ntmps21
  go_wp2
  go_ret
  exact ⟨ret_int H.out.symm, rfl⟩

end Go.Proofs.YtcklgafpgdhnaaaGreatDoor

namespace Go.Proofs.YtcklgafpgdhnaaaGreatDoor
open Go.RowKit

def TrueW (w : World) (e : Ending) (w' : World) : Prop := e = .returned (.bool true) ∧ Kept [] w w'
def mx (n : Nat) : Nat := (n * 1103515245 + 12345) % 2147483648
theorem mx_lt (n : Nat) : mx n < 2147483648 := Nat.mod_lt _ (by omega)
theorem kmixed_any (n : Nat) (w : World) (hn : n < 2147483648) : Calls Tryz.prog 35 #[.int .i64 (n : Nat)] w fun e w' => e = .returned (.int .i64 (mx n : Nat)) ∧ w' = w := by
 have H : Hid (((n : Int) * 1103515245 + 12345) % 2147483648 = (mx n : Int)) := by
  show _ = _
  unfold mx
  omega
 have h1 : (0 : Int) ≤ n := by omega
 have h2 : (n : Int) < 2147483648 := by omega
 go_enter Tryz.func35, Tryz.ntmps35
 go_wp2
 go_ret
 exact ⟨ret_int (by first | exact H.out | (rw [← H.out]; rfl)), rfl⟩

end Go.Proofs.YtcklgafpgdhnaaaGreatDoor

namespace Go.Proofs.YtcklgafpgdhnaaaGreatDoor
open Go.RowKit

theorem u8_of {n : Nat} (h : n < 256) : ((UInt8.ofNat n).toNat : Int) = (n : Int) := by
 rw [UInt8.toNat_ofNat_of_lt' (by simpa using h)]
theorem conv_new (w W : World) (cs : List Value) (l : List UInt8) (k : Nat) (hk : l.length = k) (hW : W.heap[w.heap.size]? = some (.cells cs.toArray 5 (0, 0))) (hl : cs = u8s l) : (convert 60 9 (.slice (some ⟨w.heap.size, 0, none⟩) k k)).run Tryz.prog W = .ok (.string ⟨l.toArray⟩) W := by
 subst hk hl
 refine run_convert_bytes_back (P := Tryz.prog) W 60 9 5 ⟨w.heap.size, 0, none⟩ _ l Tryz.underlying60 Tryz.underlying5 Tryz.underlying9 fun j hj => ?_
 refine row_src hW j _ ?_
 rw [u8s_get, List.getElem?_eq_getElem hj]
 rfl
end Go.Proofs.YtcklgafpgdhnaaaGreatDoor

namespace Go.Proofs.YtcklgafpgdhnaaaGreatDoor
open Go.RowKit

def wd (j : Nat) : ByteArray := ⟨#[107, 101, 121, 48, 48, 48, UInt8.ofNat (97 + j % 26), UInt8.ofNat (97 + j / 26)]⟩
def wds (k : Nat) : List ByteArray := (List.range k).map wd
theorem wds_len (k : Nat) : (wds k).length = k := by simp [wds]
theorem wd_mem {j k : Nat} (h : j < k) : wd j ∈ wds k := List.mem_map.2 ⟨j, List.mem_range.2 h, rfl⟩
theorem wd_ok (j : Nat) : keyOk (wd j) := ⟨show 1 ≤ 8 by omega, show 8 ≤ 8 by omega⟩
theorem wd_conv (w W : World) (j : Nat) (hj : j < 200) (hW : W.heap[w.heap.size]? = some (.cells #[.int .u8 107, .int .u8 101, .int .u8 121, .int .u8 48, .int .u8 48, .int .u8 48, .int .u8 (97 + (j : Int) % 26), .int .u8 (97 + (j : Int) / 26)] 5 (0, 0))) :
  (convert 60 9 (.slice (some ⟨w.heap.size, 0, none⟩) 8 8)).run Tryz.prog W = .ok (.string (wd j)) W :=
 conv_new w W [.int .u8 107, .int .u8 101, .int .u8 121, .int .u8 48, .int .u8 48, .int .u8 48, .int .u8 (97 + (j : Int) % 26), .int .u8 (97 + (j : Int) / 26)] [107, 101, 121, 48, 48, 48, UInt8.ofNat (97 + j % 26), UInt8.ofNat (97 + j / 26)] 8 rfl hW (by
  simp only [u8s, List.map_cons, List.map_nil]
  rw [u8_of (by omega), u8_of (by omega)]
  rfl)
def v12 : ByteArray := ⟨#[48, 49, 50, 51, 52, 53, 54, 55, 56, 57, 97, 98]⟩
def SpI (w0 : World) (x a : Nat) (bv : Value) (n k T : Nat) (c : Hd) (t : Tr) (D : Dv) (wr : World) : Prop := Smm w0 x a bv n c t D wr ∧ Sd n c t D ∧ Am (wds k) (flatT t) ∧ Am (wds k) (flatT c.lt) ∧ c.tu ≤ T
theorem Rm.of {n k : Nat} {t : Tr} (h : Am (wds k) (flatT t)) (ht : TW t) (hk : 4 * k + 8 ≤ 3 * n) : Rm n (flatT t) := by
 have := h.len ht
 rw [wds_len] at this
 unfold Rm
 omega
section
variable {w0 w : World} {x a : Nat} {bv : Value} {n k T : Nat} {c : Hd} {t : Tr} {D : Dv}
theorem SpI.k0 {w' : World} (h : SpI w0 x a bv n k T c t D w) (hk : Kept [] w w') : SpI w0 x a bv n k T c t D w' := ⟨h.1.k0 hk, h.2⟩
theorem SpI.up {T' : Nat} (h : SpI w0 x a bv n k T c t D w) (hT : T ≤ T') : SpI w0 x a bv n k T' c t D w := ⟨h.1, h.2.1, h.2.2.1, h.2.2.2.1, Nat.le_trans h.2.2.2.2 hT⟩
theorem SpI.put {j : Nat} {y : ByteArray} (h : SpI w0 x a bv n k T c t D w) (hj : j < k) (hy : y.size ≤ 12) (hk : 4 * k + 8 ≤ 3 * n) (h8 : 8 ≤ n) (h4 : n ≤ 400) :
  Calls Tryz.prog 36 #[.pointer (some ⟨x, 0, none⟩), .string (wd j), .string y] w fun e w' => e = .returned .nilIface ∧ SpI w0 x a bv n k T c (chgT (withL (wd j) y) (wd j) t) D w' := by
 obtain ⟨hm, hs, ha, hl, ht⟩ := h
 have hc := chgT_ok (op_with (wd j) y (wd_ok j) hy) t hs.st.tw
 have hA : Am (wds k) (flatT (chgT (withL (wd j) y) (wd j) t)) := by rw [hc.2]; exact ha.put (wd_mem hj)
 refine (hm.put hs (wd_ok j) hy h8 h4 (by rw [← hc.2]; exact Rm.of hA hc.1 hk)).mono ?_
 rintro e w' ⟨rfl, h1, _⟩
 exact ⟨rfl, h1, hs.put (wd_ok j) hy, hA, hl, ht⟩
theorem SpI.del {j : Nat} (h : SpI w0 x a bv n k T c t D w) : Calls Tryz.prog 22 #[.pointer (some ⟨x, 0, none⟩), .string (wd j)] w fun e w' => e = .returned .nilIface ∧ SpI w0 x a bv n k T c (delT (wd j) t) D w' := by
 obtain ⟨hm, hs, ha, hl, ht⟩ := h
 refine (hm.del hs (wd_ok j)).mono ?_
 rintro e w' ⟨rfl, h1, _⟩
 exact ⟨rfl, h1, hs.del, by rw [(delT_ok _ t hs.st.tw).2]; exact ha.del, hl, ht⟩
theorem SpI.sync (h : SpI w0 x a bv n k T c t D w) (hk : 4 * k + 8 ≤ 3 * n) (h8 : 8 ≤ n) (h4 : n ≤ 400) (hT : T ≤ 1000000) :
  Calls Tryz.prog 28 #[.pointer (some ⟨x, 0, none⟩)] w fun e w' => e = .returned .nilIface ∧ ∃ c' D', SpI w0 x a bv n k (T + 1) c' c'.lt D' w' ∧ c'.lt = (sysL c t).1 ∧ flatT c'.lt = flatT t ∧ D'.wr = wrN (syN c t) D.wr := by
 obtain ⟨hm, hs, ha, hl, ht⟩ := h
 refine (hm.sync hs h8 h4 (Rm.of ha hs.st.tw hk) (Rm.of hl hs.st.ltw hk) (by omega)).mono ?_
 rintro e w' ⟨rfl, _, c', D', h1, h2, _, h4, h5, _, h7, h8⟩
 exact ⟨rfl, c', D', ⟨h1, h2, by rw [h5]; exact ha, by rw [h5]; exact ha, by omega⟩, h4, h5, h8⟩
end
end Go.Proofs.YtcklgafpgdhnaaaGreatDoor
