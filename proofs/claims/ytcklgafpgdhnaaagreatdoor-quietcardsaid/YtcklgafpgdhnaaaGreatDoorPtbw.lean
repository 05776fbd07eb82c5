import Derived.Test.YtcklgafpgdhnaaaGreatDoorPtbo
import Derived.Test.YtcklgafpgdhnaaaGreatDoorPtbv
import Derived.Test.YtcklgafpgdhnaaaGreatDoorPtaa
import Derived.Test.YtcklgafpgdhnaaaGreatDoorPtac
import Derived.ProofKit
import Derived.OpenShut
import Derived.ChangeSlices
import Derived.ChangeSame
import Derived.ChangeVars
import Derived.JoinedOf
import Derived.Deep.Slices
import Derived.Deep.Strs
import Derived.Deep.DeepHandedRow
import Derived.Carry
import Derived.Test.YtcklgafpgdhnaaaGreatDoorPtae
import Derived.Shelf.Strconv.Itoa3
import Derived.Lib.ItoaLen
set_option maxRecDepth 100000
set_option maxHeartbeats 4000000
open Go.Proofs.Tryz
namespace Go.Proofs.YtcklgafpgdhnaaaGreatDoor
open Go.RowKit
theorem IL.kept {w w' : World} {v : Value} (h : IL w v) (k : Kept [] w w') : IL w' v := by
 obtain ⟨ao, len, cap, rfl, h⟩ := h
 refine ⟨ao, len, cap, rfl, h.imp id ?_⟩
 rintro ⟨a, e, h⟩
 refine ⟨a, e, fun i hi => ?_⟩
 obtain ⟨z, hz⟩ := h i hi
 refine ⟨z, ?_⟩
 rw [World.cell?_of_block (w := w) (k.block _ (block_lt_of_cell hz) (by simp))]
 exact hz
theorem Sd.pre {n : Nat} {c : Hd} {t : Tr} {D : Dv} (h : Sd n c t D) (hl : D.L.length = n * 128) (h8 : 8 <= n) (h4 : n <= 400) : Pre n c t D := ⟨h.st, h.q, h.hd, h.ro, h.tu, hl, h8, h4⟩
theorem Qt.tree {n : Nat} {D E : Dv} (h : Qt D E) : Qgh n E = Qgh n D := by
 unfold Qgh
 rw [h.newest, show E.view = D.view from funext fun i => h.view i]
theorem PL.lt {w : World} {v : Value} {l : List Pr} (h : PL w 41 v l) {b : Nat} (hb : v.ownBlock = some b) : b < w.heap.size := by
 obtain ⟨cs, fr, hh⟩ := h.tag hb
 exact Q00 hh
theorem PL.far {w w' : World} {v : Value} {l : List Pr} {S : List Nat} (h : PL w 41 v l) (k : Kept S w w') (hS : ∀ y ∈ S, w.heap.size <= y) : PL w' 41 v l := h.kept k fun b hb hm => by
 have h1 := h.lt hb
 have h2 := hS b hm
 omega
theorem QgG (va vb : Value) (l : List Pr) (w : World) (ha : PL w 41 va l) (hb : PL w 41 vb l) (hl : l.length <= 50000) : Calls prog 26 #[va, vb] w fun e w' => e = .returned (.bool true) /\ Kept [] w w' := by
 refine (Qgz va vb l l w ha hb hl).mono ?_
 rintro e w' ⟨rfl, hk⟩
 exact ⟨by simp, hk⟩
theorem QgH (z y : Int) (v : Value) (w : World) (hz1 : -9223372036854775808 <= z) (hz2 : z <= 9223372036854775807) (hy1 : -9223372036854775808 <= y) (hy2 : y <= 9223372036854775807) (hl : IL w v) (hT : Tab w) :
  Calls prog 11 #[.int .i64 z, .int .i64 y, v] w (QdT w) := by
 have HB : Hid (∀ W, Calls _ _ _ W _) := fun W => Qf1 100 z W (by omega) (by omega) hz1 hz2
 have HP : Hid (∀ W, Calls _ _ _ W _) := fun W => QdS y 30 W (by omega) (by omega) hy1 hy2
 have hm30 : pk y 30 < 30 := Q1V y 30 (by omega)
 generalize hpk : pk y 30 = m0 at *
 have HY : Hid (-9223372036854775808 <= y /\ y <= 9223372036854775807) := ⟨hy1, hy2⟩
 have HIL : Hid (IL w v /\ Tab w) := ⟨hl, hT⟩
 clear hz1 hz2 hy1 hy2 hpk hl hT
 obtain ⟨vp, vl, vc, rfl⟩ : ∃ vp vl vc, v = .slice vp vl vc := by obtain ⟨a1, a2, a3, e, _⟩ := HIL.out.1; exact ⟨a1, a2, a3, e⟩
 go_enter func11, ntmps11
 go_wp2_with fail
 refine (HB.out _).mono ?_
 rintro e w1 ⟨x, a, bv, c, D, vv, rfl, hm1, hs1, _, hpl1, _, hne, hA, htu⟩
 have H1 : Hid (Smm w x a bv 100 c c.lt D w1 /\ Sd 100 c c.lt D /\ PL w1 41 vv (Q5u c.lt)) := ⟨hm1, hs1, hpl1⟩
 have hlen : (Q5u c.lt).length <= 21 := by have := hA.len hs1.st.tw; rw [QeY] at this; exact this
 have HCh : Hid (Calls _ _ _ _ _) := Qe3 (Am (kys 20)) y m0 20 hm1 hs1 (by omega) (by omega) hA (fun l j v hv hj hl => hl.put (QeZ hj)) (fun l j hj hl => hl.del) (fun t ht hl => Rm.ky ht hl (by omega)) (by omega) (by omega) (by omega) HY.out.1 HY.out.2
 clear hm1 hs1 hpl1 hA
 go_wp2_with fail
 refine (HP.out _).mono ?_
 rintro e w2 ⟨rfl, hw2⟩
 obtain rfl := hw2.symm
 go_wp2_with fail
 refine HCh.out.mono ?_
 rintro e w3 ⟨rfl, t', hm3, hs3, hP3, hk3⟩
 have hpl3 : PL w3 41 vv (Q5u c.lt) := H1.out.1.pl H1.out.2.2 (hk3.mono (by intro q hq; simp at hq; subst hq; exact List.mem_cons_self ..))
 have HF : Hid (Calls _ _ _ _ _) := Qgu (.slice vp vl vc) w3 (HIL.out.1.kept hm3.k)
 have H3 : Hid (Smm w x a bv 100 c t' D w3 /\ PL w3 41 vv (Q5u c.lt)) := ⟨hm3, hpl3⟩
 clear hm3 hs3 hP3 hpl3
 go_wp2_with fail
 refine HF.out.mono ?_
 rintro e w4 ⟨kv, ms, rfl, hkv, _, hk4⟩
 have hm4 := H3.out.1.k0 hk4
 have HAf : Hid (Calls _ _ _ _ _) := Q29 a bv 100 _ D kv ms w4 hm4.dq (by omega) (by rw [H1.out.2.1.q]; simp) hkv
 have hpl4 : PL w4 41 vv (Q5u c.lt) := H3.out.2.far hk4 (by simp)
 have H4 : Hid (PL w4 41 vv (Q5u c.lt) /\ Kept [] w w4) := ⟨hpl4, hm4.k⟩
 obtain ⟨kp, kc, rfl⟩ := Q0X hkv
 clear hm4 hkv hpl4
 go_wp2_with fail
 refine HAf.out.mono ?_
 rintro e w5 ⟨L1, a5, bv5, rfl, hsr, haft⟩
 have hFn : Fnd 100 L1 c.tu c.ro c.lt := by
  rw [H1.out.2.1.q] at hsr
  rw [hsr.nil_eq]
  exact (H1.out.2.1.pre H1.out.1.dq.l (by omega) (by omega)).self
 have K5 : Kept [] w w5 := H4.out.2.trans haft.k
 have HFo : Hid (Calls _ _ _ _ _) := Qgr a5 bv5 100 _ (.new L1) c.lt w5 haft.d (by omega) (by omega) (by simp [Dv.new]) (HIL.out.2.k K5) ⟨rfl, rfl, rfl⟩ (by rw [hFn.hd]) (hFn.tree (by omega))
 have ha5 : w.heap.size <= a5 /\ w4.heap.size <= a5 := ⟨by have h1 := H4.out.2.size; have h2 := haft.a; omega, haft.a⟩
 have hpl5 : PL w5 41 vv (Q5u c.lt) := H4.out.1.far haft.k (by simp)
 have H5 : Hid (PL w5 41 vv (Q5u c.lt) /\ Kept [] w w5 /\ PL w4 41 vv (Q5u c.lt) /\ Kept [] w4 w5) := ⟨hpl5, K5, H4.out.1, haft.k⟩
 clear hsr haft K5 hpl5
 go_wp2_with fail
 refine HFo.out.mono ?_
 rintro e w6 ⟨vm, D6, rfl, hpl6, hfr6, hd6, hqt6, hk6⟩
 have hpv6 : PL w6 41 vv (Q5u c.lt) := H5.out.1.kept hk6 fun b hb hmm => by
  simp at hmm
  have h1 := H5.out.2.2.1.lt hb
  omega
 have K6 : Kept [] w w6 := H5.out.2.1.trans2 hk6 (by intro q hq; simp at hq; subst hq; exact Or.inr ha5.1)
 have HS6 : Hid (Calls _ _ _ _ _) := QgG vv vm (Q5u c.lt) w6 hpv6 hpl6 (by omega)
 have HFo2 : Hid (∀ W, Kept [] w6 W -> Calls _ _ _ W _) := fun W kW => Qgr a5 bv5 100 _ D6 c.lt W (hd6.k0 kW) (by omega) (by omega) (by rw [hqt6.q]; simp [Dv.new]) (HIL.out.2.k (K6.trans kW)) (hqt6.good.2 ⟨rfl, rfl, rfl⟩) (by rw [hqt6.newest, hFn.hd]) (by rw [hqt6.tree]; exact hFn.tree (by omega))
 have ha6 : a5 < w6.heap.size := Q00 hd6.d
 obtain ⟨mp, mc, rfl⟩ := hpl6.shape
 have H6 : Hid (PL w6 41 (.slice mp (Q5u c.lt).length mc) (Q5u c.lt) /\ Kept [] w w6 /\ ∀ y, (Value.slice mp (Q5u c.lt).length mc).ownBlock = some y -> y ≠ a5) := ⟨hpl6, K6, fun y hy e => by
  obtain ⟨cs, fr, hh⟩ := hpl6.tag hy
  exact hd6.no hh (by decide) (by rw [e]; simp [Q12])⟩
 obtain ⟨lp, lc, rfl⟩ := hpv6.shape
 clear hpl6 hfr6 hd6 hqt6 hk6 hpv6 K6
 go_wp2_with fail
 refine HS6.out.mono ?_
 rintro e w7 ⟨rfl, hk7⟩
 have HFo7 := HFo2.out w7 hk7
 have HFo8 : Hid (Calls _ _ _ _ _) := HFo7
 clear HFo7
 go_wp2_with fail
 refine HFo8.out.mono ?_
 rintro e w8 ⟨vn, D8, rfl, hpl8, _, _, _, hk8⟩
 have hpm8 : PL w8 41 (.slice mp (Q5u c.lt).length mc) (Q5u c.lt) := (H6.out.1.far hk7 (by simp)).kept hk8 fun b hb hmm => by
  simp at hmm
  exact H6.out.2.2 b hb hmm
 have K8 : Kept [] w w8 := (H6.out.2.1.trans hk7).trans2 hk8 (by intro q hq; simp at hq; subst hq; exact Or.inr ha5.1)
 have HS8 : Hid (Calls _ _ _ _ _) := QgG _ vn (Q5u c.lt) w8 hpm8 hpl8 (by omega)
 obtain ⟨np, nc, rfl⟩ := hpl8.shape
 clear hpl8 hpm8 hk8
 go_wp2_with fail
 refine HS8.out.mono ?_
 rintro e w9 ⟨rfl, hk9⟩
 go_wp2
 go_ret
 exact ⟨rfl, K8.trans hk9⟩
theorem DQ.qlen {w : World} {a n : Nat} {bv cv : Value} {D : Dv} (h : DQ w a bv n cv D) : D.q.length <= 9223372036854775807 := by
  obtain ⟨_, ⟨_, h0⟩ | ⟨g, cap, cur, rfl, _, _, h1, h2, _⟩⟩ := h.o
  · omega
  · unfold maxLen at h2
    omega
theorem Rec.disk {x v a n : Nat} {c : Hd} {r : Value} {t : Tr} {w w' : World} {bv cv : Value} {D : Dv} (h : Rec x v a n c r t w) (hd : DQ w a bv n cv D) (k : Kept [a] w w') : Rec x v a n c r t w' := by
  have ht : Tg w a 91 := ⟨_, _, hd.d⟩
  refine h.kept k (fun hm => ?_) fun y hy => ?_
  · simp at hm
    subst hm
    exact absurd (ht.ne ⟨_, _, h.row⟩) (by decide)
  · simp at hy
    subst hy
    refine ⟨fun e => absurd (ht.ne e) (by decide), fun e => ?_⟩
    rcases e with e | e
    · exact absurd (ht.ne e) (by decide)
    · exact absurd (ht.ne e) (by decide)
def CutR (x v a n : Nat) (bv : Value) (c : Hd) (r : Value) (t : Tr) (w : World) (e : Ending) (w' : World) : Prop := ∃ o err cv' D', e = .returned err /\ CEnd o err w' /\ Kept (ft x a bv) w w' /\ DQ w' a bv n cv' D' /\
  ((o = none /\ D'.q = [] /\ ∃ tu ro r', Rec x v a n ⟨2, tu, ro, (sysL c t).1, r'⟩ r' (sysL c t).1 w' /\ Fnd n D'.L tu ro (sysL c t).1 /\ (tu = c.tu \/ tu = nxt c.tu)) \/
   (o = some 6 /\ (∃ tu ro, Rec x v a n ⟨3, tu, ro, c.lt, c.lr⟩ r t w') /\ ∀ L1, Sr D'.L D'.q L1 -> Fnd n L1 c.tu c.ro c.lt \/ Fnd n L1 (nxt c.tu) (sysL c t).1.pl (sysL c t).1))
theorem QgI {x v a n : Nat} {bv : Value} {c : Hd} {r : Value} {t : Tr} {D : Dv} {w : World} (hR : Rec x v a n c r t w) (hd : DQ w a bv n (.slice none 0 0) D) (hp : Pre n c t D) (hs : c.s = 1 \/ c.s = 2) (hr : Rm n (Q5u t)) (hl : Rm n (Q5u c.lt)) (htu : c.tu + 1 < 18446744073709551616) (hT : Tab w) :
    Calls prog 28 #[.pointer (some ⟨x, 0, none⟩)] w (CutR x v a n bv c r t w) := by
  have hnx : nxt c.tu = c.tu + 1 := Nat.mod_eq_of_lt htu
  have hb := Qcy (c := c) (t := t) (by have := hp.n8; omega) hp.st.ub (Rm.two hl hr hp.n8 hp.st.ltw hp.st.tw)
  refine (Qcv x v a n bv _ c r t D w hR hs hd (hp.st.lyp (by have := hp.n4; omega)) hp.n8 hp.n4 (by rw [hp.q]; simp) (by rw [hnx]; omega) (Or.inr hT)).mono ?_
  rintro e w' ⟨o, err, rfl, hc, ⟨cv', D', hd', hcase⟩, hk⟩
  refine ⟨o, err, cv', D', rfl, hc, hk, hd', ?_⟩
  rcases hcase with ⟨rfl, D0, r', tu', ro', h0, hok, hfr, _, hrec⟩ | ⟨q, tu', ro', rfl, hrec, ⟨rfl, _, he⟩ | ⟨D0, h0, hbad⟩⟩
  · obtain ⟨a1, a2, a3⟩ := hp.ok hb h0 hok hfr
    exact Or.inl ⟨rfl, a1, tu', ro', r', hrec, a2, a3⟩
  · refine Or.inr ⟨rfl, ⟨tu', ro', hrec⟩, fun L1 hs1 => Or.inl ?_⟩
    rw [he.L, he.q, hp.q] at hs1
    rw [hs1.nil_eq]
    exact hp.self
  · have hq6 : q = 6 := by
      rcases hbad with ⟨ws, D1, _, _, ⟨e1, _⟩ | ⟨_, _, hno⟩⟩ | ⟨e1, _⟩
      · exact e1
      · exact absurd hb hno
      · exact e1
    subst hq6
    exact Or.inr ⟨rfl, ⟨tu', ro', hrec⟩, fun L1 hs1 => hp.bad hb h0 hbad hs1⟩
theorem CutR.any {x v a n : Nat} {c : Hd} {r : Value} {t : Tr} {D' : Dv} {o : Option Int} {W : World}
    (h : (o = none /\ D'.q = [] /\ ∃ tu ro r', Rec x v a n ⟨2, tu, ro, (sysL c t).1, r'⟩ r' (sysL c t).1 W /\ Fnd n D'.L tu ro (sysL c t).1 /\ (tu = c.tu \/ tu = nxt c.tu)) \/
      (o = some 6 /\ (∃ tu ro, Rec x v a n ⟨3, tu, ro, c.lt, c.lr⟩ r t W) /\ ∀ L1, Sr D'.L D'.q L1 -> Fnd n L1 c.tu c.ro c.lt \/ Fnd n L1 (nxt c.tu) (sysL c t).1.pl (sysL c t).1)) {L1 : List UInt8} (hs : Sr D'.L D'.q L1) :
    ∃ tu ro T, Fnd n L1 tu ro T /\ (tu = c.tu \/ tu = nxt c.tu) /\ ((T = c.lt /\ o ≠ none) \/ T = (sysL c t).1) := by
  rcases h with ⟨rfl, hq, tu, ro, r', _, hf, ht⟩ | ⟨rfl, _, h⟩
  · rw [hq] at hs
    rw [hs.nil_eq]
    exact ⟨tu, ro, _, hf, ht, Or.inr rfl⟩
  · rcases h L1 hs with h | h
    · exact ⟨_, _, _, h, Or.inl rfl, Or.inl ⟨rfl, by simp⟩⟩
    · exact ⟨_, _, _, h, Or.inr rfl, Or.inr rfl⟩
theorem QgJ (a : Nat) (bv : Value) (n : Nat) (cv : Value) (D : Dv) (z : Int) (w : World) (h : DQ w a bv n cv D) : Calls prog 27 #[.pointer (some ⟨a, 0, none⟩), .int .i64 z] w fun e w' => e = .returned (.tuple #[]) /\ DQ w' a bv n cv { D with off := wrap64 (D.c + z) } /\ Kept [a] w w' := by
  refine (Q0L a bv cv D z w h.d).mono ?_
  rintro e w' ⟨h1, h2, h3⟩
  exact ⟨h1, h.upd h3 h2 rfl rfl, h3⟩
theorem Pre.off {n : Nat} {c : Hd} {t : Tr} {D : Dv} (h : Pre n c t D) (z : Int) : Pre n c t { D with off := z } := ⟨h.st, h.q, h.hd, h.ro, h.tu, h.l, h.n8, h.n4⟩
theorem QgK (z : Int) (k : Int) (hk : 1 <= k) (h1 : -9223372036854775808 <= z) (h2 : z <= 9223372036854775807) : -9223372036854775808 <= z.tdiv k /\ z.tdiv k <= 9223372036854775807 := by
 rcases Int.le_total 0 z with h | h
 ·rw [Int.tdiv_eq_ediv_of_nonneg h]
  have a1 := Int.ediv_nonneg h (show 0 <= k by omega)
  have a2 := Int.ediv_le_self k h
  omega
 ·have e : z.tdiv k = -((-z) / k) := by rw [<- Int.tdiv_eq_ediv_of_nonneg (show 0 <= -z by omega), Int.neg_tdiv]; omega
  rw [e]
  have a1 := Int.ediv_nonneg (show 0 <= -z by omega) (show 0 <= k by omega)
  have a2 := Int.ediv_le_self k (show 0 <= -z by omega)
  omega
theorem QgL (z : Int) (v : Value) (w : World) (hz1 : -9223372036854775808 <= z) (hz2 : z <= 9223372036854775807) (hl : IL w v) (hT : Tab w) :
  Calls prog 12 #[.int .i64 z, v] w (QdT w) := by
 have HB : Hid (∀ W, Calls _ _ _ W _) := fun W => Qf1 80 z W (by omega) (by omega) hz1 hz2
 have HZ : Hid (-9223372036854775808 <= z.tdiv 2 /\ z.tdiv 2 <= 9223372036854775807) := QgK z 2 (by omega) hz1 hz2
 have HIL : Hid (IL w v /\ Tab w) := ⟨hl, hT⟩
 obtain ⟨vp, vl, vc, rfl⟩ : ∃ vp vl vc, v = .slice vp vl vc := by obtain ⟨a1, a2, a3, e, _⟩ := hl; exact ⟨a1, a2, a3, e⟩
 clear hl hT
 go_enter func12, ntmps12
 go_wp2_with fail
 refine (HB.out _).mono ?_
 rintro e w1 ⟨x, a, bv, c, D, vv, rfl, hm1, hs1, hs2, hpl1, _, hne, hA, htu⟩
 have H1 : Hid (Smm w x a bv 80 c c.lt D w1 /\ Sd 80 c c.lt D /\ PL w1 41 vv (Q5u c.lt) /\ Am (kys 20) (Q5u c.lt)) := ⟨hm1, hs1, hpl1, hA⟩
 have hlen : (Q5u c.lt).length <= 21 := by have := hA.len hs1.st.tw; rw [QeY] at this; exact this
 have hlp : (0 : Int) < ((Q5u c.lt).length : Int) := by
  have : (Q5u c.lt).length ≠ 0 := fun e => hne (List.eq_nil_of_length_eq_zero e)
  omega
 have HCh : Hid (Calls _ _ _ _ _) := Qe3 (Am (kys 20)) (z.tdiv 2) 5 20 hm1 hs1 (by omega) (by omega) hA (fun l j v hv hj hl => hl.put (QeZ hj)) (fun l j hj hl => hl.del) (fun t ht hl => Rm.ky ht hl (by omega)) (by omega) (by omega) (by omega) HZ.out.1 HZ.out.2
 obtain ⟨lp, lc, rfl⟩ := hpl1.shape
 clear hm1 hs1 hpl1 hA hne
 go_wp2_with fail
 refine HCh.out.mono ?_
 rintro e w3 ⟨rfl, t', hm3, hs3, hP3, hk3⟩
 have HOf : Hid (Calls _ _ _ _ _) := QgJ a bv 80 _ D 3 w3 hm3.dq
 have H3 : Hid (Smm w x a bv 80 c t' D w3 /\ Sd 80 c t' D /\ Am (kys 20) (Q5u t')) := ⟨hm3, hs3, hP3⟩
 clear hm3 hs3 hP3 HCh
 go_wp2_with fail
 refine HOf.out.mono ?_
 rintro e w4 ⟨rfl, hd4, hk4⟩
 obtain ⟨vo, r, hR3⟩ := H3.out.1.rc
 have hR4 := hR3.disk H3.out.1.dq hk4
 have K4 : Kept [] w w4 := H3.out.1.k.trans2 hk4 (by intro q hq; simp at hq; subst hq; exact Or.inr (H3.out.1.fd _ (List.mem_cons_self ..)))
 have HSy : Hid (Calls _ _ _ _ _) := QgI hR4 hd4 ((H3.out.2.1.pre H3.out.1.dq.l (by omega) (by omega)).off _) H3.out.2.1.s (Rm.ky H3.out.2.1.st.tw H3.out.2.2 (by omega)) (Rm.ky H3.out.2.1.st.ltw H1.out.2.2.2 (by omega)) (by omega) (HIL.out.2.k K4)
 have H4 : Hid (Kept [] w w4) := K4
 clear hd4 hR4 hR3 K4 HOf
 go_wp2_with fail
 refine HSy.out.mono ?_
 rintro e w5 ⟨o, err, cv5, D5, rfl, _, hk5, hd5, hcut⟩
 have hF5 : ∀ L1, Sr D5.L D5.q L1 -> ∃ tu ro T, Fnd 80 L1 tu ro T := fun L1 hs1 => by
  obtain ⟨tu, ro, T, h1, _⟩ := CutR.any hcut hs1
  exact ⟨tu, ro, T, h1⟩
 have K5 : Kept [] w w5 := H4.out.trans2 hk5 fun y hy => by
  rcases List.mem_cons.1 hy with rfl | hy
  ·exact Or.inr H3.out.1.fx
  ·exact Or.inr (H3.out.1.fd y hy)
 have HFw : Hid (Calls _ _ _ _ _) := Qgu (.slice vp vl vc) w5 (HIL.out.1.kept K5)
 have H5 : Hid (DQ w5 a bv 80 cv5 D5 /\ (∀ L1, Sr D5.L D5.q L1 -> ∃ tu ro T, Fnd 80 L1 tu ro T) /\ Kept [] w w5) := ⟨hd5, hF5, K5⟩
 clear hcut hd5 hF5 K5 HSy
 go_wp2_with fail
 refine HFw.out.mono ?_
 rintro e w6 ⟨kv, ms, rfl, hkv, _, hk6⟩
 have HAf : Hid (Calls _ _ _ _ _) := Q29 a bv 80 _ D5 kv ms w6 (H5.out.1.k0 hk6) (by omega) H5.out.1.qlen hkv
 have K6 : Kept [] w w6 := H5.out.2.2.trans hk6
 obtain ⟨kp, kc, rfl⟩ := Q0X hkv
 clear hkv HFw
 go_wp2_with fail
 refine HAf.out.mono ?_
 rintro e w7 ⟨L1, a7, bv7, rfl, hsr, haft⟩
 obtain ⟨tu, ro, T, hFn⟩ := H5.out.2.1 L1 hsr
 have K7 : Kept [] w w7 := K6.trans haft.k
 have ha7 : w.heap.size <= a7 := by have h1 := K6.size; have h2 := haft.a; omega
 have H7 : Hid (DQ w7 a7 bv7 80 (.slice none 0 0) (.new L1) /\ Fnd 80 L1 tu ro T /\ Kept [] w w7) := ⟨haft.d, hFn, K7⟩
 have HBy : Hid (Calls _ _ _ _ _) := Q1Y a7 bv7 80 _ (.new L1) w7 haft.d (by omega)
 clear haft hsr hFn K7 K6 HAf
 generalize hLs : (ByteArray.mk (Dv.new L1).L.toArray) = Ls at *
 go_wp2_with fail
 refine HBy.out.mono ?_
 rintro e w8 ⟨rfl, hk8⟩
 have hd8 := H7.out.1.k0 hk8
 have HWr : Hid (Calls _ _ _ _ _) := Q0J a7 bv7 _ (.new L1) w8 hd8.d
 have HFo : Hid (Calls _ _ _ _ _) := Qgr a7 bv7 80 _ (.new L1) T w8 hd8 (by omega) (by omega) (by simp [Dv.new]) (HIL.out.2.k (H7.out.2.2.trans hk8)) ⟨rfl, rfl, rfl⟩ (by rw [H7.out.2.1.hd]) (H7.out.2.1.tree (by omega))
 clear hd8 HBy
 go_wp2_with fail
 refine HWr.out.mono ?_
 rintro e w9 ⟨rfl, hw9⟩
 obtain rfl := hw9.symm
 go_wp2_with fail
 refine HFo.out.mono ?_
 rintro e w10 ⟨vm, D10, rfl, hpl10, _, hd10, hqt10, hk10⟩
 have K10 : Kept [] w w10 := (H7.out.2.2.trans hk8).trans2 hk10 (by intro q hq; simp at hq; subst hq; exact Or.inr ha7)
 have HBy2 : Hid (Calls _ _ _ _ _) := Q1Y a7 bv7 80 _ D10 w10 hd10 (by omega)
 have HWr2 : Hid (∀ W, Kept [] w10 W -> Calls _ _ _ W _) := fun W kW => Q0J a7 bv7 _ D10 W (hd10.k0 kW).d
 have HPe2 : Hid (∀ W, Kept [] w10 W -> Calls _ _ _ W _) := fun W kW => Q0K a7 bv7 none 0 0 D10 W (hd10.k0 kW).d
 rw [show D10.L = (Dv.new L1).L from hqt10.L, hLs] at HBy2
 rw [show D10.wr = (Dv.new L1).wr from hqt10.wr] at HWr2
 obtain ⟨mp, mc, rfl⟩ := hpl10.shape
 have HK10 : Hid (Kept [] w w10) := K10
 clear hpl10 hd10 hqt10 hk10 K10 HFo HWr
 generalize hmn : (Q5u T).length = mn at *
 have hwr0 : (Dv.new L1).wr = 0 := rfl
 rw [hwr0] at HWr2 ⊢
 by_cases hm0 : mn = 0
 ·subst hm0
  go_wp2_with (first
   | (go_at_call 29; refine HBy2.out.mono ?_; rintro e w11 ⟨rfl, hk11⟩)
   | (go_at_call 30; refine (HWr2.out _ hk11).mono ?_; rintro e w12 ⟨rfl, hw12⟩; obtain rfl := hw12.symm)
   | (go_at_call 31; refine (HPe2.out _ hk11).mono ?_; rintro e w13 ⟨rfl, hw13⟩; obtain rfl := hw13.symm))
  go_ret
  exact ⟨rfl, HK10.out.trans hk11⟩
 ·have hm1 : (0 : Int) < (mn : Int) := by omega
  clear hm0
  go_wp2_with (first
   | (go_at_call 29; refine HBy2.out.mono ?_; rintro e w11 ⟨rfl, hk11⟩)
   | (go_at_call 30; refine (HWr2.out _ hk11).mono ?_; rintro e w12 ⟨rfl, hw12⟩; obtain rfl := hw12.symm)
   | (go_at_call 31; refine (HPe2.out _ hk11).mono ?_; rintro e w13 ⟨rfl, hw13⟩; obtain rfl := hw13.symm))
  go_ret
  exact ⟨rfl, HK10.out.trans hk11⟩
end Go.Proofs.YtcklgafpgdhnaaaGreatDoor
namespace Go.Proofs.YtcklgafpgdhnaaaGreatDoor
open Go.ChangeShapes Go.WideShapes Go.ChangeAt Go.RowKit Go.Deep
theorem QgM : prog.cellsOf 3 = 1 := by kernel_rfl
theorem QgN {H : Type} {enc : TypeId × Value -> H} {W : World} {base n i : Nat} {a : Addr} {spare : Nat -> Bool} {x : DataW H × List MemPlace} {cs : List Value} (hc : W.cells? base (a.add (i * 1)) 1 = some cs) (ht : DataW.trod enc prog W base spare true n 3 cs = some x) : ∃ z, W.cell? (a.add i) = some (.int .i64 z) := by
 obtain ⟨_, hl, hcell⟩ := World.cells?_some hc
 obtain ⟨K, e0, _, _⟩ := DataW.trod_int underlying3 ht
 refine ⟨K, ?_⟩
 have h0 := hcell 0 (by omega)
 subst e0
 rw [Nat.mul_one] at h0
 have e : (a.add i).add 0 = a.add i := by cases a; simp [Addr.add]
 rw [e] at h0
 simpa using h0
theorem QgO {H : Type} {enc : TypeId × Value -> H} {W : World} {base : Nat} {v : Value} {d : DataW H} {p : List MemPlace} (hval : Value.okWide prog W .any base 24 v) (h : DataW.Trod enc prog W 0 (fun _ => true) true 24 v d p) : IL W v := by
 obtain ⟨fuel, hf⟩ := h
 rcases open_slice underlying24 hf with ⟨hcs, _⟩ | ⟨a, len, cap, m, n, D, Pl, hcs, _, hl, _, hmm, _, hel⟩
 ·obtain ⟨a0, len, cap, rfl⟩ := okWide_slice underlying24 hval
  simp [Value.cells] at hcs
  obtain ⟨rfl, rfl, rfl⟩ := hcs
  exact ⟨none, 0, 0, rfl, Or.inl rfl⟩
 ·obtain ⟨a0, len', cap', rfl⟩ := okWide_slice underlying24 hval
  simp [Value.cells] at hcs
  obtain ⟨rfl, rfl, rfl⟩ := hcs
  simp only [if_true] at hmm
  subst hmm
  refine ⟨_, _, _, rfl, Or.inr ⟨a, rfl, fun i hi => ?_⟩⟩
  obtain ⟨cs, hc, ht⟩ := hel i (by omega)
  rw [QgM] at hc
  exact QgN hc ht
end Go.Proofs.YtcklgafpgdhnaaaGreatDoor
namespace Go.Proofs.YtcklgafpgdhnaaaGreatDoor
open Go.Shelf Go.RowKit
def QgP : Go.Shelf.Ren := ⟨fun | 171 => 115 | 243 => 149 | 246 => 171 | 283 => 180 | 284 => 181 | 285 => 182 | 286 => 183 | 129 => 194 | 317 => 193 | 318 => 195 | 319 => 196 | 320 => 197 | 337 => 201 | 338 => 202 | n => n, fun | 3 => 3 | 9 => 9 | 2 => 2 | 4 => 4 | 171 => 242 | 0 => 0 | 53 => 74 | 37 => 60 | 5 => 5 | 173 => 244 | 212 => 267 | 51 => 226 | 20 => 20 | 213 => 268 | 46 => 202 | 232 => 175 | 233 => 273 | n => n, fun | 17 => 2 | 18 => 3 | 19 => 4 | n => n⟩
theorem QgQ : Go.Proofs.LaysM.n171 prog QgP := {
 mixed := by kernel_rfl
 f129 := func194.trans (congrArg some (by kernel_rfl))
 f171 := func115.trans (congrArg some (by kernel_rfl))
 f243 := func149.trans (congrArg some (by kernel_rfl))
 f246 := func171.trans (congrArg some (by kernel_rfl))
 f283 := func180.trans (congrArg some (by kernel_rfl))
 f284 := func181.trans (congrArg some (by kernel_rfl))
 f285 := func182.trans (congrArg some (by kernel_rfl))
 f286 := func183.trans (congrArg some (by kernel_rfl))
 f317 := func193.trans (congrArg some (by kernel_rfl))
 f318 := func195.trans (congrArg some (by kernel_rfl))
 f319 := func196.trans (congrArg some (by kernel_rfl))
 f320 := func197.trans (congrArg some (by kernel_rfl))
 f337 := func201.trans (congrArg some (by kernel_rfl))
 f338 := func202.trans (congrArg some (by kernel_rfl))
 t0 := underlying0
 a0 := Tryz.isAgg0
 z0 := Tryz.sizeOf0
 v0 := Tryz.zeroValue0
 t2 := underlying2
 a2 := Tryz.isAgg2
 z2 := Tryz.sizeOf2
 v2 := Tryz.zeroValue2
 t3 := underlying3
 a3 := Tryz.isAgg3
 z3 := Tryz.sizeOf3
 v3 := Tryz.zeroValue3
 t4 := underlying4
 a4 := Tryz.isAgg4
 z4 := Tryz.sizeOf4
 v4 := Tryz.zeroValue4
 t5 := underlying5
 a5 := Tryz.isAgg5
 z5 := Tryz.sizeOf5
 v5 := Tryz.zeroValue5
 t9 := underlying9
 a9 := Tryz.isAgg9
 z9 := Tryz.sizeOf9
 v9 := Tryz.zeroValue9
 t20 := underlying20
 a20 := Tryz.isAgg20
 z20 := Tryz.sizeOf20
 v20 := Tryz.zeroValue20
 t37 := underlying60
 a37 := Tryz.isAgg60
 z37 := Tryz.sizeOf60
 v37 := Tryz.zeroValue60
 t46 := underlying202
 a46 := Tryz.isAgg202
 z46 := Tryz.sizeOf202
 v46 := Tryz.zeroValue202
 t51 := underlying226
 a51 := Tryz.isAgg226
 z51 := Tryz.sizeOf226
 v51 := Tryz.zeroValue226
 t53 := underlying74
 a53 := Tryz.isAgg74
 z53 := Tryz.sizeOf74
 v53 := Tryz.zeroValue74
 t171 := underlying242
 a171 := Tryz.isAgg242
 z171 := Tryz.sizeOf242
 v171 := Tryz.zeroValue242
 t173 := underlying244
 a173 := Tryz.isAgg244
 z173 := Tryz.sizeOf244
 v173 := Tryz.zeroValue244
 t212 := underlying267
 a212 := Tryz.isAgg267
 z212 := Tryz.sizeOf267
 v212 := Tryz.zeroValue267
 t213 := underlying268
 a213 := Tryz.isAgg268
 z213 := Tryz.sizeOf268
 t232 := underlying175
 a232 := Tryz.isAgg175
 z232 := Tryz.sizeOf175
 v232 := Tryz.zeroValue175
 t233 := underlying273
 a233 := Tryz.isAgg273
 z233 := Tryz.sizeOf273
 v233 := Tryz.zeroValue273
 g17 := by kernel_rfl
 g18 := by kernel_rfl
 g19 := by kernel_rfl
 i0 := by kernel_rfl
 i2 := by kernel_rfl
 i3 := by kernel_rfl
 i4 := by kernel_rfl
 i5 := by kernel_rfl
 i9 := by kernel_rfl
 i20 := by kernel_rfl
 i37 := by kernel_rfl
 i46 := by kernel_rfl
 i51 := by kernel_rfl
 i53 := by kernel_rfl
 i171 := by kernel_rfl
 i173 := by kernel_rfl
 i212 := by kernel_rfl
 i232 := by kernel_rfl
 i233 := by kernel_rfl
 m17 := by kernel_rfl
 m18 := by kernel_rfl
 m19 := by kernel_rfl }
theorem QgR (n : Int) (h0 : -9223372036854775808 <= n) (h1 : n <= 9223372036854775807) (w : World) (htab : Lib.TabIs prog w "internal/strconv.uint64pow10" .u64 Lib.pow10Tab) :
  Calls prog 115 #[.int .i64 n] w fun e w' => e = .returned (.string ⟨(Lib.itoa n).toArray⟩) /\ ∃ k os, w' = Sort.grow (w.drewN k) os := Any.strconv_Itoa QgQ n h0 h1 w htab
theorem Kept.grown (w : World) (k : Nat) (os : Array Obj) : Kept [] w (Sort.grow (w.drewN k) os) := by
 have h : Kept [] w (w.drewN k) := ⟨rfl, rfl, rfl, Nat.le_refl _, fun _ _ _ => rfl⟩
 refine ⟨h.os, h.tape, h.output, ?_, fun i hi hn => ?_⟩
 ·have := h.size
  simp [Sort.grow]
 ·rw [<- h.block i hi hn]
  have : i < (w.drewN k).heap.size := Nat.lt_of_lt_of_le hi h.size
  simp only [Sort.grow]
  rw [Array.getElem?_append_left this]
theorem gPow : prog.globalNamed "internal/strconv.uint64pow10" = some 2 := by kernel_rfl
theorem QgS {W : World} {cs : Array Value} {fr : Nat × Nat} (hr : W.heap[2]? = some (.cells cs 267 fr)) (ht : Lib.TabIs prog W "internal/strconv.uint64pow10" .u64 Lib.pow10Tab) : Tab W where
 row := ⟨cs, fr, hr⟩
 ito := by
  intro W' hW i hi
  have ht' : Lib.TabIs prog W' "internal/strconv.uint64pow10" .u64 Lib.pow10Tab := by
   unfold Lib.TabIs World.var? at ht ⊢
   rw [gPow] at ht ⊢
   simp only [Option.bind_some] at ht ⊢
   rw [hW]
   exact ht
  refine (QgR (i : Int) (by omega) (by omega) W' ht').mono ?_
  rintro e w' ⟨rfl, k, os, rfl⟩
  refine ⟨_, rfl, ?_, Kept.grown W' k os⟩
  have := Lib.itoa_length_le (i : Int) (by omega) (by omega)
  show (Lib.itoa (i : Int)).toArray.size <= 1000
  simp
  omega
theorem QgT {W : World} (h : W.ShapedOpen prog) : ∃ cs, W.heap[2]? = some (.cells cs 267 (0, 0)) := by
 have hz : (((begin prog (fun _ _ => 0) default).world.heap[2]?).bind Obj.row?).map (·.2) = some 267 := by kernel_rfl
 obtain ⟨⟨z, t⟩, hz, rfl⟩ := Option.map_eq_some_iff.1 hz
 obtain ⟨cs, hcs, _⟩ := h.1 2 z _ (of_decide_eq_true (by kernel_rfl)) hz
 exact ⟨cs, hcs⟩
end Go.Proofs.YtcklgafpgdhnaaaGreatDoor
