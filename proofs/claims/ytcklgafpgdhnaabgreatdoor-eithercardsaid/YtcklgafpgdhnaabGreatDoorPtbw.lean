import Derived.Test.YtcklgafpgdhnaabGreatDoorPtaa
import Derived.Test.YtcklgafpgdhnaabGreatDoorPtbu
import Derived.Test.YtcklgafpgdhnaabGreatDoorPtbv
import Derived.ProofKit
import Derived.OpenShut
import Derived.ChangeSlices
import Derived.ChangeSame
import Derived.ChangeVars
import Derived.JoinedOf
import Derived.Deep.Slices
import Derived.Deep.Strs
import Derived.Deep.DeepHandedRow
import Derived.Carry
set_option maxRecDepth 100000
set_option maxHeartbeats 4000000
open Go.Proofs.Tryz
namespace Go.Proofs.YtcklgafpgdhnaabGreatDoor
open Go.RowKit
theorem QgC (z : Int) (k : Int) (hk : 1 <= k) (h1 : -9223372036854775808 <= z) (h2 : z <= 9223372036854775807) : -9223372036854775808 <= z.tdiv k /\ z.tdiv k <= 9223372036854775807 := by
 rcases Int.le_total 0 z with h | h
 ·rw [Int.tdiv_eq_ediv_of_nonneg h]
  have a1 := Int.ediv_nonneg h (show 0 <= k by omega)
  have a2 := Int.ediv_le_self k h
  omega
 ·have e : z.tdiv k = -((-z) / k) := by rw [<- Int.tdiv_eq_ediv_of_nonneg (show 0 <= -z by omega), Int.neg_tdiv]; omega
  rw [e]
  have a1 := Int.ediv_nonneg (show 0 <= -z by omega) (show 0 <= k by omega)
  have a2 := Int.ediv_le_self k (show 0 <= -z by omega)
  omega
theorem IL.kept {w w' : World} {v : Value} (h : IL w v) (k : Kept [] w w') : IL w' v := by
 obtain ⟨ao, len, cap, rfl, h⟩ := h
 refine ⟨ao, len, cap, rfl, h.imp id ?_⟩
 rintro ⟨a, e, h⟩
 refine ⟨a, e, fun i hi => ?_⟩
 obtain ⟨z, hz⟩ := h i hi
 refine ⟨z, ?_⟩
 rw [World.cell?_of_block (w := w) (k.block _ (block_lt_of_cell hz) (by simp))]
 exact hz
theorem Sd.pre {n : Nat} {c : Hd} {t : Tr} {D : Dv} (h : Sd n c t D) (hl : D.L.length = n * 128) (h8 : 8 <= n) (h4 : n <= 400) : Pre n c t D := ⟨h.st, h.q, h.hd, h.ro, h.tu, hl, h8, h4⟩
theorem Qt.tree {n : Nat} {D E : Dv} (h : Qt D E) : Qfx n E = Qfx n D := by
 unfold Qfx
 rw [h.newest, show E.view = D.view from funext fun i => h.view i]
def Np (w : World) (S : List Nat) : Prop := ∀ y cs t fr, w.heap[y]? = some (.cells cs t fr) -> t = 52 \/ t = 3 -> y ∉ S
structure Fr (w : World) (vl vm vn kv : Value) (l m n : List Pr) (ms : List Int) : Prop where
 l : PL w 52 vl l
 m : PL w 52 vm m
 n : PL w 52 vn n
 k : w.ownsRow 0 3 1 kv ms.length (ints ms)
theorem Fr.kept {w w' : World} {vl vm vn kv : Value} {l m n : List Pr} {ms : List Int} {S : List Nat} (h : Fr w vl vm vn kv l m n ms) (k : Kept S w w') (hS : Np w S) : Fr w' vl vm vn kv l m n ms := by
 have hP : ∀ {v : Value} {l : List Pr}, PL w 52 v l -> PL w' 52 v l := fun {v l} hp => hp.kept k fun b hb => by
  obtain ⟨cs, fr, hh⟩ := hp.tag hb
  exact hS b cs _ fr hh (Or.inl rfl)
 refine ⟨hP h.l, hP h.m, hP h.n, Q0U h.k k fun b hb => ?_⟩
 obtain ⟨cs, fr, hh⟩ := Q0T h.k hb
 exact hS b cs _ fr hh (Or.inr rfl)
theorem Np.nil (w : World) : Np w [] := fun _ _ _ _ _ _ => by simp
theorem Np.dq {w : World} {a n : Nat} {bv cv : Value} {D : Dv} (h : DQ w a bv n cv D) : Np w [a] := fun y cs t fr hh ht hm => by
 simp at hm
 subst hm
 exact h.no hh (by rcases ht with rfl | rfl <;> decide) (List.mem_cons_self ..)
theorem Np.st {w : World} {x v a n : Nat} {bv : Value} {c : Hd} {r : Value} {t : Tr} {D : Dv} (hr : Rec x v a n c r t w) (h : DQ w a bv n (.slice none 0 0) D) : Np w (ft x a bv) := fun y cs t fr hh ht hm => by
 rcases List.mem_cons.1 hm with rfl | hm
 ·exact Q01 hr.row hh (by rcases ht with rfl | rfl <;> decide) rfl
 ·exact h.no hh (by rcases ht with rfl | rfl <;> decide) hm
theorem Np.x {w : World} {x v a n : Nat} {c : Hd} {r : Value} {t : Tr} (hr : Rec x v a n c r t w) : Np w [x] := fun y cs t fr hh ht hm => by
 simp at hm
 subst hm
 exact Q01 hr.row hh (by rcases ht with rfl | rfl <;> decide) rfl
theorem QgD {w0 w : World} {a n : Nat} {bv : Value} {L : List UInt8} {D : Dv} {tu ro : Nat} {T : Tr} (hf : Fnd n L tu ro T) (hd : DQ w a bv n (.slice none 0 0) D) (hq : Qt (.new L) D) (h8 : 8 <= n) (h4 : n <= 400) (hT : Tab w) (hk : Kept [] w0 w) (hfd : ∀ y ∈ Q10 a bv (.slice none 0 0), w0.heap.size <= y) :
  Calls prog 17 #[.pointer (some ⟨a, 0, none⟩)] w fun e w' => ∃ x c D', e = .returned (.tuple #[.pointer (some ⟨x, 0, none⟩), .nilIface]) /\ Smm w0 x a bv n c T D' w' /\ Sd n c T D' /\ c.lt = T /\ c.tu = tu /\ Kept [a] w w' := by
 refine (QfG a bv n _ D T w hd h8 h4 (by rw [hq.q]; simp [Dv.new]) hT (hq.good.2 ⟨rfl, rfl, rfl⟩) (by rw [hq.newest, hf.hd]) (by rw [hq.tree]; exact hf.tree (by omega))).mono ?_
 rintro e w' ⟨x, v, r, D', h1, h2, h3, h4, h5, h6⟩
 have hqq := hq.trans h5
 have hsz := hk.size
 refine ⟨x, _, D', h1, ⟨⟨v, r, h2⟩, h4, hk.trans2 h6 (by intro q hq; simp at hq; subst hq; exact Or.inr (hfd _ (List.mem_cons_self ..))), by omega, hfd⟩, ⟨Or.inl rfl, ?_, hqq.good.2 ⟨rfl, rfl, rfl⟩, by rw [hqq.q]; rfl, ?_, ?_, ?_⟩, rfl, ?_, h6⟩
 ·exact hf.st.qt hqq
 ·rw [hqq.newest, hf.hd]
  show _ = (((Qa3 D).1.1, (Qa3 D).1.2), true)
  rw [hq.newest, hf.hd]
 ·show (Qa3 D).1.2 = T.pl
  rw [hq.newest, hf.hd]
  exact hf.ro
 ·show (Qa3 D).1.1 < _
  rw [hq.newest, hf.hd]
  exact hf.tu
 ·show (Qa3 D).1.1 = tu
  rw [hq.newest, hf.hd]
theorem QgE (z y u at_ : Int) (v : Value) (w : World) (hz1 : -9223372036854775808 <= z) (hz2 : z <= 9223372036854775807) (hy1 : -9223372036854775808 <= y) (hy2 : y <= 9223372036854775807) (hu1 : -9223372036854775808 <= u) (hu2 : u <= 9223372036854775807) (ht1 : -9223372036854775808 <= at_) (ht2 : at_ <= 9223372036854775807) (hl : IL w v) (hT : Tab w) :
  Calls prog 3 #[.int .i64 z, .int .i64 y, .int .i64 u, .int .i64 at_, v] w (Qg1 w) := by
 have HB : Hid (∀ W, Calls _ _ _ W _) := fun W => Qgs 100 z W (by omega) (by omega) hz1 hz2
 have HPy : Hid (∀ W, Calls _ _ _ W _) := fun W => Qg0 y 25 W (by omega) (by omega) hy1 hy2
 have HPu : Hid (∀ W, Calls _ _ _ W _) := fun W => Qg0 u 25 W (by omega) (by omega) hu1 hu2
 have HPa : Hid (∀ W, Calls _ _ _ W _) := fun W => Qg0 at_ 40 W (by omega) (by omega) ht1 ht2
 have htd := QgC at_ 64 (by omega) ht1 ht2
 have HPb : Hid (∀ W, Calls _ _ _ W _) := fun W => Qg0 (at_.tdiv 64) 40 W (by omega) (by omega) htd.1 htd.2
 have hmy : pk y 25 < 25 := Q1T y 25 (by omega)
 have hmu : pk u 25 < 25 := Q1T u 25 (by omega)
 generalize hpy : pk y 25 = my at *
 generalize hpu : pk u 25 = mu at *
 generalize hpa : pk at_ 40 = ka at *
 generalize hpb : pk (at_.tdiv 64) 40 = kb at *
 have HY : Hid ((-9223372036854775808 <= y /\ y <= 9223372036854775807) /\ -9223372036854775808 <= u /\ u <= 9223372036854775807) := ⟨⟨hy1, hy2⟩, hu1, hu2⟩
 have HIL : Hid (IL w v /\ Tab w) := ⟨hl, hT⟩
 obtain ⟨vp, vl0, vc, rfl⟩ : ∃ vp vl vc, v = .slice vp vl vc := by obtain ⟨a1, a2, a3, e, _⟩ := hl; exact ⟨a1, a2, a3, e⟩
 clear hl hT hpy hpu hpa hpb htd
 go_enter func3, ntmps3
 go_wp2_with fail
 refine (HB.out _).mono ?_
 rintro e w1 ⟨x, a, bv, c, D, vl, rfl, hm1, hs1, _, hpl1, _, _, hA, htu, _⟩
 have hlen : (Q5o c.lt).length <= 21 := by have := hA.len hs1.st.tw; rw [Qgp] at this; exact this
 have HFw : Hid (Calls _ _ _ _ _) := Qgw (.slice vp vl0 vc) w1 (HIL.out.1.kept hm1.k)
 have H1 : Hid (Smm w x a bv 100 c c.lt D w1 /\ Sd 100 c c.lt D /\ PL w1 52 vl (Q5o c.lt) /\ Am (kys 20) (Q5o c.lt)) := ⟨hm1, hs1, hpl1, hA⟩
 obtain ⟨lp, lc, rfl⟩ := hpl1.shape
 clear hm1 hs1 hpl1 hA HB
 go_wp2_with fail
 refine HFw.out.mono ?_
 rintro e w2 ⟨kv, ms, rfl, hkv, _, hk2⟩
 have hm2 := H1.out.1.k0 hk2
 have hF2 : Fr w2 (.slice lp (Q5o c.lt).length lc) (.slice none 0 0) (.slice none 0 0) kv (Q5o c.lt) [] [] ms := ⟨H1.out.2.2.1.kept hk2 (by simp), PL.nil _ _, PL.nil _ _, hkv⟩
 have HCh : Hid (Calls _ _ _ _ _) := Qgb (Am (kys 20)) y (1 + my) 20 hm2 H1.out.2.1 (by omega) (by omega) H1.out.2.2.2 (fun l j v hv hj hl => hl.put (Qgq hj)) (fun l j hj hl => hl.del) (fun t ht hl => Rm.ky ht hl (by omega)) (by omega) (by omega) (by omega) HY.out.1.1 HY.out.1.2
 rw [show ((1 + my : Nat) : Int) = 1 + (my : Int) by omega] at HCh
 have H2 : Hid (Smm w x a bv 100 c c.lt D w2 /\ Fr w2 (.slice lp (Q5o c.lt).length lc) (.slice none 0 0) (.slice none 0 0) kv (Q5o c.lt) [] [] ms) := ⟨hm2, hF2⟩
 obtain ⟨kp, kc, rfl⟩ := Q0V hkv
 clear hm2 hF2 hkv HFw
 go_wp2_with fail
 refine (HPy.out _).mono ?_
 rintro e w3 ⟨rfl, hw3⟩
 obtain rfl := hw3.symm
 go_wp2_with fail
 refine HCh.out.mono ?_
 rintro e w4 ⟨rfl, t1, hm4, hs4, hP4, hk4⟩
 obtain ⟨v2, r2, hR2⟩ := H2.out.1.rc
 have hF4 := H2.out.2.kept hk4 (Np.x hR2)
 have hlen1 : (Q5o t1).length <= 21 := by have := hP4.len hs4.st.tw; rw [Qgp] at this; exact this
 have HA : Hid (Calls _ _ _ _ _) := hm4.all hs4.st.tw (by omega)
 have H4 : Hid (Sd 100 c t1 D /\ Am (kys 20) (Q5o t1) /\ Fr w4 (.slice lp (Q5o c.lt).length lc) (.slice none 0 0) (.slice none 0 0) (.slice kp ms.length kc) (Q5o c.lt) [] [] ms) := ⟨hs4, hP4, hF4⟩
 clear hm4 hs4 hP4 hF4 hR2 HCh HPy
 go_wp2_with fail
 refine HA.out.mono ?_
 rintro e w5 ⟨vm, rfl, hpl5, _, hm5, hk5⟩
 have hF5 : Fr w5 (.slice lp (Q5o c.lt).length lc) vm (.slice none 0 0) (.slice kp ms.length kc) (Q5o c.lt) (Q5o t1) [] ms := ⟨H4.out.2.2.l.kept hk5 (by simp), hpl5, PL.nil _ _, Q0U H4.out.2.2.k hk5 (by simp)⟩
 have HOf : Hid (∀ z : Int, Calls _ _ _ _ _) := fun z => QfZ a bv 100 _ D z w5 hm5.dq
 have H5 : Hid (Smm w x a bv 100 c t1 D w5 /\ Fr w5 (.slice lp (Q5o c.lt).length lc) vm (.slice none 0 0) (.slice kp ms.length kc) (Q5o c.lt) (Q5o t1) [] ms) := ⟨hm5, hF5⟩
 obtain ⟨mp, mc, rfl⟩ := hpl5.shape
 clear hm5 hF5 hpl5 HA
 go_wp2_with fail
 refine (HPa.out _).mono ?_
 rintro e w5' ⟨rfl, hw5⟩
 obtain rfl := hw5.symm
 go_wp2_with fail
 refine (HOf.out _).mono ?_
 rintro e w6 ⟨rfl, hd6, hk6⟩
 obtain ⟨v5, r5, hR5⟩ := H5.out.1.rc
 have hR6 := hR5.disk H5.out.1.dq hk6
 have hF6 := H5.out.2.kept hk6 (Np.dq H5.out.1.dq)
 have K6 : Kept [] w w6 := H5.out.1.k.trans2 hk6 (by intro q hq; simp at hq; subst hq; exact Or.inr (H5.out.1.fd _ (List.mem_cons_self ..)))
 have HSy : Hid (Calls _ _ _ _ _) := QfY hR6 hd6 ((H4.out.1.pre H5.out.1.dq.l (by omega) (by omega)).off _) H4.out.1.s (Rm.ky H4.out.1.st.tw H4.out.2.1 (by omega)) (Rm.ky H4.out.1.st.ltw H1.out.2.2.2 (by omega)) (by omega) (HIL.out.2.k K6)
 have H6 : Hid (Kept [] w w6 /\ Fr w6 (.slice lp (Q5o c.lt).length lc) (.slice mp (Q5o t1).length mc) (.slice none 0 0) (.slice kp ms.length kc) (Q5o c.lt) (Q5o t1) [] ms /\ Np w6 (ft x a bv)) := ⟨K6, hF6, Np.st hR6 hd6⟩
 clear hd6 hR6 hR5 K6 hF6 HOf HPa
 go_wp2_with fail
 refine HSy.out.mono ?_
 rintro e w7 ⟨o, err, cv7, D7, rfl, hce, hk7, hd7, hcut⟩
 have hF7 := H6.out.2.1.kept hk7 H6.out.2.2
 have K7 : Kept [] w w7 := H6.out.1.trans2 hk7 fun y hy => by
  rcases List.mem_cons.1 hy with rfl | hy
  ·exact Or.inr H5.out.1.fx
  ·exact Or.inr (H5.out.1.fd y hy)
 have HAf : Hid (Calls _ _ _ _ _) := Q24 a bv 100 _ D7 (.slice kp ms.length kc) ms w7 hd7 (by omega) hd7.qlen hF7.k
 have hany : ∀ L1, Sr D7.L D7.q L1 -> ∃ tu ro T, Fnd 100 L1 tu ro T /\ (tu = c.tu \/ tu = nxt c.tu) /\ ((T = c.lt /\ o ≠ none) \/ T = (sysL c t1).1) := fun L1 h => CutR.any hcut h
 have hofe : (o = none /\ err = .nilIface) \/ (o ≠ none /\ ∃ f1 o1, err = .iface f1 o1) := by
  cases o with
  | none => exact Or.inl ⟨rfl, hce⟩
  | some q =>
   obtain ⟨f1, f2, o1, o2, e1, _, _⟩ := Q2Y.ex hce
   exact Or.inr ⟨by simp, _, _, e1⟩
 have H7 : Hid (Fr w7 (.slice lp (Q5o c.lt).length lc) (.slice mp (Q5o t1).length mc) (.slice none 0 0) (.slice kp ms.length kc) (Q5o c.lt) (Q5o t1) [] ms /\ Kept [] w w7 /\ (∀ L1, Sr D7.L D7.q L1 -> ∃ tu ro T, Fnd 100 L1 tu ro T /\ (tu = c.tu \/ tu = nxt c.tu) /\ ((T = c.lt /\ o ≠ none) \/ T = (sysL c t1).1))) := ⟨hF7, K7, hany⟩
 have HOE : Hid ((o = none /\ err = .nilIface) \/ (o ≠ none /\ ∃ f1 o1, err = .iface f1 o1)) := hofe
 clear hcut hd7 hF7 K7 hany hce hofe HSy
 go_wp2_with fail
 refine HAf.out.mono ?_
 rintro e w8 ⟨L1, a8, bv8, rfl, hsr, haft⟩
 obtain ⟨tu, ro, T, hFn, htu8, hTT⟩ := H7.out.2.2 L1 hsr
 have hF8 := H7.out.1.kept haft.k (Np.nil _)
 have K8 : Kept [] w w8 := H7.out.2.1.trans haft.k
 have hfl8 : ∀ y ∈ Q10 a8 bv8 (.slice none 0 0), w.heap.size <= y := fun y hy => by
  have h1 := H7.out.2.1.size
  rcases List.mem_cons.1 hy with rfl | hy
  ·have := haft.a; omega
  ·rcases List.mem_append.1 hy with hy | hy
   ·have := haft.b y (by simpa using hy); omega
   ·cases hy
 have HFo : Hid (Calls _ _ _ _ _) := Qgt a8 bv8 100 _ (.new L1) T w8 haft.d (by omega) (by omega) (by simp [Dv.new]) (HIL.out.2.k K8) ⟨rfl, rfl, rfl⟩ (by rw [hFn.hd]) (hFn.tree (by omega))
 have hTfl : (Q5o T = Q5o c.lt /\ o ≠ none) \/ Q5o T = Q5o t1 := by
  rcases hTT with ⟨rfl, h⟩ | rfl
  ·exact Or.inl ⟨rfl, h⟩
  ·exact Or.inr (Qdo c t1).1
 have hAT : Am (kys 20) (Q5o T) := by
  rcases hTfl with ⟨e, _⟩ | e
  ·rw [e]; exact H1.out.2.2.2
  ·rw [e]; exact H4.out.2.1
 have htub : tu <= 4 := by
  rcases htu8 with e | e
  ·omega
  ·rw [e]; unfold nxt; omega
 have H8 : Hid (Fr w8 (.slice lp (Q5o c.lt).length lc) (.slice mp (Q5o t1).length mc) (.slice none 0 0) (.slice kp ms.length kc) (Q5o c.lt) (Q5o t1) [] ms /\ Kept [] w w8 /\ Fnd 100 L1 tu ro T /\ (∀ y ∈ Q10 a8 bv8 (.slice none 0 0), w.heap.size <= y) /\ DQ w8 a8 bv8 100 (.slice none 0 0) (.new L1) /\ Am (kys 20) (Q5o T)) := ⟨hF8, K8, hFn, hfl8, haft.d, hAT⟩
 have HTf : Hid ((Q5o T = Q5o c.lt /\ o ≠ none) \/ Q5o T = Q5o t1) := hTfl
 clear hsr haft hFn hF8 K8 hfl8 hAT hTfl hTT HAf H7 htu8
 go_wp2_with fail
 refine HFo.out.mono ?_
 rintro e w9 ⟨vg, D9, rfl, hpl9, _, hd9, hqt9, hk9⟩
 have hF9 := H8.out.1.kept hk9 (Np.dq H8.out.2.2.2.2.1)
 have K9 : Kept [] w w9 := H8.out.2.1.trans2 hk9 (by intro q hq; simp at hq; subst hq; exact Or.inr (H8.out.2.2.2.1 _ (List.mem_cons_self ..)))
 have hlT : (Q5o T).length <= 21 := by have := H8.out.2.2.2.2.2.len H8.out.2.2.1.st.tw; rw [Qgp] at this; exact this
 have HS1 : Hid (Calls _ _ _ _ _) := QgB vg _ (Q5o T) (Q5o c.lt) w9 hpl9 hF9.l (by omega)
 have HS2 : Hid (∀ W, Kept [] w9 W -> Calls _ _ _ W _) := fun W kW => QgB vg _ (Q5o T) (Q5o t1) W (hpl9.kept kW (by simp)) (hF9.kept kW (Np.nil _)).m (by omega)
 have HOp : Hid (∀ W, Kept [] w9 W -> Calls _ _ _ W _) := fun W kW => QgD H8.out.2.2.1 (hd9.k0 kW) hqt9 (by omega) (by omega) (HIL.out.2.k (K9.trans kW)) (K9.trans kW) H8.out.2.2.2.1
 have H9 : Hid (Fr w9 (.slice lp (Q5o c.lt).length lc) (.slice mp (Q5o t1).length mc) (.slice none 0 0) (.slice kp ms.length kc) (Q5o c.lt) (Q5o t1) [] ms /\ DQ w9 a8 bv8 100 (.slice none 0 0) D9) := ⟨hF9, hd9⟩
 obtain ⟨gp, gc, rfl⟩ := hpl9.shape
 clear hpl9 hF9 hd9 hqt9 hk9 K9 HFo
 go_wp2_with fail
 refine HS1.out.mono ?_
 rintro e w10 ⟨rfl, hk10⟩
 have HS2' : Hid (Calls _ _ _ _ _) := HS2.out w10 hk10
 generalize hbo : decide (Q5o T = Q5o c.lt) = bo
 clear HS2
 go_wp2_with fail
 refine HS2'.out.mono ?_
 rintro e w11 ⟨rfl, hk11⟩
 have hk911 : Kept [] w9 w11 := hk10.trans hk11
 have HOp' : Hid (Calls _ _ _ _ _) := HOp.out w11 hk911
 generalize hbn : decide (Q5o T = Q5o t1) = bn
 have hcs : (bn = true /\ bo = true /\ err = .nilIface) \/ (bn = true /\ bo = true /\ ∃ f1 o1, err = .iface f1 o1) \/ (bn = true /\ bo = false /\ err = .nilIface) \/ (bn = true /\ bo = false /\ ∃ f1 o1, err = .iface f1 o1) \/ (bn = false /\ bo = true /\ ∃ f1 o1, err = .iface f1 o1) := by
  cases bn with
  | true =>
   rcases HOE.out with ⟨_, h⟩ | ⟨_, h⟩ <;> cases bo <;> simp [h]
  | false =>
   have h1 := of_decide_eq_false hbn
   rcases HTf.out with ⟨h2, h3⟩ | h2
   ·have : bo = true := by rw [<- hbo]; exact decide_eq_true h2
    rcases HOE.out with ⟨h4, _⟩ | ⟨_, h⟩
    ·exact absurd h4 h3
    ·simp [this, h]
   ·exact absurd h2 h1
 have HT9 : Hid (Fnd 100 L1 tu ro T /\ Am (kys 20) (Q5o T)) := ⟨H8.out.2.2.1, H8.out.2.2.2.2.2⟩
 have HF11 : Hid (Fr w11 (.slice lp (Q5o c.lt).length lc) (.slice mp (Q5o t1).length mc) (.slice none 0 0) (.slice kp ms.length kc) (Q5o c.lt) (Q5o t1) [] ms /\ DQ w11 a8 bv8 100 (.slice none 0 0) D9) := ⟨H9.out.1.kept hk911 (Np.nil _), H9.out.2.k0 hk911⟩
 clear HOp HS1 HS2' hbo hbn H8 H9
 rcases hcs with ⟨rfl, rfl, rfl⟩ | ⟨rfl, rfl, f1, o1, rfl⟩ | ⟨rfl, rfl, rfl⟩ | ⟨rfl, rfl, f1, o1, rfl⟩ | ⟨rfl, rfl, f1, o1, rfl⟩
 all_goals
  go_wp2_with fail
  refine HOp'.out.mono ?_
  rintro e w12 ⟨x2, c2, D12, rfl, hm12, hs12, hlt2, htu2, hk12⟩
  have hF12 := HF11.out.1.kept hk12 (Np.dq HF11.out.2)
  have HCh2 : Hid (Calls _ _ _ _ _) := Qgb (Am (kys 20)) u (1 + mu) 20 hm12 hs12 (by omega) (by omega) HT9.out.2 (fun l j v hv hj hl => hl.put (Qgq hj)) (fun l j hj hl => hl.del) (fun t ht hl => Rm.ky ht hl (by omega)) (by omega) (by omega) (by omega) HY.out.2.1 HY.out.2.2
  rw [show ((1 + mu : Nat) : Int) = 1 + (mu : Int) by omega] at HCh2
  have H12 : Hid (Smm w x2 a8 bv8 100 c2 T D12 w12 /\ Fr w12 (.slice lp (Q5o c.lt).length lc) (.slice mp (Q5o t1).length mc) (.slice none 0 0) (.slice kp ms.length kc) (Q5o c.lt) (Q5o t1) [] ms) := ⟨hm12, hF12⟩
  have HLT : Hid (c2.lt = T) := hlt2
  clear hm12 hs12 hF12 hlt2 HOp' HF11
  go_wp2_with fail
  refine (HPu.out _).mono ?_
  rintro e w13 ⟨rfl, hw13⟩
  obtain rfl := hw13.symm
  go_wp2_with fail
  refine HCh2.out.mono ?_
  rintro e w14 ⟨rfl, t2, hm14, hs14, hP14, hk14⟩
  obtain ⟨v12, r12, hR12⟩ := H12.out.1.rc
  have hF14 := H12.out.2.kept hk14 (Np.x hR12)
  have hlen2 : (Q5o t2).length <= 21 := by have := hP14.len hs14.st.tw; rw [Qgp] at this; exact this
  have HA2 : Hid (Calls _ _ _ _ _) := hm14.all hs14.st.tw (by omega)
  have H14 : Hid (Sd 100 c2 t2 D12 /\ Am (kys 20) (Q5o t2) /\ Fr w14 (.slice lp (Q5o c.lt).length lc) (.slice mp (Q5o t1).length mc) (.slice none 0 0) (.slice kp ms.length kc) (Q5o c.lt) (Q5o t1) [] ms) := ⟨hs14, hP14, hF14⟩
  clear hm14 hs14 hP14 hF14 hR12 HCh2 H12
  go_wp2_with fail
  refine HA2.out.mono ?_
  rintro e w15 ⟨vn, rfl, hpl15, _, hm15, hk15⟩
  have hF15 : Fr w15 (.slice lp (Q5o c.lt).length lc) (.slice mp (Q5o t1).length mc) vn (.slice kp ms.length kc) (Q5o c.lt) (Q5o t1) (Q5o t2) ms := ⟨H14.out.2.2.l.kept hk15 (by simp), H14.out.2.2.m.kept hk15 (by simp), hpl15, Q0U H14.out.2.2.k hk15 (by simp)⟩
  have HOf2 : Hid (∀ z : Int, Calls _ _ _ _ _) := fun z => QfZ a8 bv8 100 _ D12 z w15 hm15.dq
  obtain ⟨np, nc, rfl⟩ := hpl15.shape
  have H15 : Hid (Smm w x2 a8 bv8 100 c2 t2 D12 w15 /\ Fr w15 (.slice lp (Q5o c.lt).length lc) (.slice mp (Q5o t1).length mc) (.slice np (Q5o t2).length nc) (.slice kp ms.length kc) (Q5o c.lt) (Q5o t1) (Q5o t2) ms) := ⟨hm15, hF15⟩
  clear hm15 hF15 hpl15 HA2
  go_wp2_with fail
  refine (HPb.out _).mono ?_
  rintro e w15' ⟨rfl, hw15⟩
  obtain rfl := hw15.symm
  go_wp2_with fail
  refine (HOf2.out _).mono ?_
  rintro e w16 ⟨rfl, hd16, hk16⟩
  obtain ⟨v15, r15, hR15⟩ := H15.out.1.rc
  have hR16 := hR15.disk H15.out.1.dq hk16
  have hF16 := H15.out.2.kept hk16 (Np.dq H15.out.1.dq)
  have K16 : Kept [] w w16 := H15.out.1.k.trans2 hk16 (by intro q hq; simp at hq; subst hq; exact Or.inr (H15.out.1.fd _ (List.mem_cons_self ..)))
  have HSy2 : Hid (Calls _ _ _ _ _) := QfY hR16 hd16 ((H14.out.1.pre H15.out.1.dq.l (by omega) (by omega)).off _) H14.out.1.s (Rm.ky H14.out.1.st.tw H14.out.2.1 (by omega)) (Rm.ky H14.out.1.st.ltw (by rw [HLT.out]; exact HT9.out.2) (by omega)) (by omega) (HIL.out.2.k K16)
  have H16 : Hid (Kept [] w w16 /\ Fr w16 (.slice lp (Q5o c.lt).length lc) (.slice mp (Q5o t1).length mc) (.slice np (Q5o t2).length nc) (.slice kp ms.length kc) (Q5o c.lt) (Q5o t1) (Q5o t2) ms /\ Np w16 (ft x2 a8 bv8)) := ⟨K16, hF16, Np.st hR16 hd16⟩
  clear hd16 hR16 hR15 K16 hF16 HOf2
  go_wp2_with fail
  refine HSy2.out.mono ?_
  rintro e w17 ⟨o2, err2, cv17, D17, rfl, hce2, hk17, hd17, hcut2⟩
  have hF17 := H16.out.2.1.kept hk17 H16.out.2.2
  have K17 : Kept [] w w17 := H16.out.1.trans2 hk17 fun y hy => by
   rcases List.mem_cons.1 hy with rfl | hy
   ·exact Or.inr H15.out.1.fx
   ·exact Or.inr (H15.out.1.fd y hy)
  have HAf2 : Hid (Calls _ _ _ _ _) := Q24 a8 bv8 100 _ D17 (.slice kp ms.length kc) ms w17 hd17 (by omega) hd17.qlen hF17.k
  have hany2 : ∀ L2, Sr D17.L D17.q L2 -> ∃ tu ro T2, Fnd 100 L2 tu ro T2 /\ ((T2 = c2.lt /\ o2 ≠ none) \/ T2 = (sysL c2 t2).1) := fun L2 h => by
   obtain ⟨tu, ro, T2, h1, _, h3⟩ := CutR.any hcut2 h
   exact ⟨tu, ro, T2, h1, h3⟩
  have hofe2 : (o2 = none /\ err2 = .nilIface) \/ (o2 ≠ none /\ ∃ f1 o1, err2 = .iface f1 o1) := by
   cases o2 with
   | none => exact Or.inl ⟨rfl, hce2⟩
   | some q =>
    obtain ⟨f1, f2, o1, o2, e1, _, _⟩ := Q2Y.ex hce2
    exact Or.inr ⟨by simp, _, _, e1⟩
  have H17 : Hid (Fr w17 (.slice lp (Q5o c.lt).length lc) (.slice mp (Q5o t1).length mc) (.slice np (Q5o t2).length nc) (.slice kp ms.length kc) (Q5o c.lt) (Q5o t1) (Q5o t2) ms /\ Kept [] w w17 /\ (∀ L2, Sr D17.L D17.q L2 -> ∃ tu ro T2, Fnd 100 L2 tu ro T2 /\ ((T2 = c2.lt /\ o2 ≠ none) \/ T2 = (sysL c2 t2).1)) /\ ((o2 = none /\ err2 = .nilIface) \/ (o2 ≠ none /\ ∃ f1 o1, err2 = .iface f1 o1))) := ⟨hF17, K17, hany2, hofe2⟩
  clear hcut2 hd17 hF17 K17 hany2 hce2 hofe2 HSy2
  go_wp2_with fail
  refine HAf2.out.mono ?_
  rintro e w18 ⟨L2, a18, bv18, rfl, hsr2, haft2⟩
  obtain ⟨tu2, ro2, T2, hFn2, hTT2⟩ := H17.out.2.2.1 L2 hsr2
  have K18 : Kept [] w w18 := H17.out.2.1.trans haft2.k
  have hT2fl : (Q5o T2 = Q5o T /\ o2 ≠ none) \/ Q5o T2 = Q5o t2 := by
   rcases hTT2 with ⟨rfl, h⟩ | rfl
   ·exact Or.inl ⟨by rw [HLT.out], h⟩
   ·exact Or.inr (Qdo c2 t2).1
  have hlT2 : (Q5o T2).length <= 21 := by
   rcases hT2fl with ⟨e, _⟩ | e
   ·rw [e]; exact hlT
   ·rw [e]; exact hlen2
  have HFo2 : Hid (Calls _ _ _ _ _) := Qgt a18 bv18 100 _ (.new L2) T2 w18 haft2.d (by omega) (by omega) (by simp [Dv.new]) (HIL.out.2.k K18) ⟨rfl, rfl, rfl⟩ (by rw [hFn2.hd]) (hFn2.tree (by omega))
  have H18 : Hid (Fr w18 (.slice lp (Q5o c.lt).length lc) (.slice mp (Q5o t1).length mc) (.slice np (Q5o t2).length nc) (.slice kp ms.length kc) (Q5o c.lt) (Q5o t1) (Q5o t2) ms /\ Kept [] w w18 /\ w.heap.size <= a18 /\ DQ w18 a18 bv18 100 (.slice none 0 0) (.new L2)) := ⟨H17.out.1.kept haft2.k (Np.nil _), K18, (by have h1 := H17.out.2.1.size; have h2 := haft2.a; omega), haft2.d⟩
  have HT2f : Hid ((Q5o T2 = Q5o T /\ o2 ≠ none) \/ Q5o T2 = Q5o t2) := hT2fl
  clear hsr2 haft2 hFn2 K18 hT2fl hTT2 HAf2
  go_wp2_with fail
  refine HFo2.out.mono ?_
  rintro e w19 ⟨vh, D19, rfl, hpl19, _, hd19, _, hk19⟩
  have hF19 := H18.out.1.kept hk19 (Np.dq H18.out.2.2.2)
  have K19 : Kept [] w w19 := H18.out.2.1.trans2 hk19 (by intro q hq; simp at hq; subst hq; exact Or.inr H18.out.2.2.1)
  have HSa : Hid (Calls _ _ _ _ _) := QgB vh _ (Q5o T2) (Q5o c.lt) w19 hpl19 hF19.l (by omega)
  have HSb : Hid (∀ W, Kept [] w19 W -> Calls _ _ _ W _) := fun W kW => QgB vh _ (Q5o T2) (Q5o t1) W (hpl19.kept kW (by simp)) (hF19.kept kW (Np.nil _)).m (by omega)
  have HSc : Hid (∀ W, Kept [] w19 W -> Calls _ _ _ W _) := fun W kW => QgB vh _ (Q5o T2) (Q5o t2) W (hpl19.kept kW (by simp)) (hF19.kept kW (Np.nil _)).n (by omega)
  obtain ⟨hp, hc, rfl⟩ := hpl19.shape
  have HK19 : Hid (Kept [] w w19) := K19
  clear hpl19 hF19 hd19 hk19 K19 HFo2
  go_wp2_with fail
  refine HSa.out.mono ?_
  rintro e w20 ⟨rfl, hk20⟩
  generalize hb3 : decide (Q5o T2 = Q5o c.lt) = b3
  have HSb' : Hid (Calls _ _ _ _ _) := HSb.out w20 hk20
  clear HSb
  go_wp2_with fail
  refine HSb'.out.mono ?_
  rintro e w21 ⟨rfl, hk21⟩
  generalize hb4 : decide (Q5o T2 = Q5o t1) = b4
  have HSc' : Hid (Calls _ _ _ _ _) := HSc.out w21 (hk20.trans hk21)
  clear HSc
  go_wp2_with fail
  refine HSc'.out.mono ?_
  rintro e w22 ⟨rfl, hk22⟩
  generalize hb5 : decide (Q5o T2 = Q5o t2) = b5
  have KF : Kept [] w w22 := ((HK19.out.trans hk20).trans hk21).trans hk22
  have hfin : (b3 = true /\ ∃ f1 o1, err2 = .iface f1 o1) \/ (b3 = true /\ err2 = .nilIface /\ b5 = true) \/ (b3 = false /\ b4 = true /\ ∃ f1 o1, err2 = .iface f1 o1) \/ (b3 = false /\ b4 = true /\ err2 = .nilIface /\ b5 = true) \/ (b3 = false /\ b4 = false /\ b5 = true /\ ∃ f1 o1, err2 = .iface f1 o1) \/ (b3 = false /\ b4 = false /\ b5 = true /\ err2 = .nilIface) := by
   have h5 : o2 = none -> b5 = true := fun h => by
    rcases HT2f.out with ⟨_, h2⟩ | h2
    ·exact absurd h h2
    ·rw [<- hb5]; exact decide_eq_true h2
   have h345 : b3 = true \/ b4 = true \/ b5 = true := by
    rcases HT2f.out with ⟨h2, _⟩ | h2
    ·rcases HTf.out with ⟨h3, _⟩ | h3
     ·exact Or.inl (by rw [<- hb3]; exact decide_eq_true (h2.trans h3))
     ·exact Or.inr (Or.inl (by rw [<- hb4]; exact decide_eq_true (h2.trans h3)))
    ·exact Or.inr (Or.inr (by rw [<- hb5]; exact decide_eq_true h2))
   rcases H17.out.2.2.2 with ⟨h6, h7⟩ | ⟨_, h7⟩
   ·have := h5 h6
    cases b3 <;> cases b4 <;> simp [this, h7]
   ·cases b3 <;> cases b4 <;> cases b5 <;> simp [h7] at h345 ⊢
  clear hb3 hb4 hb5
  rcases hfin with ⟨rfl, f2, o3, rfl⟩ | ⟨rfl, rfl, rfl⟩ | ⟨rfl, rfl, f2, o3, rfl⟩ | ⟨rfl, rfl, rfl, rfl⟩ | ⟨rfl, rfl, rfl, f2, o3, rfl⟩ | ⟨rfl, rfl, rfl, rfl⟩
  all_goals
   go_wp2
   go_ret
   exact ⟨rfl, KF⟩
end Go.Proofs.YtcklgafpgdhnaabGreatDoor
namespace Go.Proofs.YtcklgafpgdhnaabGreatDoor
open Go.ChangeShapes Go.WideShapes Go.ChangeAt Go.RowKit Go.Deep
theorem QgF {H : Type} {enc : TypeId × Value -> H} {P : Program} {w : World} {base : Nat} {spare : Nat -> Bool} {held : Bool} {t t' t'' t3 t4 : TypeId} {args : Array Value} {ds : List (DataW H)} {ps : List MemPlace} (h : DataW.TrodAll enc P w base spare held [t, t', t'', t3, t4] args.toList ds ps) :
  ∃ v v' v'' v3 v4 d d' d'' d3 d4 p p' p'' p3 p4, args = #[v, v', v'', v3, v4] /\ ds = [d, d', d'', d3, d4] /\ ps = p ++ p' ++ p'' ++ p3 ++ p4 /\ DataW.Trod enc P w base spare held t v d p /\ DataW.Trod enc P w base spare held t' v' d' p' /\ DataW.Trod enc P w base spare held t'' v'' d'' p'' /\ DataW.Trod enc P w base spare held t3 v3 d3 p3 /\ DataW.Trod enc P w base spare held t4 v4 d4 p4 := by
 obtain ⟨v, vs, d, ds', p, q, hargs, rfl, rfl, hd, hrest⟩ := trodAll_cons h
 cases args with
 | mk l =>
  obtain rfl : l = v :: vs := hargs
  obtain ⟨v', v'', v3, v4, d', d'', d3, d4, p', p'', p3, p4, e1, rfl, rfl, h1, h2, h3, h4⟩ := trodAll_four (args := ⟨vs⟩) hrest
  have e1 : vs = [v', v'', v3, v4] := by simpa using e1
  subst e1
  exact ⟨v, v', v'', v3, v4, d, d', d'', d3, d4, p, p', p'', p3, p4, rfl, rfl, by simp, hd, h1, h2, h3, h4⟩
theorem QgG {H : Type} {enc : TypeId × Value -> H} {P : Program} {w : World} {base : Nat} {spare : Nat -> Bool} {held : Bool} {t t' t'' t3 t4 : TypeId} {v v' v'' v3 v4 : Value} {d d' d'' d3 d4 : DataW H} {p p' p'' p3 p4 : List MemPlace} (h : DataW.Trod enc P w base spare held t v d p) (h' : DataW.Trod enc P w base spare held t' v' d' p')
  (h'' : DataW.Trod enc P w base spare held t'' v'' d'' p'') (h3 : DataW.Trod enc P w base spare held t3 v3 d3 p3) (h4 : DataW.Trod enc P w base spare held t4 v4 d4 p4) : DataW.TrodAll enc P w base spare held [t, t', t'', t3, t4] [v, v', v'', v3, v4] [d, d', d'', d3, d4] (p ++ (p' ++ (p'' ++ (p3 ++ p4)))) := ⟨p, p' ++ (p'' ++ (p3 ++ p4)), h, trodAll_mk4 h' h'' h3 h4, rfl⟩
theorem QgH : prog.cellsOf 3 = 1 := by kernel_rfl
theorem QgI {H : Type} {enc : TypeId × Value -> H} {W : World} {base n i : Nat} {a : Addr} {spare : Nat -> Bool} {x : DataW H × List MemPlace} {cs : List Value} (hc : W.cells? base (a.add (i * 1)) 1 = some cs) (ht : DataW.trod enc prog W base spare true n 3 cs = some x) : ∃ z, W.cell? (a.add i) = some (.int .i64 z) := by
 obtain ⟨_, hl, hcell⟩ := World.cells?_some hc
 obtain ⟨K, e0, _, _⟩ := DataW.trod_int underlying3 ht
 refine ⟨K, ?_⟩
 have h0 := hcell 0 (by omega)
 subst e0
 rw [Nat.mul_one] at h0
 have e : (a.add i).add 0 = a.add i := by cases a; simp [Addr.add]
 rw [e] at h0
 simpa using h0
theorem QgJ {H : Type} {enc : TypeId × Value -> H} {W : World} {base : Nat} {v : Value} {d : DataW H} {p : List MemPlace} (hval : Value.okWide prog W .any base 22 v) (h : DataW.Trod enc prog W 0 (fun _ => true) true 22 v d p) : IL W v := by
 obtain ⟨fuel, hf⟩ := h
 rcases open_slice underlying22 hf with ⟨hcs, _⟩ | ⟨a, len, cap, m, n, D, Pl, hcs, _, hl, _, hmm, _, hel⟩
 ·obtain ⟨a0, len, cap, rfl⟩ := okWide_slice underlying22 hval
  simp [Value.cells] at hcs
  obtain ⟨rfl, rfl, rfl⟩ := hcs
  exact ⟨none, 0, 0, rfl, Or.inl rfl⟩
 ·obtain ⟨a0, len', cap', rfl⟩ := okWide_slice underlying22 hval
  simp [Value.cells] at hcs
  obtain ⟨rfl, rfl, rfl⟩ := hcs
  simp only [if_true] at hmm
  subst hmm
  refine ⟨_, _, _, rfl, Or.inr ⟨a, rfl, fun i hi => ?_⟩⟩
  obtain ⟨cs, hc, ht⟩ := hel i (by omega)
  rw [QgH] at hc
  exact QgI hc ht
end Go.Proofs.YtcklgafpgdhnaabGreatDoor
