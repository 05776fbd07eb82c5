import Derived.Test.YtcklgafpgdhnaabGreatDoorPqbw
set_option maxRecDepth 100000
set_option maxHeartbeats 4000000
open Go.Proofs.Tryz
namespace Go.Proofs.YtcklgafpgdhnaabGreatDoor
open Go.RowKit
def xB : ByteArray := ⟨#[120]⟩
def yB : ByteArray := ⟨#[121]⟩
theorem Qo.disk {w w' : World} {err : Value} {x : Int} {a n : Nat} {bv cv : Value} {D : Dv} (h : Qo w err x) (hd : DQ w a bv n cv D) (k : y5 [a] w w') : Qo w' err x := by
 obtain ⟨f1, f2, o1, o2, rfl, h1, h2⟩ := h.ex
 exact ⟨f1, f2, o1, o2, rfl, k.get h1 (by intro hm; simp at hm; subst hm; exact hd.no h1 (by decide) (List.mem_cons_self ..)), k.get h2 (by intro hm; simp at hm; subst hm; exact hd.no h2 (by decide) (List.mem_cons_self ..))⟩
theorem f_cs {P : Prop} {A B C : List Pr} [Decidable (A = B)] [Decidable (A = C)] {bo bn : Bool} (h : (A = B /\ P) \/ A = C) (hbo : decide (A = B) = bo) (hbn : decide (A = C) = bn) : (bn = true /\ bo = true) \/ (bn = true /\ bo = false) \/ (bn = false /\ bo = true /\ P) := by
 cases bn with
 | true => cases bo <;> simp
 | false =>
  have h1 := of_decide_eq_false hbn
  rcases h with ⟨h2, h3⟩ | h2
  ·exact Or.inr (Or.inr ⟨rfl, by rw [<- hbo]; exact decide_eq_true h2, h3⟩)
  ·exact absurd h2 h1
theorem QcM (k v : ByteArray) (l : List Pr) : (yL k v l).length <= l.length + 1 := by
 have key : ∀ (b : Bool) (l : List Pr), (qZ k v b l).length <= l.length + 1 := by
  intro b l
  induction l generalizing b with
  | nil => cases b <;> simp [ji]
  | cons p r ih =>
   cases b with
   | true => rw [gW]; exact Nat.le_succ_of_le (List.length_filter_le _ _)
   | false =>
    have := ih false
    have h2 : (qZ k v true r).length <= r.length := by rw [gW]; exact List.length_filter_le _ _
    rw [qK]
    cases bl p.1 k <;> cases be p.1 k <;> simp <;> omega
 exact key false l
theorem QcN (z y u at_ : Int) (v : Value) (w : World) (hz1 : -9223372036854775808 <= z) (hz2 : z <= 9223372036854775807) (hy1 : -9223372036854775808 <= y) (hy2 : y <= 9223372036854775807) (hu1 : -9223372036854775808 <= u) (hu2 : u <= 9223372036854775807) (ht1 : -9223372036854775808 <= at_) (ht2 : at_ <= 9223372036854775807) (hl : IL w v) (hG : Glob w) (hT : Tab w) :
  Calls prog 4 #[.int .i64 z, .int .i64 y, .int .i64 u, .int .i64 at_, v] w (Qc5 w) := by
 have HB : Hid (∀ W, Calls _ _ _ W _) := fun W => Qcv 100 z W (by omega) (by omega) hz1 hz2
 have HPy : Hid (∀ W, Calls _ _ _ W _) := fun W => jR y 25 W (by omega) (by omega) hy1 hy2
 have HPu : Hid (∀ W, Calls _ _ _ W _) := fun W => jR u 25 W (by omega) (by omega) hu1 hu2
 have HPa : Hid (∀ W, Calls _ _ _ W _) := fun W => jR at_ 14 W (by omega) (by omega) ht1 ht2
 have htd := QcE at_ 64 (by omega) ht1 ht2
 have HPb : Hid (∀ W, Calls _ _ _ W _) := fun W => jR (at_.tdiv 64) 12 W (by omega) (by omega) htd.1 htd.2
 have hmy : pk y 25 < 25 := Q0N y 25 (by omega)
 have hmu : pk u 25 < 25 := Q0N u 25 (by omega)
 generalize hpy : pk y 25 = my at *
 generalize hpu : pk u 25 = mu at *
 generalize hpa : pk at_ 14 = ka at *
 generalize hpb : pk (at_.tdiv 64) 12 = kb at *
 have HY : Hid ((-9223372036854775808 <= y /\ y <= 9223372036854775807) /\ -9223372036854775808 <= u /\ u <= 9223372036854775807) := ⟨⟨hy1, hy2⟩, hu1, hu2⟩
 have HIL : Hid (IL w v /\ Tab w) := ⟨hl, hT⟩
 have HGl : Hid (Glob w) := hG
 obtain ⟨vp, vl0, vc, rfl⟩ : ∃ vp vl vc, v = .slice vp vl vc := by obtain ⟨a1, a2, a3, e, _⟩ := hl; exact ⟨a1, a2, a3, e⟩
 clear hl hT hG hpy hpu hpa hpb htd
 go_enter func4, ntmps4
 go_wp2_with fail
 refine (HB.out _).mono ?_
 rintro e w1 ⟨x, a, bv, c, D, vl, rfl, hm1, hs1, _, hpl1, _, _, hA, htu, _⟩
 have hlen : (y7 c.lt).length <= 21 := by have := hA.len hs1.st.tw; rw [Zv] at this; exact this
 have HFw : Hid (Calls _ _ _ _ _) := Qcz (.slice vp vl0 vc) w1 (HIL.out.1.kept hm1.k)
 have H1 : Hid (Smm w x a bv 100 c c.lt D w1 /\ Sd 100 c c.lt D /\ PL w1 52 vl (y7 c.lt) /\ Am (kys 20) (y7 c.lt)) := ⟨hm1, hs1, hpl1, hA⟩
 obtain ⟨lp, lc, rfl⟩ := hpl1.shape
 clear hm1 hs1 hpl1 hA HB
 go_wp2_with fail
 refine HFw.out.mono ?_
 rintro e w2 ⟨kv, ms, rfl, hkv, _, hk2⟩
 have hm2 := H1.out.1.k0 hk2
 have hF2 : Fr w2 (.slice lp (y7 c.lt).length lc) (.slice none 0 0) (.slice none 0 0) kv (y7 c.lt) [] [] ms := ⟨H1.out.2.2.1.kept hk2 (by simp), PL.nil _ _, PL.nil _ _, hkv⟩
 have HCh : Hid (Calls _ _ _ _ _) := Qcg (Am (kys 20)) y (1 + my) 20 hm2 H1.out.2.1 (by omega) (by omega) H1.out.2.2.2 (fun l j v hv hj hl => hl.put (Qct hj)) (fun l j hj hl => hl.del) (fun t ht hl => Rm.ky ht hl (by omega)) (by omega) (by omega) (by omega) HY.out.1.1 HY.out.1.2
 rw [show ((1 + my : Nat) : Int) = 1 + (my : Int) by omega] at HCh
 have H2 : Hid (Smm w x a bv 100 c c.lt D w2 /\ Fr w2 (.slice lp (y7 c.lt).length lc) (.slice none 0 0) (.slice none 0 0) kv (y7 c.lt) [] [] ms) := ⟨hm2, hF2⟩
 obtain ⟨kp, kc, rfl⟩ := qF hkv
 clear hm2 hF2 hkv HFw
 go_wp2_with fail
 refine (HPy.out _).mono ?_
 rintro e w3 ⟨rfl, hw3⟩
 obtain rfl := hw3.symm
 go_wp2_with fail
 refine HCh.out.mono ?_
 rintro e w4 ⟨rfl, t1, hm4, hs4, hP4, hk4⟩
 obtain ⟨v2, r2, hR2⟩ := H2.out.1.rc
 have hF4 := H2.out.2.kept hk4 (Np.x hR2)
 have hlen1 : (y7 t1).length <= 21 := by have := hP4.len hs4.st.tw; rw [Zv] at this; exact this
 have HA : Hid (Calls _ _ _ _ _) := hm4.all hs4.st.tw (by omega)
 have H4 : Hid (Sd 100 c t1 D /\ Am (kys 20) (y7 t1) /\ Fr w4 (.slice lp (y7 c.lt).length lc) (.slice none 0 0) (.slice none 0 0) (.slice kp ms.length kc) (y7 c.lt) [] [] ms) := ⟨hs4, hP4, hF4⟩
 clear hm4 hs4 hP4 hF4 hR2 HCh HPy
 go_wp2_with fail
 refine HA.out.mono ?_
 rintro e w5 ⟨vm, rfl, hpl5, _, hm5, hk5⟩
 have hF5 : Fr w5 (.slice lp (y7 c.lt).length lc) vm (.slice none 0 0) (.slice kp ms.length kc) (y7 c.lt) (y7 t1) [] ms := ⟨H4.out.2.2.l.kept hk5 (by simp), hpl5, PL.nil _ _, yQ H4.out.2.2.k hk5 (by simp)⟩
 have HBd : Hid (∀ z y : Int, Calls _ _ _ _ _) := fun z y => Qc3 a bv 100 _ D z y w5 hm5.dq
 have H5 : Hid (Smm w x a bv 100 c t1 D w5 /\ Fr w5 (.slice lp (y7 c.lt).length lc) vm (.slice none 0 0) (.slice kp ms.length kc) (y7 c.lt) (y7 t1) [] ms) := ⟨hm5, hF5⟩
 obtain ⟨mp, mc, rfl⟩ := hpl5.shape
 clear hm5 hF5 hpl5 HA
 go_wp2_with fail
 refine (HPa.out _).mono ?_
 rintro e w5' ⟨rfl, hw5⟩
 obtain rfl := hw5.symm
 go_wp2_with fail
 refine (HBd.out _ _).mono ?_
 rintro e w6 ⟨rfl, hd6, hk6⟩
 obtain ⟨v5, r5, hR5⟩ := H5.out.1.rc
 have hR6 := hR5.disk H5.out.1.dq hk6
 have hF6 := H5.out.2.kept hk6 (Np.dq H5.out.1.dq)
 have K6 : y5 [] w w6 := H5.out.1.k.trans2 hk6 (by intro q hq; simp at hq; subst hq; exact Or.inr (H5.out.1.fd _ (List.mem_cons_self ..)))
 have HSy : Hid (Calls _ _ _ _ _) := Qc2 hR6 hd6 ((H4.out.1.pre H5.out.1.dq.l (by omega) (by omega)).bd _ _) H4.out.1.s (Rm.ky H4.out.1.st.tw H4.out.2.1 (by omega)) (Rm.ky H4.out.1.st.ltw H1.out.2.2.2 (by omega)) (by omega) (HIL.out.2.k K6)
 have H6 : Hid (y5 [] w w6 /\ Fr w6 (.slice lp (y7 c.lt).length lc) (.slice mp (y7 t1).length mc) (.slice none 0 0) (.slice kp ms.length kc) (y7 c.lt) (y7 t1) [] ms /\ Np w6 (ft x a bv)) := ⟨K6, hF6, Np.st hR6 hd6⟩
 clear hd6 hR6 hR5 K6 hF6 HBd HPa
 go_wp2_with fail
 refine HSy.out.mono ?_
 intro e w7 hcut
 obtain ⟨o, err, cv7, D7, c7, r7, t7, rfl, hce, hk7, hd7, hcv7, hlf7, hR7, hf7, htw7, hst7⟩ := hcut.lft H4.out.1.st.tw H4.out.1.gd.1
 have hF7 := H6.out.2.1.kept hk7 H6.out.2.2
 have K7 : y5 [] w w7 := H6.out.1.trans2 hk7 fun y hy => by
  rcases List.mem_cons.1 hy with rfl | hy
  ·exact Or.inr H5.out.1.fx
  ·exact Or.inr (H5.out.1.fd y hy)
 have hfd7 : ∀ y ∈ ym a bv cv7, w.heap.size <= y := fun y hy => by
  rcases List.mem_cons.1 hy with rfl | hy
  ·exact H5.out.1.fd _ (List.mem_cons_self ..)
  ·rcases List.mem_append.1 hy with hy | hy
   ·exact H5.out.1.fd _ (List.mem_cons_of_mem _ (List.mem_append_left _ hy))
   ·rcases hcv7 y (by simpa using hy) with h | h
    ·cases h
    ·exact Nat.le_trans H6.out.1.size h
 have HBd7 : Hid (Calls _ _ _ _ _) := Qc3 a bv 100 cv7 D7 0 0 w7 hd7
 have H7 : Hid (Fr w7 (.slice lp (y7 c.lt).length lc) (.slice mp (y7 t1).length mc) (.slice none 0 0) (.slice kp ms.length kc) (y7 c.lt) (y7 t1) [] ms /\ y5 [] w w7 /\ Lft 100 c t1 o D7 /\ DQ w7 a bv 100 cv7 D7 /\ Rec x v5 a 100 c7 r7 t7 w7 /\ (∀ y ∈ ym a bv cv7, w.heap.size <= y) /\ TW t7) := ⟨hF7, K7, hlf7, hd7, hR7, hfd7, htw7⟩
 have HCE : Hid (CEnd o err w7) := hce
 clear hcut hd7 hF7 K7 hcv7 hlf7 hR7 hfd7 htw7 hce HSy
 rcases hst7 with ⟨rfl, hs7⟩ | ⟨rfl, hs7⟩
 case' inl =>
  go_wp2_with fail
  refine HBd7.out.mono ?_
  rintro e w8 ⟨rfl, hd8, hk8⟩
  have hR8 := H7.out.2.2.2.2.1.disk H7.out.2.2.2.1 hk8
  have hF8 := H7.out.1.kept hk8 (Np.dq H7.out.2.2.2.1)
  have K8 : y5 [] w w8 := H7.out.2.1.trans2 hk8 (by intro q hq; simp at hq; subst hq; exact Or.inr (H7.out.2.2.2.2.2.1 _ (List.mem_cons_self ..)))
  have he : err = .nilIface := HCE.out
  subst he
  have HTd : Hid (Calls _ _ _ _ _) := Q1Y w8
  have H8 : Hid (Smg w x a bv 100 cv7 c7 t7 _ w8 /\ Fr w8 (.slice lp (y7 c.lt).length lc) (.slice mp (y7 t1).length mc) (.slice none 0 0) (.slice kp ms.length kc) (y7 c.lt) (y7 t1) [] ms) := ⟨⟨⟨v5, r7, hR8⟩, hd8, K8, H5.out.1.fx, H7.out.2.2.2.2.2.1⟩, hF8⟩
  clear hd8 hR8 hF8 K8 HBd7 HCE
  go_wp2_with fail
  refine HTd.out.mono ?_
  rintro e w9 ⟨rfl, hw9⟩
  subst hw9
  have hk9 : y5 [] w9 w9 := y5.refl _ _
  have hs9 := H8.out.1.k0 hk9
  have hF9 := H8.out.2.kept hk9 (Np.nil _)
  obtain ⟨v9, r9, hR9⟩ := hs9.rc
  have HA9 : Hid (Calls _ _ _ _ _) := Qco x v9 a 100 c7 r9 t7 H7.out.2.2.2.2.2.2 (by rw [hf7]; omega) w9 hR9
  rw [hf7] at HA9
  have H9 : Hid (Smg w x a bv 100 cv7 c7 t7 _ w9 /\ Fr w9 (.slice lp (y7 c.lt).length lc) (.slice mp (y7 t1).length mc) (.slice none 0 0) (.slice kp ms.length kc) (y7 c.lt) (y7 t1) [] ms) := ⟨hs9, hF9⟩
  clear hs9 hF9 hR9 HTd
  go_wp2_with fail
  refine HA9.out.mono ?_
  rintro e w10 ⟨vg, rfl, hpl10, _, hk10⟩
  have HS10 : Hid (Calls _ _ _ _ _) := jo vg _ (y7 t1) (y7 t1) w10 hpl10 (H9.out.2.kept hk10 (Np.nil _)).m (by omega)
  obtain ⟨gp, gc, rfl⟩ := hpl10.shape
  clear hpl10 HA9
  go_wp2_with fail
  refine HS10.out.mono ?_
  rintro e w11 ⟨rfl, hk11⟩
  simp only [decide_true]
  have hs11 := (H9.out.1.k0 hk10).k0 hk11
  have hF11 := (H9.out.2.kept hk10 (Np.nil _)).kept hk11 (Np.nil _)
  have HPut : Hid (Calls _ _ _ _ _) := hs11.put (k := xB) (y := yB) (Or.inr hs7) H7.out.2.2.2.2.2.2 ⟨by decide, by decide⟩ (by decide) (by omega) (by omega) (by have := QcM xB yB (y7 t7); rw [hf7] at this ⊢; unfold Rm; omega)
  obtain ⟨v11, r11, hR11⟩ := hs11.rc
  have H11 : Hid (Fr w11 (.slice lp (y7 c.lt).length lc) (.slice mp (y7 t1).length mc) (.slice none 0 0) (.slice kp ms.length kc) (y7 c.lt) (y7 t1) [] ms /\ Np w11 [x]) := ⟨hF11, Np.x hR11⟩
  unfold xB yB at HPut
  clear hs11 hF11 hR11 HS10
  go_wp2_with fail
  refine HPut.out.mono ?_
  rintro e w12 ⟨rfl, hs12, hk12⟩
  have HC12 : Hid (y5 [] w w12 /\ DQ w12 a bv 100 cv7 _ /\ Fr w12 (.slice lp (y7 c.lt).length lc) (.slice mp (y7 t1).length mc) (.slice none 0 0) (.slice kp ms.length kc) (y7 c.lt) (y7 t1) [] ms) := ⟨hs12.k, hs12.dq, H11.out.1.kept hk12 H11.out.2⟩
  clear hs12 HPut
  go_wp2_with fail
  refine (Q1Y w12).mono ?_
  rintro e w13 ⟨rfl, hw13⟩
  subst hw13
  have hk13 : y5 [] w13 w13 := y5.refl _ _
  have HC13 : Hid (y5 [] w w13 /\ DQ w13 a bv 100 cv7 _ /\ Fr w13 (.slice lp (y7 c.lt).length lc) (.slice mp (y7 t1).length mc) (.slice none 0 0) (.slice kp ms.length kc) (y7 c.lt) (y7 t1) [] ms) := ⟨HC12.out.1.trans hk13, HC12.out.2.1.k0 hk13, HC12.out.2.2.kept hk13 (Np.nil _)⟩
  clear HC12
  go_wp2_with fail
 case' inr =>
  go_wp2_with fail
  refine HBd7.out.mono ?_
  rintro e w8 ⟨rfl, hd8, hk8⟩
  have hR8 := H7.out.2.2.2.2.1.disk H7.out.2.2.2.1 hk8
  have hF8 := H7.out.1.kept hk8 (Np.dq H7.out.2.2.2.1)
  have K8 : y5 [] w w8 := H7.out.2.1.trans2 hk8 (by intro q hq; simp at hq; subst hq; exact Or.inr (H7.out.2.2.2.2.2.1 _ (List.mem_cons_self ..)))
  have hch : Qo w8 err 6 := Qo.disk HCE.out H7.out.2.2.2.1 hk8
  have HTd : Hid (Calls _ _ _ _ _) := Q1Z err 6 w8 (HGl.out.kept K8 (by simp)) hch
  obtain ⟨f1, f2, o1, o2, rfl, _, _⟩ := hch.ex
  clear hch
  have H8 : Hid (Smg w x a bv 100 cv7 c7 t7 _ w8 /\ Fr w8 (.slice lp (y7 c.lt).length lc) (.slice mp (y7 t1).length mc) (.slice none 0 0) (.slice kp ms.length kc) (y7 c.lt) (y7 t1) [] ms) := ⟨⟨⟨v5, r7, hR8⟩, hd8, K8, H5.out.1.fx, H7.out.2.2.2.2.2.1⟩, hF8⟩
  clear hd8 hR8 hF8 K8 HBd7 HCE
  go_wp2_with fail
  refine HTd.out.mono ?_
  rintro e w9 ⟨rfl, hk9⟩
  have hs9 := H8.out.1.k0 hk9
  have hF9 := H8.out.2.kept hk9 (Np.nil _)
  obtain ⟨v9, r9, hR9⟩ := hs9.rc
  have HA9 : Hid (Calls _ _ _ _ _) := Qco x v9 a 100 c7 r9 t7 H7.out.2.2.2.2.2.2 (by rw [hf7]; omega) w9 hR9
  rw [hf7] at HA9
  have H9 : Hid (Smg w x a bv 100 cv7 c7 t7 _ w9 /\ Fr w9 (.slice lp (y7 c.lt).length lc) (.slice mp (y7 t1).length mc) (.slice none 0 0) (.slice kp ms.length kc) (y7 c.lt) (y7 t1) [] ms) := ⟨hs9, hF9⟩
  clear hs9 hF9 hR9 HTd
  go_wp2_with fail
  refine HA9.out.mono ?_
  rintro e w10 ⟨vg, rfl, hpl10, _, hk10⟩
  have HS10 : Hid (Calls _ _ _ _ _) := jo vg _ (y7 t1) (y7 t1) w10 hpl10 (H9.out.2.kept hk10 (Np.nil _)).m (by omega)
  obtain ⟨gp, gc, rfl⟩ := hpl10.shape
  clear hpl10 HA9
  go_wp2_with fail
  refine HS10.out.mono ?_
  rintro e w11 ⟨rfl, hk11⟩
  simp only [decide_true]
  have hs11 := (H9.out.1.k0 hk10).k0 hk11
  have hF11 := (H9.out.2.kept hk10 (Np.nil _)).kept hk11 (Np.nil _)
  obtain ⟨v11, r11, hR11⟩ := hs11.rc
  have HPut : Hid (Calls _ _ _ _ _) := Q8r x v11 a 100 c7 r11 t7 xB yB w11 hR11 hs7
  have H11 : Hid (Smg w x a bv 100 cv7 c7 t7 _ w11 /\ Fr w11 (.slice lp (y7 c.lt).length lc) (.slice mp (y7 t1).length mc) (.slice none 0 0) (.slice kp ms.length kc) (y7 c.lt) (y7 t1) [] ms) := ⟨hs11, hF11⟩
  unfold xB yB at HPut
  clear hs11 hF11 hR11 HS10
  go_wp2_with fail
  refine HPut.out.mono ?_
  rintro e w12 ⟨err2, rfl, ⟨hch2, _⟩, hk12⟩
  have hs12 := H11.out.1.k0 hk12
  have HTd2 : Hid (Calls _ _ _ _ _) := Q1Z err2 4 w12 (HGl.out.kept hs12.k (by simp)) hch2
  have HC12 : Hid (y5 [] w w12 /\ DQ w12 a bv 100 cv7 _ /\ Fr w12 (.slice lp (y7 c.lt).length lc) (.slice mp (y7 t1).length mc) (.slice none 0 0) (.slice kp ms.length kc) (y7 c.lt) (y7 t1) [] ms) := ⟨hs12.k, hs12.dq, H11.out.2.kept hk12 (Np.nil _)⟩
  obtain ⟨f3, f4, o3, o4, rfl, _, _⟩ := hch2.ex
  clear hs12 HPut hch2
  go_wp2_with fail
  refine HTd2.out.mono ?_
  rintro e w13 ⟨rfl, hk13⟩
  have HC13 : Hid (y5 [] w w13 /\ DQ w13 a bv 100 cv7 _ /\ Fr w13 (.slice lp (y7 c.lt).length lc) (.slice mp (y7 t1).length mc) (.slice none 0 0) (.slice kp ms.length kc) (y7 c.lt) (y7 t1) [] ms) := ⟨HC12.out.1.trans hk13, HC12.out.2.1.k0 hk13, HC12.out.2.2.kept hk13 (Np.nil _)⟩
  clear HC12
  go_wp2_with fail
 all_goals
  refine (Qc3 a bv 100 cv7 _ 0 0 w13 HC13.out.2.1).mono ?_
  rintro e w14 ⟨rfl, hd14, hk14⟩
  have hlf14 := (H7.out.2.2.1.bd (wrap64 (D7.c + 0)) (wrap64 (wrap64 (D7.c + 0) + 0))).bd (wrap64 (D7.c + 0)) (wrap64 (wrap64 (D7.c + 0) + 0))
  have hg14 := QcK (D := { D7 with fr := wrap64 (D7.c + 0), «to» := wrap64 (wrap64 (D7.c + 0) + 0) }) H7.out.2.2.1.off
  have hF14 := HC13.out.2.2.kept hk14 (Np.dq HC13.out.2.1)
  have K14 : y5 [] w w14 := HC13.out.1.trans2 hk14 (by intro q hq; simp at hq; subst hq; exact Or.inr (H7.out.2.2.2.2.2.1 _ (List.mem_cons_self ..)))
  have HOp : Hid (Calls _ _ _ _ _) := QcL hlf14 hg14 hd14 (by omega) (by omega) (HIL.out.2.k K14) K14 H7.out.2.2.2.2.2.1
  have H14 : Hid (Fr w14 (.slice lp (y7 c.lt).length lc) (.slice mp (y7 t1).length mc) (.slice none 0 0) (.slice kp ms.length kc) (y7 c.lt) (y7 t1) [] ms /\ Np w14 [a] /\ Lft 100 c t1 _ _) := ⟨hF14, Np.dq hd14, hlf14⟩
  clear hlf14 hg14 hF14 K14 hd14 HC13
  go_wp2_with fail
  refine HOp.out.mono ?_
  rintro e w15 ⟨x2, c2, T, D15, rfl, hs15, hqt15, hcs2, hlt2, hst2, hhd2, hro2, htl2, htu2, hTT, hk15⟩
  have hTfl : (y7 T = y7 c.lt /\ _) \/ y7 T = y7 t1 := hTT.imp (fun h => ⟨by rw [h.1], h.2⟩) fun h => by rw [h]; exact (QA c t1).1
  have hAT : Am (kys 20) (y7 T) := by
   rcases hTfl with ⟨e, _⟩ | e
   ·rw [e]; exact H1.out.2.2.2
   ·rw [e]; exact H4.out.2.1
  have hlT : (y7 T).length <= 21 := by have := hAT.len hst2.tw; rw [Zv] at this; exact this
  have htub : c2.tu <= 4 := by
   rcases htu2 with e | e
   ·omega
   ·rw [e]; unfold nxt; omega
  obtain ⟨v15, r15, hR15⟩ := hs15.rc
  have HA15 : Hid (Calls _ _ _ _ _) := Qco x2 v15 a 100 c2 r15 T hst2.tw (by omega) w15 hR15
  have H15 : Hid (Smg w x2 a bv 100 cv7 c2 T D15 w15 /\ Fr w15 (.slice lp (y7 c.lt).length lc) (.slice mp (y7 t1).length mc) (.slice none 0 0) (.slice kp ms.length kc) (y7 c.lt) (y7 t1) [] ms /\ Lft 100 c t1 _ D15 /\ (StK 100 D15.view T T /\ c2.lt = T /\ c2.s = 1 /\ yn D15 = ((c2.tu, c2.ro), true) /\ c2.ro = T.pl /\ c2.tu < 18446744073709551616) /\ Am (kys 20) (y7 T)) := ⟨hs15, H14.out.1.kept hk15 H14.out.2.1, H14.out.2.2.qt hqt15, ⟨hst2, hlt2, hcs2, hhd2, hro2, htl2⟩, hAT⟩
  have HTf : Hid ((y7 T = y7 c.lt /\ _) \/ y7 T = y7 t1) := hTfl
  clear hs15 hqt15 hcs2 hlt2 hst2 hhd2 hro2 htl2 htu2 hTT hTfl hAT hR15 HOp
  go_wp2_with fail
  refine HA15.out.mono ?_
  rintro e w16 ⟨vh, rfl, hpl16, _, hk16⟩
  have hF16 := H15.out.2.1.kept hk16 (Np.nil _)
  have HSa : Hid (Calls _ _ _ _ _) := jo vh _ (y7 T) (y7 c.lt) w16 hpl16 hF16.l (by omega)
  have HSb : Hid (∀ W, y5 [] w16 W -> Calls _ _ _ W _) := fun W kW => jo vh _ (y7 T) (y7 t1) W (hpl16.kept kW (by simp)) (hF16.kept kW (Np.nil _)).m (by omega)
  obtain ⟨hp, hc, rfl⟩ := hpl16.shape
  have H16 : Hid (Smg w x2 a bv 100 cv7 c2 T D15 w16 /\ Fr w16 (.slice lp (y7 c.lt).length lc) (.slice mp (y7 t1).length mc) (.slice none 0 0) (.slice kp ms.length kc) (y7 c.lt) (y7 t1) [] ms) := ⟨H15.out.1.k0 hk16, hF16⟩
  clear hpl16 hF16 HA15
  go_wp2_with fail
  refine HSa.out.mono ?_
  rintro e w17 ⟨rfl, hk17⟩
  generalize hbo : decide (y7 T = y7 c.lt) = bo
  have HSb' : Hid (Calls _ _ _ _ _) := HSb.out w17 hk17
  clear HSb
  go_wp2_with fail
  refine HSb'.out.mono ?_
  rintro e w18 ⟨rfl, hk18⟩
  generalize hbn : decide (y7 T = y7 t1) = bn
  have hs18 := (H16.out.1.k0 hk17).k0 hk18
  have hF18 := (H16.out.2.kept hk17 (Np.nil _)).kept hk18 (Np.nil _)
  have HCh2 : Hid (Calls _ _ _ _ _) := Qcf (Am (kys 20)) u (1 + mu) 20 hs18 (by rw [H15.out.2.2.2.1.2.1]; exact H15.out.2.2.2.1.1) (Or.inl H15.out.2.2.2.1.2.2.1) (by omega) (by omega) H15.out.2.2.2.2 (fun l j v hv hj hl => hl.put (Qct hj)) (fun l j hj hl => hl.del) (fun t ht hl => Rm.ky ht hl (by omega)) (by omega) (by omega) (by omega) HY.out.2.1 HY.out.2.2
  rw [show ((1 + mu : Nat) : Int) = 1 + (mu : Int) by omega] at HCh2
  obtain ⟨v18, r18, hR18⟩ := hs18.rc
  have H18 : Hid (Fr w18 (.slice lp (y7 c.lt).length lc) (.slice mp (y7 t1).length mc) (.slice none 0 0) (.slice kp ms.length kc) (y7 c.lt) (y7 t1) [] ms /\ Np w18 [x2]) := ⟨hF18, Np.x hR18⟩
  have hcs := f_cs HTf.out hbo hbn
  clear hs18 hF18 hR18 HSa HSb' hbo hbn
  rcases hcs with ⟨rfl, rfl⟩ | ⟨rfl, rfl⟩ | ⟨rfl, rfl, hno⟩
  all_goals try exact absurd rfl hno
  all_goals
   go_wp2_with fail
   refine (HPu.out _).mono ?_
   rintro e w19 ⟨rfl, hw19⟩
   obtain rfl := hw19.symm
   go_wp2_with fail
   refine HCh2.out.mono ?_
   rintro e w20 ⟨rfl, t2, hs20, hst20, hP20, hk20⟩
   have hF20 := H18.out.1.kept hk20 H18.out.2
   have hlen2 : (y7 t2).length <= 21 := by have := hP20.len hst20.tw; rw [Zv] at this; exact this
   obtain ⟨v20, r20, hR20⟩ := hs20.rc
   have HA20 : Hid (Calls _ _ _ _ _) := Qco x2 v20 a 100 c2 r20 t2 hst20.tw (by omega) w20 hR20
   have H20 : Hid (Smg w x2 a bv 100 cv7 c2 t2 D15 w20 /\ StK 100 D15.view c2.lt t2 /\ Am (kys 20) (y7 t2) /\ Fr w20 (.slice lp (y7 c.lt).length lc) (.slice mp (y7 t1).length mc) (.slice none 0 0) (.slice kp ms.length kc) (y7 c.lt) (y7 t1) [] ms) := ⟨hs20, hst20, hP20, hF20⟩
   clear hs20 hst20 hP20 hF20 hR20 HCh2
   go_wp2_with fail
   refine HA20.out.mono ?_
   rintro e w21 ⟨vn, rfl, hpl21, _, hk21⟩
   have hs21 := H20.out.1.k0 hk21
   have hF21 : Fr w21 (.slice lp (y7 c.lt).length lc) (.slice mp (y7 t1).length mc) vn (.slice kp ms.length kc) (y7 c.lt) (y7 t1) (y7 t2) ms := ⟨H20.out.2.2.2.l.kept hk21 (by simp), H20.out.2.2.2.m.kept hk21 (by simp), hpl21, yQ H20.out.2.2.2.k hk21 (by simp)⟩
   have HOf : Hid (∀ z : Int, Calls _ _ _ _ _) := fun z => Qc4 a bv 100 cv7 D15 z w21 hs21.dq
   obtain ⟨np, nc, rfl⟩ := hpl21.shape
   have H21 : Hid (Smg w x2 a bv 100 cv7 c2 t2 D15 w21 /\ Fr w21 (.slice lp (y7 c.lt).length lc) (.slice mp (y7 t1).length mc) (.slice np (y7 t2).length nc) (.slice kp ms.length kc) (y7 c.lt) (y7 t1) (y7 t2) ms) := ⟨hs21, hF21⟩
   clear hs21 hF21 hpl21 HA20
   go_wp2_with fail
   refine (HPb.out _).mono ?_
   rintro e w21' ⟨rfl, hw21⟩
   obtain rfl := hw21.symm
   go_wp2_with fail
   refine (HOf.out _).mono ?_
   rintro e w22 ⟨rfl, hd22, hk22⟩
   obtain ⟨v21, r21, hR21⟩ := H21.out.1.rc
   have hR22 := hR21.disk H21.out.1.dq hk22
   have hF22 := H21.out.2.kept hk22 (Np.dq H21.out.1.dq)
   have K22 : y5 [] w w22 := H21.out.1.k.trans2 hk22 (by intro q hq; simp at hq; subst hq; exact Or.inr (H21.out.1.fd _ (List.mem_cons_self ..)))
   have HSy2 : Hid (Calls _ _ _ _ _) := QcI hR22 hd22 ⟨H15.out.2.2.2.1.2.2.1, H20.out.2.1, H15.out.2.2.2.1.2.2.2.1, by rw [H15.out.2.2.2.1.2.1]; exact H15.out.2.2.2.1.2.2.2.2.1, H15.out.2.2.2.1.2.2.2.2.2, H15.out.2.2.1.l, H15.out.2.2.1.fit, by omega, by omega⟩ (Nat.le_trans H15.out.2.2.1.ql (by omega)) (Rm.ky H20.out.2.1.tw H20.out.2.2.1 (by omega)) (Rm.ky H20.out.2.1.ltw (by rw [H15.out.2.2.2.1.2.1]; exact H15.out.2.2.2.2) (by omega)) (by omega) (HIL.out.2.k K22)
   have H22 : Hid (y5 [] w w22 /\ Fr w22 (.slice lp (y7 c.lt).length lc) (.slice mp (y7 t1).length mc) (.slice np (y7 t2).length nc) (.slice kp ms.length kc) (y7 c.lt) (y7 t1) (y7 t2) ms /\ Np w22 (x2 :: ym a bv cv7)) := ⟨K22, hF22, Np.stg hR22 hd22⟩
   clear hd22 hR22 hR21 K22 hF22 HOf
   go_wp2_with fail
   refine HSy2.out.mono ?_
   intro e w23 hpr
   obtain ⟨o2, err2, cv23, D23, rfl, hce2, hk23, hd23, hsv2⟩ := hpr.found H15.out.2.2.1.sv (by rw [H15.out.2.2.2.1.2.1]; exact HTf.out.imp (fun h => h.1) id)
   have hF23 := H22.out.2.1.kept hk23 H22.out.2.2
   have K23 : y5 [] w w23 := H22.out.1.trans2 hk23 fun y hy => by
    rcases List.mem_cons.1 hy with rfl | hy
    ·exact Or.inr H21.out.1.fx
    ·exact Or.inr (H21.out.1.fd y hy)
   have HAf2 : Hid (Calls _ _ _ _ _) := Q0X a bv 100 _ D23 (.slice kp ms.length kc) ms w23 hd23 (by omega) hd23.qlen hF23.k
   have hofe2 : (o2 = none /\ err2 = .nilIface) \/ (o2 ≠ none /\ ∃ f1 o1, err2 = .iface f1 o1) := by
    cases o2 with
    | none => exact Or.inl ⟨rfl, hce2⟩
    | some q =>
     obtain ⟨f1, f2, o1, o2, e1, _, _⟩ := Qo.ex hce2
     exact Or.inr ⟨by simp, _, _, e1⟩
   have H23 : Hid (Fr w23 (.slice lp (y7 c.lt).length lc) (.slice mp (y7 t1).length mc) (.slice np (y7 t2).length nc) (.slice kp ms.length kc) (y7 c.lt) (y7 t1) (y7 t2) ms /\ y5 [] w w23 /\ (∀ L1, Sr D23.L D23.q L1 -> ∃ tu ro T2, Fnd 100 L1 tu ro T2 /\ (((y7 T2 = y7 c.lt \/ y7 T2 = y7 t1) /\ o2 ≠ none) \/ y7 T2 = y7 t2)) /\ ((o2 = none /\ err2 = .nilIface) \/ (o2 ≠ none /\ ∃ f1 o1, err2 = .iface f1 o1))) := ⟨hF23, K23, hsv2, hofe2⟩
   clear hpr hd23 hF23 K23 hsv2 hce2 hofe2 HSy2
   go_wp2_with fail
   refine HAf2.out.mono ?_
   rintro e w24 ⟨L2, a24, bv24, rfl, hsr2, haft2⟩
   obtain ⟨tu2, ro2, T2, hFn2, hT2fl⟩ := H23.out.2.2.1 L2 hsr2
   have K24 : y5 [] w w24 := H23.out.2.1.trans haft2.k
   have hlT2 : (y7 T2).length <= 21 := by
    rcases hT2fl with ⟨e | e, _⟩ | e
    ·rw [e]; exact hlen
    ·rw [e]; exact hlen1
    ·rw [e]; exact hlen2
   have HFo2 : Hid (Calls _ _ _ _ _) := Qcw a24 bv24 100 _ (.new L2) T2 w24 haft2.d (by omega) (by omega) (by simp [Dv.new]) (HIL.out.2.k K24) ⟨rfl, rfl, rfl⟩ (by rw [hFn2.hd]) (hFn2.tree (by omega))
   have H24 : Hid (Fr w24 (.slice lp (y7 c.lt).length lc) (.slice mp (y7 t1).length mc) (.slice np (y7 t2).length nc) (.slice kp ms.length kc) (y7 c.lt) (y7 t1) (y7 t2) ms /\ y5 [] w w24 /\ w.heap.size <= a24 /\ DQ w24 a24 bv24 100 (.slice none 0 0) (.new L2)) := ⟨H23.out.1.kept haft2.k (Np.nil _), K24, (by have h1 := H23.out.2.1.size; have h2 := haft2.a; omega), haft2.d⟩
   have HT2f : Hid (((y7 T2 = y7 c.lt \/ y7 T2 = y7 t1) /\ o2 ≠ none) \/ y7 T2 = y7 t2) := hT2fl
   clear hsr2 haft2 hFn2 K24 hT2fl HAf2
   go_wp2_with fail
   refine HFo2.out.mono ?_
   rintro e w25 ⟨vk, D25, rfl, hpl25, _, hd25, _, hk25⟩
   have hF25 := H24.out.1.kept hk25 (Np.dq H24.out.2.2.2)
   have K25 : y5 [] w w25 := H24.out.2.1.trans2 hk25 (by intro q hq; simp at hq; subst hq; exact Or.inr H24.out.2.2.1)
   have HSc : Hid (Calls _ _ _ _ _) := jo vk _ (y7 T2) (y7 c.lt) w25 hpl25 hF25.l (by omega)
   have HSd : Hid (∀ W, y5 [] w25 W -> Calls _ _ _ W _) := fun W kW => jo vk _ (y7 T2) (y7 t1) W (hpl25.kept kW (by simp)) (hF25.kept kW (Np.nil _)).m (by omega)
   have HSe : Hid (∀ W, y5 [] w25 W -> Calls _ _ _ W _) := fun W kW => jo vk _ (y7 T2) (y7 t2) W (hpl25.kept kW (by simp)) (hF25.kept kW (Np.nil _)).n (by omega)
   obtain ⟨kkp, kkc, rfl⟩ := hpl25.shape
   have HK25 : Hid (y5 [] w w25) := K25
   clear hpl25 hF25 hd25 hk25 K25 HFo2
   go_wp2_with fail
   refine HSc.out.mono ?_
   rintro e w26 ⟨rfl, hk26⟩
   generalize hb3 : decide (y7 T2 = y7 c.lt) = b3
   have HSd' : Hid (Calls _ _ _ _ _) := HSd.out w26 hk26
   clear HSd
   go_wp2_with fail
   refine HSd'.out.mono ?_
   rintro e w27 ⟨rfl, hk27⟩
   generalize hb4 : decide (y7 T2 = y7 t1) = b4
   have HSe' : Hid (Calls _ _ _ _ _) := HSe.out w27 (hk26.trans hk27)
   clear HSe
   go_wp2_with fail
   refine HSe'.out.mono ?_
   rintro e w28 ⟨rfl, hk28⟩
   generalize hb5 : decide (y7 T2 = y7 t2) = b5
   have KF : y5 [] w w28 := ((HK25.out.trans hk26).trans hk27).trans hk28
   have hfin : (b3 = true /\ ∃ f1 o1, err2 = .iface f1 o1) \/ (b3 = true /\ err2 = .nilIface /\ b5 = true) \/ (b3 = false /\ b4 = true /\ ∃ f1 o1, err2 = .iface f1 o1) \/ (b3 = false /\ b4 = true /\ err2 = .nilIface /\ b5 = true) \/ (b3 = false /\ b4 = false /\ b5 = true /\ ∃ f1 o1, err2 = .iface f1 o1) \/ (b3 = false /\ b4 = false /\ b5 = true /\ err2 = .nilIface) := by
    have h5 : o2 = none -> b5 = true := fun h => by
     rcases HT2f.out with ⟨_, h2⟩ | h2
     ·exact absurd h h2
     ·rw [<- hb5]; exact decide_eq_true h2
    have h345 : b3 = true \/ b4 = true \/ b5 = true := by
     rcases HT2f.out with ⟨h2 | h2, _⟩ | h2
     ·exact Or.inl (by rw [<- hb3]; exact decide_eq_true h2)
     ·exact Or.inr (Or.inl (by rw [<- hb4]; exact decide_eq_true h2))
     ·exact Or.inr (Or.inr (by rw [<- hb5]; exact decide_eq_true h2))
    rcases H23.out.2.2.2 with ⟨h6, h7⟩ | ⟨_, h7⟩
    ·have := h5 h6
     cases b3 <;> cases b4 <;> simp [this, h7]
    ·cases b3 <;> cases b4 <;> cases b5 <;> simp [h7] at h345 ⊢
   clear hb3 hb4 hb5
   rcases hfin with ⟨rfl, f5, o5, rfl⟩ | ⟨rfl, rfl, rfl⟩ | ⟨rfl, rfl, f5, o5, rfl⟩ | ⟨rfl, rfl, rfl, rfl⟩ | ⟨rfl, rfl, rfl, f5, o5, rfl⟩ | ⟨rfl, rfl, rfl, rfl⟩
   all_goals
    go_wp2
    go_ret
    exact ⟨rfl, KF⟩
end Go.Proofs.YtcklgafpgdhnaabGreatDoor
