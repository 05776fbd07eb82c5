import Derived.Test.YtcklgafpgdhnaaaGreatDoorPsbm
import Derived.BigQuiet
import Derived.Test.YtcklgafpgdhnaaaGreatDoorPsab
set_option maxRecDepth 100000
set_option maxHeartbeats 4000000
open Go.Proofs.Tryz
open Go.Act renaming put → zP
open List renaming getElem_toArray → zA, getElem_cons_succ → zB, getElem_cons_zero → zC, setIfInBounds_toArray → zD, set_cons_succ → zE, set_cons_zero → zF
namespace Go.Proofs.YtcklgafpgdhnaaaGreatDoor
open Go.RowKit
theorem Smm.scan {w0 w : World} {x a : Nat} {bv : Value} {n : Nat} {c : Hd} {t : Tr} {D : Dv} (lo hi : ByteArray) (mm : Int) (h : Smm w0 x a bv n c t D w) (ht : TW t) (hl : (Q4V t).length <= 20000) :
  Calls prog 19 #[.pointer (some ⟨x, 0, none⟩), .string lo, .string hi, .int .i64 mm] w fun e w' => ∃ vv, e = .returned (.tuple #[vv, .nilIface]) /\ PL w' 41 vv (Q3t lo hi (mst mm) (Q4V t)) /\ Smm w0 x a bv n c t D w' /\ Kept [] w w' := by
 obtain ⟨v, r, hr⟩ := h.rc
 refine (QdZ x v a n c r t lo hi mm ht hl w hr).mono ?_
 rintro e w' ⟨vv, h1, h2, _, h4⟩
 exact ⟨vv, h1, h2, h.k0 h4, h4⟩
theorem Qev {o : Oper} {a : Act} {w : World} (x y : Operand) (ho : o.op = .binOp .geq 3 x y 3) (m n : Nat) (hx : a.eval x = .int .i64 m) (hy : a.eval y = .int .i64 n) (hb : m < n) :
  (execOp a.eval o).run prog w = .ok (.value (.bool false)) w := by
 have hr : (binOp .geq 3 (.int .i64 m) (.int .i64 n)).run prog w = .ok (.bool (decide ((m : Int) ≥ (n : Int)))) w := rfl
 rw [show decide ((m : Int) ≥ (n : Int)) = false from decide_eq_false (by omega)] at hr
 have hg : (eqGuard .geq 3 x y (.int .i64 m) (.int .i64 n)).run prog w = .ok () w := by simp [eqGuard]
 simp [execOp, ho, hx, hy, hr, hg]
def SoPr (l : List Pr) : Prop := Am (kys 40) l /\ getL fstB l = some ofaB
def SoI (w0 : World) (x a : Nat) (bv : Value) (c : Hd) (t : Tr) (D : Dv) (lo hi : ByteArray) (mm : Int) (vl vp : Value) (nv iv : Value) (wr : World) : Prop :=
 ∃ i : Nat, i <= (Q4V t).length /\ iv = .int .i64 (i : Nat) /\ nv = .int .i64 ((min (cIn lo hi (Q4V t) i) (mst mm) : Nat) : Int) /\ Smm w0 x a bv 200 c t D wr /\ PL wr 41 vl (Q4V t) /\ PL wr 41 vp (Q3t lo hi (mst mm) (Q4V t))
theorem SoI.k {w0 : World} {x a : Nat} {bv : Value} {c : Hd} {t : Tr} {D : Dv} {lo hi : ByteArray} {mm : Int} {vl vp nv iv : Value} {wr wr' : World} (h : SoI w0 x a bv c t D lo hi mm vl vp nv iv wr) (k : Kept [] wr wr') : SoI w0 x a bv c t D lo hi mm vl vp nv iv wr' := by
 obtain ⟨i, h1, h2, h3, h4, h5, h6⟩ := h
 exact ⟨i, h1, h2, h3, h4.k0 k, h5.kept k (by simp), h6.kept k (by simp)⟩
theorem Qew (z : Int) (lo hi : ByteArray) (mm : Int) (w : World) (hz1 : -9223372036854775808 <= z) (hz2 : z <= 9223372036854775807) (hm1 : -9223372036854775808 <= mm) (hm2 : mm <= 9223372036854775807) :
  Calls prog 10 #[.int .i64 z, .string lo, .string hi, .int .i64 mm] w (Qdc w) := by
 have HB : Hid (∀ W, Calls _ _ _ W _) := fun W => Qeh 200 z W (by omega) (by omega) hz1 hz2
 have HZ : Hid (-9223372036854775808 <= z.tdiv 3 /\ z.tdiv 3 <= 9223372036854775807) := Qeu z 3 (by omega) hz1 hz2
 have HZZ : Hid (-9223372036854775808 <= z /\ z <= 9223372036854775807) := ⟨hz1, hz2⟩
 go_enter func10, ntmps10
 go_wp2_with fail
 refine (HB.out _).mono ?_
 rintro e w1 ⟨x, a, bv, c, D, vv, rfl, hms1, hs1, _, hpl1, _, hne, hA, htu, hgf⟩
 obtain ⟨lp, lc, rfl⟩ := hpl1.shape
 by_cases hlo : 30 < lo.size \/ 30 < hi.size
 ·have hk := hms1.k
  clear hms1 hs1 hpl1 hA
  by_cases hl1 : 30 < lo.size
  ·have hl1' : (30 : Int) < (lo.size : Int) := by omega
   go_wp2
   go_ret
   exact ⟨rfl, hk⟩
  ·have hl1' : (lo.size : Int) <= 30 := by omega
   have hl2' : (30 : Int) < (hi.size : Int) := by omega
   go_wp2
   go_ret
   exact ⟨rfl, hk⟩
 have hl1' : (lo.size : Int) <= 30 := by omega
 have hl2' : (hi.size : Int) <= 30 := by omega
 have hA40 : SoPr (Q4V c.lt) := ⟨hA.sub (Qeg (by omega)), hgf⟩
 have HCh : Hid (Calls _ _ _ _ _) := Qdm SoPr (z.tdiv 3) 60 40 hms1 hs1 (by omega) (by omega) hA40
  (fun l j v hv hj hl => ⟨hl.1.put (Qee hj), by rw [Qe5 (Qef j hj)]; exact hl.2⟩)
  (fun l j hj hl => ⟨hl.1.del, by rw [Qe6 (Qef j hj)]; exact hl.2⟩)
  (fun t ht hl => Rm.ky ht hl.1 (by omega)) (by omega) (by omega) (by omega) HZ.out.1 HZ.out.2
 clear hms1 hs1 hpl1 hA hne hA40 hgf hlo HB
 go_wp2_with fail
 refine HCh.out.mono ?_
 rintro e w3 ⟨rfl, t, hms3, hs3, hP3, hk3⟩
 have hlen : (Q4V t).length <= 41 := by have := hP3.1.len hs3.st.tw; rw [Qed] at this; exact this
 have HA : Hid (Calls _ _ _ _ _) := hms3.all hs3.st.tw (by omega)
 have H3 : Hid (Sd 200 c t D /\ SoPr (Q4V t)) := ⟨hs3, hP3⟩
 have hnz : (Q4V t).length ≠ 0 := fun e => by
  have := hP3.2
  rw [List.eq_nil_of_length_eq_zero e] at this
  cases this
 have hl0 : (((Q4V t).length : Int) == 0) = false := by rw [beq_eq_false_iff_ne]; omega
 have HSrt : Hid (Srt (Q4V t)) := WFN.srt hs3.st.tw.wf
 have HTW : Hid (TW t) := hs3.st.tw
 have hko : Hid (∀ p ∈ Q4V t, Q3O p.1) := fun p hp => ⟨(WFN.keys hs3.st.tw.wf p hp).2.1, (WFN.keys hs3.st.tw.wf p hp).2.2.1⟩
 clear hms3 hs3 hP3 HCh
 go_wp2_with fail
 refine HA.out.mono ?_
 rintro e w4 ⟨vl, rfl, hpl4, _, hms4, hk4⟩
 have HSc : Hid (Calls _ _ _ _ _) := hms4.scan lo hi mm HTW.out (by omega)
 have H4 : Hid (PL w4 41 vl (Q4V t)) := hpl4
 obtain ⟨vp1, vc1, rfl⟩ := hpl4.shape
 clear hms4 hpl4 HA
 go_wp2_with fail
 refine HSc.out.mono ?_
 rintro e w5 ⟨vq, rfl, hpl5, hms5, hk5⟩
 have hplen := Qet lo hi (Q4V t) (mst mm)
 have H5 : Hid (PL w5 41 (.slice vp1 (Q4V t).length vc1) (Q4V t) /\ PL w5 41 vq (Q3t lo hi (mst mm) (Q4V t)) /\ Smm w x a bv 200 c t D w5) := ⟨H4.out.kept hk5 (by simp), hpl5, hms5⟩
 obtain ⟨qp, qc, rfl⟩ := hpl5.shape
 clear hms5 hpl5 HSc
 generalize hpn : (Q3t lo hi (mst mm) (Q4V t)).length = pn at *
 have HPLEN : Hid (pn = min (mst mm) (cIn lo hi (Q4V t) (Q4V t).length)) := hplen
 clear hplen
 go_wp2
 go_loopw [17, 18] (fun nv iv wr => SoI w x a bv c t D lo hi mm (.slice vp1 (Q4V t).length vc1) (.slice qp pn qc) nv iv wr) (fun _ iv _ => (Q4V t).length - (intOf iv).toNat)
 case atStart => exact ⟨0, Nat.zero_le _, rfl, by simp [cIn], H5.out.2.2, H5.out.1, H5.out.2.1⟩
 case round =>
  clear H5
  obtain ⟨i, hi1, rfl, rfl, hmsr, hplr, hpqr⟩ := hrel
  have HR : Hid (Smm w x a bv 200 c t D wr /\ PL wr 41 (.slice vp1 (Q4V t).length vc1) (Q4V t) /\ PL wr 41 (.slice qp pn qc) (Q3t lo hi (mst mm) (Q4V t))) := ⟨hmsr, hplr, hpqr⟩
  by_cases hlt : i < (Q4V t).length
  ·have hlt' : (i : Int) < ((Q4V t).length : Int) := by omega
   obtain ⟨p, hp⟩ : ∃ p, (Q4V t)[i]? = some p := ⟨_, List.getElem?_eq_getElem hlt⟩
   obtain ⟨ga, _, cura, e, hga, hcura⟩ := hplr.at_ (by omega)
   cases e
   have hpc := hcura i p hp
   have a0 := Q02 (j := i * 2) hga hpc.1
   have a1 := Q02 (j := i * 2 + 1) hga hpc.2
   have HG : Hid (Calls _ _ _ _ _) := hmsr.get HTW.out (k := p.1) (hko.out p (List.mem_of_getElem? hp))
   rw [Qem HSrt.out hp] at HG
   have hixa : ∀ W : World, (Instr.indexAt 28 (.slice (some ⟨ga, 0, none⟩) (Q4V t).length vc1) (.int .i64 i)).run prog W = .ok (.pointer (some ⟨ga, i * 2, none⟩)) W := fun W => Q3M 28 ga 0 (Q4V t).length vc1 i 2 41 underlying28 sap hlt _ (by omega)
   have HGA : Hid (wr.heap[ga]? = some (.cells cura 41 (0, 0)) /\ ∀ j q, (Q4V t)[j]? = some q -> cura[j * 2]? = some (.string q.1) /\ cura[j * 2 + 1]? = some (.string q.2)) := ⟨hga, hcura⟩
   clear hga hcura hpc hmsr hplr hpqr
   obtain ⟨pk1, pv1⟩ := p
   go_wp2_with fail
   refine HG.out.mono ?_
   rintro e w6 ⟨rfl, hms6, hk6⟩
   have hg6 := hk6.get HGA.out.1 (by simp)
   have b0 : w6.cell? ⟨ga, i * 2, none⟩ = some (.string pk1) := Q02 (j := i * 2) hg6 (HGA.out.2 i _ hp).1
   have b1 : w6.cell? ⟨ga, i * 2 + 1, none⟩ = some (.string pv1) := Q02 (j := i * 2 + 1) hg6 (HGA.out.2 i _ hp).2
   have H6 : Hid (Smm w x a bv 200 c t D w6 /\ Kept [] wr w6) := ⟨hms6, hk6⟩
   clear hms6 hg6 a0 a1 HG
   have hsome : (some pv1).isSome = true := rfl
   have hgetD : (some pv1).getD ⟨#[]⟩ = pv1 := rfl
   rw [hsome, hgetD]
   by_cases hi0 : i = 0
   ·have hdi : decide (0 < i) = false := decide_eq_false (by omega)
    clear hi0
    go_wp2_with fail
    go_quiet (fail)
    cases hb1 : Op.bytesLess pk1.toList lo.toList with
    | true =>
     have FIN : Hid (SoI w x a bv c t D lo hi mm (.slice (some ⟨ga, 0, none⟩) (Q4V t).length vc1) (.slice qp pn qc) (.int .i64 ((min (cIn lo hi (Q4V t) i) (mst mm) : Nat) : Int)) (.int .i64 ((i : Int) + 1)) w6) := ⟨i + 1, hlt, by go_num, by rw [Qep hp, if_neg (by unfold inR bl; simp [hb1])]; rfl, H6.out.1, HR.out.2.1.kept H6.out.2 (by simp), HR.out.2.2.kept H6.out.2 (by simp)⟩
     go_wp2
     go_roundw
     case rel => exact FIN.out.k ((Kept.refl [] _).drewN _)
     case measure => simp [intOf]; omega
    | false =>
     cases hb2 : Op.bytesLess pk1.toList hi.toList with
     | false =>
      have FIN : Hid (SoI w x a bv c t D lo hi mm (.slice (some ⟨ga, 0, none⟩) (Q4V t).length vc1) (.slice qp pn qc) (.int .i64 ((min (cIn lo hi (Q4V t) i) (mst mm) : Nat) : Int)) (.int .i64 ((i : Int) + 1)) w6) := ⟨i + 1, hlt, by go_num, by rw [Qep hp, if_neg (by unfold inR bl; simp [hb2])]; rfl, H6.out.1, HR.out.2.1.kept H6.out.2 (by simp), HR.out.2.2.kept H6.out.2 (by simp)⟩
      go_wp2
      go_roundw
      case rel => exact FIN.out.k ((Kept.refl [] _).drewN _)
      case measure => simp [intOf]; omega
     | true =>
      have hin : inR lo hi (pk1, pv1) = true := by unfold inR bl; simp [hb1, hb2]
      have hci := Qep (lo := lo) (hi := hi) hp
      rw [if_pos hin] at hci
      by_cases hnm : cIn lo hi (Q4V t) i < mst mm
      ·have hsa := Qer hp hin hnm
       have hmin : min (cIn lo hi (Q4V t) i) (mst mm) = cIn lo hi (Q4V t) i := by omega
       have hnp : cIn lo hi (Q4V t) i < pn := by rw [<- hpn]; exact (List.getElem?_eq_some_iff.1 hsa).1
       have FIN : Hid (SoI w x a bv c t D lo hi mm (.slice (some ⟨ga, 0, none⟩) (Q4V t).length vc1) (.slice qp pn qc) (.int .i64 ((cIn lo hi (Q4V t) i : Int) + 1)) (.int .i64 ((i : Int) + 1)) w6) := ⟨i + 1, hlt, by go_num, by rw [hci, show min (cIn lo hi (Q4V t) i + 1) (mst mm) = cIn lo hi (Q4V t) i + 1 by omega]; go_num, H6.out.1, HR.out.2.1.kept H6.out.2 (by simp), HR.out.2.2.kept H6.out.2 (by simp)⟩
       obtain ⟨gq, _, curq, eq, hgq, hcurq⟩ := (HR.out.2.2.kept H6.out.2 (by simp)).at_ (by rw [hpn]; omega)
       simp only [Value.slice.injEq] at eq
       obtain ⟨rfl, _, rfl⟩ := eq
       rw [hmin]
       have hnI : (cIn lo hi (Q4V t) i : Int) < mm := by unfold mst at hnm; omega
       have hnP : (cIn lo hi (Q4V t) i : Int) < (pn : Int) := by omega
       have hqc := hcurq (cIn lo hi (Q4V t) i) _ hsa
       have hixq : ∀ W : World, (Instr.indexAt 28 (.slice (some ⟨gq, 0, none⟩) pn qc) (.int .i64 (cIn lo hi (Q4V t) i))).run prog W = .ok (.pointer (some ⟨gq, cIn lo hi (Q4V t) i * 2, none⟩)) W := fun W => Q3M 28 gq 0 pn qc (cIn lo hi (Q4V t) i) 2 41 underlying28 sap hnp _ (by omega)
       have HG6 : Hid (w6.heap[ga]? = some (.cells cura 41 (0, 0)) /\ w6.heap[gq]? = some (.cells curq 41 (0, 0))) := ⟨H6.out.2.get HGA.out.1 (by simp), hgq⟩
       have hc6 := HGA.out.2 i _ hp
       clear hsa hmin hgq hcurq hci hin
       generalize cIn lo hi (Q4V t) i = nn at *
       have hkq : Kept [] w6 (w6.drewN nq).drew := ((Kept.refl [] w6).drewN nq).drew
       have hS6 : KsS ga gq cura curq (w6.drewN nq).drew := ⟨hkq.get HG6.out.1 (by simp), hkq.get HG6.out.2 (by simp)⟩
       clear hkq
       go_wp2_with fail
       refine Q1j (KsS ga gq cura curq) (by kernel_rfl) ?_
       have hS : KsS ga gq cura curq _ := hS6
       refine hu 0 (.int .i64 nn) rfl (fun W hW => by rfl) hS ?_
       simp only [zP, zA, zC, zD, zE, zF]
       refine hu 1 ((.slice (some ⟨gq, 0, none⟩) pn qc)) rfl (fun W hW => by rfl) hS ?_
       simp only [zP, zA, zB, zC, zD, zE, zF]
       refine hu 2 (.int .i64 pn) rfl (fun W hW => Q1q (.tmp 153) 28 41 rfl (some ⟨gq, 0, none⟩) pn qc rfl underlying28) hS ?_
       simp only [zP, zA, zB, zC, zD, zE, zF]
       refine hu 3 (.bool false) rfl (fun W hW => Qev (.tmp 152) (.tmp 154) rfl nn pn rfl rfl hnp) hS ?_
       simp only [zP, zA, zB, zC, zD, zE, zF]
       refine hu 4 (.bool false) rfl (fun W hW => by rfl) hS ?_
       simp only [zP, zA, zB, zC, zD, zE, zF]
       refine hu 5 ((.slice (some ⟨gq, 0, none⟩) pn qc)) rfl (fun W hW => by rfl) hS ?_
       simp only [zP, zA, zB, zC, zD, zE, zF]
       refine hu 6 (.int .i64 nn) rfl (fun W hW => by rfl) hS ?_
       simp only [zP, zA, zB, zC, zD, zE, zF]
       refine hu 7 (.pointer (some ⟨gq, nn * 2, none⟩)) rfl (fun W hW => Q0v 28 (.tmp 157) (.tmp 158) rfl gq 0 pn qc nn 2 rfl rfl 41 underlying28 sap hnp (nn * 2) (by omega)) hS ?_
       simp only [zP, zA, zB, zC, zD, zE, zF]
       refine hu 8 (.agg #[.string pk1, .string pv1]) rfl (fun W hW => Q0l 41 (.tmp 159) rfl ⟨gq, nn * 2, none⟩ rfl _ (PL.load _ hW.2 hqc underlying41 sap)) hS ?_
       simp only [zP, zA, zB, zC, zD, zE, zF]
       refine hu 9 ((.slice (some ⟨ga, 0, none⟩) (Q4V t).length vc1)) rfl (fun W hW => by rfl) hS ?_
       simp only [zP, zA, zB, zC, zD, zE, zF]
       refine hu 10 (.int .i64 i) rfl (fun W hW => by rfl) hS ?_
       simp only [zP, zA, zB, zC, zD, zE, zF]
       refine hu 11 (.pointer (some ⟨ga, i * 2, none⟩)) rfl (fun W hW => Q0v 28 (.tmp 161) (.tmp 162) rfl ga 0 (Q4V t).length vc1 i 2 rfl rfl 41 underlying28 sap hlt (i * 2) (by omega)) hS ?_
       simp only [zP, zA, zB, zC, zD, zE, zF]
       refine hu 12 (.agg #[.string pk1, .string pv1]) rfl (fun W hW => Q0l 41 (.tmp 163) rfl ⟨ga, i * 2, none⟩ rfl _ (PL.load _ hW.1 hc6 underlying41 sap)) hS ?_
       simp only [zP, zA, zB, zC, zD, zE, zF]
       refine hu 13 (.bool false) rfl (fun W hW => Qel (.tmp 160) (.tmp 164) rfl (pk1, pv1) (pk1, pv1) rfl rfl _ (by rw [Q3m, Q3m]; rfl)) hS ?_
       simp only [zP, zA, zB, zC, zD, zE, zF]
       refine hu 14 (.bool false) rfl (fun W hW => by rfl) hS ?_
       simp only [zP, zA, zB, zC, zD, zE, zF]
       refine wpAnyH_done (by kernel_rfl) ?_ _
       clear hqc hc6 hixq hS
       go_wp2
       go_roundw
       case rel => exact FIN.out.k (((Kept.refl [] _).drewN _).drew)
       case measure => simp [intOf]; omega
      ·have hmin : min (cIn lo hi (Q4V t) i) (mst mm) = mst mm := by omega
       have FIN : Hid (SoI w x a bv c t D lo hi mm (.slice (some ⟨ga, 0, none⟩) (Q4V t).length vc1) (.slice qp pn qc) (.int .i64 ((mst mm : Nat) : Int)) (.int .i64 ((i : Int) + 1)) w6) := ⟨i + 1, hlt, by go_num, by rw [hci]; congr 2; omega, H6.out.1, HR.out.2.1.kept H6.out.2 (by simp), HR.out.2.2.kept H6.out.2 (by simp)⟩
       rw [hmin]
       have hnI : mm <= ((mst mm : Nat) : Int) := by unfold mst; omega
       go_wp2
       go_roundw
       case rel => exact FIN.out.k ((Kept.refl [] _).drewN _)
       case measure => simp [intOf]; omega
   ·have hi0' : (0 : Int) < (i : Int) := by omega
    obtain ⟨q, hq⟩ : ∃ q, (Q4V t)[i - 1]? = some q := ⟨_, List.getElem?_eq_getElem (by omega)⟩
    have hless : bl q.1 pk1 = true := HSrt.out.at hq (by rw [show i - 1 + 1 = i by omega]; exact hp)
    have b2 : w6.cell? ⟨ga, (i - 1) * 2, none⟩ = some (.string q.1) := Q02 (j := (i - 1) * 2) (H6.out.2.get HGA.out.1 (by simp)) (HGA.out.2 _ _ hq).1
    have hixb : ∀ W : World, (Instr.indexAt 28 (.slice (some ⟨ga, 0, none⟩) (Q4V t).length vc1) (.int .i64 ((i : Int) - 1))).run prog W = .ok (.pointer (some ⟨ga, (i - 1) * 2, none⟩)) W := fun W => by
     rw [show ((i : Int) - 1) = ((i - 1 : Nat) : Int) by omega]
     exact Q3M 28 ga 0 (Q4V t).length vc1 (i - 1) 2 41 underlying28 sap (by omega) _ (by omega)
    unfold bl at hless
    obtain ⟨qk, qv⟩ := q
    have hdi : decide (0 < i) = true := decide_eq_true (by omega)
    go_wp2_with fail
    go_quiet (fail)
    cases hb1 : Op.bytesLess pk1.toList lo.toList with
    | true =>
     have FIN : Hid (SoI w x a bv c t D lo hi mm (.slice (some ⟨ga, 0, none⟩) (Q4V t).length vc1) (.slice qp pn qc) (.int .i64 ((min (cIn lo hi (Q4V t) i) (mst mm) : Nat) : Int)) (.int .i64 ((i : Int) + 1)) w6) := ⟨i + 1, hlt, by go_num, by rw [Qep hp, if_neg (by unfold inR bl; simp [hb1])]; rfl, H6.out.1, HR.out.2.1.kept H6.out.2 (by simp), HR.out.2.2.kept H6.out.2 (by simp)⟩
     go_wp2
     go_roundw
     case rel => exact FIN.out.k ((Kept.refl [] _).drewN _)
     case measure => simp [intOf]; omega
    | false =>
     cases hb2 : Op.bytesLess pk1.toList hi.toList with
     | false =>
      have FIN : Hid (SoI w x a bv c t D lo hi mm (.slice (some ⟨ga, 0, none⟩) (Q4V t).length vc1) (.slice qp pn qc) (.int .i64 ((min (cIn lo hi (Q4V t) i) (mst mm) : Nat) : Int)) (.int .i64 ((i : Int) + 1)) w6) := ⟨i + 1, hlt, by go_num, by rw [Qep hp, if_neg (by unfold inR bl; simp [hb2])]; rfl, H6.out.1, HR.out.2.1.kept H6.out.2 (by simp), HR.out.2.2.kept H6.out.2 (by simp)⟩
      go_wp2
      go_roundw
      case rel => exact FIN.out.k ((Kept.refl [] _).drewN _)
      case measure => simp [intOf]; omega
     | true =>
      have hin : inR lo hi (pk1, pv1) = true := by unfold inR bl; simp [hb1, hb2]
      have hci := Qep (lo := lo) (hi := hi) hp
      rw [if_pos hin] at hci
      by_cases hnm : cIn lo hi (Q4V t) i < mst mm
      ·have hsa := Qer hp hin hnm
       have hmin : min (cIn lo hi (Q4V t) i) (mst mm) = cIn lo hi (Q4V t) i := by omega
       have hnp : cIn lo hi (Q4V t) i < pn := by rw [<- hpn]; exact (List.getElem?_eq_some_iff.1 hsa).1
       have FIN : Hid (SoI w x a bv c t D lo hi mm (.slice (some ⟨ga, 0, none⟩) (Q4V t).length vc1) (.slice qp pn qc) (.int .i64 ((cIn lo hi (Q4V t) i : Int) + 1)) (.int .i64 ((i : Int) + 1)) w6) := ⟨i + 1, hlt, by go_num, by rw [hci, show min (cIn lo hi (Q4V t) i + 1) (mst mm) = cIn lo hi (Q4V t) i + 1 by omega]; go_num, H6.out.1, HR.out.2.1.kept H6.out.2 (by simp), HR.out.2.2.kept H6.out.2 (by simp)⟩
       obtain ⟨gq, _, curq, eq, hgq, hcurq⟩ := (HR.out.2.2.kept H6.out.2 (by simp)).at_ (by rw [hpn]; omega)
       simp only [Value.slice.injEq] at eq
       obtain ⟨rfl, _, rfl⟩ := eq
       rw [hmin]
       have hnI : (cIn lo hi (Q4V t) i : Int) < mm := by unfold mst at hnm; omega
       have hnP : (cIn lo hi (Q4V t) i : Int) < (pn : Int) := by omega
       have hqc := hcurq (cIn lo hi (Q4V t) i) _ hsa
       have hixq : ∀ W : World, (Instr.indexAt 28 (.slice (some ⟨gq, 0, none⟩) pn qc) (.int .i64 (cIn lo hi (Q4V t) i))).run prog W = .ok (.pointer (some ⟨gq, cIn lo hi (Q4V t) i * 2, none⟩)) W := fun W => Q3M 28 gq 0 pn qc (cIn lo hi (Q4V t) i) 2 41 underlying28 sap hnp _ (by omega)
       have HG6 : Hid (w6.heap[ga]? = some (.cells cura 41 (0, 0)) /\ w6.heap[gq]? = some (.cells curq 41 (0, 0))) := ⟨H6.out.2.get HGA.out.1 (by simp), hgq⟩
       have hc6 := HGA.out.2 i _ hp
       clear hsa hmin hgq hcurq hci hin
       generalize cIn lo hi (Q4V t) i = nn at *
       have hkq : Kept [] w6 (w6.drewN nq).drew := ((Kept.refl [] w6).drewN nq).drew
       have hS6 : KsS ga gq cura curq (w6.drewN nq).drew := ⟨hkq.get HG6.out.1 (by simp), hkq.get HG6.out.2 (by simp)⟩
       clear hkq
       go_wp2_with fail
       refine Q1j (KsS ga gq cura curq) (by kernel_rfl) ?_
       have hS : KsS ga gq cura curq _ := hS6
       refine hu 0 (.int .i64 nn) rfl (fun W hW => by rfl) hS ?_
       simp only [zP, zA, zC, zD, zE, zF]
       refine hu 1 ((.slice (some ⟨gq, 0, none⟩) pn qc)) rfl (fun W hW => by rfl) hS ?_
       simp only [zP, zA, zB, zC, zD, zE, zF]
       refine hu 2 (.int .i64 pn) rfl (fun W hW => Q1q (.tmp 153) 28 41 rfl (some ⟨gq, 0, none⟩) pn qc rfl underlying28) hS ?_
       simp only [zP, zA, zB, zC, zD, zE, zF]
       refine hu 3 (.bool false) rfl (fun W hW => Qev (.tmp 152) (.tmp 154) rfl nn pn rfl rfl hnp) hS ?_
       simp only [zP, zA, zB, zC, zD, zE, zF]
       refine hu 4 (.bool false) rfl (fun W hW => by rfl) hS ?_
       simp only [zP, zA, zB, zC, zD, zE, zF]
       refine hu 5 ((.slice (some ⟨gq, 0, none⟩) pn qc)) rfl (fun W hW => by rfl) hS ?_
       simp only [zP, zA, zB, zC, zD, zE, zF]
       refine hu 6 (.int .i64 nn) rfl (fun W hW => by rfl) hS ?_
       simp only [zP, zA, zB, zC, zD, zE, zF]
       refine hu 7 (.pointer (some ⟨gq, nn * 2, none⟩)) rfl (fun W hW => Q0v 28 (.tmp 157) (.tmp 158) rfl gq 0 pn qc nn 2 rfl rfl 41 underlying28 sap hnp (nn * 2) (by omega)) hS ?_
       simp only [zP, zA, zB, zC, zD, zE, zF]
       refine hu 8 (.agg #[.string pk1, .string pv1]) rfl (fun W hW => Q0l 41 (.tmp 159) rfl ⟨gq, nn * 2, none⟩ rfl _ (PL.load _ hW.2 hqc underlying41 sap)) hS ?_
       simp only [zP, zA, zB, zC, zD, zE, zF]
       refine hu 9 ((.slice (some ⟨ga, 0, none⟩) (Q4V t).length vc1)) rfl (fun W hW => by rfl) hS ?_
       simp only [zP, zA, zB, zC, zD, zE, zF]
       refine hu 10 (.int .i64 i) rfl (fun W hW => by rfl) hS ?_
       simp only [zP, zA, zB, zC, zD, zE, zF]
       refine hu 11 (.pointer (some ⟨ga, i * 2, none⟩)) rfl (fun W hW => Q0v 28 (.tmp 161) (.tmp 162) rfl ga 0 (Q4V t).length vc1 i 2 rfl rfl 41 underlying28 sap hlt (i * 2) (by omega)) hS ?_
       simp only [zP, zA, zB, zC, zD, zE, zF]
       refine hu 12 (.agg #[.string pk1, .string pv1]) rfl (fun W hW => Q0l 41 (.tmp 163) rfl ⟨ga, i * 2, none⟩ rfl _ (PL.load _ hW.1 hc6 underlying41 sap)) hS ?_
       simp only [zP, zA, zB, zC, zD, zE, zF]
       refine hu 13 (.bool false) rfl (fun W hW => Qel (.tmp 160) (.tmp 164) rfl (pk1, pv1) (pk1, pv1) rfl rfl _ (by rw [Q3m, Q3m]; rfl)) hS ?_
       simp only [zP, zA, zB, zC, zD, zE, zF]
       refine hu 14 (.bool false) rfl (fun W hW => by rfl) hS ?_
       simp only [zP, zA, zB, zC, zD, zE, zF]
       refine wpAnyH_done (by kernel_rfl) ?_ _
       clear hqc hc6 hixq hS
       go_wp2
       go_roundw
       case rel => exact FIN.out.k (((Kept.refl [] _).drewN _).drew)
       case measure => simp [intOf]; omega
      ·have hmin : min (cIn lo hi (Q4V t) i) (mst mm) = mst mm := by omega
       have FIN : Hid (SoI w x a bv c t D lo hi mm (.slice (some ⟨ga, 0, none⟩) (Q4V t).length vc1) (.slice qp pn qc) (.int .i64 ((mst mm : Nat) : Int)) (.int .i64 ((i : Int) + 1)) w6) := ⟨i + 1, hlt, by go_num, by rw [hci]; congr 2; omega, H6.out.1, HR.out.2.1.kept H6.out.2 (by simp), HR.out.2.2.kept H6.out.2 (by simp)⟩
       rw [hmin]
       have hnI : mm <= ((mst mm : Nat) : Int) := by unfold mst; omega
       go_wp2
       go_roundw
       case rel => exact FIN.out.k ((Kept.refl [] _).drewN _)
       case measure => simp [intOf]; omega
  ·have hge : ¬ (i : Int) < ((Q4V t).length : Int) := by omega
   have hie : i = (Q4V t).length := by omega
   have hnn : ((min (cIn lo hi (Q4V t) i) (mst mm) : Nat) : Int) = (pn : Int) := by
    rw [HPLEN.out, hie, Nat.min_comm]
   rw [hnn]
   have HPk : Hid (∀ W, Calls _ _ _ W _) := fun W => Qdb z (Q4V t).length W (by omega) (by omega) HZZ.out.1 HZZ.out.2
   have hj := Q1S z (Q4V t).length (by omega)
   generalize hpj : pk z (Q4V t).length = j at *
   obtain ⟨p, hp⟩ : ∃ p, (Q4V t)[j]? = some p := ⟨_, List.getElem?_eq_getElem hj⟩
   obtain ⟨ga, _, cura, e, hga, hcura⟩ := hplr.at_ (by omega)
   cases e
   have a0 := Q02 (j := j * 2) hga (hcura j p hp).1
   have hixa : ∀ W : World, (Instr.indexAt 28 (.slice (some ⟨ga, 0, none⟩) (Q4V t).length vc1) (.int .i64 j)).run prog W = .ok (.pointer (some ⟨ga, j * 2, none⟩)) W := fun W => Q3M 28 ga 0 (Q4V t).length vc1 j 2 41 underlying28 sap hj _ (by omega)
   have HD : Hid (Calls _ _ _ _ _) := hmsr.del H3.out.1 (k := p.1) (hko.out p (List.mem_of_getElem? hp))
   have hdt := Qad p.1 t HTW.out
   have hgn : getL p.1 (Q4V (delT p.1 t)) = none := by rw [hdt.2]; exact Qen _ _
   have hln : (Q4V (delT p.1 t)).length + 1 = (Q4V t).length := by rw [hdt.2]; exact Qeo HSrt.out hp
   have HKO : Hid (Q3O p.1 /\ TW (delT p.1 t)) := ⟨hko.out p (List.mem_of_getElem? hp), hdt.1⟩
   obtain ⟨pk1, pv1⟩ := p
   clear hga hcura hmsr hplr hpqr hdt hpj
   go_wp2_with fail
   refine (HPk.out _).mono ?_
   rintro e w6 ⟨rfl, hw6⟩
   obtain rfl := hw6.symm
   go_wp2_with fail
   refine HD.out.mono ?_
   rintro e w7 ⟨rfl, hms7, hk7⟩
   have HG7 : Hid (Calls _ _ _ _ _) := hms7.get HKO.out.2 HKO.out.1
   rw [hgn] at HG7
   clear hms7 hgn a0 hixa
   go_wp2_with fail
   refine HG7.out.mono ?_
   rintro e w8 ⟨rfl, hms8, hk8⟩
   have HA8 : Hid (Calls _ _ _ _ _) := hms8.all HKO.out.2 (by omega)
   clear hms8
   go_wp2_with fail
   refine HA8.out.mono ?_
   rintro e w9 ⟨vm, rfl, hpl9, _, hms9, hk9⟩
   obtain ⟨mp, mc, rfl⟩ := hpl9.shape
   have KF : Kept [] w w9 := hms9.k
   have hml : (((Q4V (delT pk1 t)).length : Int) == ((Q4V t).length : Int) - 1) = true := by rw [beq_iff_eq]; omega
   generalize (Q4V (delT pk1 t)).length = ml at *
   clear hpl9 hms9 HA8 HG7 HD HPk hln
   go_wp2
   go_ret
   exact ⟨rfl, KF⟩
end Go.Proofs.YtcklgafpgdhnaaaGreatDoor
