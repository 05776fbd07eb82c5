import Derived.Test.YtcklgafpgdhnaaaGreatDoorPtbl
import Derived.Test.YtcklgafpgdhnaaaGreatDoorPtbm
set_option maxRecDepth 100000
set_option maxHeartbeats 4000000
open List renaming getElem_toArray → zA, getElem_cons_succ → zB, getElem_cons_zero → zC, setIfInBounds_toArray → zD, set_cons_succ → zE, set_cons_zero → zF
namespace Go.Proofs.YtcklgafpgdhnaaaGreatDoor
open Go.RowKit

theorem wr_add (x : Int) (h0 : 0 ≤ x) : ∀ m : Nat, x + m < 4611686018427387904 → wrN m x = x + m
 | 0, _ => by simp [wrN]
 | m + 1, h => by
  rw [wrN, wr_add x h0 m (by omega)]
  simp only [wrap64]
  omega
theorem syN_cnt (c : Hd) (t : Tr) : syN c t ≤ cntT t + 1 := by
 have h1 := (layT_stp t ⟨usL c.lt, []⟩).2
 unfold syN sysL
 simp only [List.length_nil, Nat.zero_add] at h1
 split <;> omega
theorem cheap_put {n : Nat} {lk : Nat → List UInt8} {c : Hd} {k y : ByteArray} (h : StK n lk c.lt c.lt) (hk : keyOk k) (hy : y.size ≤ 12) (hne : (getL k (flatT c.lt)).isSome = true) : 1 ≤ syN c (chgT (withL k y) k c.lt) := by
 refine syN_pos (op_with k y hk hy) h fun e => ?_
 rw [e] at hne
 cases hne
theorem cheap_del {n : Nat} {lk : Nat → List UInt8} {c : Hd} {k : ByteArray} (h : StK n lk c.lt c.lt) (hl : (flatT c.lt).length < 256) : syN c (delT k c.lt) ≤ 10 ∧ ((getL k (flatT c.lt)).isSome = true → 1 ≤ syN c (delT k c.lt)) := by
 unfold delT
 split
 ·rename_i hs
  refine ⟨syN_le h hl, fun _ => syN_pos (op_without k) h fun e => ?_⟩
  rw [e] at hs
  cases hs
 ·rename_i hs
  exact ⟨by rw [syN_self h]; omega, fun e => absurd e hs⟩
def vba : ByteArray := ⟨#[98, 97, 57, 56, 55, 54, 53, 52, 51, 50, 49, 48]⟩
def Hs (k : Nat) (l : List Pr) : Prop := ∀ i, i < k → (getL (wd i) l).isSome = true
theorem Hs.put {k : Nat} {l : List Pr} {y : ByteArray} (h : Hs k l) : Hs (k + 1) (withL (wd k) y l) := by
 intro i hi
 by_cases e : wd k = wd i
 ·rw [← e]
  exact mem_with
 ·rw [get_with_ne e]
  exact h i (by
   rcases Nat.lt_succ_iff_lt_or_eq.1 hi with h1 | h1
   ·exact h1
   ·subst h1; exact absurd rfl e)
def ChO (w0 : World) (x a : Nat) (bv : Value) (n k : Nat) (i : Value) (wr : World) : Prop := ∃ (j : Nat) (c : Hd) (t : Tr) (D : Dv), i = .int .i64 (j : Nat) ∧ j ≤ k ∧ SpI w0 x a bv n k 2 c t D wr ∧ Hs j (flatT t) ∧ D.wr = 2
def ChP (w0 : World) (x a : Nat) (bv : Value) (n k : Nat) (v i : Value) (wr : World) : Prop := ∃ (vv j : Nat) (c : Hd) (D : Dv), v = .int .i64 (vv : Nat) ∧ vv < 2147483648 ∧ i = .int .i64 (j : Nat) ∧ j ≤ 10 ∧ SpI w0 x a bv n k (3 + j) c c.lt D wr ∧ (j = 0 → Hs k (flatT c.lt)) ∧ ∃ q : Nat, D.wr = (q : Int) ∧ q ≤ 1000 + 10 * j

theorem Cheap_any (z y : Int) (w : World) (hz1 : -9223372036854775808 ≤ z) (hz2 : z ≤ 9223372036854775807) (hy1 : -9223372036854775808 ≤ y) (hy2 : y ≤ 9223372036854775807) :
  Calls Tryz.prog 14 #[.int .i64 z, .int .i64 y] w (TrueW w) := by
 have HP : Hid (∀ W, Calls _ _ _ W _) := fun W => kpick_any y 120 W (by omega) (by omega) hy1 hy2
 have HQ : Hid (∀ W, Calls _ _ _ W _) := fun W => kpick_any z 2147483648 W (by omega) (by omega) hz1 hz2
 have hk40 : pk y 120 < 120 := pk_lt y 120 (by omega)
 have hvv : pk z 2147483648 < 2147483648 := pk_lt z _ (by omega)
 generalize pk y 120 = k0 at *
 generalize pk z 2147483648 = vv0 at *
 obtain ⟨k, hk⟩ : ∃ k, k = k0 + 1 := ⟨_, rfl⟩
 have hnb : nb (400 : Int) = 400 := by unfold nb; rw [if_neg (by omega)]; rfl
 have HN : Hid (∀ W, Calls _ _ _ W _) := fun W => NewDisk_o 400 W
 rw [hnb] at HN
 have hkn : 4 * k + 8 ≤ 3 * 400 := by omega
 clear hnb
 go_enter Tryz.func14, Tryz.ntmps14
 go_wp2_with fail
 refine (HP.out _).mono ?_
 rintro e w1 ⟨rfl, hw1⟩
 obtain rfl := hw1.symm
 go_wp2_with fail
 rw [show 1 + (k0 : Int) = (k : Int) by omega]
 have hk1 : 1 ≤ k ∧ k ≤ 120 := by omega
 clear hk hk40
 refine (HN.out _).mono ?_
 rintro e w2 ⟨a, g, rfl, hdev, ha, hg, hkd⟩
 have HF : Hid (Calls _ _ _ _ _) := fmt_of2 hdev (by omega) (by omega) (by omega) (St_zero (400 * 128) (by omega))
 clear hdev
 go_wp2_with fail
 refine HF.out.mono ?_
 rintro e w3 ⟨rfl, ⟨L', c', wr', hdev2, hst, hwr⟩, hk2⟩
 have hwr : wr' = 2 := by rw [hwr]; simp only [wrap64]; omega
 have K2 : Kept [] w w3 := hkd.trans2 hk2 (by intro q hq; simp at hq; rcases hq with rfl | rfl <;> exact Or.inr (by assumption))
 have HO : Hid (Calls _ _ _ _ _) := opn_new hdev2 (by omega) (by omega) hst K2 ha hg
 clear hdev2 hst hk2 hkd
 go_wp2_with fail
 refine HO.out.mono ?_
 rintro e w4 ⟨x, c, D, rfl, hm, hs, hfl, htu, hwd, _⟩
 generalize hbv : (Value.slice (some ⟨g, 0, none⟩) 400 400) = bv at *
 have hA0 : Am (wds k) (flatT c.lt) := by rw [hfl]; exact fun p hp => (by cases hp)
 have H0 : Hid (SpI w x a bv 400 k 2 c c.lt D w4 ∧ D.wr = 2) := ⟨⟨hm, hs, hA0, hA0, by omega⟩, by rw [hwd, hwr]⟩
 clear hm hs hfl htu hA0 HO HF HN HP hbv hwd hwr
 go_wp2
 go_loopw [10] (fun i wr => ChO w x a bv 400 k i wr) (fun i _ => k - (intOf i).toNat)
 case atStart => exact ⟨0, c, _, D, rfl, by omega, H0.out.1, (fun i hi => by omega), H0.out.2⟩
 case round =>
  obtain ⟨j, c1, t1, D1, rfl, hj, hi1, hh1, hw1⟩ := hrel
  have HI1 : Hid (SpI w x a bv 400 k 2 c1 t1 D1 wr ∧ Hs j (flatT t1) ∧ D1.wr = 2) := ⟨hi1, hh1, hw1⟩
  clear hi1 hh1 hw1 H0
  by_cases hlt : j < k
  ·have hlt' : (j : Int) < (k : Int) := by omega
   have hcv := wd_conv wr (wr.alloc (.cells #[.int .u8 107, .int .u8 101, .int .u8 121, .int .u8 48, .int .u8 48, .int .u8 48, .int .u8 (97 + (j : Int) % 26), .int .u8 (97 + (j : Int) / 26)] 5)) j (by omega) (heap_alloc_new wr _)
   have HD : Hid (Calls _ _ _ _ _) := (HI1.out.1.k0 ((Kept.refl [] _).alloc (.cells #[.int .u8 107, .int .u8 101, .int .u8 121, .int .u8 48, .int .u8 48, .int .u8 48, .int .u8 (97 + (j : Int) % 26), .int .u8 (97 + (j : Int) / 26)] 5))).put (j := j) (y := v12) hlt (by decide) hkn (by omega) (by omega)
   have hh2 : Hs (j + 1) (flatT (chgT (withL (wd j) v12) (wd j) t1)) := by
    rw [(chgT_ok (op_with (wd j) v12 (wd_ok j) (by decide)) t1 HI1.out.1.2.1.st.tw).2]
    exact HI1.out.2.1.put
   have HH2 : Hid _ := hh2
   clear hh2
   generalize hwd : wd j = wj at *
   unfold v12 at HD HH2
   go_wp2_with fail
   refine HD.out.mono ?_
   rintro e w5 ⟨rfl, hi5⟩
   have FIN : Hid (ChO w x a bv 400 k (.int .i64 ((j + 1 : Nat) : Int)) w5) := ⟨j + 1, c1, _, D1, rfl, hlt, hi5, HH2.out, HI1.out.2.2⟩
   clear hi5
   go_wp2
   go_roundw
   case rel => exact FIN.out
   case measure => simp [intOf]; omega
  ·have hge : ¬ (j : Int) < (k : Int) := by omega
   have HJK : Hid (j = k) := by show j = k; omega
   have HS : Hid (Calls _ _ _ _ _) := HI1.out.1.sync hkn (by omega) (by omega) (by omega)
   go_wp2_with fail
   refine HS.out.mono ?_
   rintro e w5 ⟨rfl, c5, D5, hi5, _, hf5, hw5⟩
   have hwq : ∃ q : Nat, D5.wr = (q : Int) ∧ q ≤ 1000 + 10 * 0 := by
    have h1 := syN_cnt c1 t1
    have h2 := cntT_le t1 HI1.out.1.2.1.st.tw
    have h3 := HI1.out.1.2.2.1.len HI1.out.1.2.1.st.tw
    rw [wds_len] at h3
    exact ⟨2 + syN c1 t1, by rw [hw5, HI1.out.2.2, wr_add 2 (by omega) _ (by omega)]; omega, by omega⟩
   have H5 : Hid (SpI w x a bv 400 k 3 c5 c5.lt D5 w5 ∧ Hs k (flatT c5.lt) ∧ ∃ q : Nat, D5.wr = (q : Int) ∧ q ≤ 1000 + 10 * 0) := ⟨hi5, by rw [hf5, ← HJK.out]; exact HI1.out.2.1, hwq⟩
   clear hi5 hf5 hw5 hwq
   go_wp2_with fail
   refine (HQ.out _).mono ?_
   rintro e w6 ⟨rfl, hw6⟩
   obtain rfl := hw6.symm
   go_wp2
   go_loopw [12, 13] (fun v i wr => ChP w x a bv 400 k v i wr) (fun _ i _ => 10 - (intOf i).toNat)
   case atStart => exact ⟨vv0, 0, c5, D5, rfl, hvv, rfl, by omega, H5.out.1, (fun _ => H5.out.2.1), H5.out.2.2⟩
   case round =>
   obtain ⟨vv, r, c6, D6, rfl, hvv6, rfl, hr6, hi6, hh6, B, hB, hBl⟩ := hrel
   have HI6 : Hid (SpI w x a bv 400 k (3 + r) c6 c6.lt D6 wr ∧ (r = 0 → Hs k (flatT c6.lt))) := ⟨hi6, hh6⟩
   have HB : Hid (D6.wr = (B : Int)) := hB
   clear hB
   clear hi6 hh6 H5 HI1 HS
   by_cases hrt : r < 10
   ·have hrt' : (r : Int) < 10 := by omega
    have HM : Hid (∀ W, Calls _ _ _ W _) := fun W => kmixed_any vv W hvv6
    have hmx := mx_lt vv
    generalize hu : mx vv = u at *
    have hmi : (u : Int) < 2147483648 := by omega
    have hm0 : (0 : Int) ≤ u := by omega
    have hkp : (0 : Int) < (k : Int) := by omega
    obtain ⟨jj, hjj⟩ : ∃ jj, jj = u / 16 % k := ⟨_, rfl⟩
    have hje : (u : Int) / 16 % (k : Int) = (jj : Int) := by rw [hjj, Int.natCast_emod, Int.natCast_ediv]; rfl
    have hjl : jj < k := by rw [hjj]; exact Nat.mod_lt _ (by omega)
    have hjl' : (jj : Int) < 120 := by omega
    have hjl0 : (0 : Int) ≤ jj := by omega
    clear hjj
    go_wp2_with fail
    refine (HM.out _).mono ?_
    rintro e w2' ⟨rfl, hw2'⟩
    obtain rfl := hw2'.symm
    have hcv := wd_conv wr (wr.alloc (.cells #[.int .u8 107, .int .u8 101, .int .u8 121, .int .u8 48, .int .u8 48, .int .u8 48, .int .u8 (97 + (jj : Int) % 26), .int .u8 (97 + (jj : Int) / 26)] 5)) jj (by omega) (heap_alloc_new wr _)
    have hi3 : SpI w x a bv 400 k (3 + r) c6 c6.lt D6 (wr.alloc (.cells #[.int .u8 107, .int .u8 101, .int .u8 121, .int .u8 48, .int .u8 48, .int .u8 48, .int .u8 (97 + (jj : Int) % 26), .int .u8 (97 + (jj : Int) / 26)] 5)) := HI6.out.1.k0 ((Kept.refl [] _).alloc _)
    have hst := HI6.out.1.2.1.st
    have hlen : (flatT c6.lt).length < 256 := by
     have := HI6.out.1.2.2.1.len hst.tw
     rw [wds_len] at this
     omega
    generalize hwd : wd jj = wj at hcv
    by_cases hd : (u : Int) / 4096 % 3 = 0
    ·have HD : Hid (Calls _ _ _ _ _) := hi3.del (j := jj)
     have HSY : Hid (syN c6 (delT (wd jj) c6.lt) ≤ 10 ∧ (r = 0 → 1 ≤ syN c6 (delT (wd jj) c6.lt))) := ⟨(cheap_del hst hlen).1, fun h => (cheap_del hst hlen).2 (HI6.out.2 h jj hjl)⟩
     rw [hwd] at HD HSY
     clear hi3 hst hlen hwd
     go_wp2_with fail
     refine HD.out.mono ?_
     rintro e w5 ⟨rfl, hi5⟩
     have HW : Hid (Calls _ _ _ _ _) := DWrites_any a bv _ D6 w5 hi5.1.dq.d
     rw [HB.out] at HW
     have HS : Hid (Calls _ _ _ _ _) := hi5.sync hkn (by omega) (by omega) (by omega)
     clear hi5
     go_wp2_with fail
     refine HW.out.mono ?_
     rintro e w6 ⟨rfl, hw6⟩
     obtain rfl := hw6.symm
     go_wp2_with fail
     refine HS.out.mono ?_
     rintro e w7 ⟨rfl, c7, D7, hi7, _, hf7, hwr7⟩
     have hm10 := HSY.out.1
     have hmp := HSY.out.2
     have hA : D7.wr = ((B + syN c6 (delT wj c6.lt) : Nat) : Int) := by rw [hwr7, HB.out, wr_add _ (by omega) _ (by omega)]; omega
     have HW7 : Hid (Calls _ _ _ _ _) := DWrites_any a bv _ D7 w7 hi7.1.dq.d
     rw [hA] at HW7
     have FIN : Hid (ChP w x a bv 400 k (.int .i64 (u : Nat)) (.int .i64 ((r + 1 : Nat) : Int)) w7) := ⟨u, r + 1, c7, D7, rfl, hmx, rfl, hrt, hi7.up (show 3 + r + 1 ≤ 3 + (r + 1) by omega), (fun h => by omega), _, hA, by omega⟩
     clear hi7 hf7 hwr7 HSY hA
     generalize syN c6 _ = mm at *
     obtain ⟨A, hA⟩ : ∃ A : Int, ((B + mm : Nat) : Int) = A := ⟨_, rfl⟩
     rw [hA] at HW7
     have hne0 : r = 0 → (A == (B : Int)) = false := fun h => by have := hmp h; rw [beq_eq_false_iff_ne]; omega
     have hA1 : A - (B : Int) ≤ 10 := by omega
     have hA3 : decide ((14 : Int) < A - (B : Int)) = false := decide_eq_false (by omega)
     have hA2 : 0 ≤ A - (B : Int) := by omega
     have hBI : (B : Int) ≤ 1100 := by omega
     have hBJ : 0 ≤ (B : Int) := by omega
     have HBX : Hid _ := HB.out
     clear hm10 hmp hA HBX HW HS HD
     generalize (B : Int) = BI at *
     by_cases hr0 : r = 0
     ·have hne := hne0 hr0
      subst hr0
      clear hne0
      go_wp2_with (first
       | (go_at_call 30; refine HW7.out.mono ?_; rintro e w8 ⟨rfl, hw8⟩; obtain rfl := hw8.symm))
      go_roundw
      case rel => exact FIN.out
      case measure => simp [intOf]
     ·have hr1 : ((r : Int) == 0) = false := by rw [beq_eq_false_iff_ne]; omega
      clear hne0
      go_wp2_with (first
       | (go_at_call 30; refine HW7.out.mono ?_; rintro e w8 ⟨rfl, hw8⟩; obtain rfl := hw8.symm))
      go_roundw
      case rel => exact FIN.out
      case measure => simp [intOf]; omega
    ·have hd' : ((u : Int) / 4096 % 3 == 0) = false := by rw [beq_eq_false_iff_ne]; exact hd
     have HD : Hid (Calls _ _ _ _ _) := hi3.put (j := jj) (y := vba) hjl (by decide) hkn (by omega) (by omega)
     have HSY : Hid (syN c6 (chgT (withL (wd jj) vba) (wd jj) c6.lt) ≤ 10 ∧ (r = 0 → 1 ≤ syN c6 (chgT (withL (wd jj) vba) (wd jj) c6.lt))) := ⟨syN_le hst hlen, fun h => cheap_put hst (wd_ok jj) (by decide) (HI6.out.2 h jj hjl)⟩
     rw [hwd] at HD HSY
     unfold vba at HD HSY
     clear hd
     clear hi3 hst hlen hwd
     go_wp2_with fail
     refine HD.out.mono ?_
     rintro e w5 ⟨rfl, hi5⟩
     have HW : Hid (Calls _ _ _ _ _) := DWrites_any a bv _ D6 w5 hi5.1.dq.d
     rw [HB.out] at HW
     have HS : Hid (Calls _ _ _ _ _) := hi5.sync hkn (by omega) (by omega) (by omega)
     clear hi5
     go_wp2_with fail
     refine HW.out.mono ?_
     rintro e w6 ⟨rfl, hw6⟩
     obtain rfl := hw6.symm
     go_wp2_with fail
     refine HS.out.mono ?_
     rintro e w7 ⟨rfl, c7, D7, hi7, _, hf7, hwr7⟩
     have hm10 := HSY.out.1
     have hmp := HSY.out.2
     have hA : D7.wr = ((B + syN c6 (chgT (withL wj ⟨#[98, 97, 57, 56, 55, 54, 53, 52, 51, 50, 49, 48]⟩) wj c6.lt) : Nat) : Int) := by rw [hwr7, HB.out, wr_add _ (by omega) _ (by omega)]; omega
     have HW7 : Hid (Calls _ _ _ _ _) := DWrites_any a bv _ D7 w7 hi7.1.dq.d
     rw [hA] at HW7
     have FIN : Hid (ChP w x a bv 400 k (.int .i64 (u : Nat)) (.int .i64 ((r + 1 : Nat) : Int)) w7) := ⟨u, r + 1, c7, D7, rfl, hmx, rfl, hrt, hi7.up (show 3 + r + 1 ≤ 3 + (r + 1) by omega), (fun h => by omega), _, hA, by omega⟩
     clear hi7 hf7 hwr7 HSY hA
     generalize syN c6 _ = mm at *
     obtain ⟨A, hA⟩ : ∃ A : Int, ((B + mm : Nat) : Int) = A := ⟨_, rfl⟩
     rw [hA] at HW7
     have hne0 : r = 0 → (A == (B : Int)) = false := fun h => by have := hmp h; rw [beq_eq_false_iff_ne]; omega
     have hA1 : A - (B : Int) ≤ 10 := by omega
     have hA3 : decide ((14 : Int) < A - (B : Int)) = false := decide_eq_false (by omega)
     have hA2 : 0 ≤ A - (B : Int) := by omega
     have hBI : (B : Int) ≤ 1100 := by omega
     have hBJ : 0 ≤ (B : Int) := by omega
     have HBX : Hid _ := HB.out
     clear hm10 hmp hA HBX HW HS HD
     generalize (B : Int) = BI at *
     by_cases hr0 : r = 0
     ·have hne := hne0 hr0
      subst hr0
      clear hne0
      go_wp2_with (first
       | (go_at_call 30; refine HW7.out.mono ?_; rintro e w8 ⟨rfl, hw8⟩; obtain rfl := hw8.symm))
      go_roundw
      case rel => exact FIN.out
      case measure => simp [intOf]
     ·have hr1 : ((r : Int) == 0) = false := by rw [beq_eq_false_iff_ne]; omega
      clear hne0
      go_wp2_with (first
       | (go_at_call 30; refine HW7.out.mono ?_; rintro e w8 ⟨rfl, hw8⟩; obtain rfl := hw8.symm))
      go_roundw
      case rel => exact FIN.out
      case measure => simp [intOf]; omega
   ·have hge : ¬ (r : Int) < 10 := by omega
    have hkk : Kept [] w wr := HI6.out.1.1.k
    go_wp2
    go_ret
    exact ⟨rfl, hkk⟩

end Go.Proofs.YtcklgafpgdhnaaaGreatDoor
