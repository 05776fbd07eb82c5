import Derived.Test.YtcklgafpgdhnaaaGreatDoorPtbl
set_option maxRecDepth 100000
set_option maxHeartbeats 4000000
open List renaming getElem_toArray → zA, getElem_cons_succ → zB, getElem_cons_zero → zC, setIfInBounds_toArray → zD, set_cons_succ → zE, set_cons_zero → zF
namespace Go.Proofs.YtcklgafpgdhnaaaGreatDoor
open Go.RowKit

def wd (j : Nat) : ByteArray := ⟨#[107, 101, 121, 48, 48, 48, UInt8.ofNat (97 + j % 26), UInt8.ofNat (97 + j / 26)]⟩
def wds (k : Nat) : List ByteArray := (List.range k).map wd
theorem wds_len (k : Nat) : (wds k).length = k := by simp [wds]
theorem wd_mem {j k : Nat} (h : j < k) : wd j ∈ wds k := List.mem_map.2 ⟨j, List.mem_range.2 h, rfl⟩
theorem wd_ok (j : Nat) : keyOk (wd j) := ⟨show 1 ≤ 8 by omega, show 8 ≤ 8 by omega⟩
theorem wd_conv (w W : World) (j : Nat) (hj : j < 200) (hW : W.heap[w.heap.size]? = some (.cells #[.int .u8 107, .int .u8 101, .int .u8 121, .int .u8 48, .int .u8 48, .int .u8 48, .int .u8 (97 + (j : Int) % 26), .int .u8 (97 + (j : Int) / 26)] 5 (0, 0))) :
  (convert 60 9 (.slice (some ⟨w.heap.size, 0, none⟩) 8 8)).run Tryz.prog W = .ok (.string (wd j)) W :=
 conv_new w W [.int .u8 107, .int .u8 101, .int .u8 121, .int .u8 48, .int .u8 48, .int .u8 48, .int .u8 (97 + (j : Int) % 26), .int .u8 (97 + (j : Int) / 26)] [107, 101, 121, 48, 48, 48, UInt8.ofNat (97 + j % 26), UInt8.ofNat (97 + j / 26)] 8 rfl hW (by
  simp only [u8s, List.map_cons, List.map_nil]
  rw [u8_of (by omega), u8_of (by omega)]
  rfl)
def v12 : ByteArray := ⟨#[48, 49, 50, 51, 52, 53, 54, 55, 56, 57, 97, 98]⟩
theorem v12_size (n : Nat) : (v12.extract 0 (n % 13)).size ≤ 12 := by
 have : (v12.extract 0 (n % 13)).size ≤ v12.size := by rw [ByteArray.size_extract]; omega
 exact this
def SpI (w0 : World) (x a : Nat) (bv : Value) (n k T : Nat) (c : Hd) (t : Tr) (D : Dv) (wr : World) : Prop := Smm w0 x a bv n c t D wr ∧ Sd n c t D ∧ Am (wds k) (flatT t) ∧ Am (wds k) (flatT c.lt) ∧ c.tu ≤ T
theorem Rm.of {n k : Nat} {t : Tr} (h : Am (wds k) (flatT t)) (ht : TW t) (hk : 4 * k + 8 ≤ 3 * n) : Rm n (flatT t) := by
 have := h.len ht
 rw [wds_len] at this
 unfold Rm
 omega
section
variable {w0 w : World} {x a : Nat} {bv : Value} {n k T : Nat} {c : Hd} {t : Tr} {D : Dv}
theorem SpI.k0 {w' : World} (h : SpI w0 x a bv n k T c t D w) (hk : Kept [] w w') : SpI w0 x a bv n k T c t D w' := ⟨h.1.k0 hk, h.2⟩
theorem SpI.up {T' : Nat} (h : SpI w0 x a bv n k T c t D w) (hT : T ≤ T') : SpI w0 x a bv n k T' c t D w := ⟨h.1, h.2.1, h.2.2.1, h.2.2.2.1, Nat.le_trans h.2.2.2.2 hT⟩
theorem SpI.put {j : Nat} {y : ByteArray} (h : SpI w0 x a bv n k T c t D w) (hj : j < k) (hy : y.size ≤ 12) (hk : 4 * k + 8 ≤ 3 * n) (h8 : 8 ≤ n) (h4 : n ≤ 400) :
  Calls Tryz.prog 36 #[.pointer (some ⟨x, 0, none⟩), .string (wd j), .string y] w fun e w' => e = .returned .nilIface ∧ SpI w0 x a bv n k T c (chgT (withL (wd j) y) (wd j) t) D w' := by
 obtain ⟨hm, hs, ha, hl, ht⟩ := h
 have hc := chgT_ok (op_with (wd j) y (wd_ok j) hy) t hs.st.tw
 have hA : Am (wds k) (flatT (chgT (withL (wd j) y) (wd j) t)) := by rw [hc.2]; exact ha.put (wd_mem hj)
 refine (hm.put hs (wd_ok j) hy h8 h4 (by rw [← hc.2]; exact Rm.of hA hc.1 hk)).mono ?_
 rintro e w' ⟨rfl, h1, _⟩
 exact ⟨rfl, h1, hs.put (wd_ok j) hy, hA, hl, ht⟩
theorem SpI.del {j : Nat} (h : SpI w0 x a bv n k T c t D w) : Calls Tryz.prog 22 #[.pointer (some ⟨x, 0, none⟩), .string (wd j)] w fun e w' => e = .returned .nilIface ∧ SpI w0 x a bv n k T c (delT (wd j) t) D w' := by
 obtain ⟨hm, hs, ha, hl, ht⟩ := h
 refine (hm.del hs (wd_ok j)).mono ?_
 rintro e w' ⟨rfl, h1, _⟩
 exact ⟨rfl, h1, hs.del, by rw [(delT_ok _ t hs.st.tw).2]; exact ha.del, hl, ht⟩
theorem SpI.sync (h : SpI w0 x a bv n k T c t D w) (hk : 4 * k + 8 ≤ 3 * n) (h8 : 8 ≤ n) (h4 : n ≤ 400) (hT : T ≤ 1000000) :
  Calls Tryz.prog 28 #[.pointer (some ⟨x, 0, none⟩)] w fun e w' => e = .returned .nilIface ∧ ∃ c' D', SpI w0 x a bv n k (T + 1) c' c'.lt D' w' ∧ c'.lt = (sysL c t).1 ∧ flatT c'.lt = flatT t ∧ D'.wr = wrN (syN c t) D.wr := by
 obtain ⟨hm, hs, ha, hl, ht⟩ := h
 refine (hm.sync hs h8 h4 (Rm.of ha hs.st.tw hk) (Rm.of hl hs.st.ltw hk) (by omega)).mono ?_
 rintro e w' ⟨rfl, _, c', D', h1, h2, _, h4, h5, _, h7, h8⟩
 exact ⟨rfl, c', D', ⟨h1, h2, by rw [h5]; exact ha, by rw [h5]; exact ha, by omega⟩, h4, h5, h8⟩
end
def SpO (w0 : World) (x a : Nat) (bv : Value) (n k : Nat) (T : Nat → Nat) (m : Nat) (e v i : Value) (wr : World) : Prop := ∃ (vv j : Nat) (c : Hd) (t : Tr) (D : Dv), e = .nilIface ∧ v = .int .i64 (vv : Nat) ∧ vv < 2147483648 ∧ i = .int .i64 (j : Nat) ∧ j ≤ m ∧ SpI w0 x a bv n k (T j) c t D wr

theorem Spare_any (z y : Int) (w : World) (hz1 : -9223372036854775808 ≤ z) (hz2 : z ≤ 9223372036854775807) (hy1 : -9223372036854775808 ≤ y) (hy2 : y ≤ 9223372036854775807) :
  Calls Tryz.prog 13 #[.int .i64 z, .int .i64 y] w (TrueW w) := by
 have HP : Hid (∀ W, Calls _ _ _ W _) := fun W => kpick_any y 40 W (by omega) (by omega) hy1 hy2
 have HQ : Hid (∀ W, Calls _ _ _ W _) := fun W => kpick_any z 2147483648 W (by omega) (by omega) hz1 hz2
 have hk40 : pk y 40 < 40 := pk_lt y 40 (by omega)
 have hvv : pk z 2147483648 < 2147483648 := pk_lt z _ (by omega)
 generalize pk y 40 = k0 at *
 generalize pk z 2147483648 = vv0 at *
 obtain ⟨k, hk⟩ : ∃ k, k = k0 + 1 := ⟨_, rfl⟩
 obtain ⟨n, hn⟩ : ∃ n, n = 3 * k + 12 := ⟨_, rfl⟩
 have hnb : nb (3 * (1 + (k0 : Int)) + 12) = n := by unfold nb; rw [if_neg (by omega)]; omega
 have HN : Hid (∀ W, Calls _ _ _ W _) := fun W => NewDisk_o (3 * (1 + (k0 : Int)) + 12) W
 rw [hnb] at HN
 have h8 : 8 ≤ n := by omega
 have h4 : n ≤ 400 := by omega
 have hkn : 4 * k + 8 ≤ 3 * n := by omega
 clear hnb
 go_enter Tryz.func13, Tryz.ntmps13
 go_wp2_with fail
 refine (HP.out _).mono ?_
 rintro e w1 ⟨rfl, hw1⟩
 obtain rfl := hw1.symm
 go_wp2_with fail
 refine (HN.out _).mono ?_
 rintro e w2 ⟨a, g, rfl, hdev, ha, hg, hk1⟩
 have HF : Hid (Calls _ _ _ _ _) := fmt_of hdev h8 h4 (by omega) (St_zero (n * 128) (by omega))
 clear hdev
 go_wp2_with fail
 refine HF.out.mono ?_
 rintro e w3 ⟨rfl, ⟨L', c', wr', hdev2, hst⟩, hk2⟩
 have K2 : Kept [] w w3 := hk1.trans2 hk2 (by intro q hq; simp at hq; rcases hq with rfl | rfl <;> exact Or.inr (by assumption))
 have HO : Hid (Calls _ _ _ _ _) := opn_new hdev2 h8 h4 hst K2 ha hg
 clear hdev2 hst hk2 hk1
 go_wp2_with fail
 refine HO.out.mono ?_
 rintro e w4 ⟨x, c, D, rfl, hm, hs, hfl, htu, _, _⟩
 generalize hbv : (Value.slice (some ⟨g, 0, none⟩) n n) = bv at *
 have hA0 : Am (wds k) (flatT c.lt) := by rw [hfl]; exact fun p hp => (by cases hp)
 have H0 : Hid (SpI w x a bv n k 2 c c.lt D w4) := ⟨hm, hs, hA0, hA0, by omega⟩
 clear hm hs hfl htu hA0 HO HF HN HP hbv
 go_wp2_with fail
 refine (HQ.out _).mono ?_
 rintro e w5 ⟨rfl, hw5⟩
 obtain rfl := hw5.symm
 go_wp2
 go_loopw [7, 10, 11] (fun e v i wr => SpO w x a bv n k (fun j => 2 + 41 * j) 12 e v i wr) (fun _ _ i _ => 12 - (intOf i).toNat)
 case atStart => exact ⟨vv0, 0, c, _, D, rfl, rfl, hvv, rfl, by omega, H0.out⟩
 case round =>
  obtain ⟨vv, r, c0, t0, D0, rfl, rfl, hvv0, rfl, hr, hi0⟩ := hrel
  by_cases hrt : r < 12
  ·have hrt' : (r : Int) < 12 := by omega
   have HI : Hid (SpI w x a bv n k (2 + 41 * r) c0 t0 D0 wr) := hi0
   clear hi0
   go_wp2
   go_loopw [7, 10, 12] (fun e v i wr => SpO w x a bv n k (fun j => 2 + 41 * r + j) k e v i wr) (fun _ _ i _ => k - (intOf i).toNat)
   case atStart => exact ⟨vv, 0, c0, t0, D0, rfl, rfl, hvv0, rfl, by omega, HI.out⟩
   case round =>
   clear HI
   obtain ⟨vv1, j, c1, t1, D1, rfl, rfl, hvv1, rfl, hj, hi1⟩ := hrel
   have HI1 : Hid (SpI w x a bv n k (2 + 41 * r + j) c1 t1 D1 _) := hi1
   clear hi1
   by_cases hlt : j < k
   ·have hlt' : (j : Int) < 1 + (k0 : Int) := by omega
    have HM : Hid (∀ W, Calls _ _ _ W _) := fun W => kmixed_any vv1 W hvv1
    have hmx := mx_lt vv1
    generalize hu : mx vv1 = u at *
    have hmi : (u : Int) < 2147483648 := by omega
    have hm0 : (0 : Int) ≤ u := by omega
    go_wp2_with fail
    refine (HM.out _).mono ?_
    rintro e w2' ⟨rfl, hw2'⟩
    obtain rfl := hw2'.symm
    have hcv := wd_conv wr (wr.alloc (.cells #[.int .u8 107, .int .u8 101, .int .u8 121, .int .u8 48, .int .u8 48, .int .u8 48, .int .u8 (97 + (j : Int) % 26), .int .u8 (97 + (j : Int) / 26)] 5)) j (by omega) (heap_alloc_new wr _)
    have hi3 : SpI w x a bv n k (2 + 41 * r + j) c1 t1 D1 (wr.alloc (.cells #[.int .u8 107, .int .u8 101, .int .u8 121, .int .u8 48, .int .u8 48, .int .u8 48, .int .u8 (97 + (j : Int) % 26), .int .u8 (97 + (j : Int) / 26)] 5)) := HI1.out.k0 ((Kept.refl [] _).alloc _)
    generalize hwd : wd j = wj at hcv
    by_cases hd : (u : Int) / 16 % 5 = 0
    ·have HD : Hid (Calls _ _ _ _ _) := hi3.del (j := j)
     rw [hwd] at HD
     clear hi3
     go_wp2_with fail
     refine HD.out.mono ?_
     rintro e w4 ⟨rfl, hi4⟩
     by_cases hy : (u : Int) / 4096 % 4 = 0
     ·have HS : Hid (Calls _ _ _ _ _) := hi4.sync hkn h8 h4 (by omega)
      clear hi4
      go_wp2_with fail
      refine HS.out.mono ?_
      rintro e w5 ⟨rfl, c5, D5, hi5, _, _, _⟩
      have FIN : Hid (SpO w x a bv n k (fun i => 2 + 41 * r + i) k .nilIface (.int .i64 (u : Nat)) (.int .i64 ((j + 1 : Nat) : Int)) w5) := ⟨u, j + 1, c5, _, D5, rfl, rfl, hmx, rfl, hlt, hi5⟩
      clear hi5
      go_wp2
      go_roundw
      case rel => exact FIN.out
      case measure => simp [intOf]; omega
     ·have hy' : ((u : Int) / 4096 % 4 == 0) = false := by rw [beq_eq_false_iff_ne]; exact hy
      have FIN : Hid (SpO w x a bv n k (fun i => 2 + 41 * r + i) k .nilIface (.int .i64 (u : Nat)) (.int .i64 ((j + 1 : Nat) : Int)) w4) := ⟨u, j + 1, c1, _, D1, rfl, rfl, hmx, rfl, hlt, hi4.up (show 2 + 41 * r + j ≤ 2 + 41 * r + (j + 1) by omega)⟩
      clear hi4 hy
      go_wp2
      go_roundw
      case rel => exact FIN.out
      case measure => simp [intOf]; omega
    ·have hd' : ((u : Int) / 16 % 5 == 0) = false := by rw [beq_eq_false_iff_ne]; exact hd
     have HD : Hid (Calls _ _ _ _ _) := hi3.put (j := j) (y := v12.extract 0 (u / 256 % 13)) hlt (v12_size _) hkn h8 h4
     rw [hwd] at HD
     unfold v12 at HD
     clear hd
     clear hi3
     go_wp2_with fail
     refine HD.out.mono ?_
     rintro e w4 ⟨rfl, hi4⟩
     by_cases hy : (u : Int) / 4096 % 4 = 0
     ·have HS : Hid (Calls _ _ _ _ _) := hi4.sync hkn h8 h4 (by omega)
      clear hi4
      go_wp2_with fail
      refine HS.out.mono ?_
      rintro e w5 ⟨rfl, c5, D5, hi5, _, _, _⟩
      have FIN : Hid (SpO w x a bv n k (fun i => 2 + 41 * r + i) k .nilIface (.int .i64 (u : Nat)) (.int .i64 ((j + 1 : Nat) : Int)) w5) := ⟨u, j + 1, c5, _, D5, rfl, rfl, hmx, rfl, hlt, hi5⟩
      clear hi5
      go_wp2
      go_roundw
      case rel => exact FIN.out
      case measure => simp [intOf]; omega
     ·have hy' : ((u : Int) / 4096 % 4 == 0) = false := by rw [beq_eq_false_iff_ne]; exact hy
      have FIN : Hid (SpO w x a bv n k (fun i => 2 + 41 * r + i) k .nilIface (.int .i64 (u : Nat)) (.int .i64 ((j + 1 : Nat) : Int)) w4) := ⟨u, j + 1, c1, _, D1, rfl, rfl, hmx, rfl, hlt, hi4.up (show 2 + 41 * r + j ≤ 2 + 41 * r + (j + 1) by omega)⟩
      clear hi4 hy
      go_wp2
      go_roundw
      case rel => exact FIN.out
      case measure => simp [intOf]; omega
   ·have hge : ¬ (j : Int) < 1 + (k0 : Int) := by omega
    have HS : Hid (Calls _ _ _ _ _) := HI1.out.sync hkn h8 h4 (by omega)
    go_wp2_with fail
    refine HS.out.mono ?_
    rintro e w5 ⟨rfl, c5, D5, hi5, _, _, _⟩
    have FIN : Hid (SpO w x a bv n k (fun i => 2 + 41 * i) 12 .nilIface (.int .i64 (vv1 : Nat)) (.int .i64 ((r + 1 : Nat) : Int)) w5) := ⟨vv1, r + 1, c5, _, D5, rfl, rfl, hvv1, rfl, hrt, hi5.up (show 2 + 41 * r + j + 1 ≤ 2 + 41 * (r + 1) by omega)⟩
    clear hi5
    go_wp2
    go_roundw
    case rel => exact FIN.out
    case measure => simp [intOf]; omega
  ·have hge : ¬ (r : Int) < 12 := by omega
   have hkk : Kept [] w wr := hi0.1.k
   clear hi0
   go_wp2
   go_ret
   exact ⟨rfl, hkk⟩

end Go.Proofs.YtcklgafpgdhnaaaGreatDoor
