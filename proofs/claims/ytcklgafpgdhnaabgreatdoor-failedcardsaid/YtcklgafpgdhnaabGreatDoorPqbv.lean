import Derived.Test.YtcklgafpgdhnaabGreatDoorPqbu
import Derived.Test.YtcklgafpgdhnaabGreatDoorPqab
import Derived.BigRegion
import Derived.Test.YtcklgafpgdhnaabGreatDoorPqah
import Derived.Test.YtcklgafpgdhnaabGreatDoorPqbs
import Derived.Test.YtcklgafpgdhnaabGreatDoorPqbt
import Derived.Test.YtcklgafpgdhnaabGreatDoorPqbo
import Derived.Test.YtcklgafpgdhnaabGreatDoorPqag
import Derived.Test.YtcklgafpgdhnaabGreatDoorPqac
import Derived.Test.YtcklgafpgdhnaabGreatDoorPqar
set_option maxRecDepth 100000
set_option maxHeartbeats 4000000
open Go.Proofs.Tryz
open Go.Act renaming put → zP
open List renaming getElem_toArray → zA, getElem_cons_succ → zB, getElem_cons_zero → zC, setIfInBounds_toArray → zD, set_cons_succ → zE, set_cons_zero → zF
namespace Go.Proofs.YtcklgafpgdhnaabGreatDoor
open Go.RowKit
def Qc5 (w : World) (e : Ending) (w' : World) : Prop := e = .returned (.bool true) /\ y5 [] w w'
def Qc6 : ByteArray := ⟨#[255, 255, 255, 255, 255, 255, 255, 255, 255]⟩
def mx (n : Nat) : Nat := (n * 1103515245 + 12345) % 2147483648
theorem Qc7 (n : Nat) : mx n < 2147483648 := Nat.mod_lt _ (by omega)
theorem Qc8 (n : Nat) (w : World) (hn : n < 2147483648) : Calls prog 28 #[.int .i64 (n : Nat)] w fun e w' => e = .returned (.int .i64 (mx n : Nat)) /\ w' = w := by
 have H : Hid (((n : Int) * 1103515245 + 12345) % 2147483648 = (mx n : Int)) := by
  show _ = _
  unfold mx
  omega
 have h1 : (0 : Int) <= n := by omega
 have h2 : (n : Int) < 2147483648 := by omega
 go_enter func28, ntmps28
 go_wp2
 go_ret
 exact ⟨Q0M (by first | exact H.out | (rw [<- H.out]; rfl)), rfl⟩
def val0 : ByteArray := ⟨#[118, 97, 108, 117, 101, 48, 49, 50, 51, 52, 53, 54]⟩
theorem Qc9 (n : Nat) (w : World) (hn : n < 2147483648) : Calls prog 31 #[.int .i64 (n : Nat)] w fun e w' => e = .returned (.string (val0.extract 0 (n % 13))) /\ w' = w := by
 have h1 : (0 : Int) <= n := by omega
 have h2 : (n : Int) < 2147483648 := by omega
 go_enter func31, ntmps31
 go_wp2
 go_ret
 exact ⟨rfl, rfl⟩
theorem Qca (n : Nat) : (val0.extract 0 (n % 13)).size <= 12 := by
 have : (val0.extract 0 (n % 13)).size <= val0.size := by rw [ByteArray.size_extract]; omega
 exact this
theorem Qcb {n : Nat} (h : n < 256) : ((UInt8.ofNat n).toNat : Int) = (n : Int) := by
 rw [UInt8.toNat_ofNat_of_lt' (by simpa using h)]
theorem Qcc (w W : World) (cs : List Value) (l : List UInt8) (k : Nat) (hk : l.length = k) (hW : W.heap[w.heap.size]? = some (.cells cs.toArray 5 (0, 0))) (hl : cs = u8s l) : (convert 83 9 (.slice (some ⟨w.heap.size, 0, none⟩) k k)).run prog W = .ok (.string ⟨l.toArray⟩) W := by
 subst hk hl
 refine run_convert_bytes_back (P := prog) W 83 9 5 ⟨w.heap.size, 0, none⟩ _ l underlying83 underlying5 underlying9 fun j hj => ?_
 refine Zj hW j _ ?_
 rw [jL, List.getElem?_eq_getElem hj]
 rfl
def kyA (n : Nat) : ByteArray := if n % 3 = 0 then (ByteArray.mk #[107, 101, 121, 48, 48, 48]).extract 0 (1 + n % 2 * 5) else (ByteArray.mk #[107]).extract 0 1
def ky (n : Nat) : ByteArray := kyA n ++ (ByteArray.mk #[97 + UInt8.ofNat (n % 26), 97 + UInt8.ofNat (n / 26 % 26)]).extract 0 (2 - n % 5 / 4)
theorem Qcd (n : Nat) : 1 <= (ky n).size /\ (ky n).size <= 8 := by
 have h1 : 1 <= (kyA n).size /\ (kyA n).size <= 6 := by
  unfold kyA
  split
  ·rw [ByteArray.size_extract]
   show 1 <= min _ 6 - 0 /\ min _ 6 - 0 <= 6
   omega
  ·rw [ByteArray.size_extract]
   show 1 <= min 1 1 - 0 /\ min 1 1 - 0 <= 6
   omega
 have h2 : ((ByteArray.mk #[97 + UInt8.ofNat (n % 26), 97 + UInt8.ofNat (n / 26 % 26)]).extract 0 (2 - n % 5 / 4)).size <= 2 := by
  rw [ByteArray.size_extract]
  show min _ 2 - 0 <= 2
  omega
 unfold ky
 rw [ByteArray.size_append]
 omega
theorem Qce (n : Nat) (w : World) (hn : n < 1000) : Calls prog 29 #[.int .i64 (n : Nat)] w fun e w' => e = .returned (.string (ky n)) /\ y5 [] w w' := by
 have h1 : (0 : Int) <= n := by omega
 have h2 : (n : Int) < 1000 := by omega
 have hc := Qcc w (w.alloc (.cells #[.int .u8 (97 + (n : Int) % 26), .int .u8 (97 + (n : Int) / 26 % 26)] 5)).drew [.int .u8 (97 + (n : Int) % 26), .int .u8 (97 + (n : Int) / 26 % 26)] [UInt8.ofNat (97 + n % 26), UInt8.ofNat (97 + n / 26 % 26)] 2 rfl (heap_alloc_new w _) (by
  simp only [u8s, List.map_cons, List.map_nil]
  rw [Qcb (by omega), Qcb (by omega)]
  rfl)
 by_cases h3 : n % 3 = 0
 ·have h3' : ((n : Int) % 3) = 0 := by omega
  go_enter func29, ntmps29
  go_wp2
  go_region
  go_wp2
  go_ret
  exact ⟨by unfold ky kyA; rw [if_pos h3]; rfl, ((y5.refl [] w).alloc _).drew⟩
 ·have h3' : ¬ ((n : Int) % 3) = 0 := by omega
  go_enter func29, ntmps29
  go_wp2
  go_region
  go_wp2
  go_ret
  exact ⟨by unfold ky kyA; rw [if_neg h3]; rfl, ((y5.refl [] w).alloc _).drew⟩
def KcI (w0 w : World) (x a : Nat) (bv : Value) (n m : Nat) (cv : Value) (c : Hd) (D : Dv) (P : List Pr -> Prop) (v i : Value) (wr : World) : Prop := ∃ (vv j : Nat) (t : Tr), v = .int .i64 (vv : Nat) /\ vv < 2147483648 /\ i = .int .i64 (j : Nat) /\ j <= m /\ Smg w0 x a bv n cv c t D wr /\ StK n D.view c.lt t /\ P (y7 t) /\ y5 [x] w wr
theorem Qcf {w0 w : World} {x a : Nat} {bv : Value} {n : Nat} {cv : Value} {c : Hd} {t : Tr} {D : Dv} (P : List Pr -> Prop) (z : Int) (m K : Nat) (h : Smg w0 x a bv n cv c t D w) (hs : StK n D.view c.lt t) (hcs : c.s = 1 \/ c.s = 2) (h8 : 8 <= n) (h4 : n <= 400) (hP : P (y7 t))
  (hput : ∀ l j v, v.size <= 12 -> j < K -> P l -> P (yL (ky j) v l)) (hdel : ∀ l j, j < K -> P l -> P (yx (ky j) l)) (hroom : ∀ t, TW t -> P (y7 t) -> Rm n (y7 t)) (hm : m <= 100000) (hK : 0 < K) (hK2 : K < 1000) (hz1 : -9223372036854775808 <= z) (hz2 : z <= 9223372036854775807) :
  Calls prog 9 #[.pointer (some ⟨x, 0, none⟩), .int .i64 z, .int .i64 (m : Nat), .int .i64 (K : Nat)] w fun e w' => e = .returned (.bool true) /\ ∃ t', Smg w0 x a bv n cv c t' D w' /\ StK n D.view c.lt t' /\ P (y7 t') /\ y5 [x] w w' := by
 have HQ : Hid (∀ W, Calls _ _ _ W _) := fun W => jR z 2147483648 W (by omega) (by omega) hz1 hz2
 have hvv : pk z 2147483648 < 2147483648 := Q0N z _ (by omega)
 generalize pk z 2147483648 = vv0 at *
 have HS : Hid (Smg w0 x a bv n cv c t D w /\ StK n D.view c.lt t /\ P (y7 t)) := ⟨h, hs, hP⟩
 have HH : Hid ((∀ l j v, v.size <= 12 -> j < K -> P l -> P (yL (ky j) v l)) /\ (∀ l j, j < K -> P l -> P (yx (ky j) l)) /\ (∀ t, TW t -> P (y7 t) -> Rm n (y7 t))) := ⟨hput, hdel, hroom⟩
 clear h hs hP hput hdel hroom
 have hK' : (0 : Int) < K := by omega
 have hm' : (m : Int) <= 100000 := by omega
 go_enter func9, ntmps9
 go_wp2_with fail
 refine (HQ.out _).mono ?_
 rintro e w1 ⟨rfl, hw1⟩
 obtain rfl := hw1.symm
 go_wp2
 go_loopw [9, 10] (fun v i wr => KcI w0 w x a bv n m cv c D P v i wr) (fun _ i _ => m - (intOf i).toNat)
 case atStart => exact ⟨vv0, 0, t, rfl, hvv, rfl, Nat.zero_le _, HS.out.1, HS.out.2.1, HS.out.2.2, y5.refl _ _⟩
 case round =>
  obtain ⟨vv, j, t1, rfl, hvv1, rfl, hj, hm1, hs1, hP1, hk1⟩ := hrel
  have HM : Hid (∀ W, Calls _ _ _ W _) := fun W => Qc8 vv W hvv1
  have hmx := Qc7 vv
  by_cases hlt : j < m
  ·have hlt' : (j : Int) < m := by omega
   have hq2 : mx vv / 16 % K < K := Nat.mod_lt _ hK
   have HKY : Hid (∀ W, Calls _ _ _ W _) := fun W => Qce (mx vv / 16 % K) W (by omega)
   rw [show ((mx vv / 16 % K : Nat) : Int) = (((mx vv : Nat) : Int) / 16 % (K : Int)) from by rw [Int.natCast_emod, Int.natCast_ediv]; rfl] at HKY
   have HVL : Hid (∀ W, Calls _ _ _ W _) := fun W => Qc9 (mx vv / 64) W (by omega)
   rw [show ((mx vv / 64 : Nat) : Int) = ((mx vv : Nat) : Int) / 64 from by rw [Int.natCast_ediv]; rfl] at HVL
   have hvs := Qca (mx vv / 64)
   have hko : jy (ky (mx vv / 16 % K)) := Qcd _
   generalize hu : mx vv = u at *
   have hmi : (u : Int) < 2147483648 := by omega
   have hm0 : (0 : Int) <= u := by omega
   generalize hkk : u / 16 % K = kk at *
   generalize hvx : val0.extract 0 (u / 64 % 13) = vx at *
   have HX : Hid (Smg w0 x a bv n cv c t1 D wr /\ StK n D.view c.lt t1 /\ P (y7 t1) /\ y5 [x] w wr) := ⟨hm1, hs1, hP1, hk1⟩
   have HC : Hid (jy (ky kk) /\ vx.size <= 12 /\ kk < K) := ⟨hko, hvs, hq2⟩
   clear hm1 hs1 hP1 hk1 hko hvs hq2 hkk hvx
   go_wp2_with fail
   refine (HM.out _).mono ?_
   rintro e w2 ⟨rfl, hw2⟩
   obtain rfl := hw2.symm
   go_wp2_with fail
   refine (HKY.out _).mono ?_
   rintro e w3 ⟨rfl, hk3⟩
   have hm3 := HX.out.1.k0 hk3
   by_cases hd : (u : Int) / 4 % 4 = 0
   ·have HD : Hid (Calls _ _ _ _ _) := hm3.del hcs HX.out.2.1.tw HC.out.1
    clear hm3
    go_wp2_with fail
    refine HD.out.mono ?_
    rintro e w4 ⟨rfl, hm4, hk4⟩
    have FIN : Hid (KcI w0 w x a bv n m cv c D P (.int .i64 (u : Nat)) (.int .i64 ((j + 1 : Nat) : Int)) w4) := ⟨u, j + 1, _, rfl, hmx, rfl, hlt, hm4, HX.out.2.1.del, by
     rw [(Q7q _ t1 HX.out.2.1.tw).2]
     exact HH.out.2.1 _ _ HC.out.2.2 HX.out.2.2.1, (HX.out.2.2.2.trans (hk3.mono (by simp))).trans hk4⟩
    clear hm4 hk4
    go_wp2
    go_roundw
    case rel => exact FIN.out
    case measure => simp [intOf]; omega
   ·have hc3 := Q39 (Zn (ky kk) vx HC.out.1 HC.out.2.1) t1 HX.out.2.1.tw
    have hP3 : P (y7 (qP (yL (ky kk) vx) (ky kk) t1)) := by rw [hc3.2]; exact HH.out.1 _ _ _ HC.out.2.1 HC.out.2.2 HX.out.2.2.1
    have HPu : Hid (Calls _ _ _ _ _) := hm3.put hcs HX.out.2.1.tw HC.out.1 HC.out.2.1 h8 h4 (by rw [<- hc3.2]; exact HH.out.2.2 _ hc3.1 hP3)
    have HP3 : Hid (P (y7 (qP (yL (ky kk) vx) (ky kk) t1))) := hP3
    clear hm3 hP3 hc3
    have hd' : ((u : Int) / 4 % 4 == 0) = false := by rw [beq_eq_false_iff_ne]; exact hd
    clear hd
    go_wp2_with fail
    refine (HVL.out _).mono ?_
    rintro e w4 ⟨rfl, hw4⟩
    obtain rfl := hw4.symm
    go_wp2_with fail
    refine HPu.out.mono ?_
    rintro e w5 ⟨rfl, hm5, hk5⟩
    have FIN : Hid (KcI w0 w x a bv n m cv c D P (.int .i64 (u : Nat)) (.int .i64 ((j + 1 : Nat) : Int)) w5) := ⟨u, j + 1, _, rfl, hmx, rfl, hlt, hm5, HX.out.2.1.chg (Zn (ky kk) vx HC.out.1 HC.out.2.1), HP3.out, (HX.out.2.2.2.trans (hk3.mono (by simp))).trans hk5⟩
    clear hm5 hk5
    go_wp2
    go_roundw
    case rel => exact FIN.out
    case measure => simp [intOf]; omega
  ·have hge : ¬ (j : Int) < (m : Int) := by omega
   go_wp2
   go_ret
   exact ⟨rfl, t1, hm1, hs1, hP1, hk1⟩
theorem Qcg {w0 w : World} {x a : Nat} {bv : Value} {n : Nat} {c : Hd} {t : Tr} {D : Dv} (P : List Pr -> Prop) (z : Int) (m K : Nat) (h : Smm w0 x a bv n c t D w) (hs : Sd n c t D) (h8 : 8 <= n) (h4 : n <= 400) (hP : P (y7 t))
  (hput : ∀ l j v, v.size <= 12 -> j < K -> P l -> P (yL (ky j) v l)) (hdel : ∀ l j, j < K -> P l -> P (yx (ky j) l)) (hroom : ∀ t, TW t -> P (y7 t) -> Rm n (y7 t)) (hm : m <= 100000) (hK : 0 < K) (hK2 : K < 1000) (hz1 : -9223372036854775808 <= z) (hz2 : z <= 9223372036854775807) :
  Calls prog 9 #[.pointer (some ⟨x, 0, none⟩), .int .i64 z, .int .i64 (m : Nat), .int .i64 (K : Nat)] w fun e w' => e = .returned (.bool true) /\ ∃ t', Smm w0 x a bv n c t' D w' /\ Sd n c t' D /\ P (y7 t') /\ y5 [x] w w' := by
 refine (Qcf P z m K h hs.st hs.s h8 h4 hP hput hdel hroom hm hK hK2 hz1 hz2).mono ?_
 rintro e w' ⟨rfl, t', h1, h2, h3, h4⟩
 exact ⟨rfl, t', h1, { hs with st := h2 }, h3, h4⟩
theorem Qch : ∀ (l : List UInt8) (n : Nat), l.length < n -> l < List.replicate n 255
 | [], n + 1, _ => by rw [List.replicate_succ]; exact List.nil_lt_cons _ _
 | a :: l, n + 1, h => by
  rw [List.replicate_succ, List.cons_lt_cons_iff]
  by_cases e : a = 255
  ·exact Or.inr ⟨e, Qch l n (by simpa using h)⟩
  ·left
   have h1 : a.toNat < 256 := a.toNat_lt
   have h2 : a.toNat ≠ 255 := fun h => e (UInt8.toNat_inj.1 h)
   show a.toNat < (255 : UInt8).toNat
   have : (255 : UInt8).toNat = 255 := rfl
   omega
theorem Qci {α : Type} {f : α -> Bool} {l : List α} (h : ∀ x ∈ l, f x = true) : l.filter f = l := List.filter_eq_self.2 h
theorem Qcj {t : Tr} (ht : TW t) (hl : (y7 t).length <= 1048576) : Zz ⟨#[]⟩ ⟨#[255, 255, 255, 255, 255, 255, 255, 255, 255]⟩ 1048576 (y7 t) = y7 t := by
 unfold Zz
 rw [Qci, List.take_of_length_le hl]
 intro p hp
 have hk := (WFN.keys ht.wf p hp).2
 unfold inR
 have h1 : bl p.1 ⟨#[]⟩ = false := by rw [ZO]; simp
 have h2 : bl p.1 ⟨#[255, 255, 255, 255, 255, 255, 255, 255, 255]⟩ = true := by
  rw [ZO]
  have h3 := hk.2.1
  have h4 : p.1.data.toList.length = p.1.size := Array.length_toList
  have := Qch p.1.data.toList 9 (by omega)
  exact decide_eq_true this
 rw [h1, h2]
 rfl
theorem Qck {k k' v : ByteArray} (h : be k k' = false) : ∀ (l : List Pr) (b : Bool), (qZ k v b l).filter (fun p => be p.1 k') = l.filter fun p => be p.1 k'
 | [], b => by rw [ji]; cases b <;> simp [h]
 | p :: r, b => by
  rw [qK, List.filter_append, List.filter_append, Qck h r _]
  have h1 : (if (!b && !bl p.1 k) = true then [(k, v)] else []).filter (fun p : Pr => be p.1 k') = [] := by split <;> simp [h]
  rw [h1, List.nil_append]
  cases h2 : be p.1 k with
  | true =>
   have : be p.1 k' = false := by rw [(jg _ _).1 h2]; exact h
   simp [this]
  | false => cases h3 : be p.1 k' <;> simp [h3]
theorem Q3 (k : ByteArray) : ∀ (l : List Pr), qC k l = ((l.filter fun p => be p.1 k).head?).map fun p => p.2
 | [] => rfl
 | p :: r => by
  simp only [qC, List.filter_cons]
  cases h : be p.1 k with
  | true => simp
  | false => simpa using Q3 k r
theorem Qcl {k k' v : ByteArray} {l : List Pr} (h : k ≠ k') : qC k' (yL k v l) = qC k' l := by
 rw [Q3, Q3]
 unfold yL
 rw [Qck ((jV _ _).2 h)]
theorem Qcm {k k' : ByteArray} {l : List Pr} (h : k ≠ k') : qC k' (yx k l) = qC k' l := by
 rw [Q3, Q3]
 unfold yx
 rw [List.filter_filter]
 congr 3
 funext p
 cases h1 : be p.1 k' with
 | false => rfl
 | true =>
  have : be p.1 k = false := by rw [(jg _ _).1 h1]; exact (jV _ _).2 fun e => h e.symm
  simp [this]
theorem Qcn (x v a n : Nat) (hd : Hd) (r : Value) (t : Tr) (ht : TW t) (hbig : (y7 t).length <= 20000) (w : World) (h : Rec x v a n hd r t w) :
  Calls prog 11 #[.pointer (some ⟨x, 0, none⟩)] w fun e w' => ∃ vv, e = .returned (.tuple #[vv, .bool true]) /\ PL w' 52 vv (Zz ⟨#[]⟩ Qc6 1048576 (y7 t)) /\ (∀ y, vv.ownBlock = some y -> w.heap.size <= y) /\ y5 [] w w' := by
 have HC : Hid (Calls _ _ _ _ _) := Qbu x v a n hd r t ⟨#[]⟩ Qc6 1048576 ht hbig w h
 unfold Qc6 at HC
 clear h
 go_enter func11, ntmps11
 go_wp2_with fail
 refine HC.out.mono ?_
 rintro e w1 ⟨vv, rfl, h1, h2, hk⟩
 have HP : Hid (PL _ _ _ _) := h1
 clear h1
 go_wp2
 go_quiet (fail)
 go_wp2
 go_ret2
 exact ⟨vv, rfl, HP.out.kept ((y5.refl [] w1).drewN _) (by simp), h2, hk.drewN _⟩
theorem Qco (x v a n : Nat) (hd : Hd) (r : Value) (t : Tr) (ht : TW t) (hbig : (y7 t).length <= 20000) (w : World) (h : Rec x v a n hd r t w) :
  Calls prog 11 #[.pointer (some ⟨x, 0, none⟩)] w fun e w' => ∃ vv, e = .returned (.tuple #[vv, .bool true]) /\ PL w' 52 vv (y7 t) /\ (∀ y, vv.ownBlock = some y -> w.heap.size <= y) /\ y5 [] w w' := by
 refine (Qcn x v a n hd r t ht hbig w h).mono ?_
 rintro e w' ⟨vv, h1, h2, h3, h4⟩
 refine ⟨vv, h1, ?_, h3, h4⟩
 have := Qcj ht (by omega)
 unfold Qc6 at h2
 rw [this] at h2
 exact h2
theorem Qcp (w : World) (x : Nat) (k : ByteArray) : Bx2 w.heap.size (w.heap.size + 1) x k ((((w.alloc (.cells #[.pointer (some ⟨x, 0, none⟩)] 24)).alloc (.cells #[.string k] 9)).alloc (.cells #[.string ⟨#[]⟩] 9)).alloc (.cells #[.bool false] 4)) /\ VB (w.heap.size + 1 + 1) (w.heap.size + 1 + 1 + 1) ⟨#[]⟩ false ((((w.alloc (.cells #[.pointer (some ⟨x, 0, none⟩)] 24)).alloc (.cells #[.string k] 9)).alloc (.cells #[.string ⟨#[]⟩] 9)).alloc (.cells #[.bool false] 4)) /\ y5 [] w ((((w.alloc (.cells #[.pointer (some ⟨x, 0, none⟩)] 24)).alloc (.cells #[.string k] 9)).alloc (.cells #[.string ⟨#[]⟩] 9)).alloc (.cells #[.bool false] 4)) := by
 have h2 := Q8g w x k
 have ka := fun (W : World) (o : Obj) => (y5.refl [] W).alloc o
 have z2 := heap_alloc_new ((w.alloc (.cells #[.pointer (some ⟨x, 0, none⟩)] 24)).alloc (.cells #[.string k] 9)) (.cells #[.string ⟨#[]⟩] 9)
 have z3 := heap_alloc_new (((w.alloc (.cells #[.pointer (some ⟨x, 0, none⟩)] 24)).alloc (.cells #[.string k] 9)).alloc (.cells #[.string ⟨#[]⟩] 9)) (.cells #[.bool false] 4)
 simp only [World.size_alloc] at z2 z3
 exact ⟨(h2.k (ka _ _)).k (ka _ _), ⟨(ka _ _).get z2 (by simp), z3⟩, ((((y5.refl [] w).alloc _).alloc _).alloc _).alloc _⟩
theorem Qcq {k v : ByteArray} : ∀ {l : List Pr}, qC k l = some v -> ∃ p ∈ l, p.2 = v
 | [], h => by simp [qC] at h
 | p :: r, h => by
  unfold qC at h
  split at h
  ·cases h; exact ⟨p, by simp, rfl⟩
  ·obtain ⟨q, hq, e⟩ := Qcq h
   exact ⟨q, by simp [hq], e⟩
theorem Qcr (t : Tr) (ht : TW t) (k : ByteArray) : ((qC k (y7 t)).getD ⟨#[]⟩).size <= 1000 := by
 cases h : qC k (y7 t) with
 | none => show (⟨#[]⟩ : ByteArray).size <= 1000; decide
 | some v =>
  obtain ⟨p, hp, rfl⟩ := Qcq h
  have := (ht.wf.keys p hp).2.2.2
  show p.2.size <= 1000
  omega
theorem Qcs (x v a n : Nat) (c : Hd) (r : Value) (t : Tr) (k : ByteArray) (w : World) (h : Rec x v a n c r t w) (ht : TW t) (hk : jy k) :
  Calls prog 24 #[.pointer (some ⟨x, 0, none⟩), .string k] w fun e w' => ∃ err, e = .returned (.tuple #[.string ((qC k (y7 t)).getD ⟨#[]⟩), .bool (qC k (y7 t)).isSome, err]) /\ err = .nilIface /\ y5 [] w w' := by
 obtain ⟨hb, hv, k4⟩ := Qcp w x k
 refine Qb9 x k _ _ (fun err _ => err = .nilIface) (fun _ _ _ h _ => h) (Qcr t ht k) w fun b => ?_
 refine Q8b b _ _ (fun _ _ => by kernel_rfl) [w.heap.size + 1 + 1, w.heap.size + 1 + 1 + 1] _ _ ?_ (fun W W' T h1 h2 h3 => h1.err h2 h3) fun W kW => ?_
 ·intro y hy
  simp at hy
  rw [World.size_alloc, World.size_alloc, World.size_alloc, World.size_alloc]
  omega
 ·exact Qb8 _ _ _ _ x v a n c r t k W (hb.k kW) (hv.k kW) (by omega) ((h.k k4).k kW) ht hk
def Zx : ByteArray := ⟨#[102, 105, 114, 115, 116]⟩
def ofaB : ByteArray := ⟨#[111, 102, 32, 97, 108, 108]⟩
def kys (K : Nat) : List ByteArray := Zx :: (List.range K).map ky
theorem Zv (K : Nat) : (kys K).length = K + 1 := by simp [kys]
theorem Qct {j K : Nat} (h : j < K) : ky j ∈ kys K := List.mem_cons_of_mem _ (List.mem_map.2 ⟨j, List.mem_range.2 h, rfl⟩)
theorem Qcu : ∀ j, j < 40 -> ky j ≠ Zx := by decide +kernel
theorem Rm.ky {n K : Nat} {t : Tr} (ht : TW t) (h : Am (kys K) (y7 t)) (hK : 4 * K + 12 <= 3 * n) : Rm n (y7 t) := by
 have := h.len ht
 rw [Zv] at this
 unfold Rm
 omega
theorem Smm.pl {w0 w w' : World} {x a : Nat} {bv : Value} {n : Nat} {c : Hd} {t : Tr} {D : Dv} {vv : Value} {l : List Pr} (h : Smm w0 x a bv n c t D w) (hp : PL w 52 vv l) (k : y5 (ft x a bv) w w') : PL w' 52 vv l := by
 refine hp.kept k fun b hb hm => ?_
 obtain ⟨cs, fr, hh⟩ := hp.tag hb
 obtain ⟨v, r, hr⟩ := h.rc
 rcases List.mem_cons.1 hm with rfl | hm
 ·exact yP hr.row hh (by decide) rfl
 ·exact h.dq.no hh (by decide) hm
theorem Smm.all {w0 w : World} {x a : Nat} {bv : Value} {n : Nat} {c : Hd} {t : Tr} {D : Dv} (h : Smm w0 x a bv n c t D w) (ht : TW t) (hl : (y7 t).length <= 20000) :
  Calls prog 11 #[.pointer (some ⟨x, 0, none⟩)] w fun e w' => ∃ vv, e = .returned (.tuple #[vv, .bool true]) /\ PL w' 52 vv (y7 t) /\ (∀ y, vv.ownBlock = some y -> w.heap.size <= y) /\ Smm w0 x a bv n c t D w' /\ y5 [] w w' := by
 obtain ⟨v, r, hr⟩ := h.rc
 refine (Qco x v a n c r t ht hl w hr).mono ?_
 rintro e w' ⟨vv, h1, h2, h3, h4⟩
 exact ⟨vv, h1, h2, h3, h.k0 h4, h4⟩
theorem Smm.get {w0 w : World} {x a : Nat} {bv : Value} {n : Nat} {c : Hd} {t : Tr} {D : Dv} {k : ByteArray} (h : Smm w0 x a bv n c t D w) (ht : TW t) (hk : jy k) :
  Calls prog 24 #[.pointer (some ⟨x, 0, none⟩), .string k] w fun e w' => e = .returned (.tuple #[.string ((qC k (y7 t)).getD ⟨#[]⟩), .bool (qC k (y7 t)).isSome, .nilIface]) /\ Smm w0 x a bv n c t D w' /\ y5 [] w w' := by
 obtain ⟨v, r, hr⟩ := h.rc
 refine (Qcs x v a n c r t k w hr ht hk).mono ?_
 rintro e w' ⟨err, h1, rfl, h3⟩
 exact ⟨h1, h.k0 h3, h3⟩
def BegP (l : List Pr) : Prop := Am (kys 20) l /\ qC Zx l = some ofaB
def BegR (n : Nat) (w : World) (e : Ending) (w' : World) : Prop := ∃ x a bv c D vv, e = .returned (.tuple #[.pointer (some ⟨a, 0, none⟩), .pointer (some ⟨x, 0, none⟩), vv]) /\ Smm w x a bv n c c.lt D w' /\ Sd n c c.lt D /\ c.s = 2 /\ PL w' 52 vv (y7 c.lt) /\ (∀ y, vv.ownBlock = some y -> w.heap.size <= y) /\ y7 c.lt ≠ [] /\ Am (kys 20) (y7 c.lt) /\ c.tu <= 3 /\ qC Zx (y7 c.lt) = some ofaB
theorem Qcv (n : Nat) (z : Int) (w : World) (h8 : 40 <= n) (h4 : n <= 400) (hz1 : -9223372036854775808 <= z) (hz2 : z <= 9223372036854775807) :
  Calls prog 7 #[.int .i64 (n : Nat), .int .i64 z] w (BegR n w) := by
 have hnb : nb (n : Nat) = n := by unfold nb; rw [if_neg (by omega)]; omega
 have HN : Hid (∀ W, Calls _ _ _ W _) := fun W => QbN (n : Nat) W
 rw [hnb] at HN
 have HP : Hid (∀ W, Calls _ _ _ W _) := fun W => jR z 40 W (by omega) (by omega) hz1 hz2
 have hk40 : pk z 40 < 40 := Q0N z 40 (by omega)
 generalize hpk : pk z 40 = m0 at *
 have HZ : Hid (-9223372036854775808 <= z /\ z <= 9223372036854775807) := ⟨hz1, hz2⟩
 clear hz1 hz2 hpk
 go_enter func7, ntmps7
 go_wp2_with fail
 refine (HN.out _).mono ?_
 rintro e w1 ⟨a, g, rfl, hdev, ha, hg, hk1⟩
 have HF : Hid (Calls _ _ _ _ _) := QbR hdev (by omega) h4 (by omega) (QbP (n * 128) (by omega))
 clear hdev
 go_wp2_with fail
 refine HF.out.mono ?_
 rintro e w2 ⟨rfl, ⟨L', c', wr', hdev2, hst⟩, hk2⟩
 have K2 : y5 [] w w2 := hk1.trans2 hk2 (by intro q hq; simp at hq; rcases hq with rfl | rfl <;> exact Or.inr (by assumption))
 have HO : Hid (Calls _ _ _ _ _) := QbV hdev2 (by omega) h4 hst K2 ha hg
 clear hdev2 hst hk2 hk1
 go_wp2_with fail
 refine HO.out.mono ?_
 rintro e w3 ⟨x, c, D, rfl, hm, hs, hfl, htu, _, _⟩
 have hrm0 : Rm n (yL Zx ofaB (y7 c.lt)) := by
  rw [hfl]
  show 4 * 1 + 8 <= 3 * n
  omega
 have HPu : Hid (Calls _ _ _ _ _) := hm.put hs (k := Zx) (y := ofaB) ⟨by decide, by decide⟩ (by decide) (by omega) h4 hrm0
 have hs4 := hs.put (k := Zx) (y := ofaB) ⟨by decide, by decide⟩ (by decide)
 have hc4 := Q39 (Zn Zx ofaB ⟨by decide, by decide⟩ (by decide)) c.lt hs.st.tw
 have hP4 : BegP (y7 (qP (yL Zx ofaB) Zx c.lt)) := by
  rw [hc4.2, hfl]
  exact ⟨fun p hp => by
   have : p = (Zx, ofaB) := by simpa [yL, ji] using hp
   rw [this]; exact List.mem_cons_self .., by simp [yL, ji, qC, j1]⟩
 have HE : Hid (Am (kys 20) (y7 c.lt)) := by show Am _ _; rw [hfl]; exact fun p hp => by cases hp
 unfold Zx ofaB at HPu
 clear hm hc4 hrm0 hfl hs
 go_wp2_with fail
 refine HPu.out.mono ?_
 rintro e w4 ⟨rfl, hm4, hk4⟩
 have HCh : Hid (Calls _ _ _ _ _) := Qcg BegP z (3 + m0) 20 hm4 hs4 (by omega) h4 hP4
  (fun l j v hv hj hl => ⟨hl.1.put (Qct hj), by rw [Qcl (Qcu j (by omega))]; exact hl.2⟩)
  (fun l j hj hl => ⟨hl.1.del, by rw [Qcm (Qcu j (by omega))]; exact hl.2⟩)
  (fun t ht hl => Rm.ky ht hl.1 (by omega)) (by omega) (by omega) (by omega) HZ.out.1 HZ.out.2
 rw [show ((3 + m0 : Nat) : Int) = 3 + (m0 : Int) by omega] at HCh
 clear hm4 hs4 hP4
 generalize hbv : (Value.slice (some ⟨g, 0, none⟩) n n) = bv at *
 go_wp2_with fail
 refine (HP.out _).mono ?_
 rintro e w5 ⟨rfl, hw5⟩
 obtain rfl := hw5.symm
 go_wp2_with fail
 refine HCh.out.mono ?_
 rintro e w6 ⟨rfl, t6, hm6, hs6, hP6, hk6⟩
 have hlen : (y7 t6).length <= 21 := by have := hP6.1.len hs6.st.tw; rw [Zv] at this; exact this
 have HA : Hid (Calls _ _ _ _ _) := hm6.all hs6.st.tw (by omega)
 have H6 : Hid (Sd n c t6 D /\ BegP (y7 t6) /\ y5 [] w w6) := ⟨hs6, hP6, hm6.k⟩
 clear hm6 hs6 hP6 HCh HPu HO HF
 go_wp2_with fail
 refine HA.out.mono ?_
 rintro e w7 ⟨vv, rfl, hpl7, hfr7, hm7, hk7⟩
 have HS : Hid (Calls _ _ _ _ _) := hm7.sync H6.out.1 (by omega) h4 (Rm.ky H6.out.1.st.tw H6.out.2.1.1 (by omega)) (Rm.ky H6.out.1.st.ltw HE.out (by omega)) (by omega)
 have H7 : Hid (Smm w x a bv n c t6 D w7 /\ PL w7 52 vv (y7 t6) /\ ∀ y, vv.ownBlock = some y -> w.heap.size <= y) := ⟨hm7, hpl7, fun y hy => by have h1 := hfr7 y hy; have h2 := H6.out.2.2.size; omega⟩
 obtain ⟨vp, vc, rfl⟩ := hpl7.shape
 clear hm7 hpl7 hfr7 HA
 go_wp2_with fail
 refine HS.out.mono ?_
 rintro e w8 ⟨rfl, hk8, c8, D8, hm8, hs8, hs2, _, hf8, htu1, htu2, _⟩
 have hpl8 := H7.out.1.pl H7.out.2.1 hk8
 have hgt8 : qC Zx (y7 c8.lt) = some ofaB := by rw [hf8]; exact H6.out.2.1.2
 have HG : Hid (Calls _ _ _ _ _) := hm8.get hs8.st.tw (k := Zx) ⟨by decide, by decide⟩
 rw [hgt8] at HG
 have hA8 : Am (kys 20) (y7 c8.lt) := by rw [hf8]; exact H6.out.2.1.1
 have hne8 : y7 c8.lt ≠ [] := fun e => by rw [e] at hgt8; cases hgt8
 have hl0 : (((y7 t6).length : Int) == 0) = false := by
  rw [beq_eq_false_iff_ne, <- hf8]
  intro e
  exact hne8 (List.eq_nil_of_length_eq_zero (by omega))
 have H8 : Hid (Sd n c8 c8.lt D8 /\ c8.s = 2 /\ PL w8 52 (.slice vp (y7 t6).length vc) (y7 t6) /\ y7 c8.lt = y7 t6 /\ y7 c8.lt ≠ [] /\ Am (kys 20) (y7 c8.lt) /\ c8.tu <= 3 /\ qC Zx (y7 c8.lt) = some ofaB) := ⟨hs8, hs2, hpl8, hf8, hne8, hA8, by omega, hgt8⟩
 unfold Zx ofaB at HG
 clear hm8 hs8 hpl8 hgt8 hA8 hne8 hf8 HS
 go_wp2_with fail
 refine HG.out.mono ?_
 rintro e w9 ⟨rfl, hm9, hk9⟩
 have FIN : Hid (BegR n w (.returned (.tuple #[.pointer (some ⟨a, 0, none⟩), .pointer (some ⟨x, 0, none⟩), .slice vp (y7 t6).length vc])) w9) := ⟨x, a, bv, c8, D8, _, rfl, hm9, H8.out.1, H8.out.2.1, by rw [H8.out.2.2.2.1]; exact H8.out.2.2.1.kept hk9 (by simp), H7.out.2.2, H8.out.2.2.2.2.1, H8.out.2.2.2.2.2.1, H8.out.2.2.2.2.2.2⟩
 clear hm9 HG
 go_wp2
 go_ret3
 exact FIN.out
def FndR (a : Nat) (bv : Value) (n : Nat) (cv : Value) (D : Dv) (t : Tr) (w : World) (e : Ending) (w' : World) : Prop := ∃ vv D', e = .returned (.tuple #[vv, .bool true]) /\ PL w' 52 vv (y7 t) /\ (∀ y, vv.ownBlock = some y -> w.heap.size <= y) /\ DQ w' a bv n cv D' /\ Qt D D' /\ y5 [a] w w'
theorem Qcw (a : Nat) (bv : Value) (n : Nat) (cv : Value) (D : Dv) (t : Tr) (w : World) (h : DQ w a bv n cv D) (hn8 : 8 <= n) (hn : n <= 400) (hq : D.q.length < 1000000) (hT : Tab w) (hg : qc D) (hh : (yn D).2 = true) (ht : QU n D = some t) :
  Calls prog 15 #[.pointer (some ⟨a, 0, none⟩)] w (FndR a bv n cv D t w) := by
 have HO : Hid (Calls _ _ _ _ _) := QbM a bv n cv D t w h hn8 hn hq hT hg hh ht
 have htw : TW t := (QaS ht).1
 have hlen : (y7 t).length <= 20000 := by have := QbB (by omega) hn ht; omega
 clear h hT hg hh ht
 go_enter func15, ntmps15
 go_wp2_with fail
 refine HO.out.mono ?_
 rintro e w1 ⟨x, v, r, D', rfl, hr, hx, hd, hqt, hk⟩
 have HA : Hid (Calls _ _ _ _ _) := Qco x v a n _ r t htw hlen w1 hr
 have HD : Hid (DQ w1 a bv n cv D' /\ Qt D D' /\ y5 [a] w w1) := ⟨hd, hqt, hk⟩
 clear hr hd hqt hk
 go_wp2_with fail
 refine HA.out.mono ?_
 rintro e w2 ⟨vv, rfl, hpl, hfr, hk2⟩
 have FIN : Hid (FndR a bv n cv D t w (.returned (.tuple #[vv, .bool true])) w2) := ⟨vv, D', rfl, hpl, (fun y hy => by have h1 := hfr y hy; have h2 := HD.out.2.2.size; omega), HD.out.1.k0 hk2, HD.out.2.1, HD.out.2.2.trans (hk2.mono (by simp))⟩
 clear hpl hfr hk2
 go_wp2
 go_ret2
 exact FIN.out
def IL (W : World) (v : Value) : Prop := ∃ ao len cap, v = .slice ao len cap /\ (len = 0 \/ ∃ a, ao = some a /\ ∀ i, i < len -> ∃ z, W.cell? (a.add i) = some (.int .i64 z))
theorem Qcx : (prog.info? 3).map (fun i => (i.zero, i.size, i.bytes)) = some (some (.int .i64 0), 1, 8) := by kernel_rfl
theorem Qcy (w : World) (x : Int) : (Instr.buildSlice 22 1 #[(0, .int .i64 x)]).run prog w = .ok (.slice (some ⟨w.heap.size, 0, none⟩) 1 1) (w.alloc (.cells #[.int .i64 x] 3)) := by kernel_rfl
def FwI (w : World) (len : Nat) (o i : Value) (wr : World) : Prop := ∃ (ms : List Int) (j : Nat), i = .int .i64 (j : Nat) /\ j <= 64 /\ j <= len /\ ms.length = j /\ wr.ownsRow 0 3 1 o j (ints ms) /\ (∀ y, o.ownBlock = some y -> w.heap.size <= y) /\ y5 [] w wr
def FewR (w : World) (e : Ending) (w' : World) : Prop := ∃ vv ms, e = .returned vv /\ w'.ownsRow 0 3 1 vv ms.length (ints ms) /\ (∀ y, vv.ownBlock = some y -> w.heap.size <= y) /\ y5 [] w w'
theorem Qcz (v : Value) (w : World) (h : IL w v) : Calls prog 8 #[v] w (FewR w) := by
 obtain ⟨ao, len, cap, rfl, hl⟩ := h
 go_enter func8, ntmps8
 go_wp2
 go_loopw [3, 4] (fun o i wr => FwI w len o i wr) (fun _ i _ => len - (intOf i).toNat)
 case atStart => exact ⟨[], 0, rfl, by omega, by omega, rfl, World.ownsRow_nil _ _ _ _, (fun y hy => by cases hy), y5.refl _ _⟩
 case round =>
  rename_i o _
  obtain ⟨ms, j, rfl, hj, hjl, hms, hown, hfr, hk⟩ := hrel
  obtain ⟨op, oc, rfl⟩ := qF hown
  by_cases hlt : j < len /\ j < 64
  ·obtain ⟨a, rfl, hc⟩ : ∃ a, ao = some a /\ ∀ i, i < len -> ∃ z, w.cell? (a.add i) = some (.int .i64 z) := by
    rcases hl with h0 | h0
    ·omega
    ·exact h0
   obtain ⟨z, hz⟩ := hc j hlt.1
   have h1 : (j : Int) < len := by omega
   have h2 : (j : Int) < 64 := by omega
   have hz' : wr.cell? (a.add j) = some (.int .i64 z) := by
    rw [World.cell?_of_block (w := w) (hk.block _ (block_lt_of_cell hz) (by simp))]; exact hz
   have hbs := Qcy wr z
   obtain ⟨ie, hie, hz1, hz2, hz3⟩ := info_parts Qcx
   have K1 : y5 [] wr (wr.alloc (.cells #[.int .i64 z] 3)) := (y5.refl [] wr).alloc _
   obtain ⟨v', w8, hr8, hown8, k8, hwh⟩ := Q0A (P := prog) (wr.alloc (.cells #[.int .i64 z] 3)) 22 3 ie _ 1 8 underlying22 hie hz1 hz2 hz3 rfl (by omega) (.slice op j oc) j (ints ms) (yQ hown K1 (by simp)) ⟨wr.heap.size, 0, none⟩ 1 1 [.int .i64 z] rfl (Zj (heap_alloc_new wr (.cells #[.int .i64 z] 3))) (by simp [Value.oneCell']) (by unfold maxLen; omega) (by omega)
   have FIN : Hid (FwI w len v' (.int .i64 ((j + 1 : Nat) : Int)) w8) := ⟨ms ++ [z], j + 1, rfl, by omega, by omega, by simp [hms], by
    have e : ints (ms ++ [z]) = ints ms ++ [.int .i64 z] := by simp [ints]
    rw [e]
    exact hown8, (fun y hy => by
    rcases hwh y hy with h3 | h3
    ·exact hfr y h3
    ·have h4 := hk.size
     have h5 := K1.size
     omega), (hk.trans K1).trans2 k8 (fun y hy => Or.inr (hfr y (by simpa using hy)))⟩
   clear hl hc hown8 hwh k8 hown hfr
   go_wp2_with (first
    | (refine y8 rfl _ _ (qf 22 1 (.tmp 19) rfl (.int .i64 z) (by rfl) _ (Qcy _ _)) ?_)
    | (at_builtin; refine y8 rfl _ _ (Q5 (.tmp 15) (.tmp 20) 22 rfl (.slice op j oc) (.slice (some ⟨wr.heap.size, 0, none⟩) 1 1) (by rfl) (by rfl) _ hr8) ?_))
   go_roundw
   case rel => exact FIN.out
   case measure => simp [intOf]; omega
  ·have h1 : ¬ ((j : Int) < len /\ (j : Int) < 64) := by omega
   by_cases h2 : j < len
   ·have h3 : (j : Int) < len := by omega
    have h4 : ¬ (j : Int) < 64 := by omega
    go_wp2
    go_ret
    exact ⟨_, ms, rfl, by rw [hms]; exact hown, hfr, hk⟩
   ·have h3 : ¬ (j : Int) < len := by omega
    go_wp2
    go_ret
    exact ⟨_, ms, rfl, by rw [hms]; exact hown, hfr, hk⟩
theorem QcA : ((prog.fieldsOf 52).toList.map fun f => (f.type, f.offset)) = [(9, 0), (9, 1)] := by kernel_rfl
theorem QcB : ((prog.fieldsOf 52).toList.map fun f => decide (f.name = "_")) = [false, false] := by kernel_rfl
theorem undP : prog.underlying 52 = some (.struct (prog.fieldsOf 52)) := by kernel_rfl
theorem QcC : prog.stoodInHeld 52 = false := by kernel_rfl
theorem neqP (p q : Pr) (w : World) : (binOp .neq 52 (.agg #[.string p.1, .string p.2]) (.agg #[.string q.1, .string q.2])).run prog w = .ok (.bool (!(be p.1 q.1 && be p.2 q.2))) w := by
 rw [run_neq_struct, run_equalIn_struct w 9999 52 _ _ undP QcC]
 have h1 := QcA
 have h2 := QcB
 generalize (prog.fieldsOf 52).toList = fs at h1 h2
 have hl : fs.length = 2 := by have := congrArg List.length h1; simpa using this
 obtain ⟨f, g, rfl⟩ : ∃ f g, fs = [f, g] := by
  rcases fs with _ | ⟨f, _ | ⟨g, _ | ⟨x, r⟩⟩⟩
  ·simp at hl
  ·simp at hl
  ·exact ⟨f, g, rfl⟩
  ·simp at hl
 ·simp only [List.map_cons, List.map_nil, List.cons.injEq, Prod.mk.injEq, and_true, decide_eq_false_iff_not] at h1 h2
  obtain ⟨⟨a1, a2⟩, b1, b2⟩ := h1
  have e1 : ∀ (x y : Value), (part 9 #[x, y] 0).run prog w = .ok x w := fun x y => by simp [part, isAgg, run_underlying underlying9]
  have e2 : ∀ (x y : Value), (part 9 #[x, y] 1).run prog w = .ok y w := fun x y => by simp [part, isAgg, run_underlying underlying9]
  unfold be
  cases c1 : (p.1.toList == q.1.toList) <;> cases c2 : (p.2.toList == q.2.toList) <;>
   simp [Op.eqFields, h2.1, h2.2, a1, a2, b1, b2, e1, e2, run_equalIn_string (P := prog) w _ 9 _ _ underlying9, c1, c2]
def KsS (ga gb : Nat) (ca cb : Array Value) (W : World) : Prop := W.heap[ga]? = some (.cells ca 52 (0, 0)) /\ W.heap[gb]? = some (.cells cb 52 (0, 0))
theorem QcD {o : Oper} {a : Act} {w : World} (x y : Operand) (ho : o.op = .binOp .neq 52 x y 52) (p q : Pr) (hx : a.eval x = .agg #[.string p.1, .string p.2]) (hy : a.eval y = .agg #[.string q.1, .string q.2]) (b : Bool) (hb : (!(be p.1 q.1 && be p.2 q.2)) = b) :
  (execOp a.eval o).run prog w = .ok (.value (.bool b)) w := by
 unfold execOp
 simp only [ho, hx, hy, Sem.run_bind, run_eqGuard_agg (P := prog) (w := w) .neq 52 x y _ _ (by kernel_rfl), neqP, Result.andThen_ok, Sem.run_pure, hb]
def KsI (w : World) (la lb : List Pr) (i : Value) (wr : World) : Prop := ∃ (j : Nat), j <= la.length /\ i = .int .i64 j /\ la.take j = lb.take j /\ y5 [] w wr
theorem jo (va vb : Value) (la lb : List Pr) (w : World) (ha : PL w 52 va la) (hb : PL w 52 vb lb) (hl : la.length <= 50000) :
  Calls prog 16 #[va, vb] w fun e w' => e = .returned (.bool (decide (la = lb))) /\ y5 [] w w' := by
 obtain ⟨pa, ca, rfl⟩ := ha.shape
 obtain ⟨pb, cb, rfl⟩ := hb.shape
 by_cases hlen : la.length = lb.length
 ·have dl : ((la.length : Int) == (lb.length : Int)) = true := by rw [hlen]; simp
  go_enter func16, ntmps16
  go_wp2
  go_loopw [5] (fun i wr => KsI w la lb i wr) (fun i _ => la.length - (intOf i).toNat)
  case atStart => exact ⟨0, Nat.zero_le _, rfl, rfl, y5.refl _ _⟩
  case round =>
   obtain ⟨j, hj, rfl, heq, hkr⟩ := hrel
   have HQ : Hid _ := heq
   clear heq
   by_cases hlt : j < la.length
   ·have hA := ha.kept hkr (by simp)
    have hB := hb.kept hkr (by simp)
    obtain ⟨ga, _, cura, e, hga, hcura⟩ := hA.at_ (by omega)
    cases e
    obtain ⟨gb, _, curb, e, hgb, hcurb⟩ := hB.at_ (by omega)
    cases e
    obtain ⟨p, hp⟩ : ∃ p, la[j]? = some p := ⟨_, List.getElem?_eq_getElem hlt⟩
    obtain ⟨q, hq⟩ : ∃ q, lb[j]? = some q := ⟨_, List.getElem?_eq_getElem (by omega)⟩
    have hltb : j < lb.length := by omega
    have hS : KsS ga gb cura curb wr := ⟨hga, hgb⟩
    by_cases hpq : p = q
    ·have HN : Hid (la.take (j + 1) = lb.take (j + 1)) := by
      have heq := HQ.out
      show _ = _
      rw [qr la j p hp, qr lb j q hq, heq, hpq]
     have hbv : (!(be p.1 q.1 && be p.2 q.2)) = false := by rw [hpq, j1, j1]; rfl
     go_wp2_with fail
     refine yj (KsS ga gb cura curb) (by kernel_rfl) ?_
     refine hu 0 (.slice (some ⟨ga, 0, none⟩) la.length ca) rfl (fun W hW => by rfl) hS ?_
     simp only [zP, zA, zC, zD, zE, zF]
     refine hu 1 (.int .i64 j) rfl (fun W hW => by rfl) hS ?_
     simp only [zP, zA, zB, zC, zD, zE, zF]
     refine hu 2 (.pointer (some ⟨ga, j * 2, none⟩)) rfl (fun W hW => ya 25 (.tmp 17) (.tmp 18) rfl ga 0 la.length ca j 2 rfl rfl 52 underlying25 sap hlt (j * 2) (by omega)) hS ?_
     simp only [zP, zA, zB, zC, zD, zE, zF]
     refine hu 3 (.agg #[.string p.1, .string p.2]) rfl (fun W hW => y9 52 (.tmp 19) rfl ⟨ga, j * 2, none⟩ rfl _ (PL.load _ hW.1 (hcura j p hp) underlying52 sap)) hS ?_
     simp only [zP, zA, zB, zC, zD, zE, zF]
     refine hu 4 (.slice (some ⟨gb, 0, none⟩) lb.length cb) rfl (fun W hW => by rfl) hS ?_
     simp only [zP, zA, zB, zC, zD, zE, zF]
     refine hu 5 (.int .i64 j) rfl (fun W hW => by rfl) hS ?_
     simp only [zP, zA, zB, zC, zD, zE, zF]
     refine hu 6 (.pointer (some ⟨gb, j * 2, none⟩)) rfl (fun W hW => ya 25 (.tmp 21) (.tmp 22) rfl gb 0 lb.length cb j 2 rfl rfl 52 underlying25 sap hltb (j * 2) (by omega)) hS ?_
     simp only [zP, zA, zB, zC, zD, zE, zF]
     refine hu 7 (.agg #[.string q.1, .string q.2]) rfl (fun W hW => y9 52 (.tmp 23) rfl ⟨gb, j * 2, none⟩ rfl _ (PL.load _ hW.2 (hcurb j q hq) underlying52 sap)) hS ?_
     simp only [zP, zA, zB, zC, zD, zE, zF]
     refine hu 8 (.bool false) rfl (fun W hW => QcD (.tmp 20) (.tmp 24) rfl p q rfl rfl _ hbv) hS ?_
     simp only [zP, zA, zB, zC, zD, zE, zF]
     refine wpAnyH_done (by kernel_rfl) ?_ _
     clear hcura hcurb hga hgb hS
     go_wp2
     go_roundw
     case rel => exact ⟨j + 1, by omega, by go_num, HN.out, by first | exact hkr | exact hkr.drew⟩
     case measure => simp [intOf]; omega
    ·have hne : ¬ la = lb := by
      intro e; subst e; rw [hp] at hq; cases hq; exact hpq rfl
     have hbv : (!(be p.1 q.1 && be p.2 q.2)) = true := by
      cases h1 : be p.1 q.1 <;> cases h2 : be p.2 q.2 <;> try rfl
      exact absurd (Prod.ext ((jg _ _).1 h1) ((jg _ _).1 h2)) hpq
     go_wp2_with fail
     refine yj (KsS ga gb cura curb) (by kernel_rfl) ?_
     refine hu 0 (.slice (some ⟨ga, 0, none⟩) la.length ca) rfl (fun W hW => by rfl) hS ?_
     simp only [zP, zA, zC, zD, zE, zF]
     refine hu 1 (.int .i64 j) rfl (fun W hW => by rfl) hS ?_
     simp only [zP, zA, zB, zC, zD, zE, zF]
     refine hu 2 (.pointer (some ⟨ga, j * 2, none⟩)) rfl (fun W hW => ya 25 (.tmp 17) (.tmp 18) rfl ga 0 la.length ca j 2 rfl rfl 52 underlying25 sap hlt (j * 2) (by omega)) hS ?_
     simp only [zP, zA, zB, zC, zD, zE, zF]
     refine hu 3 (.agg #[.string p.1, .string p.2]) rfl (fun W hW => y9 52 (.tmp 19) rfl ⟨ga, j * 2, none⟩ rfl _ (PL.load _ hW.1 (hcura j p hp) underlying52 sap)) hS ?_
     simp only [zP, zA, zB, zC, zD, zE, zF]
     refine hu 4 (.slice (some ⟨gb, 0, none⟩) lb.length cb) rfl (fun W hW => by rfl) hS ?_
     simp only [zP, zA, zB, zC, zD, zE, zF]
     refine hu 5 (.int .i64 j) rfl (fun W hW => by rfl) hS ?_
     simp only [zP, zA, zB, zC, zD, zE, zF]
     refine hu 6 (.pointer (some ⟨gb, j * 2, none⟩)) rfl (fun W hW => ya 25 (.tmp 21) (.tmp 22) rfl gb 0 lb.length cb j 2 rfl rfl 52 underlying25 sap hltb (j * 2) (by omega)) hS ?_
     simp only [zP, zA, zB, zC, zD, zE, zF]
     refine hu 7 (.agg #[.string q.1, .string q.2]) rfl (fun W hW => y9 52 (.tmp 23) rfl ⟨gb, j * 2, none⟩ rfl _ (PL.load _ hW.2 (hcurb j q hq) underlying52 sap)) hS ?_
     simp only [zP, zA, zB, zC, zD, zE, zF]
     refine hu 8 (.bool true) rfl (fun W hW => QcD (.tmp 20) (.tmp 24) rfl p q rfl rfl _ hbv) hS ?_
     simp only [zP, zA, zB, zC, zD, zE, zF]
     refine wpAnyH_done (by kernel_rfl) ?_ _
     clear hcura hcurb hga hgb hS
     go_wp2
     go_ret
     exact ⟨by simp [hne], by first | exact hkr | exact hkr.drew⟩
   ·have hge : ¬ (j : Int) < (la.length : Int) := by omega
    have heq := HQ.out
    have hab : la = lb := by
     rw [List.take_of_length_le (by omega), List.take_of_length_le (by omega)] at heq; exact heq
    clear heq
    go_wp2
    go_ret
    exact ⟨by simp, hkr⟩
 ·have dl : ((la.length : Int) == (lb.length : Int)) = false := by rw [beq_eq_false_iff_ne]; omega
  have hne : ¬ la = lb := fun e => hlen (by rw [e])
  go_enter func16, ntmps16
  go_wp2
  go_ret
  exact ⟨by simp [hne], y5.refl _ _⟩
end Go.Proofs.YtcklgafpgdhnaabGreatDoor
