import Derived.Test.YtcklgafpgdhnaaaGreatDoorPtai
import Derived.Test.YtcklgafpgdhnaaaGreatDoorPtbh
import Derived.Test.YtcklgafpgdhnaaaGreatDoorPtbn
import Derived.Test.YtcklgafpgdhnaaaGreatDoorPtbm
import Derived.Test.YtcklgafpgdhnaaaGreatDoorPtbj
import Derived.Test.YtcklgafpgdhnaaaGreatDoorPtbi
import Derived.Test.YtcklgafpgdhnaaaGreatDoorPtah
import Derived.Test.YtcklgafpgdhnaaaGreatDoorPtas
import Derived.Test.YtcklgafpgdhnaaaGreatDoorPtak
import Derived.Test.YtcklgafpgdhnaaaGreatDoorPtba
set_option maxRecDepth 100000
set_option maxHeartbeats 4000000
open Go.Proofs.Tryz
namespace Go.Proofs.YtcklgafpgdhnaaaGreatDoor
open Go.RowKit
theorem QeH : ∀ (l : List UInt8) (n : Nat), l.length < n -> l < List.replicate n 255
 | [], n + 1, _ => by rw [List.replicate_succ]; exact List.nil_lt_cons _ _
 | a :: l, n + 1, h => by
  rw [List.replicate_succ, List.cons_lt_cons_iff]
  by_cases e : a = 255
  ·exact Or.inr ⟨e, QeH l n (by simpa using h)⟩
  ·left
   have h1 : a.toNat < 256 := a.toNat_lt
   have h2 : a.toNat ≠ 255 := fun h => e (UInt8.toNat_inj.1 h)
   show a.toNat < (255 : UInt8).toNat
   have : (255 : UInt8).toNat = 255 := rfl
   omega
theorem QeI {α : Type} {f : α -> Bool} {l : List α} (h : ∀ x ∈ l, f x = true) : l.filter f = l := List.filter_eq_self.2 h
theorem QeJ {t : Tr} (ht : TW t) (hl : (Q5u t).length <= 1048576) : Q3K ⟨#[]⟩ ⟨#[255, 255, 255, 255, 255, 255, 255, 255, 255]⟩ 1048576 (Q5u t) = Q5u t := by
 unfold Q3K
 rw [QeI, List.take_of_length_le hl]
 intro p hp
 have hk := (WFN.keys ht.wf p hp).2
 unfold inR
 have h1 : bl p.1 ⟨#[]⟩ = false := by rw [Q3A]; simp
 have h2 : bl p.1 ⟨#[255, 255, 255, 255, 255, 255, 255, 255, 255]⟩ = true := by
  rw [Q3A]
  have h3 := hk.2.1
  have h4 : p.1.data.toList.length = p.1.size := Array.length_toList
  have := QeH p.1.data.toList 9 (by omega)
  exact decide_eq_true this
 rw [h1, h2]
 rfl
theorem QeK {k k' v : ByteArray} (h : be k k' = false) : ∀ (l : List Pr) (b : Bool), (Q3H k v b l).filter (fun p => be p.1 k') = l.filter fun p => be p.1 k'
 | [], b => by rw [Q4j]; cases b <;> simp [h]
 | p :: r, b => by
  rw [Q4k, List.filter_append, List.filter_append, QeK h r _]
  have h1 : (if (!b && !bl p.1 k) = true then [(k, v)] else []).filter (fun p : Pr => be p.1 k') = [] := by split <;> simp [h]
  rw [h1, List.nil_append]
  cases h2 : be p.1 k with
  | true =>
   have : be p.1 k' = false := by rw [(Q3B _ _).1 h2]; exact h
   simp [this]
  | false => cases h3 : be p.1 k' <;> simp [h3]
theorem QeL (k : ByteArray) : ∀ (l : List Pr), getL k l = ((l.filter fun p => be p.1 k).head?).map fun p => p.2
 | [] => rfl
 | p :: r => by
  simp only [getL, List.filter_cons]
  cases h : be p.1 k with
  | true => simp
  | false => simpa using QeL k r
theorem QeM {k k' v : ByteArray} {l : List Pr} (h : k ≠ k') : getL k' (Q3I k v l) = getL k' l := by
 rw [QeL, QeL]
 unfold Q3I
 rw [QeK ((Q3C _ _).2 h)]
theorem QeN {k k' : ByteArray} {l : List Pr} (h : k ≠ k') : getL k' (Q3J k l) = getL k' l := by
 rw [QeL, QeL]
 unfold Q3J
 rw [List.filter_filter]
 congr 3
 funext p
 cases h1 : be p.1 k' with
 | false => rfl
 | true =>
  have : be p.1 k = false := by rw [(Q3B _ _).1 h1]; exact (Q3C _ _).2 fun e => h e.symm
  simp [this]
theorem QeO (x v a n : Nat) (hd : Hd) (r : Value) (t : Tr) (ht : TW t) (hbig : (Q5u t).length <= 20000) (w : World) (h : Rec x v a n hd r t w) :
  Calls prog 18 #[.pointer (some ⟨x, 0, none⟩)] w fun e w' => ∃ vv, e = .returned (.tuple #[vv, .bool true]) /\ PL w' 41 vv (Q3K ⟨#[]⟩ QdU 1048576 (Q5u t)) /\ (∀ y, vv.ownBlock = some y -> w.heap.size <= y) /\ Kept [] w w' := by
 have HC : Hid (Calls _ _ _ _ _) := QeG x v a n hd r t ⟨#[]⟩ QdU 1048576 ht hbig w h
 unfold QdU at HC
 clear h
 go_enter func18, ntmps18
 go_wp2_with fail
 refine HC.out.mono ?_
 rintro e w1 ⟨vv, rfl, h1, h2, hk⟩
 have HP : Hid (PL _ _ _ _) := h1
 clear h1
 go_wp2
 go_quiet (fail)
 go_wp2
 go_ret2
 exact ⟨vv, rfl, HP.out.kept ((Kept.refl [] w1).drewN _) (by simp), h2, hk.drewN _⟩
theorem QeP (x v a n : Nat) (hd : Hd) (r : Value) (t : Tr) (ht : TW t) (hbig : (Q5u t).length <= 20000) (w : World) (h : Rec x v a n hd r t w) :
  Calls prog 18 #[.pointer (some ⟨x, 0, none⟩)] w fun e w' => ∃ vv, e = .returned (.tuple #[vv, .bool true]) /\ PL w' 41 vv (Q5u t) /\ (∀ y, vv.ownBlock = some y -> w.heap.size <= y) /\ Kept [] w w' := by
 refine (QeO x v a n hd r t ht hbig w h).mono ?_
 rintro e w' ⟨vv, h1, h2, h3, h4⟩
 refine ⟨vv, h1, ?_, h3, h4⟩
 have := QeJ ht (by omega)
 unfold QdU at h2
 rw [this] at h2
 exact h2
end Go.Proofs.YtcklgafpgdhnaaaGreatDoor
namespace Go.Proofs.YtcklgafpgdhnaaaGreatDoor
theorem QeQ (l : List Pr) (h : ∀ p ∈ l, okp p) : 3 * l.length <= (l.map psz).sum := by
 induction l with
 | nil => simp
 | cons p r ih =>
  have h1 := ih fun q hq => h q (by simp [hq])
  have h2 := (h p (by simp)).1
  simp only [List.map_cons, List.sum_cons, List.length_cons]
  have h3 : psz p = 2 + p.1.size + p.2.size := rfl
  omega
theorem QeR : ∀ (h : Nat) (f : ByteArray) (n : Nd h), WFN h f n -> Q4S h n -> Q4J h n <= 122 -> (Q4I h n).length <= 41 * cntN h n
 | 0, f, l, hw, _, hs => by
  have h1 := QeQ l fun p hp => (hw.2 p hp).2
  have hs' : (List.map psz l).sum <= 122 := hs
  show List.length (α := Pr) l <= 41 * 1
  omega
 | h + 1, f, ks, hw, hf, _ => by
  obtain ⟨_, hk⟩ := (Q4R h f ks).1 hw
  have hf' := (Q4T h ks).1 hf
  have key : ∀ (l : List (Kid h)), (∀ a ∈ l, WFN h a.1 a.2 /\ Rt h a.2 /\ Q4S h a.2) -> (Q4K h l).length <= 41 * (List.map (fun k : Kid h => cntN h k.2) l).sum := by
   intro l
   induction l with
   | nil => intro _; simp [Q4K]
   | cons a r ih =>
    intro hl
    have h1 := ih fun b hb => hl b (by simp [hb])
    obtain ⟨ha, hr, hff⟩ := hl a (by simp)
    have h2 := QeR h a.1 a.2 ha hff hr.2
    rw [Q4N, List.length_append]
    simp only [List.map_cons, List.sum_cons]
    omega
  have h1 := key ks fun a ha => ⟨hk.all a ha, hf' a ha⟩
  show (Q4K h ks).length <= 41 * (1 + (List.map (fun k : Kid h => cntN h k.2) ks).sum)
  omega
theorem QeS : ∀ (h : Nat) (n : Nd h), nilN h n = true -> Q4I h n = []
 | 0, l, e => by
  have : List.isEmpty (α := Pr) l = true := e
  exact List.isEmpty_iff.1 this
 | _ + 1, _, e => by cases e
theorem QeT (t : Tr) (ht : TW t) : (Q5u t).length <= 41 * cntT t := by
 unfold cntT
 split
 ·rename_i e
  unfold Q5u
  rw [QeS _ _ e]
  simp
 ·exact QeR t.h nil8 t.n ht.wf ht.full ht.hi
end Go.Proofs.YtcklgafpgdhnaaaGreatDoor
namespace Go.Proofs.YtcklgafpgdhnaaaGreatDoor
open Go.RowKit
theorem QeU (w : World) (x : Nat) (k : ByteArray) : Bx2 w.heap.size (w.heap.size + 1) x k ((((w.alloc (.cells #[.pointer (some ⟨x, 0, none⟩)] 27)).alloc (.cells #[.string k] 9)).alloc (.cells #[.string ⟨#[]⟩] 9)).alloc (.cells #[.bool false] 4)) /\ VB (w.heap.size + 1 + 1) (w.heap.size + 1 + 1 + 1) ⟨#[]⟩ false ((((w.alloc (.cells #[.pointer (some ⟨x, 0, none⟩)] 27)).alloc (.cells #[.string k] 9)).alloc (.cells #[.string ⟨#[]⟩] 9)).alloc (.cells #[.bool false] 4)) /\ Kept [] w ((((w.alloc (.cells #[.pointer (some ⟨x, 0, none⟩)] 27)).alloc (.cells #[.string k] 9)).alloc (.cells #[.string ⟨#[]⟩] 9)).alloc (.cells #[.bool false] 4)) := by
 have h2 := QbS w x k
 have ka := fun (W : World) (o : Obj) => (Kept.refl [] W).alloc o
 have z2 := heap_alloc_new ((w.alloc (.cells #[.pointer (some ⟨x, 0, none⟩)] 27)).alloc (.cells #[.string k] 9)) (.cells #[.string ⟨#[]⟩] 9)
 have z3 := heap_alloc_new (((w.alloc (.cells #[.pointer (some ⟨x, 0, none⟩)] 27)).alloc (.cells #[.string k] 9)).alloc (.cells #[.string ⟨#[]⟩] 9)) (.cells #[.bool false] 4)
 simp only [World.size_alloc] at z2 z3
 exact ⟨(h2.k (ka _ _)).k (ka _ _), ⟨(ka _ _).get z2 (by simp), z3⟩, ((((Kept.refl [] w).alloc _).alloc _).alloc _).alloc _⟩
theorem QeV {k v : ByteArray} : ∀ {l : List Pr}, getL k l = some v -> ∃ p ∈ l, p.2 = v
 | [], h => by simp [getL] at h
 | p :: r, h => by
  unfold getL at h
  split at h
  ·cases h; exact ⟨p, by simp, rfl⟩
  ·obtain ⟨q, hq, e⟩ := QeV h
   exact ⟨q, by simp [hq], e⟩
theorem QeW (t : Tr) (ht : TW t) (k : ByteArray) : ((getL k (Q5u t)).getD ⟨#[]⟩).size <= 1000 := by
 cases h : getL k (Q5u t) with
 | none => show (⟨#[]⟩ : ByteArray).size <= 1000; decide
 | some v =>
  obtain ⟨p, hp, rfl⟩ := QeV h
  have := (ht.wf.keys p hp).2.2.2
  show p.2.size <= 1000
  omega
theorem QeX (x v a n : Nat) (c : Hd) (r : Value) (t : Tr) (k : ByteArray) (w : World) (h : Rec x v a n c r t w) (ht : TW t) (hk : Q4n k) :
  Calls prog 20 #[.pointer (some ⟨x, 0, none⟩), .string k] w fun e w' => ∃ err, e = .returned (.tuple #[.string ((getL k (Q5u t)).getD ⟨#[]⟩), .bool (getL k (Q5u t)).isSome, err]) /\ err = .nilIface /\ Kept [] w w' := by
 obtain ⟨hb, hv, k4⟩ := QeU w x k
 refine Qeg x k _ _ (fun err _ => err = .nilIface) (fun _ _ _ h _ => h) (QeW t ht k) w fun b => ?_
 refine QbO b _ _ (fun _ _ => by kernel_rfl) [w.heap.size + 1 + 1, w.heap.size + 1 + 1 + 1] _ _ ?_ (fun W W' T h1 h2 h3 => h1.err h2 h3) fun W kW => ?_
 ·intro y hy
  simp at hy
  rw [World.size_alloc, World.size_alloc, World.size_alloc, World.size_alloc]
  omega
 ·exact Qef _ _ _ _ x v a n c r t k W (hb.k kW) (hv.k kW) (by omega) ((h.k k4).k kW) ht hk
def fstB : ByteArray := ⟨#[102, 105, 114, 115, 116]⟩
def ofaB : ByteArray := ⟨#[111, 102, 32, 97, 108, 108]⟩
def kys (K : Nat) : List ByteArray := fstB :: (List.range K).map ky
theorem QeY (K : Nat) : (kys K).length = K + 1 := by simp [kys]
theorem QeZ {j K : Nat} (h : j < K) : ky j ∈ kys K := List.mem_cons_of_mem _ (List.mem_map.2 ⟨j, List.mem_range.2 h, rfl⟩)
theorem Qf0 : ∀ j, j < 40 -> ky j ≠ fstB := by decide +kernel
theorem Rm.ky {n K : Nat} {t : Tr} (ht : TW t) (h : Am (kys K) (Q5u t)) (hK : 4 * K + 12 <= 3 * n) : Rm n (Q5u t) := by
 have := h.len ht
 rw [QeY] at this
 unfold Rm
 omega
theorem Smm.pl {w0 w w' : World} {x a : Nat} {bv : Value} {n : Nat} {c : Hd} {t : Tr} {D : Dv} {vv : Value} {l : List Pr} (h : Smm w0 x a bv n c t D w) (hp : PL w 41 vv l) (k : Kept (ft x a bv) w w') : PL w' 41 vv l := by
 refine hp.kept k fun b hb hm => ?_
 obtain ⟨cs, fr, hh⟩ := hp.tag hb
 obtain ⟨v, r, hr⟩ := h.rc
 rcases List.mem_cons.1 hm with rfl | hm
 ·exact Q01 hr.row hh (by decide) rfl
 ·exact h.dq.no hh (by decide) hm
theorem Smm.all {w0 w : World} {x a : Nat} {bv : Value} {n : Nat} {c : Hd} {t : Tr} {D : Dv} (h : Smm w0 x a bv n c t D w) (ht : TW t) (hl : (Q5u t).length <= 20000) :
  Calls prog 18 #[.pointer (some ⟨x, 0, none⟩)] w fun e w' => ∃ vv, e = .returned (.tuple #[vv, .bool true]) /\ PL w' 41 vv (Q5u t) /\ (∀ y, vv.ownBlock = some y -> w.heap.size <= y) /\ Smm w0 x a bv n c t D w' /\ Kept [] w w' := by
 obtain ⟨v, r, hr⟩ := h.rc
 refine (QeP x v a n c r t ht hl w hr).mono ?_
 rintro e w' ⟨vv, h1, h2, h3, h4⟩
 exact ⟨vv, h1, h2, h3, h.k0 h4, h4⟩
theorem Smm.get {w0 w : World} {x a : Nat} {bv : Value} {n : Nat} {c : Hd} {t : Tr} {D : Dv} {k : ByteArray} (h : Smm w0 x a bv n c t D w) (ht : TW t) (hk : Q4n k) :
  Calls prog 20 #[.pointer (some ⟨x, 0, none⟩), .string k] w fun e w' => e = .returned (.tuple #[.string ((getL k (Q5u t)).getD ⟨#[]⟩), .bool (getL k (Q5u t)).isSome, .nilIface]) /\ Smm w0 x a bv n c t D w' /\ Kept [] w w' := by
 obtain ⟨v, r, hr⟩ := h.rc
 refine (QeX x v a n c r t k w hr ht hk).mono ?_
 rintro e w' ⟨err, h1, rfl, h3⟩
 exact ⟨h1, h.k0 h3, h3⟩
def BegP (l : List Pr) : Prop := Am (kys 20) l /\ getL fstB l = some ofaB
def BegR (n : Nat) (w : World) (e : Ending) (w' : World) : Prop := ∃ x a bv c D vv, e = .returned (.tuple #[.pointer (some ⟨a, 0, none⟩), .pointer (some ⟨x, 0, none⟩), vv]) /\ Smm w x a bv n c c.lt D w' /\ Sd n c c.lt D /\ c.s = 2 /\ PL w' 41 vv (Q5u c.lt) /\ (∀ y, vv.ownBlock = some y -> w.heap.size <= y) /\ Q5u c.lt ≠ [] /\ Am (kys 20) (Q5u c.lt) /\ c.tu <= 3
theorem Qf1 (n : Nat) (z : Int) (w : World) (h8 : 40 <= n) (h4 : n <= 400) (hz1 : -9223372036854775808 <= z) (hz2 : z <= 9223372036854775807) :
  Calls prog 16 #[.int .i64 (n : Nat), .int .i64 z] w (BegR n w) := by
 have hnb : nb (n : Nat) = n := by unfold nb; rw [if_neg (by omega)]; omega
 have HN : Hid (∀ W, Calls _ _ _ W _) := fun W => QdH (n : Nat) W
 rw [hnb] at HN
 have HP : Hid (∀ W, Calls _ _ _ W _) := fun W => QdS z 40 W (by omega) (by omega) hz1 hz2
 have hk40 : pk z 40 < 40 := Q1V z 40 (by omega)
 generalize hpk : pk z 40 = m0 at *
 have HZ : Hid (-9223372036854775808 <= z /\ z <= 9223372036854775807) := ⟨hz1, hz2⟩
 clear hz1 hz2 hpk
 go_enter func16, ntmps16
 go_wp2_with fail
 refine (HN.out _).mono ?_
 rintro e w1 ⟨a, g, rfl, hdev, ha, hg, hk1⟩
 have HF : Hid (Calls _ _ _ _ _) := QdL hdev (by omega) h4 (by omega) (QdJ (n * 128) (by omega))
 clear hdev
 go_wp2_with fail
 refine HF.out.mono ?_
 rintro e w2 ⟨rfl, ⟨L', c', wr', hdev2, hst⟩, hk2⟩
 have K2 : Kept [] w w2 := hk1.trans2 hk2 (by intro q hq; simp at hq; rcases hq with rfl | rfl <;> exact Or.inr (by assumption))
 have HO : Hid (Calls _ _ _ _ _) := QdP hdev2 (by omega) h4 hst K2 ha hg
 clear hdev2 hst hk2 hk1
 go_wp2_with fail
 refine HO.out.mono ?_
 rintro e w3 ⟨x, c, D, rfl, hm, hs, hfl, htu, _, _⟩
 have hrm0 : Rm n (Q3I fstB ofaB (Q5u c.lt)) := by
  rw [hfl]
  show 4 * 1 + 8 <= 3 * n
  omega
 have HPu : Hid (Calls _ _ _ _ _) := hm.put hs (k := fstB) (y := ofaB) ⟨by decide, by decide⟩ (by decide) (by omega) h4 hrm0
 have hs4 := hs.put (k := fstB) (y := ofaB) ⟨by decide, by decide⟩ (by decide)
 have hc4 := Q5A (Q5s fstB ofaB ⟨by decide, by decide⟩ (by decide)) c.lt hs.st.tw
 have hP4 : BegP (Q5u (chgT (Q3I fstB ofaB) fstB c.lt)) := by
  rw [hc4.2, hfl]
  exact ⟨fun p hp => by
   have : p = (fstB, ofaB) := by simpa [Q3I, Q4j] using hp
   rw [this]; exact List.mem_cons_self .., by simp [Q3I, Q4j, getL, Q3D]⟩
 have HE : Hid (Am (kys 20) (Q5u c.lt)) := by show Am _ _; rw [hfl]; exact fun p hp => by cases hp
 unfold fstB ofaB at HPu
 clear hm hc4 hrm0 hfl hs
 go_wp2_with fail
 refine HPu.out.mono ?_
 rintro e w4 ⟨rfl, hm4, hk4⟩
 have HCh : Hid (Calls _ _ _ _ _) := Qe3 BegP z (3 + m0) 20 hm4 hs4 (by omega) h4 hP4
  (fun l j v hv hj hl => ⟨hl.1.put (QeZ hj), by rw [QeM (Qf0 j (by omega))]; exact hl.2⟩)
  (fun l j hj hl => ⟨hl.1.del, by rw [QeN (Qf0 j (by omega))]; exact hl.2⟩)
  (fun t ht hl => Rm.ky ht hl.1 (by omega)) (by omega) (by omega) (by omega) HZ.out.1 HZ.out.2
 rw [show ((3 + m0 : Nat) : Int) = 3 + (m0 : Int) by omega] at HCh
 clear hm4 hs4 hP4
 generalize hbv : (Value.slice (some ⟨g, 0, none⟩) n n) = bv at *
 go_wp2_with fail
 refine (HP.out _).mono ?_
 rintro e w5 ⟨rfl, hw5⟩
 obtain rfl := hw5.symm
 go_wp2_with fail
 refine HCh.out.mono ?_
 rintro e w6 ⟨rfl, t6, hm6, hs6, hP6, hk6⟩
 have hlen : (Q5u t6).length <= 21 := by have := hP6.1.len hs6.st.tw; rw [QeY] at this; exact this
 have HA : Hid (Calls _ _ _ _ _) := hm6.all hs6.st.tw (by omega)
 have H6 : Hid (Sd n c t6 D /\ BegP (Q5u t6) /\ Kept [] w w6) := ⟨hs6, hP6, hm6.k⟩
 clear hm6 hs6 hP6 HCh HPu HO HF
 go_wp2_with fail
 refine HA.out.mono ?_
 rintro e w7 ⟨vv, rfl, hpl7, hfr7, hm7, hk7⟩
 have HS : Hid (Calls _ _ _ _ _) := hm7.sync H6.out.1 (by omega) h4 (Rm.ky H6.out.1.st.tw H6.out.2.1.1 (by omega)) (Rm.ky H6.out.1.st.ltw HE.out (by omega)) (by omega)
 have H7 : Hid (Smm w x a bv n c t6 D w7 /\ PL w7 41 vv (Q5u t6) /\ ∀ y, vv.ownBlock = some y -> w.heap.size <= y) := ⟨hm7, hpl7, fun y hy => by have h1 := hfr7 y hy; have h2 := H6.out.2.2.size; omega⟩
 obtain ⟨vp, vc, rfl⟩ := hpl7.shape
 clear hm7 hpl7 hfr7 HA
 go_wp2_with fail
 refine HS.out.mono ?_
 rintro e w8 ⟨rfl, hk8, c8, D8, hm8, hs8, hs2, _, hf8, htu1, htu2, _⟩
 have hpl8 := H7.out.1.pl H7.out.2.1 hk8
 have hgt8 : getL fstB (Q5u c8.lt) = some ofaB := by rw [hf8]; exact H6.out.2.1.2
 have HG : Hid (Calls _ _ _ _ _) := hm8.get hs8.st.tw (k := fstB) ⟨by decide, by decide⟩
 rw [hgt8] at HG
 have hA8 : Am (kys 20) (Q5u c8.lt) := by rw [hf8]; exact H6.out.2.1.1
 have hne8 : Q5u c8.lt ≠ [] := fun e => by rw [e] at hgt8; cases hgt8
 have hl0 : (((Q5u t6).length : Int) == 0) = false := by
  rw [beq_eq_false_iff_ne, <- hf8]
  intro e
  exact hne8 (List.eq_nil_of_length_eq_zero (by omega))
 have H8 : Hid (Sd n c8 c8.lt D8 /\ c8.s = 2 /\ PL w8 41 (.slice vp (Q5u t6).length vc) (Q5u t6) /\ Q5u c8.lt = Q5u t6 /\ Q5u c8.lt ≠ [] /\ Am (kys 20) (Q5u c8.lt) /\ c8.tu <= 3) := ⟨hs8, hs2, hpl8, hf8, hne8, hA8, by omega⟩
 unfold fstB ofaB at HG
 clear hm8 hs8 hpl8 hgt8 hA8 hne8 hf8 HS
 go_wp2_with fail
 refine HG.out.mono ?_
 rintro e w9 ⟨rfl, hm9, hk9⟩
 have FIN : Hid (BegR n w (.returned (.tuple #[.pointer (some ⟨a, 0, none⟩), .pointer (some ⟨x, 0, none⟩), .slice vp (Q5u t6).length vc])) w9) := ⟨x, a, bv, c8, D8, _, rfl, hm9, H8.out.1, H8.out.2.1, by rw [H8.out.2.2.2.1]; exact H8.out.2.2.1.kept hk9 (by simp), H7.out.2.2, H8.out.2.2.2.2.1, H8.out.2.2.2.2.2.1, H8.out.2.2.2.2.2.2⟩
 clear hm9 HG
 go_wp2
 go_ret3
 exact FIN.out
theorem Qf2 (w : World) : Calls prog 188 #[.bool true] w fun e w' => e = .returned (.tuple #[]) /\ w' = w := by
 go_enter func188, ntmps188
 go_wp2
 go_end0
 exact ⟨rfl, rfl⟩
theorem Qf3 (w : World) : Calls prog 188 #[.bool false] w fun e w' => Thr 7 e w' /\ Kept [] w w' := by
 go_enter func188, ntmps188
 go_wp2_with (go_at_call 62; refine (Q2N _ _ _).mono ?_; rintro e w4 ⟨ht, hk4⟩; obtain ⟨f, o, rfl, hf⟩ := ht.ex)
 exact ⟨rfl, ht, hk4⟩
structure Rst (w : World) (q g : Nat) (B R : List UInt8) : Prop where
 v : w.heap[q]? = some (.cells #[.slice (some ⟨g, 124 - R.length, none⟩) R.length (R.length + 4)] 246 (0, 0))
 b : w.heap[g]? = some (.cells (u8s B).toArray 92 (0, 0))
 l : B.length = 128
 r : R.length <= 122
 e : R = (B.drop (124 - R.length)).take R.length
theorem Rst.k {w w' : World} {q g : Nat} {B R : List UInt8} (h : Rst w q g B R) (k : Kept [] w w') : Rst w' q g B R := ⟨k.get h.v (by simp), k.get h.b (by simp), h.l, h.r, h.e⟩
theorem Rst.ne {w : World} {q g : Nat} {B R : List UInt8} (h : Rst w q g B R) : g ≠ q := Q01 h.b h.v (by decide)
theorem Qf4 : (prog.info? 246).map (·.size) = some 1 := by kernel_rfl
theorem Rst.part {w : World} {q g : Nat} {B R : List UInt8} (h : Rst w q g B R) (n : Nat) (hn : n <= R.length) : (B.drop (124 - R.length)).take n = R.take n := by
 conv => rhs; rw [h.e]
 rw [List.take_take, Nat.min_eq_left hn]
theorem Rst.next {w w' : World} {q g : Nat} {B R : List UInt8} (h : Rst w q g B R) (n : Nat) (hn : n <= R.length) (k : Kept [q] w w') (hv : w'.heap[q]? = some (.cells #[.slice (some ⟨g, 124 - R.length + n, none⟩) (R.length - n) (R.length + 4 - n)] 246 (0, 0))) : Rst w' q g B (R.drop n) := by
 have hr := h.r
 have hl : (R.drop n).length = R.length - n := List.length_drop ..
 refine ⟨?_, k.get h.b (by simp; exact h.ne), h.l, by omega, ?_⟩
 ·rw [hl, show 124 - (R.length - n) = 124 - R.length + n by omega, show R.length - n + 4 = R.length + 4 - n by omega]
  exact hv
 ·rw [hl, show 124 - (R.length - n) = 124 - R.length + n by omega, <- List.drop_drop, <- List.drop_take, <- h.e]
theorem Qf5 (q g : Nat) (B R : List UInt8) (n : Nat) (w : World) (h : Rst w q g B R) (hn : n <= R.length) :
  Calls prog 199 #[.pointer (some ⟨q, 0, none⟩), .int .i64 (n : Nat)] w fun e w' => e = .returned (.slice (some ⟨g, 124 - R.length, none⟩) n (R.length + 4)) /\ Rst w' q g B (R.drop n) /\ Kept [q] w w' := by
 have c0 : w.cell? ⟨q, 0, none⟩ = some (.slice (some ⟨g, 124 - R.length, none⟩) R.length (R.length + 4)) := Q02 h.v rfl
 have hle : (n : Int) <= (R.length : Int) := by omega
 have hr := h.r
 have hs1 : ∀ W : World, (Instr.sliceAt 246 (.slice (some ⟨g, 124 - R.length, none⟩) R.length (R.length + 4)) none (some (.int .i64 (n : Nat))) none).run prog W = .ok (.slice (some ⟨g, 124 - R.length, none⟩) n (R.length + 4)) W := fun W => Q6f W 246 5 1 g (124 - R.length) R.length (R.length + 4) underlying246 su8 n (by omega)
 have hs2 : ∀ W : World, (Instr.sliceAt 246 (.slice (some ⟨g, 124 - R.length, none⟩) R.length (R.length + 4)) (some (.int .i64 (n : Nat))) none none).run prog W = .ok (.slice (some ⟨g, 124 - R.length + n, none⟩) (R.length - n) (R.length + 4 - n)) W := fun W => by
  rw [Q6g W 246 5 1 g (124 - R.length) R.length (R.length + 4) underlying246 su8 n hn]
  unfold cutA
  rw [if_neg (by omega), Nat.mul_one]
 have HN : Hid (Calls _ _ _ _ _) := Qf2 w
 have hv := h.v
 have HR : Hid (Rst w q g B R) := h
 clear h hr
 go_enter func199, ntmps199
 go_wp2_with (first
  | (go_at_call 188; refine HN.out.mono ?_; rintro e w1 ⟨rfl, ew⟩; rw [ew]; clear ew w1)
  | (refine Q04 rfl _ _ (Q1p 246 (.tmp 15) none (some (.tmp 16)) none rfl _ none (some (.int .i64 (n : Nat))) none rfl rfl (by rfl) rfl _ (hs1 _)) ?_)
  | (refine Q04 rfl _ _ (Q1p 246 (.tmp 21) (some (.tmp 22)) none none rfl _ (some (.int .i64 (n : Nat))) none none rfl (by rfl) rfl rfl _ (hs2 _)) ?_)
  | (refine QbA rfl 246 (.tmp 24) (.tmp 23) rfl q 0 rfl (.slice (some ⟨g, 124 - R.length + n, none⟩) (R.length - n) (R.length + 4 - n)) rfl 246 _ hv Qf4 rfl (by simp) ?_; intro w2 n2 k2))
 go_ret
 exact ⟨rfl, HR.out.next n hn k2 n2, k2⟩
theorem Qf6 (q g : Nat) (B R : List UInt8) (n : Nat) (w : World) (h : Rst w q g B R) (hn : R.length < n) :
  Calls prog 199 #[.pointer (some ⟨q, 0, none⟩), .int .i64 (n : Nat)] w fun e w' => Thr 7 e w' /\ Kept [] w w' := by
 have c0 : w.cell? ⟨q, 0, none⟩ = some (.slice (some ⟨g, 124 - R.length, none⟩) R.length (R.length + 4)) := Q02 h.v rfl
 have hle : ¬ (n : Int) <= (R.length : Int) := by omega
 have HN : Hid (Calls _ _ _ _ _) := Qf3 w
 go_enter func199, ntmps199
 go_wp2_with (go_at_call 188; refine HN.out.mono ?_; rintro e w1 ⟨ht, hk⟩; obtain ⟨f, o, rfl, hf⟩ := ht.ex)
 exact ⟨rfl, ht, hk⟩
theorem Qf7 (q g : Nat) (B R : List UInt8) (n : Nat) (w : World) (h : Rst w q g B R) (hn : n <= R.length) (h2 : n <= 2) :
  Calls prog 200 #[.pointer (some ⟨q, 0, none⟩), .int .i64 (n : Nat)] w fun e w' => e = .returned (.int .i64 (Q2a (R.take n) : Nat)) /\ Rst w' q g B (R.drop n) /\ Kept [q] w w' := by
 have HB : Hid (Calls _ _ _ _ _) := Qf5 q g B R n w h hn
 have HM : Hid (∀ W, Rst W q g B (R.drop n) -> Calls prog 154 #[.slice (some ⟨g, 124 - R.length, none⟩) n (R.length + 4)] W fun e w' => e = .returned (.int .u64 (Q2a (R.take n) : Nat)) /\ w' = W) := by
  intro W hW
  have := Q2G g (124 - R.length) (R.length + 4) n n B 92 (0, 0) W hW.b (by rw [h.part n hn, List.length_take]; omega) (by omega)
  rw [h.part n hn] at this
  exact this
 have hlt : Q2a (R.take n) < 65536 := by
  have h1 := Q2c (R.take n)
  have h3 : (R.take n).length <= 2 := by rw [List.length_take]; omega
  have : 2 ^ (8 * (R.take n).length) <= 2 ^ 16 := Nat.pow_le_pow_right (by omega) (by omega)
  omega
 generalize Q2a (R.take n) = m at *
 clear h
 go_enter func200, ntmps200
 go_wp2_with (first
  | (go_at_call 199; refine HB.out.mono ?_; rintro e w1 ⟨rfl, hr1, hk1⟩)
  | (go_at_call 154; refine (HM.out _ hr1).mono ?_; rintro e w2 ⟨rfl, ew⟩; rw [ew]; clear ew w2))
 go_ret
 exact ⟨rfl, hr1, hk1⟩
theorem Qf8 (q g : Nat) (B R : List UInt8) (n : Nat) (w : World) (h : Rst w q g B R) (hn : R.length < n) :
  Calls prog 200 #[.pointer (some ⟨q, 0, none⟩), .int .i64 (n : Nat)] w fun e w' => Thr 7 e w' /\ Kept [] w w' := by
 have HB : Hid (Calls _ _ _ _ _) := Qf6 q g B R n w h hn
 clear h
 go_enter func200, ntmps200
 go_wp2_with (go_at_call 199; refine HB.out.mono ?_; rintro e w1 ⟨ht, hk⟩; obtain ⟨f, o, rfl, hf⟩ := ht.ex)
 exact ⟨rfl, ht, hk⟩
def TkE (q g : Nat) (B : List UInt8) {α : Type} (enc : α -> Value) (o : Option (α × List UInt8)) (w : World) (e : Ending) (w' : World) : Prop :=
 (match o with
  | some (x, R') => e = .returned (enc x) /\ Rst w' q g B R'
  | none => Thr 7 e w') /\ Kept [q] w w'
theorem Qf9 (c : UInt8) (r : List UInt8) : Q2a ((c :: r).take 1) = c.toNat := by
 simp [Q2a]
theorem Qfa (q g : Nat) (B R : List UInt8) (m : Nat) (w : World) (h : Rst w q g B R) :
  Calls prog 198 #[.pointer (some ⟨q, 0, none⟩), .int .i64 (m : Nat)] w (TkE q g B Value.string (Q3N m R) w) := by
 cases R with
 | nil =>
  have HB : Hid (Calls _ _ _ _ _) := Qf8 q g B [] 1 w h (by simp)
  clear h
  go_enter func198, ntmps198
  go_wp2_with (go_at_call 200; refine HB.out.mono ?_; rintro e w1 ⟨ht, hk⟩; obtain ⟨f, o, rfl, hf⟩ := ht.ex)
  exact ⟨rfl, ht, hk.mono (by simp)⟩
 | cons c r =>
  have HB := Qf7 q g B (c :: r) 1 w h (by simp) (by omega)
  rw [Qf9] at HB
  have HB' : Hid (Calls _ _ _ _ _) := HB
  have hc := c.toNat_lt
  clear HB
  by_cases h1 : c.toNat <= m
  ·have h1' : (c.toNat : Int) <= (m : Int) := by omega
   by_cases h2 : c.toNat <= r.length
   ·have HY : Hid (∀ W, Rst W q g B r -> Calls prog 199 #[.pointer (some ⟨q, 0, none⟩), .int .i64 (c.toNat : Nat)] W fun e w' => e = .returned (.slice (some ⟨g, 124 - r.length, none⟩) c.toNat (r.length + 4)) /\ Rst w' q g B (r.drop c.toNat) /\ Kept [q] W w') := fun W hW => Qf5 q g B r c.toNat W hW h2
    have hcv : ∀ W, Rst W q g B (r.drop c.toNat) -> (convert 60 9 (.slice (some ⟨g, 124 - r.length, none⟩) c.toNat (r.length + 4))).run prog W = .ok (.string ⟨(r.take c.toNat).toArray⟩) W := by
     intro W hW
     have hl : (r.take c.toNat).length = c.toNat := by rw [List.length_take]; omega
     have hpart : (B.drop (124 - r.length)).take c.toNat = r.take c.toNat := by
      have he := h.e
      have hr := h.r
      simp only [List.length_cons] at he hr
      have e1 : r = (B.drop (124 - r.length)).take r.length := by
       have e2 := congrArg (List.drop 1) he
       rw [List.drop_succ_cons, List.drop_zero, List.drop_take, List.drop_drop] at e2
       rw [show 124 - (r.length + 1) + 1 = 124 - r.length by omega, Nat.add_sub_cancel] at e2
       exact e2
      conv => rhs; rw [e1]
      rw [List.take_take, Nat.min_eq_left h2]
     have := run_convert_bytes_back (P := prog) W 60 9 5 ⟨g, 124 - r.length, none⟩ (r.length + 4) (r.take c.toNat) underlying60 underlying5 underlying9 (by
      intro j hj
      rw [add_lit, cell_of_row _ _ _ _ _ _ hW.b]
      have h3 := Q2E B (124 - r.length) c.toNat j (by rw [hpart]; exact hj)
      simp only [hpart] at h3
      exact h3)
     rw [hl] at this
     exact this
    have HCv : Hid _ := hcv
    have HT : Hid (Q3N m (c :: r) = some (⟨(r.take c.toNat).toArray⟩, r.drop c.toNat)) := by show _ = _; simp only [Q3N]; rw [if_pos ⟨h1, h2⟩]
    clear hcv h
    go_enter func198, ntmps198
    go_wp2_with (first
     | (go_at_call 200; refine HB'.out.mono ?_; rintro e w1 ⟨rfl, hr1, hk1⟩)
     | (go_at_call 188; refine (Qf2 _).mono ?_; rintro e w2 ⟨rfl, ew⟩; rw [ew]; clear ew w2)
     | (go_at_call 199; refine (HY.out _ hr1).mono ?_; rintro e w3 ⟨rfl, hr3, hk3⟩; have hcv3 := HCv.out w3 hr3))
    go_ret
    rw [HT.out]
    exact ⟨⟨rfl, hr3⟩, hk1.trans hk3⟩
   ·have HY : Hid (∀ W, Rst W q g B r -> Calls prog 199 #[.pointer (some ⟨q, 0, none⟩), .int .i64 (c.toNat : Nat)] W fun e w' => Thr 7 e w' /\ Kept [] W w') := fun W hW => Qf6 q g B r c.toNat W hW (by omega)
    have HT : Hid (Q3N m (c :: r) = none) := by show _ = _; simp only [Q3N]; rw [if_neg (by omega)]
    clear h
    go_enter func198, ntmps198
    go_wp2_with (first
     | (go_at_call 200; refine HB'.out.mono ?_; rintro e w1 ⟨rfl, hr1, hk1⟩)
     | (go_at_call 188; refine (Qf2 _).mono ?_; rintro e w2 ⟨rfl, ew⟩; rw [ew]; clear ew w2)
     | (go_at_call 199; refine (HY.out _ hr1).mono ?_; rintro e w3 ⟨ht, hk3⟩; obtain ⟨f, o, rfl, hf⟩ := ht.ex))
    refine ⟨rfl, ?_⟩
    rw [HT.out]
    exact ⟨ht, hk1.trans2 hk3 (by simp)⟩
  ·have h1' : ¬ (c.toNat : Int) <= (m : Int) := by omega
   have HT : Hid (Q3N m (c :: r) = none) := by show _ = _; simp only [Q3N]; rw [if_neg (by omega)]
   clear h
   go_enter func198, ntmps198
   go_wp2_with (first
    | (go_at_call 200; refine HB'.out.mono ?_; rintro e w1 ⟨rfl, hr1, hk1⟩)
    | (go_at_call 188; refine (Qf3 _).mono ?_; rintro e w3 ⟨ht, hk3⟩; obtain ⟨f, o, rfl, hf⟩ := ht.ex))
   refine ⟨rfl, ?_⟩
   rw [HT.out]
   exact ⟨ht, hk1.trans2 hk3 (by simp)⟩
end Go.Proofs.YtcklgafpgdhnaaaGreatDoor
