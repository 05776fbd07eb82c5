import Derived.Test.YtcklgafpgdhnaaaGreatDoorPsag
import Derived.Test.YtcklgafpgdhnaaaGreatDoorPsbf
import Derived.Test.YtcklgafpgdhnaaaGreatDoorPsbl
import Derived.Test.YtcklgafpgdhnaaaGreatDoorPsbk
import Derived.Test.YtcklgafpgdhnaaaGreatDoorPsbh
import Derived.Test.YtcklgafpgdhnaaaGreatDoorPsbg
import Derived.Test.YtcklgafpgdhnaaaGreatDoorPsaf
import Derived.Test.YtcklgafpgdhnaaaGreatDoorPsar
import Derived.Test.YtcklgafpgdhnaaaGreatDoorPsaa
set_option maxRecDepth 100000
set_option maxHeartbeats 4000000
open Go.Proofs.Tryz
namespace Go.Proofs.YtcklgafpgdhnaaaGreatDoor
open Go.RowKit
theorem Qe0 : ∀ (l : List UInt8) (n : Nat), l.length < n -> l < List.replicate n 255
 | [], n + 1, _ => by rw [List.replicate_succ]; exact List.nil_lt_cons _ _
 | a :: l, n + 1, h => by
  rw [List.replicate_succ, List.cons_lt_cons_iff]
  by_cases e : a = 255
  ·exact Or.inr ⟨e, Qe0 l n (by simpa using h)⟩
  ·left
   have h1 : a.toNat < 256 := a.toNat_lt
   have h2 : a.toNat ≠ 255 := fun h => e (UInt8.toNat_inj.1 h)
   show a.toNat < (255 : UInt8).toNat
   have : (255 : UInt8).toNat = 255 := rfl
   omega
theorem Qe1 {α : Type} {f : α -> Bool} {l : List α} (h : ∀ x ∈ l, f x = true) : l.filter f = l := List.filter_eq_self.2 h
theorem Qe2 {t : Tr} (ht : TW t) (hl : (Q4V t).length <= 1048576) : Q3t ⟨#[]⟩ ⟨#[255, 255, 255, 255, 255, 255, 255, 255, 255]⟩ 1048576 (Q4V t) = Q4V t := by
 unfold Q3t
 rw [Qe1, List.take_of_length_le hl]
 intro p hp
 have hk := (WFN.keys ht.wf p hp).2
 unfold inR
 have h1 : bl p.1 ⟨#[]⟩ = false := by rw [Q3j]; simp
 have h2 : bl p.1 ⟨#[255, 255, 255, 255, 255, 255, 255, 255, 255]⟩ = true := by
  rw [Q3j]
  have h3 := hk.2.1
  have h4 : p.1.data.toList.length = p.1.size := Array.length_toList
  have := Qe0 p.1.data.toList 9 (by omega)
  exact decide_eq_true this
 rw [h1, h2]
 rfl
theorem Qe3 {k k' v : ByteArray} (h : be k k' = false) : ∀ (l : List Pr) (b : Bool), (Q3q k v b l).filter (fun p => be p.1 k') = l.filter fun p => be p.1 k'
 | [], b => by rw [Q3K]; cases b <;> simp [h]
 | p :: r, b => by
  rw [Q3L, List.filter_append, List.filter_append, Qe3 h r _]
  have h1 : (if (!b && !bl p.1 k) = true then [(k, v)] else []).filter (fun p : Pr => be p.1 k') = [] := by split <;> simp [h]
  rw [h1, List.nil_append]
  cases h2 : be p.1 k with
  | true =>
   have : be p.1 k' = false := by rw [(Q3k _ _).1 h2]; exact h
   simp [this]
  | false => cases h3 : be p.1 k' <;> simp [h3]
theorem Qe4 (k : ByteArray) : ∀ (l : List Pr), getL k l = ((l.filter fun p => be p.1 k).head?).map fun p => p.2
 | [] => rfl
 | p :: r => by
  simp only [getL, List.filter_cons]
  cases h : be p.1 k with
  | true => simp
  | false => simpa using Qe4 k r
theorem Qe5 {k k' v : ByteArray} {l : List Pr} (h : k ≠ k') : getL k' (Q3r k v l) = getL k' l := by
 rw [Qe4, Qe4]
 unfold Q3r
 rw [Qe3 ((Q3l _ _).2 h)]
theorem Qe6 {k k' : ByteArray} {l : List Pr} (h : k ≠ k') : getL k' (Q3s k l) = getL k' l := by
 rw [Qe4, Qe4]
 unfold Q3s
 rw [List.filter_filter]
 congr 3
 funext p
 cases h1 : be p.1 k' with
 | false => rfl
 | true =>
  have : be p.1 k = false := by rw [(Q3k _ _).1 h1]; exact (Q3l _ _).2 fun e => h e.symm
  simp [this]
theorem Qe7 (x v a n : Nat) (hd : Hd) (r : Value) (t : Tr) (ht : TW t) (hbig : (Q4V t).length <= 20000) (w : World) (h : Rec x v a n hd r t w) :
  Calls prog 18 #[.pointer (some ⟨x, 0, none⟩)] w fun e w' => ∃ vv, e = .returned (.tuple #[vv, .bool true]) /\ PL w' 41 vv (Q3t ⟨#[]⟩ Qdd 1048576 (Q4V t)) /\ (∀ y, vv.ownBlock = some y -> w.heap.size <= y) /\ Kept [] w w' := by
 have HC : Hid (Calls _ _ _ _ _) := QdZ x v a n hd r t ⟨#[]⟩ Qdd 1048576 ht hbig w h
 unfold Qdd at HC
 clear h
 go_enter func18, ntmps18
 go_wp2_with fail
 refine HC.out.mono ?_
 rintro e w1 ⟨vv, rfl, h1, h2, hk⟩
 have HP : Hid (PL _ _ _ _) := h1
 clear h1
 go_wp2
 go_quiet (fail)
 go_wp2
 go_ret2
 exact ⟨vv, rfl, HP.out.kept ((Kept.refl [] w1).drewN _) (by simp), h2, hk.drewN _⟩
theorem Qe8 (x v a n : Nat) (hd : Hd) (r : Value) (t : Tr) (ht : TW t) (hbig : (Q4V t).length <= 20000) (w : World) (h : Rec x v a n hd r t w) :
  Calls prog 18 #[.pointer (some ⟨x, 0, none⟩)] w fun e w' => ∃ vv, e = .returned (.tuple #[vv, .bool true]) /\ PL w' 41 vv (Q4V t) /\ (∀ y, vv.ownBlock = some y -> w.heap.size <= y) /\ Kept [] w w' := by
 refine (Qe7 x v a n hd r t ht hbig w h).mono ?_
 rintro e w' ⟨vv, h1, h2, h3, h4⟩
 refine ⟨vv, h1, ?_, h3, h4⟩
 have := Qe2 ht (by omega)
 unfold Qdd at h2
 rw [this] at h2
 exact h2
theorem Qe9 (w : World) (x : Nat) (k : ByteArray) : Bx2 w.heap.size (w.heap.size + 1) x k ((((w.alloc (.cells #[.pointer (some ⟨x, 0, none⟩)] 27)).alloc (.cells #[.string k] 9)).alloc (.cells #[.string ⟨#[]⟩] 9)).alloc (.cells #[.bool false] 4)) /\ VB (w.heap.size + 1 + 1) (w.heap.size + 1 + 1 + 1) ⟨#[]⟩ false ((((w.alloc (.cells #[.pointer (some ⟨x, 0, none⟩)] 27)).alloc (.cells #[.string k] 9)).alloc (.cells #[.string ⟨#[]⟩] 9)).alloc (.cells #[.bool false] 4)) /\ Kept [] w ((((w.alloc (.cells #[.pointer (some ⟨x, 0, none⟩)] 27)).alloc (.cells #[.string k] 9)).alloc (.cells #[.string ⟨#[]⟩] 9)).alloc (.cells #[.bool false] 4)) := by
 have h2 := Qbb w x k
 have ka := fun (W : World) (o : Obj) => (Kept.refl [] W).alloc o
 have z2 := heap_alloc_new ((w.alloc (.cells #[.pointer (some ⟨x, 0, none⟩)] 27)).alloc (.cells #[.string k] 9)) (.cells #[.string ⟨#[]⟩] 9)
 have z3 := heap_alloc_new (((w.alloc (.cells #[.pointer (some ⟨x, 0, none⟩)] 27)).alloc (.cells #[.string k] 9)).alloc (.cells #[.string ⟨#[]⟩] 9)) (.cells #[.bool false] 4)
 simp only [World.size_alloc] at z2 z3
 exact ⟨(h2.k (ka _ _)).k (ka _ _), ⟨(ka _ _).get z2 (by simp), z3⟩, ((((Kept.refl [] w).alloc _).alloc _).alloc _).alloc _⟩
theorem Qea {k v : ByteArray} : ∀ {l : List Pr}, getL k l = some v -> ∃ p ∈ l, p.2 = v
 | [], h => by simp [getL] at h
 | p :: r, h => by
  unfold getL at h
  split at h
  ·cases h; exact ⟨p, by simp, rfl⟩
  ·obtain ⟨q, hq, e⟩ := Qea h
   exact ⟨q, by simp [hq], e⟩
theorem Qeb (t : Tr) (ht : TW t) (k : ByteArray) : ((getL k (Q4V t)).getD ⟨#[]⟩).size <= 1000 := by
 cases h : getL k (Q4V t) with
 | none => show (⟨#[]⟩ : ByteArray).size <= 1000; decide
 | some v =>
  obtain ⟨p, hp, rfl⟩ := Qea h
  have := (ht.wf.keys p hp).2.2.2
  show p.2.size <= 1000
  omega
theorem Qec (x v a n : Nat) (c : Hd) (r : Value) (t : Tr) (k : ByteArray) (w : World) (h : Rec x v a n c r t w) (ht : TW t) (hk : Q3O k) :
  Calls prog 20 #[.pointer (some ⟨x, 0, none⟩), .string k] w fun e w' => ∃ err, e = .returned (.tuple #[.string ((getL k (Q4V t)).getD ⟨#[]⟩), .bool (getL k (Q4V t)).isSome, err]) /\ err = .nilIface /\ Kept [] w w' := by
 obtain ⟨hb, hv, k4⟩ := Qe9 w x k
 refine Qdz x k _ _ (fun err _ => err = .nilIface) (fun _ _ _ h _ => h) (Qeb t ht k) w fun b => ?_
 refine Qb7 b _ _ (fun _ _ => by kernel_rfl) [w.heap.size + 1 + 1, w.heap.size + 1 + 1 + 1] _ _ ?_ (fun W W' T h1 h2 h3 => h1.err h2 h3) fun W kW => ?_
 ·intro y hy
  simp at hy
  rw [World.size_alloc, World.size_alloc, World.size_alloc, World.size_alloc]
  omega
 ·exact Qdy _ _ _ _ x v a n c r t k W (hb.k kW) (hv.k kW) (by omega) ((h.k k4).k kW) ht hk
def fstB : ByteArray := ⟨#[102, 105, 114, 115, 116]⟩
def ofaB : ByteArray := ⟨#[111, 102, 32, 97, 108, 108]⟩
def kys (K : Nat) : List ByteArray := fstB :: (List.range K).map ky
theorem Qed (K : Nat) : (kys K).length = K + 1 := by simp [kys]
theorem Qee {j K : Nat} (h : j < K) : ky j ∈ kys K := List.mem_cons_of_mem _ (List.mem_map.2 ⟨j, List.mem_range.2 h, rfl⟩)
theorem Qef : ∀ j, j < 40 -> ky j ≠ fstB := by decide +kernel
theorem Am.sub {m m' : List ByteArray} {l : List Pr} (h : Am m l) (hs : ∀ k ∈ m, k ∈ m') : Am m' l := fun p hp => hs _ (h p hp)
theorem Qeg {K L : Nat} (h : K <= L) : ∀ k ∈ kys K, k ∈ kys L := by
 intro k hk
 rcases List.mem_cons.1 hk with rfl | hk
 ·exact List.mem_cons_self ..
 ·obtain ⟨j, hj, rfl⟩ := List.mem_map.1 hk
  exact Qee (Nat.lt_of_lt_of_le (List.mem_range.1 hj) h)
theorem Rm.ky {n K : Nat} {t : Tr} (ht : TW t) (h : Am (kys K) (Q4V t)) (hK : 4 * K + 12 <= 3 * n) : Rm n (Q4V t) := by
 have := h.len ht
 rw [Qed] at this
 unfold Rm
 omega
theorem Smm.pl {w0 w w' : World} {x a : Nat} {bv : Value} {n : Nat} {c : Hd} {t : Tr} {D : Dv} {vv : Value} {l : List Pr} (h : Smm w0 x a bv n c t D w) (hp : PL w 41 vv l) (k : Kept (ft x a bv) w w') : PL w' 41 vv l := by
 refine hp.kept k fun b hb hm => ?_
 obtain ⟨cs, fr, hh⟩ := hp.tag hb
 obtain ⟨v, r, hr⟩ := h.rc
 rcases List.mem_cons.1 hm with rfl | hm
 ·exact Q01 hr.row hh (by decide) rfl
 ·exact h.dq.no hh (by decide) hm
theorem Smm.all {w0 w : World} {x a : Nat} {bv : Value} {n : Nat} {c : Hd} {t : Tr} {D : Dv} (h : Smm w0 x a bv n c t D w) (ht : TW t) (hl : (Q4V t).length <= 20000) :
  Calls prog 18 #[.pointer (some ⟨x, 0, none⟩)] w fun e w' => ∃ vv, e = .returned (.tuple #[vv, .bool true]) /\ PL w' 41 vv (Q4V t) /\ (∀ y, vv.ownBlock = some y -> w.heap.size <= y) /\ Smm w0 x a bv n c t D w' /\ Kept [] w w' := by
 obtain ⟨v, r, hr⟩ := h.rc
 refine (Qe8 x v a n c r t ht hl w hr).mono ?_
 rintro e w' ⟨vv, h1, h2, h3, h4⟩
 exact ⟨vv, h1, h2, h3, h.k0 h4, h4⟩
theorem Smm.get {w0 w : World} {x a : Nat} {bv : Value} {n : Nat} {c : Hd} {t : Tr} {D : Dv} {k : ByteArray} (h : Smm w0 x a bv n c t D w) (ht : TW t) (hk : Q3O k) :
  Calls prog 20 #[.pointer (some ⟨x, 0, none⟩), .string k] w fun e w' => e = .returned (.tuple #[.string ((getL k (Q4V t)).getD ⟨#[]⟩), .bool (getL k (Q4V t)).isSome, .nilIface]) /\ Smm w0 x a bv n c t D w' /\ Kept [] w w' := by
 obtain ⟨v, r, hr⟩ := h.rc
 refine (Qec x v a n c r t k w hr ht hk).mono ?_
 rintro e w' ⟨err, h1, rfl, h3⟩
 exact ⟨h1, h.k0 h3, h3⟩
def BegP (l : List Pr) : Prop := Am (kys 20) l /\ getL fstB l = some ofaB
def BegR (n : Nat) (w : World) (e : Ending) (w' : World) : Prop := ∃ x a bv c D vv, e = .returned (.tuple #[.pointer (some ⟨a, 0, none⟩), .pointer (some ⟨x, 0, none⟩), vv]) /\ Smm w x a bv n c c.lt D w' /\ Sd n c c.lt D /\ c.s = 2 /\ PL w' 41 vv (Q4V c.lt) /\ (∀ y, vv.ownBlock = some y -> w.heap.size <= y) /\ Q4V c.lt ≠ [] /\ Am (kys 20) (Q4V c.lt) /\ c.tu <= 3 /\ getL fstB (Q4V c.lt) = some ofaB
theorem Qeh (n : Nat) (z : Int) (w : World) (h8 : 40 <= n) (h4 : n <= 400) (hz1 : -9223372036854775808 <= z) (hz2 : z <= 9223372036854775807) :
  Calls prog 16 #[.int .i64 (n : Nat), .int .i64 z] w (BegR n w) := by
 have hnb : nb (n : Nat) = n := by unfold nb; rw [if_neg (by omega)]; omega
 have HN : Hid (∀ W, Calls _ _ _ W _) := fun W => Qd0 (n : Nat) W
 rw [hnb] at HN
 have HP : Hid (∀ W, Calls _ _ _ W _) := fun W => Qdb z 40 W (by omega) (by omega) hz1 hz2
 have hk40 : pk z 40 < 40 := Q1S z 40 (by omega)
 generalize hpk : pk z 40 = m0 at *
 have HZ : Hid (-9223372036854775808 <= z /\ z <= 9223372036854775807) := ⟨hz1, hz2⟩
 clear hz1 hz2 hpk
 go_enter func16, ntmps16
 go_wp2_with fail
 refine (HN.out _).mono ?_
 rintro e w1 ⟨a, g, rfl, hdev, ha, hg, hk1⟩
 have HF : Hid (Calls _ _ _ _ _) := Qd4 hdev (by omega) h4 (by omega) (Qd2 (n * 128) (by omega))
 clear hdev
 go_wp2_with fail
 refine HF.out.mono ?_
 rintro e w2 ⟨rfl, ⟨L', c', wr', hdev2, hst⟩, hk2⟩
 have K2 : Kept [] w w2 := hk1.trans2 hk2 (by intro q hq; simp at hq; rcases hq with rfl | rfl <;> exact Or.inr (by assumption))
 have HO : Hid (Calls _ _ _ _ _) := Qd8 hdev2 (by omega) h4 hst K2 ha hg
 clear hdev2 hst hk2 hk1
 go_wp2_with fail
 refine HO.out.mono ?_
 rintro e w3 ⟨x, c, D, rfl, hm, hs, hfl, htu, _, _⟩
 have hrm0 : Rm n (Q3r fstB ofaB (Q4V c.lt)) := by
  rw [hfl]
  show 4 * 1 + 8 <= 3 * n
  omega
 have HPu : Hid (Calls _ _ _ _ _) := hm.put hs (k := fstB) (y := ofaB) ⟨by decide, by decide⟩ (by decide) (by omega) h4 hrm0
 have hs4 := hs.put (k := fstB) (y := ofaB) ⟨by decide, by decide⟩ (by decide)
 have hc4 := Q51 (Q4T fstB ofaB ⟨by decide, by decide⟩ (by decide)) c.lt hs.st.tw
 have hP4 : BegP (Q4V (chgT (Q3r fstB ofaB) fstB c.lt)) := by
  rw [hc4.2, hfl]
  exact ⟨fun p hp => by
   have : p = (fstB, ofaB) := by simpa [Q3r, Q3K] using hp
   rw [this]; exact List.mem_cons_self .., by simp [Q3r, Q3K, getL, Q3m]⟩
 have HE : Hid (Am (kys 20) (Q4V c.lt)) := by show Am _ _; rw [hfl]; exact fun p hp => by cases hp
 unfold fstB ofaB at HPu
 clear hm hc4 hrm0 hfl hs
 go_wp2_with fail
 refine HPu.out.mono ?_
 rintro e w4 ⟨rfl, hm4, hk4⟩
 have HCh : Hid (Calls _ _ _ _ _) := Qdm BegP z (3 + m0) 20 hm4 hs4 (by omega) h4 hP4
  (fun l j v hv hj hl => ⟨hl.1.put (Qee hj), by rw [Qe5 (Qef j (by omega))]; exact hl.2⟩)
  (fun l j hj hl => ⟨hl.1.del, by rw [Qe6 (Qef j (by omega))]; exact hl.2⟩)
  (fun t ht hl => Rm.ky ht hl.1 (by omega)) (by omega) (by omega) (by omega) HZ.out.1 HZ.out.2
 rw [show ((3 + m0 : Nat) : Int) = 3 + (m0 : Int) by omega] at HCh
 clear hm4 hs4 hP4
 generalize hbv : (Value.slice (some ⟨g, 0, none⟩) n n) = bv at *
 go_wp2_with fail
 refine (HP.out _).mono ?_
 rintro e w5 ⟨rfl, hw5⟩
 obtain rfl := hw5.symm
 go_wp2_with fail
 refine HCh.out.mono ?_
 rintro e w6 ⟨rfl, t6, hm6, hs6, hP6, hk6⟩
 have hlen : (Q4V t6).length <= 21 := by have := hP6.1.len hs6.st.tw; rw [Qed] at this; exact this
 have HA : Hid (Calls _ _ _ _ _) := hm6.all hs6.st.tw (by omega)
 have H6 : Hid (Sd n c t6 D /\ BegP (Q4V t6) /\ Kept [] w w6) := ⟨hs6, hP6, hm6.k⟩
 clear hm6 hs6 hP6 HCh HPu HO HF
 go_wp2_with fail
 refine HA.out.mono ?_
 rintro e w7 ⟨vv, rfl, hpl7, hfr7, hm7, hk7⟩
 have HS : Hid (Calls _ _ _ _ _) := hm7.sync H6.out.1 (by omega) h4 (Rm.ky H6.out.1.st.tw H6.out.2.1.1 (by omega)) (Rm.ky H6.out.1.st.ltw HE.out (by omega)) (by omega)
 have H7 : Hid (Smm w x a bv n c t6 D w7 /\ PL w7 41 vv (Q4V t6) /\ ∀ y, vv.ownBlock = some y -> w.heap.size <= y) := ⟨hm7, hpl7, fun y hy => by have h1 := hfr7 y hy; have h2 := H6.out.2.2.size; omega⟩
 obtain ⟨vp, vc, rfl⟩ := hpl7.shape
 clear hm7 hpl7 hfr7 HA
 go_wp2_with fail
 refine HS.out.mono ?_
 rintro e w8 ⟨rfl, hk8, c8, D8, hm8, hs8, hs2, _, hf8, htu1, htu2, _⟩
 have hpl8 := H7.out.1.pl H7.out.2.1 hk8
 have hgt8 : getL fstB (Q4V c8.lt) = some ofaB := by rw [hf8]; exact H6.out.2.1.2
 have HG : Hid (Calls _ _ _ _ _) := hm8.get hs8.st.tw (k := fstB) ⟨by decide, by decide⟩
 rw [hgt8] at HG
 have hA8 : Am (kys 20) (Q4V c8.lt) := by rw [hf8]; exact H6.out.2.1.1
 have hne8 : Q4V c8.lt ≠ [] := fun e => by rw [e] at hgt8; cases hgt8
 have hl0 : (((Q4V t6).length : Int) == 0) = false := by
  rw [beq_eq_false_iff_ne, <- hf8]
  intro e
  exact hne8 (List.eq_nil_of_length_eq_zero (by omega))
 have H8 : Hid (Sd n c8 c8.lt D8 /\ c8.s = 2 /\ PL w8 41 (.slice vp (Q4V t6).length vc) (Q4V t6) /\ Q4V c8.lt = Q4V t6 /\ Q4V c8.lt ≠ [] /\ Am (kys 20) (Q4V c8.lt) /\ c8.tu <= 3 /\ getL fstB (Q4V c8.lt) = some ofaB) := ⟨hs8, hs2, hpl8, hf8, hne8, hA8, by omega, hgt8⟩
 unfold fstB ofaB at HG
 clear hm8 hs8 hpl8 hgt8 hA8 hne8 hf8 HS
 go_wp2_with fail
 refine HG.out.mono ?_
 rintro e w9 ⟨rfl, hm9, hk9⟩
 have FIN : Hid (BegR n w (.returned (.tuple #[.pointer (some ⟨a, 0, none⟩), .pointer (some ⟨x, 0, none⟩), .slice vp (Q4V t6).length vc])) w9) := ⟨x, a, bv, c8, D8, _, rfl, hm9, H8.out.1, H8.out.2.1, by rw [H8.out.2.2.2.1]; exact H8.out.2.2.1.kept hk9 (by simp), H7.out.2.2, H8.out.2.2.2.2.1, H8.out.2.2.2.2.2.1, H8.out.2.2.2.2.2.2⟩
 clear hm9 HG
 go_wp2
 go_ret3
 exact FIN.out
theorem Qei : ((prog.fieldsOf 41).toList.map fun f => (f.type, f.offset)) = [(9, 0), (9, 1)] := by kernel_rfl
theorem Qej : ((prog.fieldsOf 41).toList.map fun f => decide (f.name = "_")) = [false, false] := by kernel_rfl
theorem undP : prog.underlying 41 = some (.struct (prog.fieldsOf 41)) := by kernel_rfl
theorem Qek : prog.stoodInHeld 41 = false := by kernel_rfl
theorem neqP (p q : Pr) (w : World) : (binOp .neq 41 (.agg #[.string p.1, .string p.2]) (.agg #[.string q.1, .string q.2])).run prog w = .ok (.bool (!(be p.1 q.1 && be p.2 q.2))) w := by
 rw [run_neq_struct, run_equalIn_struct w 9999 41 _ _ undP Qek]
 have h1 := Qei
 have h2 := Qej
 generalize (prog.fieldsOf 41).toList = fs at h1 h2
 have hl : fs.length = 2 := by have := congrArg List.length h1; simpa using this
 obtain ⟨f, g, rfl⟩ : ∃ f g, fs = [f, g] := by
  rcases fs with _ | ⟨f, _ | ⟨g, _ | ⟨x, r⟩⟩⟩
  ·simp at hl
  ·simp at hl
  ·exact ⟨f, g, rfl⟩
  ·simp at hl
 ·simp only [List.map_cons, List.map_nil, List.cons.injEq, Prod.mk.injEq, and_true, decide_eq_false_iff_not] at h1 h2
  obtain ⟨⟨a1, a2⟩, b1, b2⟩ := h1
  have e1 : ∀ (x y : Value), (part 9 #[x, y] 0).run prog w = .ok x w := fun x y => by simp [part, isAgg, run_underlying underlying9]
  have e2 : ∀ (x y : Value), (part 9 #[x, y] 1).run prog w = .ok y w := fun x y => by simp [part, isAgg, run_underlying underlying9]
  unfold be
  cases c1 : (p.1.toList == q.1.toList) <;> cases c2 : (p.2.toList == q.2.toList) <;>
   simp [Op.eqFields, h2.1, h2.2, a1, a2, b1, b2, e1, e2, run_equalIn_string (P := prog) w _ 9 _ _ underlying9, c1, c2]
def KsS (ga gb : Nat) (ca cb : Array Value) (W : World) : Prop := W.heap[ga]? = some (.cells ca 41 (0, 0)) /\ W.heap[gb]? = some (.cells cb 41 (0, 0))
theorem Qel {o : Oper} {a : Act} {w : World} (x y : Operand) (ho : o.op = .binOp .neq 41 x y 41) (p q : Pr) (hx : a.eval x = .agg #[.string p.1, .string p.2]) (hy : a.eval y = .agg #[.string q.1, .string q.2]) (b : Bool) (hb : (!(be p.1 q.1 && be p.2 q.2)) = b) :
  (execOp a.eval o).run prog w = .ok (.value (.bool b)) w := by
 unfold execOp
 simp only [ho, hx, hy, Sem.run_bind, run_eqGuard_agg (P := prog) (w := w) .neq 41 x y _ _ (by kernel_rfl), neqP, Result.andThen_ok, Sem.run_pure, hb]
theorem Srt.cons {p : Pr} {l : List Pr} (h : Srt (p :: l)) : (∀ q ∈ l, bl p.1 q.1 = true) /\ Srt l := List.pairwise_cons.1 h
theorem Qem : ∀ {l : List Pr} {i : Nat} {p : Pr}, Srt l -> l[i]? = some p -> getL p.1 l = some p.2
 | q :: r, 0, p, _, e => by
  cases e
  simp [getL, Q3m]
 | q :: r, i + 1, p, h, e => by
  have e : r[i]? = some p := e
  have h1 := h.cons.1 p (List.mem_of_getElem? e)
  have h2 : be q.1 p.1 = false := (Q3l _ _).2 fun e2 => by rw [e2, Q3n] at h1; cases h1
  simp only [getL, h2]
  exact Qem h.cons.2 e
theorem Qen (k : ByteArray) : ∀ (l : List Pr), getL k (Q3s k l) = none
 | [] => rfl
 | p :: r => by
  have ih := Qen k r
  cases h : be p.1 k with
  | true =>
   have : Q3s k (p :: r) = Q3s k r := by simp [Q3s, h]
   rw [this]; exact ih
  | false =>
   have : Q3s k (p :: r) = p :: Q3s k r := by simp [Q3s, h]
   rw [this]
   simp only [getL, h]
   exact ih
theorem Qeo : ∀ {l : List Pr} {i : Nat} {p : Pr}, Srt l -> l[i]? = some p -> (Q3s p.1 l).length + 1 = l.length
 | q :: r, 0, p, h, e => by
  cases e
  have h0 : Q3s q.1 (q :: r) = r := by
   have : r.filter (fun x => !be x.1 q.1) = r := Qe1 fun x hx => by
    have h1 := h.cons.1 x hx
    have : be x.1 q.1 = false := (Q3l _ _).2 fun e2 => by rw [e2, Q3n] at h1; cases h1
    simp [this]
   simp [Q3s, Q3m, this]
  rw [h0]; rfl
 | q :: r, i + 1, p, h, e => by
  have e : r[i]? = some p := e
  have h1 := h.cons.1 p (List.mem_of_getElem? e)
  have h2 : be q.1 p.1 = false := (Q3l _ _).2 fun e2 => by rw [e2, Q3n] at h1; cases h1
  have h3 : Q3s p.1 (q :: r) = q :: Q3s p.1 r := by simp [Q3s, h2]
  have := Qeo h.cons.2 e
  rw [h3]
  simp only [List.length_cons]
  omega
def cIn (lo hi : ByteArray) (l : List Pr) (i : Nat) : Nat := ((l.take i).filter (inR lo hi)).length
theorem Qep {lo hi : ByteArray} {l : List Pr} {i : Nat} {p : Pr} (h : l[i]? = some p) : cIn lo hi l (i + 1) = cIn lo hi l i + if inR lo hi p then 1 else 0 := by
 unfold cIn
 rw [Q17 l i p h, List.filter_append, List.length_append]
 congr 1
 cases hc : inR lo hi p <;> simp [hc]
theorem Qeq {lo hi : ByteArray} {l : List Pr} {i : Nat} {p : Pr} (h : l[i]? = some p) (hp : inR lo hi p = true) : (l.filter (inR lo hi))[cIn lo hi l i]? = some p := by
 have hi' : i < l.length := (List.getElem?_eq_some_iff.1 h).1
 have e : l = l.take i ++ p :: l.drop (i + 1) := by
  conv => lhs; rw [<- List.take_append_drop i l, List.drop_eq_getElem_cons hi', (List.getElem?_eq_some_iff.1 h).2]
 unfold cIn
 conv => lhs; rw [e]
 rw [List.filter_append, List.filter_cons, if_pos hp, List.getElem?_append_right (by rw [List.take_append_of_le_length (by rw [List.length_take]; omega), List.take_take]; simp)]
 rw [List.take_append_of_le_length (by rw [List.length_take]; omega), List.take_take]
 simp
theorem Qer {lo hi : ByteArray} {l : List Pr} {i M : Nat} {p : Pr} (h : l[i]? = some p) (hp : inR lo hi p = true) (hM : cIn lo hi l i < M) : (Q3t lo hi M l)[cIn lo hi l i]? = some p := by
 unfold Q3t
 rw [List.getElem?_take, if_pos hM]
 exact Qeq h hp
theorem Qes (lo hi : ByteArray) (l : List Pr) : cIn lo hi l l.length = (l.filter (inR lo hi)).length := by unfold cIn; rw [List.take_length]
theorem Qet (lo hi : ByteArray) (l : List Pr) (M : Nat) : (Q3t lo hi M l).length = min M (cIn lo hi l l.length) := by unfold Q3t; rw [List.length_take, Qes]
theorem Srt.at {l : List Pr} (h : Srt l) {i : Nat} {p q : Pr} (hp : l[i]? = some p) (hq : l[i + 1]? = some q) : bl p.1 q.1 = true := by
 obtain ⟨h1, e1⟩ := List.getElem?_eq_some_iff.1 hp
 obtain ⟨h2, e2⟩ := List.getElem?_eq_some_iff.1 hq
 have := List.pairwise_iff_getElem.1 h i (i + 1) h1 h2 (by omega)
 rw [e1, e2] at this
 exact this
theorem Qeu (z : Int) (k : Int) (hk : 1 <= k) (h1 : -9223372036854775808 <= z) (h2 : z <= 9223372036854775807) : -9223372036854775808 <= z.tdiv k /\ z.tdiv k <= 9223372036854775807 := by
 rcases Int.le_total 0 z with h | h
 ·rw [Int.tdiv_eq_ediv_of_nonneg h]
  have a1 := Int.ediv_nonneg h (show 0 <= k by omega)
  have a2 := Int.ediv_le_self k h
  omega
 ·have e : z.tdiv k = -((-z) / k) := by rw [<- Int.tdiv_eq_ediv_of_nonneg (show 0 <= -z by omega), Int.neg_tdiv]; omega
  rw [e]
  have a1 := Int.ediv_nonneg (show 0 <= -z by omega) (show 0 <= k by omega)
  have a2 := Int.ediv_le_self k (show 0 <= -z by omega)
  omega
end Go.Proofs.YtcklgafpgdhnaaaGreatDoor
