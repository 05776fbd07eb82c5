import Derived.Test.YtcklgafpgdhnaabGreatDoorPfbv
import Derived.Test.YtcklgafpgdhnaabGreatDoorPfbt
import Derived.Test.YtcklgafpgdhnaabGreatDoorPfbs
import Derived.Test.YtcklgafpgdhnaabGreatDoorPfbp
import Derived.Test.YtcklgafpgdhnaabGreatDoorPfah
import Derived.Test.YtcklgafpgdhnaabGreatDoorPfat
import Derived.Test.YtcklgafpgdhnaabGreatDoorPfbu
import Derived.Test.YtcklgafpgdhnaabGreatDoorPfac
import Derived.Test.YtcklgafpgdhnaabGreatDoorPfaa
import Derived.Test.YtcklgafpgdhnaabGreatDoorPfab
set_option maxRecDepth 100000
set_option maxHeartbeats 4000000
open Go.Proofs.Tryz
open Go.Act renaming put → zP
open List renaming getElem_toArray → zA, getElem_cons_succ → zB, getElem_cons_zero → zC, setIfInBounds_toArray → zD, set_cons_succ → zE, set_cons_zero → zF
namespace Go.Proofs.YtcklgafpgdhnaabGreatDoor
open Go.RowKit
theorem QgT (x v a n : Nat) (hd : Hd) (r : Value) (t : Tr) (ht : TW t) (hbig : (Q69 t).length <= 20000) (w : World) (h : Rec x v a n hd r t w) :
  Calls prog 11 #[.pointer (some ⟨x, 0, none⟩)] w fun e w' => ∃ vv, e = .returned (.tuple #[vv, .bool true]) /\ PL w' 52 vv (Q4p ⟨#[]⟩ QgC 1048576 (Q69 t)) /\ (∀ y, vv.ownBlock = some y -> w.heap.size <= y) /\ Kept [] w w' := by
 have HC : Hid (Calls _ _ _ _ _) := Qg6 x v a n hd r t ⟨#[]⟩ QgC 1048576 ht hbig w h
 unfold QgC at HC
 clear h
 go_enter func11, ntmps11
 go_wp2_with fail
 refine HC.out.mono ?_
 rintro e w1 ⟨vv, rfl, h1, h2, hk⟩
 have HP : Hid (PL _ _ _ _) := h1
 clear h1
 go_wp2
 go_quiet (fail)
 go_wp2
 go_ret2
 exact ⟨vv, rfl, HP.out.kept ((Kept.refl [] w1).drewN _) (by simp), h2, hk.drewN _⟩
theorem QgU (x v a n : Nat) (hd : Hd) (r : Value) (t : Tr) (ht : TW t) (hbig : (Q69 t).length <= 20000) (w : World) (h : Rec x v a n hd r t w) :
  Calls prog 11 #[.pointer (some ⟨x, 0, none⟩)] w fun e w' => ∃ vv, e = .returned (.tuple #[vv, .bool true]) /\ PL w' 52 vv (Q69 t) /\ (∀ y, vv.ownBlock = some y -> w.heap.size <= y) /\ Kept [] w w' := by
 refine (QgT x v a n hd r t ht hbig w h).mono ?_
 rintro e w' ⟨vv, h1, h2, h3, h4⟩
 refine ⟨vv, h1, ?_, h3, h4⟩
 have := QgO ht (by omega)
 unfold QgC at h2
 rw [this] at h2
 exact h2
theorem QgV (w : World) (x : Nat) (k : ByteArray) : Bx2 w.heap.size (w.heap.size + 1) x k ((((w.alloc (.cells #[.pointer (some ⟨x, 0, none⟩)] 24)).alloc (.cells #[.string k] 9)).alloc (.cells #[.string ⟨#[]⟩] 9)).alloc (.cells #[.bool false] 4)) /\ VB (w.heap.size + 1 + 1) (w.heap.size + 1 + 1 + 1) ⟨#[]⟩ false ((((w.alloc (.cells #[.pointer (some ⟨x, 0, none⟩)] 24)).alloc (.cells #[.string k] 9)).alloc (.cells #[.string ⟨#[]⟩] 9)).alloc (.cells #[.bool false] 4)) /\ Kept [] w ((((w.alloc (.cells #[.pointer (some ⟨x, 0, none⟩)] 24)).alloc (.cells #[.string k] 9)).alloc (.cells #[.string ⟨#[]⟩] 9)).alloc (.cells #[.bool false] 4)) := by
 have h2 := Qcx w x k
 have ka := fun (W : World) (o : Obj) => (Kept.refl [] W).alloc o
 have z2 := heap_alloc_new ((w.alloc (.cells #[.pointer (some ⟨x, 0, none⟩)] 24)).alloc (.cells #[.string k] 9)) (.cells #[.string ⟨#[]⟩] 9)
 have z3 := heap_alloc_new (((w.alloc (.cells #[.pointer (some ⟨x, 0, none⟩)] 24)).alloc (.cells #[.string k] 9)).alloc (.cells #[.string ⟨#[]⟩] 9)) (.cells #[.bool false] 4)
 simp only [World.size_alloc] at z2 z3
 exact ⟨(h2.k (ka _ _)).k (ka _ _), ⟨(ka _ _).get z2 (by simp), z3⟩, ((((Kept.refl [] w).alloc _).alloc _).alloc _).alloc _⟩
theorem QgW {k v : ByteArray} : ∀ {l : List Pr}, getL k l = some v -> ∃ p ∈ l, p.2 = v
 | [], h => by simp [getL] at h
 | p :: r, h => by
  unfold getL at h
  split at h
  ·cases h; exact ⟨p, by simp, rfl⟩
  ·obtain ⟨q, hq, e⟩ := QgW h
   exact ⟨q, by simp [hq], e⟩
theorem QgX (t : Tr) (ht : TW t) (k : ByteArray) : ((getL k (Q69 t)).getD ⟨#[]⟩).size <= 1000 := by
 cases h : getL k (Q69 t) with
 | none => show (⟨#[]⟩ : ByteArray).size <= 1000; decide
 | some v =>
  obtain ⟨p, hp, rfl⟩ := QgW h
  have := (ht.wf.keys p hp).2.2.2
  show p.2.size <= 1000
  omega
theorem QgY (x v a n : Nat) (c : Hd) (r : Value) (t : Tr) (k : ByteArray) (w : World) (h : Rec x v a n c r t w) (ht : TW t) (hk : Q52 k) :
  Calls prog 24 #[.pointer (some ⟨x, 0, none⟩), .string k] w fun e w' => ∃ err, e = .returned (.tuple #[.string ((getL k (Q69 t)).getD ⟨#[]⟩), .bool (getL k (Q69 t)).isSome, err]) /\ err = .nilIface /\ Kept [] w w' := by
 obtain ⟨hb, hv, k4⟩ := QgV w x k
 refine QfG x k _ _ (fun err _ => err = .nilIface) (fun _ _ _ h _ => h) (QgX t ht k) w fun b => ?_
 refine Qct b _ _ (fun _ _ => by kernel_rfl) [w.heap.size + 1 + 1, w.heap.size + 1 + 1 + 1] _ _ ?_ (fun W W' T h1 h2 h3 => h1.err h2 h3) fun W kW => ?_
 ·intro y hy
  simp at hy
  rw [World.size_alloc, World.size_alloc, World.size_alloc, World.size_alloc]
  omega
 ·exact QfF _ _ _ _ x v a n c r t k W (hb.k kW) (hv.k kW) (by omega) ((h.k k4).k kW) ht hk
def fstB : ByteArray := ⟨#[102, 105, 114, 115, 116]⟩
def ofaB : ByteArray := ⟨#[111, 102, 32, 97, 108, 108]⟩
def kys (K : Nat) : List ByteArray := fstB :: (List.range K).map ky
theorem QgZ (K : Nat) : (kys K).length = K + 1 := by simp [kys]
theorem Qh0 {j K : Nat} (h : j < K) : ky j ∈ kys K := List.mem_cons_of_mem _ (List.mem_map.2 ⟨j, List.mem_range.2 h, rfl⟩)
theorem Qh1 : ∀ j, j < 40 -> ky j ≠ fstB := by decide +kernel
theorem Rm.ky {n K : Nat} {t : Tr} (ht : TW t) (h : Am (kys K) (Q69 t)) (hK : 4 * K + 12 <= 3 * n) : Rm n (Q69 t) := by
 have := h.len ht
 rw [QgZ] at this
 unfold Rm
 omega
theorem Smm.pl {w0 w w' : World} {x a : Nat} {bv : Value} {n : Nat} {c : Hd} {t : Tr} {D : Dv} {vv : Value} {l : List Pr} (h : Smm w0 x a bv n c t D w) (hp : PL w 52 vv l) (k : Kept (ft x a bv) w w') : PL w' 52 vv l := by
 refine hp.kept k fun b hb hm => ?_
 obtain ⟨cs, fr, hh⟩ := hp.tag hb
 obtain ⟨v, r, hr⟩ := h.rc
 rcases List.mem_cons.1 hm with rfl | hm
 ·exact Q01 hr.row hh (by decide) rfl
 ·exact h.dq.no hh (by decide) hm
theorem Smm.all {w0 w : World} {x a : Nat} {bv : Value} {n : Nat} {c : Hd} {t : Tr} {D : Dv} (h : Smm w0 x a bv n c t D w) (ht : TW t) (hl : (Q69 t).length <= 20000) :
  Calls prog 11 #[.pointer (some ⟨x, 0, none⟩)] w fun e w' => ∃ vv, e = .returned (.tuple #[vv, .bool true]) /\ PL w' 52 vv (Q69 t) /\ (∀ y, vv.ownBlock = some y -> w.heap.size <= y) /\ Smm w0 x a bv n c t D w' /\ Kept [] w w' := by
 obtain ⟨v, r, hr⟩ := h.rc
 refine (QgU x v a n c r t ht hl w hr).mono ?_
 rintro e w' ⟨vv, h1, h2, h3, h4⟩
 exact ⟨vv, h1, h2, h3, h.k0 h4, h4⟩
theorem Smm.get {w0 w : World} {x a : Nat} {bv : Value} {n : Nat} {c : Hd} {t : Tr} {D : Dv} {k : ByteArray} (h : Smm w0 x a bv n c t D w) (ht : TW t) (hk : Q52 k) :
  Calls prog 24 #[.pointer (some ⟨x, 0, none⟩), .string k] w fun e w' => e = .returned (.tuple #[.string ((getL k (Q69 t)).getD ⟨#[]⟩), .bool (getL k (Q69 t)).isSome, .nilIface]) /\ Smm w0 x a bv n c t D w' /\ Kept [] w w' := by
 obtain ⟨v, r, hr⟩ := h.rc
 refine (QgY x v a n c r t k w hr ht hk).mono ?_
 rintro e w' ⟨err, h1, rfl, h3⟩
 exact ⟨h1, h.k0 h3, h3⟩
def BegP (l : List Pr) : Prop := Am (kys 20) l /\ getL fstB l = some ofaB
def BegR (n : Nat) (w : World) (e : Ending) (w' : World) : Prop := ∃ x a bv c D vv, e = .returned (.tuple #[.pointer (some ⟨a, 0, none⟩), .pointer (some ⟨x, 0, none⟩), vv]) /\ Smm w x a bv n c c.lt D w' /\ Sd n c c.lt D /\ c.s = 2 /\ PL w' 52 vv (Q69 c.lt) /\ (∀ y, vv.ownBlock = some y -> w.heap.size <= y) /\ Q69 c.lt ≠ [] /\ Am (kys 20) (Q69 c.lt) /\ c.tu <= 3 /\ getL fstB (Q69 c.lt) = some ofaB
theorem Qh2 (n : Nat) (z : Int) (w : World) (h8 : 40 <= n) (h4 : n <= 400) (hz1 : -9223372036854775808 <= z) (hz2 : z <= 9223372036854775807) :
  Calls prog 7 #[.int .i64 (n : Nat), .int .i64 z] w (BegR n w) := by
 have hnb : nb (n : Nat) = n := by unfold nb; rw [if_neg (by omega)]; omega
 have HN : Hid (∀ W, Calls _ _ _ W _) := fun W => Qgm (n : Nat) W
 rw [hnb] at HN
 have HP : Hid (∀ W, Calls _ _ _ W _) := fun W => QgA z 40 W (by omega) (by omega) hz1 hz2
 have hk40 : pk z 40 < 40 := Q1S z 40 (by omega)
 generalize hpk : pk z 40 = m0 at *
 have HZ : Hid (-9223372036854775808 <= z /\ z <= 9223372036854775807) := ⟨hz1, hz2⟩
 clear hz1 hz2 hpk
 go_enter func7, ntmps7
 go_wp2_with fail
 refine (HN.out _).mono ?_
 rintro e w1 ⟨a, g, rfl, hdev, ha, hg, hk1⟩
 have HF : Hid (Calls _ _ _ _ _) := Qgq hdev (by omega) h4 (by omega) (Qgo (n * 128) (by omega))
 clear hdev
 go_wp2_with fail
 refine HF.out.mono ?_
 rintro e w2 ⟨rfl, ⟨L', c', wr', hdev2, hst⟩, hk2⟩
 have K2 : Kept [] w w2 := hk1.trans2 hk2 (by intro q hq; simp at hq; rcases hq with rfl | rfl <;> exact Or.inr (by assumption))
 have HO : Hid (Calls _ _ _ _ _) := Qgu hdev2 (by omega) h4 hst K2 ha hg
 clear hdev2 hst hk2 hk1
 go_wp2_with fail
 refine HO.out.mono ?_
 rintro e w3 ⟨x, c, D, rfl, hm, hs, hfl, htu, _, _⟩
 have hrm0 : Rm n (Q4n fstB ofaB (Q69 c.lt)) := by
  rw [hfl]
  show 4 * 1 + 8 <= 3 * n
  omega
 have HPu : Hid (Calls _ _ _ _ _) := hm.put hs (k := fstB) (y := ofaB) ⟨by decide, by decide⟩ (by decide) (by omega) h4 hrm0
 have hs4 := hs.put (k := fstB) (y := ofaB) ⟨by decide, by decide⟩ (by decide)
 have hc4 := Q6f (Q67 fstB ofaB ⟨by decide, by decide⟩ (by decide)) c.lt hs.st.tw
 have hP4 : BegP (Q69 (chgT (Q4n fstB ofaB) fstB c.lt)) := by
  rw [hc4.2, hfl]
  exact ⟨fun p hp => by
   have : p = (fstB, ofaB) := by simpa [Q4n, Q4Y] using hp
   rw [this]; exact List.mem_cons_self .., by simp [Q4n, Q4Y, getL, Q4i]⟩
 have HE : Hid (Am (kys 20) (Q69 c.lt)) := by show Am _ _; rw [hfl]; exact fun p hp => by cases hp
 unfold fstB ofaB at HPu
 clear hm hc4 hrm0 hfl hs
 go_wp2_with fail
 refine HPu.out.mono ?_
 rintro e w4 ⟨rfl, hm4, hk4⟩
 have HCh : Hid (Calls _ _ _ _ _) := QgL BegP z (3 + m0) 20 hm4 hs4 (by omega) h4 hP4
  (fun l j v hv hj hl => ⟨hl.1.put (Qh0 hj), by rw [QgR (Qh1 j (by omega))]; exact hl.2⟩)
  (fun l j hj hl => ⟨hl.1.del, by rw [QgS (Qh1 j (by omega))]; exact hl.2⟩)
  (fun t ht hl => Rm.ky ht hl.1 (by omega)) (by omega) (by omega) (by omega) HZ.out.1 HZ.out.2
 rw [show ((3 + m0 : Nat) : Int) = 3 + (m0 : Int) by omega] at HCh
 clear hm4 hs4 hP4
 generalize hbv : (Value.slice (some ⟨g, 0, none⟩) n n) = bv at *
 go_wp2_with fail
 refine (HP.out _).mono ?_
 rintro e w5 ⟨rfl, hw5⟩
 obtain rfl := hw5.symm
 go_wp2_with fail
 refine HCh.out.mono ?_
 rintro e w6 ⟨rfl, t6, hm6, hs6, hP6, hk6⟩
 have hlen : (Q69 t6).length <= 21 := by have := hP6.1.len hs6.st.tw; rw [QgZ] at this; exact this
 have HA : Hid (Calls _ _ _ _ _) := hm6.all hs6.st.tw (by omega)
 have H6 : Hid (Sd n c t6 D /\ BegP (Q69 t6) /\ Kept [] w w6) := ⟨hs6, hP6, hm6.k⟩
 clear hm6 hs6 hP6 HCh HPu HO HF
 go_wp2_with fail
 refine HA.out.mono ?_
 rintro e w7 ⟨vv, rfl, hpl7, hfr7, hm7, hk7⟩
 have HS : Hid (Calls _ _ _ _ _) := hm7.sync H6.out.1 (by omega) h4 (Rm.ky H6.out.1.st.tw H6.out.2.1.1 (by omega)) (Rm.ky H6.out.1.st.ltw HE.out (by omega)) (by omega)
 have H7 : Hid (Smm w x a bv n c t6 D w7 /\ PL w7 52 vv (Q69 t6) /\ ∀ y, vv.ownBlock = some y -> w.heap.size <= y) := ⟨hm7, hpl7, fun y hy => by have h1 := hfr7 y hy; have h2 := H6.out.2.2.size; omega⟩
 obtain ⟨vp, vc, rfl⟩ := hpl7.shape
 clear hm7 hpl7 hfr7 HA
 go_wp2_with fail
 refine HS.out.mono ?_
 rintro e w8 ⟨rfl, hk8, c8, D8, hm8, hs8, hs2, _, hf8, htu1, htu2, _⟩
 have hpl8 := H7.out.1.pl H7.out.2.1 hk8
 have hgt8 : getL fstB (Q69 c8.lt) = some ofaB := by rw [hf8]; exact H6.out.2.1.2
 have HG : Hid (Calls _ _ _ _ _) := hm8.get hs8.st.tw (k := fstB) ⟨by decide, by decide⟩
 rw [hgt8] at HG
 have hA8 : Am (kys 20) (Q69 c8.lt) := by rw [hf8]; exact H6.out.2.1.1
 have hne8 : Q69 c8.lt ≠ [] := fun e => by rw [e] at hgt8; cases hgt8
 have hl0 : (((Q69 t6).length : Int) == 0) = false := by
  rw [beq_eq_false_iff_ne, <- hf8]
  intro e
  exact hne8 (List.eq_nil_of_length_eq_zero (by omega))
 have H8 : Hid (Sd n c8 c8.lt D8 /\ c8.s = 2 /\ PL w8 52 (.slice vp (Q69 t6).length vc) (Q69 t6) /\ Q69 c8.lt = Q69 t6 /\ Q69 c8.lt ≠ [] /\ Am (kys 20) (Q69 c8.lt) /\ c8.tu <= 3 /\ getL fstB (Q69 c8.lt) = some ofaB) := ⟨hs8, hs2, hpl8, hf8, hne8, hA8, by omega, hgt8⟩
 unfold fstB ofaB at HG
 clear hm8 hs8 hpl8 hgt8 hA8 hne8 hf8 HS
 go_wp2_with fail
 refine HG.out.mono ?_
 rintro e w9 ⟨rfl, hm9, hk9⟩
 have FIN : Hid (BegR n w (.returned (.tuple #[.pointer (some ⟨a, 0, none⟩), .pointer (some ⟨x, 0, none⟩), .slice vp (Q69 t6).length vc])) w9) := ⟨x, a, bv, c8, D8, _, rfl, hm9, H8.out.1, H8.out.2.1, by rw [H8.out.2.2.2.1]; exact H8.out.2.2.1.kept hk9 (by simp), H7.out.2.2, H8.out.2.2.2.2.1, H8.out.2.2.2.2.2.1, H8.out.2.2.2.2.2.2⟩
 clear hm9 HG
 go_wp2
 go_ret3
 exact FIN.out
theorem Qh3 : ((prog.fieldsOf 52).toList.map fun f => (f.type, f.offset)) = [(9, 0), (9, 1)] := by kernel_rfl
theorem Qh4 : ((prog.fieldsOf 52).toList.map fun f => decide (f.name = "_")) = [false, false] := by kernel_rfl
theorem undP : prog.underlying 52 = some (.struct (prog.fieldsOf 52)) := by kernel_rfl
theorem Qh5 : prog.stoodInHeld 52 = false := by kernel_rfl
theorem neqP (p q : Pr) (w : World) : (binOp .neq 52 (.agg #[.string p.1, .string p.2]) (.agg #[.string q.1, .string q.2])).run prog w = .ok (.bool (!(be p.1 q.1 && be p.2 q.2))) w := by
 rw [run_neq_struct, run_equalIn_struct w 9999 52 _ _ undP Qh5]
 have h1 := Qh3
 have h2 := Qh4
 generalize (prog.fieldsOf 52).toList = fs at h1 h2
 have hl : fs.length = 2 := by have := congrArg List.length h1; simpa using this
 obtain ⟨f, g, rfl⟩ : ∃ f g, fs = [f, g] := by
  rcases fs with _ | ⟨f, _ | ⟨g, _ | ⟨x, r⟩⟩⟩
  ·simp at hl
  ·simp at hl
  ·exact ⟨f, g, rfl⟩
  ·simp at hl
 ·simp only [List.map_cons, List.map_nil, List.cons.injEq, Prod.mk.injEq, and_true, decide_eq_false_iff_not] at h1 h2
  obtain ⟨⟨a1, a2⟩, b1, b2⟩ := h1
  have e1 : ∀ (x y : Value), (part 9 #[x, y] 0).run prog w = .ok x w := fun x y => by simp [part, isAgg, run_underlying underlying9]
  have e2 : ∀ (x y : Value), (part 9 #[x, y] 1).run prog w = .ok y w := fun x y => by simp [part, isAgg, run_underlying underlying9]
  unfold be
  cases c1 : (p.1.toList == q.1.toList) <;> cases c2 : (p.2.toList == q.2.toList) <;>
   simp [Op.eqFields, h2.1, h2.2, a1, a2, b1, b2, e1, e2, run_equalIn_string (P := prog) w _ 9 _ _ underlying9, c1, c2]
def KsS (ga gb : Nat) (ca cb : Array Value) (W : World) : Prop := W.heap[ga]? = some (.cells ca 52 (0, 0)) /\ W.heap[gb]? = some (.cells cb 52 (0, 0))
theorem Qh6 {o : Oper} {a : Act} {w : World} (x y : Operand) (ho : o.op = .binOp .neq 52 x y 52) (p q : Pr) (hx : a.eval x = .agg #[.string p.1, .string p.2]) (hy : a.eval y = .agg #[.string q.1, .string q.2]) (b : Bool) (hb : (!(be p.1 q.1 && be p.2 q.2)) = b) :
  (execOp a.eval o).run prog w = .ok (.value (.bool b)) w := by
 unfold execOp
 simp only [ho, hx, hy, Sem.run_bind, run_eqGuard_agg (P := prog) (w := w) .neq 52 x y _ _ (by kernel_rfl), neqP, Result.andThen_ok, Sem.run_pure, hb]
def KsI (w : World) (la lb : List Pr) (i : Value) (wr : World) : Prop := ∃ (j : Nat), j <= la.length /\ i = .int .i64 j /\ la.take j = lb.take j /\ Kept [] w wr
theorem Qh7 (va vb : Value) (la lb : List Pr) (w : World) (ha : PL w 52 va la) (hb : PL w 52 vb lb) (hl : la.length <= 50000) :
  Calls prog 16 #[va, vb] w fun e w' => e = .returned (.bool (decide (la = lb))) /\ Kept [] w w' := by
 obtain ⟨pa, ca, rfl⟩ := ha.shape
 obtain ⟨pb, cb, rfl⟩ := hb.shape
 by_cases hlen : la.length = lb.length
 ·have dl : ((la.length : Int) == (lb.length : Int)) = true := by rw [hlen]; simp
  go_enter func16, ntmps16
  go_wp2
  go_loopw [5] (fun i wr => KsI w la lb i wr) (fun i _ => la.length - (intOf i).toNat)
  case atStart => exact ⟨0, Nat.zero_le _, rfl, rfl, Kept.refl _ _⟩
  case round =>
   obtain ⟨j, hj, rfl, heq, hkr⟩ := hrel
   have HQ : Hid _ := heq
   clear heq
   by_cases hlt : j < la.length
   ·have hA := ha.kept hkr (by simp)
    have hB := hb.kept hkr (by simp)
    obtain ⟨ga, _, cura, e, hga, hcura⟩ := hA.at_ (by omega)
    cases e
    obtain ⟨gb, _, curb, e, hgb, hcurb⟩ := hB.at_ (by omega)
    cases e
    obtain ⟨p, hp⟩ : ∃ p, la[j]? = some p := ⟨_, List.getElem?_eq_getElem hlt⟩
    obtain ⟨q, hq⟩ : ∃ q, lb[j]? = some q := ⟨_, List.getElem?_eq_getElem (by omega)⟩
    have hltb : j < lb.length := by omega
    have hS : KsS ga gb cura curb wr := ⟨hga, hgb⟩
    by_cases hpq : p = q
    ·have HN : Hid (la.take (j + 1) = lb.take (j + 1)) := by
      have heq := HQ.out
      show _ = _
      rw [Q17 la j p hp, Q17 lb j q hq, heq, hpq]
     have hbv : (!(be p.1 q.1 && be p.2 q.2)) = false := by rw [hpq, Q4i, Q4i]; rfl
     go_wp2_with fail
     refine Q1j (KsS ga gb cura curb) (by kernel_rfl) ?_
     refine hu 0 (.slice (some ⟨ga, 0, none⟩) la.length ca) rfl (fun W hW => by rfl) hS ?_
     simp only [zP, zA, zC, zD, zE, zF]
     refine hu 1 (.int .i64 j) rfl (fun W hW => by rfl) hS ?_
     simp only [zP, zA, zB, zC, zD, zE, zF]
     refine hu 2 (.pointer (some ⟨ga, j * 2, none⟩)) rfl (fun W hW => Q0v 25 (.tmp 17) (.tmp 18) rfl ga 0 la.length ca j 2 rfl rfl 52 underlying25 sap hlt (j * 2) (by omega)) hS ?_
     simp only [zP, zA, zB, zC, zD, zE, zF]
     refine hu 3 (.agg #[.string p.1, .string p.2]) rfl (fun W hW => Q0l 52 (.tmp 19) rfl ⟨ga, j * 2, none⟩ rfl _ (PL.load _ hW.1 (hcura j p hp) underlying52 sap)) hS ?_
     simp only [zP, zA, zB, zC, zD, zE, zF]
     refine hu 4 (.slice (some ⟨gb, 0, none⟩) lb.length cb) rfl (fun W hW => by rfl) hS ?_
     simp only [zP, zA, zB, zC, zD, zE, zF]
     refine hu 5 (.int .i64 j) rfl (fun W hW => by rfl) hS ?_
     simp only [zP, zA, zB, zC, zD, zE, zF]
     refine hu 6 (.pointer (some ⟨gb, j * 2, none⟩)) rfl (fun W hW => Q0v 25 (.tmp 21) (.tmp 22) rfl gb 0 lb.length cb j 2 rfl rfl 52 underlying25 sap hltb (j * 2) (by omega)) hS ?_
     simp only [zP, zA, zB, zC, zD, zE, zF]
     refine hu 7 (.agg #[.string q.1, .string q.2]) rfl (fun W hW => Q0l 52 (.tmp 23) rfl ⟨gb, j * 2, none⟩ rfl _ (PL.load _ hW.2 (hcurb j q hq) underlying52 sap)) hS ?_
     simp only [zP, zA, zB, zC, zD, zE, zF]
     refine hu 8 (.bool false) rfl (fun W hW => Qh6 (.tmp 20) (.tmp 24) rfl p q rfl rfl _ hbv) hS ?_
     simp only [zP, zA, zB, zC, zD, zE, zF]
     refine wpAnyH_done (by kernel_rfl) ?_ _
     clear hcura hcurb hga hgb hS
     go_wp2
     go_roundw
     case rel => exact ⟨j + 1, by omega, by go_num, HN.out, by first | exact hkr | exact hkr.drew⟩
     case measure => simp [intOf]; omega
    ·have hne : ¬ la = lb := by
      intro e; subst e; rw [hp] at hq; cases hq; exact hpq rfl
     have hbv : (!(be p.1 q.1 && be p.2 q.2)) = true := by
      cases h1 : be p.1 q.1 <;> cases h2 : be p.2 q.2 <;> try rfl
      exact absurd (Prod.ext ((Q4g _ _).1 h1) ((Q4g _ _).1 h2)) hpq
     go_wp2_with fail
     refine Q1j (KsS ga gb cura curb) (by kernel_rfl) ?_
     refine hu 0 (.slice (some ⟨ga, 0, none⟩) la.length ca) rfl (fun W hW => by rfl) hS ?_
     simp only [zP, zA, zC, zD, zE, zF]
     refine hu 1 (.int .i64 j) rfl (fun W hW => by rfl) hS ?_
     simp only [zP, zA, zB, zC, zD, zE, zF]
     refine hu 2 (.pointer (some ⟨ga, j * 2, none⟩)) rfl (fun W hW => Q0v 25 (.tmp 17) (.tmp 18) rfl ga 0 la.length ca j 2 rfl rfl 52 underlying25 sap hlt (j * 2) (by omega)) hS ?_
     simp only [zP, zA, zB, zC, zD, zE, zF]
     refine hu 3 (.agg #[.string p.1, .string p.2]) rfl (fun W hW => Q0l 52 (.tmp 19) rfl ⟨ga, j * 2, none⟩ rfl _ (PL.load _ hW.1 (hcura j p hp) underlying52 sap)) hS ?_
     simp only [zP, zA, zB, zC, zD, zE, zF]
     refine hu 4 (.slice (some ⟨gb, 0, none⟩) lb.length cb) rfl (fun W hW => by rfl) hS ?_
     simp only [zP, zA, zB, zC, zD, zE, zF]
     refine hu 5 (.int .i64 j) rfl (fun W hW => by rfl) hS ?_
     simp only [zP, zA, zB, zC, zD, zE, zF]
     refine hu 6 (.pointer (some ⟨gb, j * 2, none⟩)) rfl (fun W hW => Q0v 25 (.tmp 21) (.tmp 22) rfl gb 0 lb.length cb j 2 rfl rfl 52 underlying25 sap hltb (j * 2) (by omega)) hS ?_
     simp only [zP, zA, zB, zC, zD, zE, zF]
     refine hu 7 (.agg #[.string q.1, .string q.2]) rfl (fun W hW => Q0l 52 (.tmp 23) rfl ⟨gb, j * 2, none⟩ rfl _ (PL.load _ hW.2 (hcurb j q hq) underlying52 sap)) hS ?_
     simp only [zP, zA, zB, zC, zD, zE, zF]
     refine hu 8 (.bool true) rfl (fun W hW => Qh6 (.tmp 20) (.tmp 24) rfl p q rfl rfl _ hbv) hS ?_
     simp only [zP, zA, zB, zC, zD, zE, zF]
     refine wpAnyH_done (by kernel_rfl) ?_ _
     clear hcura hcurb hga hgb hS
     go_wp2
     go_ret
     exact ⟨by simp [hne], by first | exact hkr | exact hkr.drew⟩
   ·have hge : ¬ (j : Int) < (la.length : Int) := by omega
    have heq := HQ.out
    have hab : la = lb := by
     rw [List.take_of_length_le (by omega), List.take_of_length_le (by omega)] at heq; exact heq
    clear heq
    go_wp2
    go_ret
    exact ⟨by simp, hkr⟩
 ·have dl : ((la.length : Int) == (lb.length : Int)) = false := by rw [beq_eq_false_iff_ne]; omega
  have hne : ¬ la = lb := fun e => hlen (by rw [e])
  go_enter func16, ntmps16
  go_wp2
  go_ret
  exact ⟨by simp [hne], Kept.refl _ _⟩
theorem Sd.pre {n : Nat} {c : Hd} {t : Tr} {D : Dv} (h : Sd n c t D) (hl : D.L.length = n * 128) (h8 : 8 <= n) (h4 : n <= 400) : Pre n c t D := ⟨h.st, h.q, h.hd, h.ro, h.tu, hl, h8, h4⟩
def Np (w : World) (S : List Nat) : Prop := ∀ y cs t fr, w.heap[y]? = some (.cells cs t fr) -> t = 52 \/ t = 3 -> y ∉ S
theorem Np.dq {w : World} {a n : Nat} {bv cv : Value} {D : Dv} (h : DQ w a bv n cv D) : Np w [a] := fun y cs t fr hh ht hm => by
 simp at hm
 subst hm
 exact h.no hh (by rcases ht with rfl | rfl <;> decide) (List.mem_cons_self ..)
theorem Np.x {w : World} {x v a n : Nat} {c : Hd} {r : Value} {t : Tr} (hr : Rec x v a n c r t w) : Np w [x] := fun y cs t fr hh ht hm => by
 simp at hm
 subst hm
 exact Q01 hr.row hh (by rcases ht with rfl | rfl <;> decide) rfl
end Go.Proofs.YtcklgafpgdhnaabGreatDoor
