import Derived.Test.YtcklgafpgdhnaabGreatDoorPtai
import Derived.Test.YtcklgafpgdhnaabGreatDoorPtbx
import Derived.Test.YtcklgafpgdhnaabGreatDoorPtbs
import Derived.Test.YtcklgafpgdhnaabGreatDoorPtav
import Derived.Test.YtcklgafpgdhnaabGreatDoorPtbw
import Derived.Test.YtcklgafpgdhnaabGreatDoorPtah
import Derived.Test.YtcklgafpgdhnaabGreatDoorPtad
import Derived.Test.YtcklgafpgdhnaabGreatDoorPtap
import Derived.Shelf.Strconv.Itoa3
import Derived.Lib.ItoaLen
set_option maxRecDepth 100000
set_option maxHeartbeats 4000000
open List renaming getElem_toArray → zA, getElem_cons_succ → zB, getElem_cons_zero → zC, setIfInBounds_toArray → zD, set_cons_succ → zE, set_cons_zero → zF
namespace Go.Proofs.YtcklgafpgdhnaabGreatDoor
open Go.RowKit

theorem without_none (k : ByteArray) (l : List Pr) : (withoutL k l).filter (fun p => be p.1 k) = [] := by
 rw [List.filter_eq_nil_iff]
 intro p hp
 have := (List.mem_filter.1 hp).2
 simpa using this
theorem with_one (k v : ByteArray) (l : List Pr) : (withL k v l).filter (fun p => be p.1 k) = [(k, v)] := by
 unfold withL
 induction l with
 | nil => simp [withGo, be_refl]
 | cons p r ih =>
  simp only [withGo, Bool.not_false, Bool.true_and, Bool.false_or]
  cases hb : bl p.1 k with
  | true =>
   have hne : be p.1 k = false := (be_false _ _).2 fun e => by rw [e, bl_irrefl] at hb; cases hb
   simp only [Bool.not_true, hne]
   simp [hne, ih]
  | false =>
   simp only [Bool.not_false, withGo_true]
   rw [List.filter_append, List.filter_append, without_none]
   cases he : be p.1 k with
   | true => simp [be_refl]
   | false => simp [be_refl, he]
theorem get_first (k : ByteArray) : ∀ (l : List Pr), getL k l = ((l.filter fun p => be p.1 k).head?).map fun p => p.2
 | [] => rfl
 | p :: r => by
  simp only [getL, List.filter_cons]
  cases h : be p.1 k with
  | true => simp
  | false => simpa using get_first k r
theorem get_with (k v : ByteArray) (l : List Pr) : getL k (withL k v l) = some v := by rw [get_first, with_one]; rfl
theorem withL_len (k v : ByteArray) (l : List Pr) : (withL k v l).length ≤ l.length + 1 := by
 have key : ∀ (b : Bool) (l : List Pr), (withGo k v b l).length ≤ l.length + 1 := by
  intro b l
  induction l generalizing b with
  | nil => cases b <;> simp [withGo]
  | cons p r ih =>
   cases b with
   | true => rw [withGo_true]; exact Nat.le_succ_of_le (List.length_filter_le _ _)
   | false =>
    have := ih false
    have h2 : (withGo k v true r).length ≤ r.length := by rw [withGo_true]; exact List.length_filter_le _ _
    simp only [withGo]
    cases bl p.1 k <;> cases be p.1 k <;> simp <;> omega
 exact key false l
def vB : ByteArray := ⟨#[118]⟩
def kB : ByteArray := ⟨#[107]⟩
def kB0 : ByteArray := ⟨#[107, 0]⟩
theorem in_k (p : Pr) : inR kB kB0 p = be p.1 kB := by
 obtain ⟨⟨⟨x⟩⟩, v⟩ := p
 unfold inR
 rw [bl_def, bl_def]
 have hb : be (⟨⟨x⟩⟩ : ByteArray) kB = decide (x = [107]) := by
  cases h : decide (x = [107]) with
  | true =>
   have : x = [107] := of_decide_eq_true h
   subst this
   exact (be_iff _ _).2 rfl
  | false =>
   refine (be_false _ _).2 fun e => ?_
   have : x = [107] := by
    have := congrArg (fun b : ByteArray => b.data.toList) e
    exact this
   simp [this] at h
 show (!decide (x < [107]) && decide (x < [107, 0])) = be (⟨⟨x⟩⟩ : ByteArray) kB
 rw [hb]
 cases x with
 | nil => rfl
 | cons c r =>
  rcases Nat.lt_trichotomy c.toNat 107 with h | h | h
  ·have hc : c < 107 := h
   have : c ≠ 107 := fun e => by subst e; exact absurd h (by decide)
   simp [hc, this, List.cons_lt_cons_iff]
  ·have hc : c = 107 := UInt8.toNat_inj.1 h
   subst hc
   cases r with
   | nil => rfl
   | cons d r' =>
    have : ¬ (d < 0) := by intro hd; exact absurd hd (by simp [UInt8.lt_iff_toNat_lt])
    simp [List.cons_lt_cons_iff, this]
  ·have hc : ¬ c < 107 := fun hd => by have : c.toNat < 107 := hd; omega
   have hn : c ≠ 107 := fun e => by subst e; exact absurd h (by decide)
   simp [hc, hn, List.cons_lt_cons_iff]
theorem scan_with (v : ByteArray) (l : List Pr) : scanL kB kB0 5 (withL kB v l) = [(kB, v)] := by
 unfold scanL
 rw [show inR kB kB0 = fun p => be p.1 kB from funext in_k, with_one]
 rfl
theorem scan_srt {lo hi : ByteArray} {m : Nat} {l : List Pr} (h : Srt l) : Srt (scanL lo hi m l) := (List.Pairwise.sublist (List.take_sublist _ _) (List.Pairwise.filter _ h))
theorem Srt.at {l : List Pr} (h : Srt l) {i : Nat} {p q : Pr} (hp : l[i]? = some p) (hq : l[i + 1]? = some q) : bl p.1 q.1 = true := by
 obtain ⟨h1, e1⟩ := List.getElem?_eq_some_iff.1 hp
 obtain ⟨h2, e2⟩ := List.getElem?_eq_some_iff.1 hq
 have := List.pairwise_iff_getElem.1 h i (i + 1) h1 h2 (by omega)
 rw [e1, e2] at this
 exact this

end Go.Proofs.YtcklgafpgdhnaabGreatDoor

namespace Go.Proofs.YtcklgafpgdhnaabGreatDoor
open Go.RowKit

theorem vb_new (w : World) (x : Nat) (k : ByteArray) : Bx2 w.heap.size (w.heap.size + 1) x k ((((w.alloc (.cells #[.pointer (some ⟨x, 0, none⟩)] 24)).alloc (.cells #[.string k] 9)).alloc (.cells #[.string ⟨#[]⟩] 9)).alloc (.cells #[.bool false] 4)) ∧ VB (w.heap.size + 1 + 1) (w.heap.size + 1 + 1 + 1) ⟨#[]⟩ false ((((w.alloc (.cells #[.pointer (some ⟨x, 0, none⟩)] 24)).alloc (.cells #[.string k] 9)).alloc (.cells #[.string ⟨#[]⟩] 9)).alloc (.cells #[.bool false] 4)) ∧ Kept [] w ((((w.alloc (.cells #[.pointer (some ⟨x, 0, none⟩)] 24)).alloc (.cells #[.string k] 9)).alloc (.cells #[.string ⟨#[]⟩] 9)).alloc (.cells #[.bool false] 4)) := by
 have h2 := bx2_new w x k
 have ka := fun (W : World) (o : Obj) => (Kept.refl [] W).alloc o
 have z2 := heap_alloc_new ((w.alloc (.cells #[.pointer (some ⟨x, 0, none⟩)] 24)).alloc (.cells #[.string k] 9)) (.cells #[.string ⟨#[]⟩] 9)
 have z3 := heap_alloc_new (((w.alloc (.cells #[.pointer (some ⟨x, 0, none⟩)] 24)).alloc (.cells #[.string k] 9)).alloc (.cells #[.string ⟨#[]⟩] 9)) (.cells #[.bool false] 4)
 simp only [World.size_alloc] at z2 z3
 exact ⟨(h2.k (ka _ _)).k (ka _ _), ⟨(ka _ _).get z2 (by simp), z3⟩, ((((Kept.refl [] w).alloc _).alloc _).alloc _).alloc _⟩
theorem get_mem {k v : ByteArray} : ∀ {l : List Pr}, getL k l = some v → ∃ p ∈ l, p.2 = v
 | [], h => by simp [getL] at h
 | p :: r, h => by
  unfold getL at h
  split at h
  ·cases h; exact ⟨p, by simp, rfl⟩
  ·obtain ⟨q, hq, e⟩ := get_mem h
   exact ⟨q, by simp [hq], e⟩
theorem get_size (t : Tr) (ht : TW t) (k : ByteArray) : ((getL k (flatT t)).getD ⟨#[]⟩).size ≤ 1000 := by
 cases h : getL k (flatT t) with
 | none => show (⟨#[]⟩ : ByteArray).size ≤ 1000; decide
 | some v =>
  obtain ⟨p, hp, rfl⟩ := get_mem h
  have := (ht.wf.keys p hp).2.2.2
  show p.2.size ≤ 1000
  omega
theorem Get_yes (x v a n : Nat) (c : Hd) (r : Value) (t : Tr) (k : ByteArray) (w : World) (h : Rec x v a n c r t w) (ht : TW t) (hk : keyOk k) :
  Calls Tryz.prog 24 #[.pointer (some ⟨x, 0, none⟩), .string k] w fun e w' => ∃ err, e = .returned (.tuple #[.string ((getL k (flatT t)).getD ⟨#[]⟩), .bool (getL k (flatT t)).isSome, err]) ∧ err = .nilIface ∧ Kept [] w w' := by
 obtain ⟨hb, hv, k4⟩ := vb_new w x k
 refine Get_of x k _ _ (fun err _ => err = .nilIface) (fun _ _ _ h _ => h) (get_size t ht k) w fun b => ?_
 refine catch_yes b _ _ (fun _ _ => by kernel_rfl) [w.heap.size + 1 + 1, w.heap.size + 1 + 1 + 1] _ _ ?_ (fun W W' T h1 h2 h3 => h1.err h2 h3) fun W kW => ?_
 ·intro y hy
  simp at hy
  rw [World.size_alloc, World.size_alloc, World.size_alloc, World.size_alloc]
  omega
 ·exact Get1_yes _ _ _ _ x v a n c r t k W (hb.k kW) (hv.k kW) (by omega) ((h.k k4).k kW) ht hk
theorem Get_closed (x : Nat) (k : ByteArray) (w : World) (h : Shut x w) :
  Calls Tryz.prog 24 #[.pointer (some ⟨x, 0, none⟩), .string k] w fun e w' => ∃ err, e = .returned (.tuple #[.string ⟨#[]⟩, .bool false, err]) ∧ Chain w' err 5 ∧ Kept [] w w' := by
 obtain ⟨hb, hv, k4⟩ := vb_new w x k
 refine Get_of x k _ _ (fun err W => Chain W err 5) (fun _ _ _ h k => h.k k) (by decide) w fun b => ?_
 refine (catch_no b _ _ (fun _ _ => by kernel_rfl) 5 (VB (w.heap.size + 1 + 1) (w.heap.size + 1 + 1 + 1) ⟨#[]⟩ false) _ (fun W W' T h1 h2 h3 => h1.err h2 h3) fun W kW => ?_).mono fun e w' ⟨err, h1, h2, h3⟩ => ⟨err, h1, h2, h3.mono (by simp)⟩
 exact Get1_closed _ _ _ _ x k W (hb.k kW) (hv.k kW) (kW.get (k4.get h (by simp)) (by simp))
theorem Get_key (x v a n : Nat) (c : Hd) (r : Value) (t : Tr) (k : ByteArray) (w : World) (h : Rec x v a n c r t w) (hk : ¬ keyOk k) :
  Calls Tryz.prog 24 #[.pointer (some ⟨x, 0, none⟩), .string k] w fun e w' => ∃ err, e = .returned (.tuple #[.string ⟨#[]⟩, .bool false, err]) ∧ Chain w' err 1 ∧ Kept [] w w' := by
 obtain ⟨hb, hv, k4⟩ := vb_new w x k
 refine Get_of x k _ _ (fun err W => Chain W err 1) (fun _ _ _ h k => h.k k) (by decide) w fun b => ?_
 refine (catch_no b _ _ (fun _ _ => by kernel_rfl) 1 (VB (w.heap.size + 1 + 1) (w.heap.size + 1 + 1 + 1) ⟨#[]⟩ false) _ (fun W W' T h1 h2 h3 => h1.err h2 h3) fun W kW => ?_).mono fun e w' ⟨err, h1, h2, h3⟩ => ⟨err, h1, h2, h3.mono (by simp)⟩
 exact Get1_key _ _ _ _ x k W (hb.k kW) (hv.k kW) ((h.k k4).k kW) hk

end Go.Proofs.YtcklgafpgdhnaabGreatDoor

namespace Go.Proofs.YtcklgafpgdhnaabGreatDoor
open Go.RowKit

def TrueW (w : World) (e : Ending) (w' : World) : Prop := e = .returned (.bool true) ∧ Kept [] w w'
def lastB : ByteArray := ⟨#[255, 255, 255, 255, 255, 255, 255, 255, 255]⟩

theorem kall_any (x v a n : Nat) (hd : Hd) (r : Value) (t : Tr) (ht : TW t) (hbig : (flatT t).length ≤ 20000) (w : World) (h : Rec x v a n hd r t w) :
  Calls Tryz.prog 11 #[.pointer (some ⟨x, 0, none⟩)] w fun e w' => ∃ vv, e = .returned (.tuple #[vv, .bool true]) ∧ PL w' 52 vv (scanL ⟨#[]⟩ lastB 1048576 (flatT t)) ∧ (∀ y, vv.ownBlock = some y → w.heap.size ≤ y) ∧ Kept [] w w' := by
 have HC : Hid (Calls _ _ _ _ _) := Scan_open x v a n hd r t ⟨#[]⟩ lastB 1048576 ht hbig w h
 unfold lastB at HC
 clear h
 go_enter Tryz.func11, Tryz.ntmps11
 go_wp2_with fail
 refine HC.out.mono ?_
 rintro e w1 ⟨vv, rfl, h1, h2, hk⟩
 have HP : Hid (PL _ _ _ _) := h1
 clear h1
 go_wp2
 go_quiet (fail)
 go_wp2
 go_ret2
 exact ⟨vv, rfl, HP.out.kept ((Kept.refl [] w1).drewN _) (by simp), h2, hk.drewN _⟩

def WdI (w0 : World) (m : Nat) (i : Value) (wr : World) : Prop := ∃ j : Nat, 1 ≤ j ∧ j ≤ max 1 m ∧ i = .int .i64 j ∧ Kept [] w0 wr

theorem Wild_any (x : Int) (s : ByteArray) (z : Int) (w : World) (hx1 : -9223372036854775808 ≤ x) (hx2 : x ≤ 9223372036854775807) (hG : Glob w) (hT : Tab w) :
  Calls Tryz.prog 6 #[.int .i64 x, .string s, .int .i64 z] w (TrueW w) := by
 by_cases hs : 60000 < s.size
 ·have hs' : (60000 : Int) < (s.size : Int) := by omega
  go_enter Tryz.func6, Tryz.ntmps6
  go_wp2
  go_ret
  exact ⟨rfl, Kept.refl _ _⟩
 have hs' : ¬ (60000 : Int) < (s.size : Int) := by omega
 have HP : Hid (∀ W, Calls _ _ _ W _) := fun W => kpick_any x 420 W (by omega) (by omega) hx1 hx2
 have HL : Hid (∀ W, Calls _ _ _ W _) := fun W => Laid_any (pk x 420 : Nat) s W (by omega)
 have hn1 := nb_lt (pk x 420 : Nat)
 generalize hN : nb (pk x 420 : Nat) = n at *
 have HGT : Hid (Glob w ∧ Tab w) := ⟨hG, hT⟩
 clear hG hT
 go_enter Tryz.func6, Tryz.ntmps6
 go_wp2_with (first
  | (go_at_call 10; refine (HP.out _).mono ?_; rintro e w1 ⟨rfl, hw1⟩; obtain rfl := hw1.symm)
  | (go_at_call 22; refine (HL.out _).mono ?_; rintro e w2 ⟨a, bv, rfl, hnew⟩))
 obtain ⟨hd, ha, ⟨g, rfl, hg⟩, hk⟩ := hnew
 have hGl := HGT.out.1.lt
 have hG2 := HGT.out.1.kept hk (by simp)
 have hT2 := HGT.out.2.k hk
 by_cases hn : 8 ≤ n ∧ n ≤ 400
 ·refine (POpen_good a _ n _ _ _ hd hn.1 hn.2 (by simp [Dv.new]) hT2 ⟨rfl, rfl, rfl⟩).mono ?_
  rintro e w3 ⟨⟨D3, hd3⟩, ⟨err, rfl, hc, hk3⟩ | ⟨y, v, c, r, t, rfl, hr, hcs, ht, hbig, hy, hk3⟩⟩
  ·have hG3 : Glob w3 := hG2.kept hk3 (by simp; omega)
   have K3 : Kept [] w w3 := hk.trans2 hk3 (by intro q hq; simp at hq; subst hq; exact Or.inr ha)
   have HTd : Hid (Calls _ _ _ _ _) := PTold_chain err 7 w3 hG3 hc
   have HB : Hid (∀ W, Kept [] w3 W → Calls _ _ _ W _) := fun W kW => Blocks_any a _ n n _ _ W (hd3.k0 kW).d
   obtain ⟨f1, f2, o1, o2, rfl, h1, h2⟩ := hc.ex
   have h8 : (8 : Int) ≤ n := by omega
   have h4 : (n : Int) ≤ 400 := by omega
   clear h1 h2 hc hd3 hG3 hd hG2 hT2
   go_wp2_with (first
    | (go_at_call 19; refine HTd.out.mono ?_; rintro e w4 ⟨rfl, hk4⟩)
    | (go_at_call 23; refine (HB.out w4 hk4).mono ?_; rintro e w5 ⟨rfl, hw5⟩; obtain rfl := hw5.symm))
   go_ret
   exact ⟨rfl, K3.trans hk4⟩
  ·have hG3 : Glob w3 := hG2.kept hk3 (by simp; omega)
   have K3 : Kept [] w w3 := hk.trans2 hk3 (by intro q hq; simp at hq; subst hq; exact Or.inr ha)
   have HA : Hid (∀ W, Kept [] w3 W → Calls _ _ _ W _) := fun W kW => kall_any y v a n c r t ht (by omega) W (hr.k kW)
   have HR : Hid (Rec y v a n c r t w3 ∧ Glob w3 ∧ w.heap.size ≤ y) := ⟨hr, hG3, by have := hk.size; omega⟩
   have hsrt : Srt (scanL ⟨#[]⟩ lastB 1048576 (flatT t)) := scan_srt (WFN.srt ht.wf)
   have hlen : (scanL ⟨#[]⟩ lastB 1048576 (flatT t)).length ≤ 20000 := by
    unfold scanL
    have h1 := List.length_filter_le (inR ⟨#[]⟩ lastB) (flatT t)
    rw [List.length_take]
    omega
   clear hr hG3 hd hd3 hG2 hT2 hk3 hk
   go_wp2_with (first
    | (go_at_call 19; refine (PTold_nil _).mono ?_; rintro e w4 ⟨rfl, hw4⟩; obtain rfl := hw4.symm)
    | (go_at_call 11; refine (HA.out w3 (Kept.refl _ _)).mono ?_; rintro e w5 ⟨vv, rfl, hpl, hvv, hk5⟩; obtain ⟨pv, pc, rfl⟩ := hpl.shape))
   generalize hl1 : scanL ⟨#[]⟩ lastB 1048576 (flatT t) = l1 at *
   have K5 : Kept [] w w5 := K3.trans hk5
   have HR5 : Hid (Rec y v a n c r t w5 ∧ Glob w5 ∧ w.heap.size ≤ y) := ⟨HR.out.1.k hk5, HR.out.2.1.kept hk5 (by simp), HR.out.2.2⟩
   have HPL : Hid (PL w5 52 (.slice pv l1.length pc) l1) := hpl
   have HSR : Hid (Srt l1) := hsrt
   clear hpl HR HA hvv hsrt hl1 hk5
   go_loopw [14] (fun i wr => WdI w5 l1.length i wr) (fun i _ => l1.length + 1 - (intOf i).toNat)
   case atStart => exact ⟨1, Nat.le_refl _, by omega, rfl, Kept.refl _ _⟩
   case round =>
    obtain ⟨j, hj1, hj2, rfl, hkr⟩ := hrel
    by_cases hlt : j < l1.length
    ·have hA := HPL.out.kept hkr (by simp)
     obtain ⟨ga, _, cura, e, hga, hcura⟩ := hA.at_ (by omega)
     cases e
     obtain ⟨p, hp⟩ : ∃ p, l1[j - 1]? = some p := ⟨_, List.getElem?_eq_getElem (by omega)⟩
     obtain ⟨q, hq⟩ : ∃ q, l1[j]? = some q := ⟨_, List.getElem?_eq_getElem hlt⟩
     have hless : bl p.1 q.1 = true := HSR.out.at hp (by rw [show j - 1 + 1 = j by omega]; exact hq)
     have a0 := cellAt (j := (j - 1) * 2) hga (hcura (j - 1) p hp).1
     have q0 := cellAt (j := j * 2) hga (hcura j q hq).1
     clear hA hcura
     have hj0 : ((j : Int) - 1) = ((j - 1 : Nat) : Int) := by omega
     have hixa : (Instr.indexAt 25 (.slice (some ⟨ga, 0, none⟩) l1.length pc) (.int .i64 ((j : Int) - 1))).run Tryz.prog wr = .ok (.pointer (some ⟨ga, (j - 1) * 2, none⟩)) wr := by
      rw [hj0]
      exact run_index 25 ga 0 l1.length pc (j - 1) 2 52 Tryz.underlying25 sap (by omega) _ (by omega)
     have hixb : (Instr.indexAt 25 (.slice (some ⟨ga, 0, none⟩) l1.length pc) (.int .i64 j)).run Tryz.prog wr = .ok (.pointer (some ⟨ga, j * 2, none⟩)) wr := run_index 25 ga 0 l1.length pc j 2 52 Tryz.underlying25 sap hlt _ (by omega)
     clear hj0
     unfold bl at hless
     go_wp2
     go_quiet (fail)
     go_wp2
     go_roundw
     case rel => exact ⟨j + 1, by omega, by omega, by go_num, hkr.drewN _⟩
     case measure => simp [intOf]; omega
    ·have hge : ¬ (j : Int) < (l1.length : Int) := by omega
     have hRr : Rec y v a n c r t wr := HR5.out.1.k hkr
     have hGr : Glob wr := HR5.out.2.1.kept hkr (by simp)
     have hkk : keyOk kB := ⟨by decide, by decide⟩
     have hvk : vB.size ≤ 12 := by decide
     obtain ⟨htw, hfl⟩ := chgT_ok (op_with kB vB hkk hvk) t ht
     have hwl := withL_len kB vB (flatT t)
     have KR : Kept [] w wr := K5.trans hkr
     by_cases hroom : (n - 2) / 2 < cntT (chgT (withL kB vB) kB t)
     ·have hcb : cntT (chgT (withL kB vB) kB t) ≤ 1000000 := by
       have := cntT_le _ htw
       rw [hfl] at this
       omega
      have HPt : Hid (Calls _ _ _ _ _) := Put_room y v a n c r t kB vB wr hRr (Or.inl hcs) ht hkk hvk hn.1 hn.2 hcb hroom
      have HGe : Hid (∀ W, Kept [] wr W → Calls _ _ _ W _) := fun W kW => Get_yes y v a n c r t kB W (hRr.k kW) ht hkk
      have HSc : Hid (∀ W, Kept [] wr W → Calls _ _ _ W _) := fun W kW => Scan_open y v a n c r t kB kB0 5 ht (by omega) W (hRr.k kW)
      unfold kB at HPt HGe HSc
      unfold vB at HPt
      unfold kB0 at HSc
      clear hroom htw hfl hwl hRr hcb
      go_wp2_with fail
      refine HPt.out.mono ?_
      rintro e w6 ⟨err, rfl, ⟨hch, _⟩, hk6⟩
      have hG6 := hGr.kept hk6 (by simp)
      have HTd : Hid (∀ W, Kept [] w6 W → Calls _ _ _ W _) := fun W kW => PTold_chain err 3 W (hG6.kept kW (by simp)) (hch.k kW)
      obtain ⟨f1, f2, o1, o2, rfl, h1, h2⟩ := hch.ex
      clear h1 h2 hch hG6 hGr
      go_wp2_with fail
      refine (HGe.out w6 hk6).mono ?_
      rintro e w7 ⟨err7, rfl, rfl, hk7⟩
      go_wp2_with fail
      refine (HSc.out w7 (hk6.trans hk7)).mono ?_
      rintro e w8 ⟨v8, rfl, hpl8, _, hk8⟩
      go_wp2_with fail
      refine (HTd.out w8 (hk7.trans hk8)).mono ?_
      rintro e w9 ⟨rfl, hk9⟩
      go_wp2
      go_ret
      exact ⟨rfl, (((KR.trans hk6).trans hk7).trans hk8).trans hk9⟩
     ·have HPt : Hid (Calls _ _ _ _ _) := Put_yes y v a n c r t kB vB wr hRr (Or.inl hcs) ht hkk hvk hn.1 hn.2 hroom
      have HGe : Hid (∀ r' W, Rec y v a n c r' (chgT (withL kB vB) kB t) W → Calls _ _ _ W _) := fun r' W hr' => Get_yes y v a n c r' _ kB W hr' htw hkk
      have HSc : Hid (∀ r' W, Rec y v a n c r' (chgT (withL kB vB) kB t) W → Calls _ _ _ W _) := fun r' W hr' => Scan_open y v a n c r' _ kB kB0 5 htw (by rw [hfl]; omega) W hr'
      rw [hfl] at HGe HSc
      rw [get_with] at HGe
      rw [show mst 5 = 5 from rfl, scan_with] at HSc
      unfold kB vB at HPt HGe HSc
      unfold kB0 at HSc
      clear hroom htw hfl hwl hRr
      go_wp2_with fail
      refine HPt.out.mono ?_
      rintro e w6 ⟨err, rfl, ⟨rfl, r', hr'⟩, hk6⟩
      have HR6 : Hid (Rec _ _ _ _ _ _ _ _) := hr'
      clear hr'
      go_wp2_with fail
      refine (HGe.out r' w6 HR6.out).mono ?_
      rintro e w7 ⟨err7, rfl, rfl, hk7⟩
      go_wp2_with fail
      refine (HSc.out r' w7 (HR6.out.k hk7)).mono ?_
      rintro e w8 ⟨v8, rfl, hpl8, _, hk8⟩
      obtain ⟨gs, cs8, cur8, e8, hgs, hcur8⟩ := hpl8.at_ (by simp)
      subst e8
      have q1 := cellAt (j := 0 * 2 + 1) hgs (hcur8 0 _ rfl).2
      have hix : (Instr.indexAt 25 (.slice (some ⟨gs, 0, none⟩) 1 cs8) (.int .i64 0)).run Tryz.prog w8 = .ok (.pointer (some ⟨gs, 0, none⟩)) w8 := run_index 25 gs 0 1 cs8 0 2 52 Tryz.underlying25 sap (by omega) _ (by omega)
      have KF : Kept [] w w8 := (((KR.trans2 hk6 (by intro q hq; simp at hq; subst hq; exact Or.inr HR5.out.2.2)).trans hk7).trans hk8)
      clear hpl8 hcur8 hgs
      go_wp2
      go_ret
      exact ⟨rfl, KF⟩
 ·refine (POpen_of a w2 _ ((Open_no a n n _ _ _ w2 hd.d (by omega)).mono (fun e w' (hh : ∃ err, e = .returned (.tuple #[.pointer none, err]) ∧ Chain w' err 8 ∧ Kept [] w2 w') => (by obtain ⟨err, h1, h2, h3⟩ := hh; exact ⟨_, _, h1, err, h1, h2, h3⟩ : ∃ v u, e = .returned (.tuple #[v, u]) ∧ ∃ err, e = .returned (.tuple #[.pointer none, err]) ∧ Chain w' err 8 ∧ Kept [] w2 w')))).mono ?_
  rintro e w3 ⟨err, rfl, hc, hk3⟩
  have hG3 : Glob w3 := hG2.kept hk3 (by simp)
  have K3 : Kept [] w w3 := hk.trans hk3
  have HTd : Hid (Calls _ _ _ _ _) := PTold_chain err 8 w3 hG3 hc
  have HB : Hid (∀ W, Kept [] w3 W → Calls _ _ _ W _) := fun W kW => Blocks_any a _ n n _ _ W ((hd.k0 hk3).k0 kW).d
  obtain ⟨f1, f2, o1, o2, rfl, h1, h2⟩ := hc.ex
  clear h1 h2 hc hG3 hd hG2 hT2
  by_cases h8 : 8 ≤ n
  ·have h8' : (8 : Int) ≤ n := by omega
   have h4' : decide ((n : Int) ≤ 400) = false := decide_eq_false (by omega)
   go_wp2_with (first
    | (go_at_call 19; refine HTd.out.mono ?_; rintro e w4 ⟨rfl, hk4⟩)
    | (go_at_call 23; refine (HB.out w4 hk4).mono ?_; rintro e w5 ⟨rfl, hw5⟩; obtain rfl := hw5.symm))
   go_ret
   exact ⟨rfl, K3.trans hk4⟩
  ·have h8' : ¬ (8 : Int) ≤ n := by omega
   go_wp2_with (first
    | (go_at_call 19; refine HTd.out.mono ?_; rintro e w4 ⟨rfl, hk4⟩)
    | (go_at_call 23; refine (HB.out w4 hk4).mono ?_; rintro e w5 ⟨rfl, hw5⟩; obtain rfl := hw5.symm))
   go_ret
   exact ⟨rfl, K3.trans hk4⟩

end Go.Proofs.YtcklgafpgdhnaabGreatDoor

namespace Go.Proofs.YtcklgafpgdhnaabGreatDoor
open Go.Shelf Go.RowKit

def laysItoa_ren : Go.Shelf.Ren := ⟨fun | 171 => 93 | 243 => 115 | 246 => 127 | 283 => 133 | 284 => 134 | 285 => 135 | 286 => 136 | 129 => 144 | 317 => 143 | 318 => 145 | 319 => 146 | 320 => 147 | 337 => 151 | 338 => 152 | n => n, fun | 3 => 3 | 9 => 9 | 2 => 2 | 4 => 4 | 171 => 213 | 0 => 0 | 53 => 69 | 37 => 83 | 5 => 5 | 173 => 215 | 212 => 225 | 51 => 209 | 20 => 20 | 213 => 226 | 46 => 207 | 232 => 157 | 233 => 231 | n => n, fun | 17 => 2 | 18 => 3 | 19 => 4 | n => n⟩
theorem laysItoa : Go.Proofs.LaysM.n171 Tryz.prog laysItoa_ren := {
 mixed := by kernel_rfl
 f129 := Tryz.func144.trans (congrArg some (by kernel_rfl))
 f171 := Tryz.func93.trans (congrArg some (by kernel_rfl))
 f243 := Tryz.func115.trans (congrArg some (by kernel_rfl))
 f246 := Tryz.func127.trans (congrArg some (by kernel_rfl))
 f283 := Tryz.func133.trans (congrArg some (by kernel_rfl))
 f284 := Tryz.func134.trans (congrArg some (by kernel_rfl))
 f285 := Tryz.func135.trans (congrArg some (by kernel_rfl))
 f286 := Tryz.func136.trans (congrArg some (by kernel_rfl))
 f317 := Tryz.func143.trans (congrArg some (by kernel_rfl))
 f318 := Tryz.func145.trans (congrArg some (by kernel_rfl))
 f319 := Tryz.func146.trans (congrArg some (by kernel_rfl))
 f320 := Tryz.func147.trans (congrArg some (by kernel_rfl))
 f337 := Tryz.func151.trans (congrArg some (by kernel_rfl))
 f338 := Tryz.func152.trans (congrArg some (by kernel_rfl))
 t0 := Tryz.underlying0
 a0 := Tryz.isAgg0
 z0 := Tryz.sizeOf0
 v0 := Tryz.zeroValue0
 t2 := Tryz.underlying2
 a2 := Tryz.isAgg2
 z2 := Tryz.sizeOf2
 v2 := Tryz.zeroValue2
 t3 := Tryz.underlying3
 a3 := Tryz.isAgg3
 z3 := Tryz.sizeOf3
 v3 := Tryz.zeroValue3
 t4 := Tryz.underlying4
 a4 := Tryz.isAgg4
 z4 := Tryz.sizeOf4
 v4 := Tryz.zeroValue4
 t5 := Tryz.underlying5
 a5 := Tryz.isAgg5
 z5 := Tryz.sizeOf5
 v5 := Tryz.zeroValue5
 t9 := Tryz.underlying9
 a9 := Tryz.isAgg9
 z9 := Tryz.sizeOf9
 v9 := Tryz.zeroValue9
 t20 := Tryz.underlying20
 a20 := Tryz.isAgg20
 z20 := Tryz.sizeOf20
 v20 := Tryz.zeroValue20
 t37 := Tryz.underlying83
 a37 := Tryz.isAgg83
 z37 := Tryz.sizeOf83
 v37 := Tryz.zeroValue83
 t46 := Tryz.underlying207
 a46 := Tryz.isAgg207
 z46 := Tryz.sizeOf207
 v46 := Tryz.zeroValue207
 t51 := Tryz.underlying209
 a51 := Tryz.isAgg209
 z51 := Tryz.sizeOf209
 v51 := Tryz.zeroValue209
 t53 := Tryz.underlying69
 a53 := Tryz.isAgg69
 z53 := Tryz.sizeOf69
 v53 := Tryz.zeroValue69
 t171 := Tryz.underlying213
 a171 := Tryz.isAgg213
 z171 := Tryz.sizeOf213
 v171 := Tryz.zeroValue213
 t173 := Tryz.underlying215
 a173 := Tryz.isAgg215
 z173 := Tryz.sizeOf215
 v173 := Tryz.zeroValue215
 t212 := Tryz.underlying225
 a212 := Tryz.isAgg225
 z212 := Tryz.sizeOf225
 v212 := Tryz.zeroValue225
 t213 := Tryz.underlying226
 a213 := Tryz.isAgg226
 z213 := Tryz.sizeOf226
 t232 := Tryz.underlying157
 a232 := Tryz.isAgg157
 z232 := Tryz.sizeOf157
 v232 := Tryz.zeroValue157
 t233 := Tryz.underlying231
 a233 := Tryz.isAgg231
 z233 := Tryz.sizeOf231
 v233 := Tryz.zeroValue231
 g17 := by kernel_rfl
 g18 := by kernel_rfl
 g19 := by kernel_rfl
 i0 := by kernel_rfl
 i2 := by kernel_rfl
 i3 := by kernel_rfl
 i4 := by kernel_rfl
 i5 := by kernel_rfl
 i9 := by kernel_rfl
 i20 := by kernel_rfl
 i37 := by kernel_rfl
 i46 := by kernel_rfl
 i51 := by kernel_rfl
 i53 := by kernel_rfl
 i171 := by kernel_rfl
 i173 := by kernel_rfl
 i212 := by kernel_rfl
 i232 := by kernel_rfl
 i233 := by kernel_rfl
 m17 := by kernel_rfl
 m18 := by kernel_rfl
 m19 := by kernel_rfl }


theorem itoa_of (n : Int) (h0 : -9223372036854775808 ≤ n) (h1 : n ≤ 9223372036854775807) (w : World) (htab : Lib.TabIs Tryz.prog w "internal/strconv.uint64pow10" .u64 Lib.pow10Tab) :
  Calls Tryz.prog 93 #[.int .i64 n] w fun e w' => e = .returned (.string ⟨(Lib.itoa n).toArray⟩) ∧ ∃ k os, w' = Sort.grow (w.drewN k) os := Any.strconv_Itoa laysItoa n h0 h1 w htab

theorem Kept.grown (w : World) (k : Nat) (os : Array Obj) : Kept [] w (Sort.grow (w.drewN k) os) := by
 have h : Kept [] w (w.drewN k) := ⟨rfl, rfl, rfl, Nat.le_refl _, fun _ _ _ => rfl⟩
 refine ⟨h.os, h.tape, h.output, ?_, fun i hi hn => ?_⟩
 ·have := h.size
  simp [Sort.grow]
 ·rw [← h.block i hi hn]
  have : i < (w.drewN k).heap.size := Nat.lt_of_lt_of_le hi h.size
  simp only [Sort.grow]
  rw [Array.getElem?_append_left this]
theorem gPow : Tryz.prog.globalNamed "internal/strconv.uint64pow10" = some 2 := by kernel_rfl
theorem Tab_of {W : World} {cs : Array Value} {fr : Nat × Nat} (hr : W.heap[2]? = some (.cells cs 225 fr)) (ht : Lib.TabIs Tryz.prog W "internal/strconv.uint64pow10" .u64 Lib.pow10Tab) : Tab W where
 row := ⟨cs, fr, hr⟩
 ito := by
  intro W' hW i hi
  have ht' : Lib.TabIs Tryz.prog W' "internal/strconv.uint64pow10" .u64 Lib.pow10Tab := by
   unfold Lib.TabIs World.var? at ht ⊢
   rw [gPow] at ht ⊢
   simp only [Option.bind_some] at ht ⊢
   rw [hW]
   exact ht
  refine (itoa_of (i : Int) (by omega) (by omega) W' ht').mono ?_
  rintro e w' ⟨rfl, k, os, rfl⟩
  refine ⟨_, rfl, ?_, Kept.grown W' k os⟩
  have := Lib.itoa_length_le (i : Int) (by omega) (by omega)
  show (Lib.itoa (i : Int)).toArray.size ≤ 1000
  simp
  omega
theorem tab_row {W : World} (h : W.ShapedOpen Tryz.prog) : ∃ cs, W.heap[2]? = some (.cells cs 225 (0, 0)) := by
 have hz : (((begin Tryz.prog (fun _ _ => 0) default).world.heap[2]?).bind Obj.row?).map (·.2) = some 225 := by kernel_rfl
 obtain ⟨⟨z, t⟩, hz, rfl⟩ := Option.map_eq_some_iff.1 hz
 obtain ⟨cs, hcs, _⟩ := h.1 2 z _ (of_decide_eq_true (by kernel_rfl)) hz
 exact ⟨cs, hcs⟩

end Go.Proofs.YtcklgafpgdhnaabGreatDoor
