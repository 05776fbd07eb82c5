import Derived.Test.YtcklgafpgdhnaabGreatDoorPtaa
import Derived.Lib.Strings
import Derived.Lib.BufferWrite
import Derived.Lib.UnsafeStr
import Derived.Laws.MakeOwn
import Derived.Test.YtcklgafpgdhnaabGreatDoorPtap
import Derived.Defers
import Derived.Recover
import Derived.Laws.Pointers
import Derived.Test.YtcklgafpgdhnaabGreatDoorPtad
import Derived.LaidEql
import Derived.Stop.Asserts
import Derived.RowKitTokens
set_option maxRecDepth 100000
set_option maxHeartbeats 4000000
open List renaming getElem_toArray → zA, getElem_cons_succ → zB, getElem_cons_zero → zC, setIfInBounds_toArray → zD, set_cons_succ → zE, set_cons_zero → zF
namespace Go.Proofs.YtcklgafpgdhnaabGreatDoor
open Go.RowKit

theorem itu8 : (Tryz.prog.info? 5).map (fun i => (i.zero, i.size, i.bytes)) = some (some (Value.int .u8 0), 1, 1) := by kernel_rfl

theorem SLClone_any (s : ByteArray) (w : World) (hs : s.size ≤ 1000000) : Calls Tryz.prog 84 #[.string s] w fun e w' => e = .returned (.string s) ∧ Kept [] w w' := by
 by_cases h0 : s.size = 0
 ·obtain rfl : s = ⟨#[]⟩ := ByteArray.ext (Array.eq_empty_of_size_eq_zero h0)
  go_enter Tryz.func84, Tryz.ntmps84
  go_wp2
  go_ret
  exact ⟨rfl, Kept.refl _ _⟩
 ·obtain ⟨iu, hiu, hz0, hz1, hz2⟩ := info_parts itu8
  have h1 : (Tryz.prog.info? 5).map (·.size) = some 1 := by rw [hiu]; simp [hz1]
  have hcells : Tryz.prog.cellsOf 5 = 1 := by simp [Program.cellsOf, hiu, hz1]
  obtain ⟨new, hnew⟩ : ∃ new, new = madeCells (Value.int .u8 0).cells (((s.size : Nat) : Int).toNat * iu.size) := ⟨_, rfl⟩
  have hns : new.size = s.size := by rw [hnew, size_madeCells, hz1]; simp
  have hmake : ∀ W : World, (Instr.makeSlice 83 (.int .i64 (s.size : Int)) (.int .i64 (s.size : Int))).run Tryz.prog W = .ok (.slice (some ⟨W.heap.size, 0, none⟩) s.size s.size) (W.alloc (.cells new 5)) := by
   intro W
   have := run_make (P := Tryz.prog) W 83 5 iu (.int .u8 0) Tryz.underlying83 hiu hz0 .i64 .i64 (s.size : Int) (s.size : Int) (by omega) (by omega) (by rw [hz2]; omega) (by omega)
   rw [← hnew] at this
   simpa using this
  clear hnew
  obtain ⟨w1, ew1⟩ : ∃ w1, w1 = w.alloc (.cells new 5) := ⟨_, rfl⟩
  have hrow1 : w1.heap[w.heap.size]? = some (.cells new 5 (0, 0)) := by rw [ew1]; exact heap_alloc_new w _
  have hcopy := Lib.run_copy_row_string (P := Tryz.prog) w1 83 9 3 5 w.heap.size 0 s.size s.size s new 5 Tryz.underlying83 h1 hrow1 (Nat.le_refl _) (by omega)
  obtain ⟨full, hfull⟩ : ∃ full, full = (new.toList.take 0 ++ Lib.byteCells s.data.toList ++ new.toList.drop (0 + s.size)).toArray := ⟨_, rfl⟩
  rw [← hfull] at hcopy
  have hfl : full.toList = Lib.byteCells s.data.toList := by
   rw [hfull, List.toList_toArray, List.take_zero, List.nil_append, List.drop_of_length_le (by rw [Array.length_toList]; omega), List.append_nil]
  have hfs : full.size = s.size := by rw [← Array.length_toList, hfl, Lib.byteCells_length, ← Lib.size_eq]
  have hrow2 : (w1.setRow w.heap.size full).heap[w.heap.size]? = some (.cells full 5 (0, 0)) := setRow_heap _ _ new _ 5 (0, 0) hrow1
  have hne : s.data.toList ≠ [] := fun e => h0 (by rw [Lib.size_eq, e]; rfl)
  have hstr := Lib.run_unsafeString_row (P := Tryz.prog) (w1.setRow w.heap.size full) 187 3 9 5 Tryz.underlying187 hcells w.heap.size full.size (by unfold World.shape?; rw [hrow2]) s.data.toList hne (by rw [← Lib.size_eq]; omega) (by rw [← Lib.size_eq]; omega)
   (fun j x hx => Lib.cells_of_row hrow2 full.size j _ (by rw [List.take_of_length_le (by rw [Array.length_toList]; exact Nat.le_refl _), hfl]; simp [Lib.byteCells, hx]))
  rw [← Lib.size_eq] at hstr
  have k1 : Kept [] w (w1.setRow w.heap.size full) := by rw [ew1]; exact ((Kept.refl [] w).alloc _).setRow (Or.inr (Nat.le_refl _)) _
  have K1 : Hid _ := k1.below
  subst ew1
  clear hfull k1
  go_enter Tryz.func84, Tryz.ntmps84
  go_wp2
  go_ret
  exact ⟨rfl, Kept.of_below (Lib.below_freeze K1.out (p := ⟨w.heap.size, 0, none⟩) (Nat.le_refl _) _)⟩

theorem SClone_any (s : ByteArray) (w : World) (hs : s.size ≤ 1000000) : Calls Tryz.prog 50 #[.string s] w fun e w' => e = .returned (.string s) ∧ Kept [] w w' := by
 have HC : Hid (Calls _ _ _ _ _) := SLClone_any s w hs
 go_enter Tryz.func50, Tryz.ntmps50
 go_wp2_with (first | (go_at_call 84; refine HC.out.mono ?_; rintro e w1 ⟨rfl, hk1⟩))
 go_ret
 exact ⟨rfl, hk1⟩

end Go.Proofs.YtcklgafpgdhnaabGreatDoor

namespace Go.Proofs.YtcklgafpgdhnaabGreatDoor
open Go.RowKit

theorem VLay_ok (v a : Nat) (bv : Value) (n : Nat) (cv : Value) (D : Dv) (B : List UInt8) (i : Nat) (w : World) (hv : Vol w v a n) (h : DQ w a bv n cv D) (hi : i < n) (hB : B.length = 128) (hq : D.q.length ≤ 1000000) (hb : D.bad = false) :
  Calls Tryz.prog 64 #[.pointer (some ⟨v, 0, none⟩), .int .i64 i, .agg (u8s B).toArray] w (WrR a bv n cv (fun D' e _ => D' = D.put i B ∧ e = .returned (.tuple #[])) w) := by
 have m1 := mWrite
 have hla := lt_heap h.d
 have k1 := (Kept.refl [] w).alloc (.cells (u8s B).toArray 80)
 have c1 : (w.alloc (.cells (u8s B).toArray 80)).cell? ⟨v, 0, none⟩ = some (.iface 23 (.pointer (some ⟨a, 0, none⟩))) := cellAt (k1.get hv (by simp)) rfl
 have h1 := h.k0 k1
 have hx := heap_alloc_new w (.cells (u8s B).toArray 80)
 have HD : Hid (DQ (w.alloc (.cells (u8s B).toArray 80)).drew a bv n cv D) := h1.k0 (Kept.refl _ _).drew
 generalize hw1 : w.alloc (.cells (u8s B).toArray 80) = w1 at *
 have HW : Hid (w.alloc (.cells (u8s B).toArray 80) = w1) := hw1
 clear hw1
 go_enter Tryz.func64, Tryz.ntmps64
 go_wp2
 rw [HW.out]
 go_region_with (go_at_call 172; refine (Write_any a bv n w.heap.size cv D B 80 i _ HD.out hi hB (by exact hx) (by omega) hq).mono ?_; rintro e w2 hw2; unfold WriteR at hw2; rw [hb] at hw2; simp only [Bool.false_eq_true, if_false] at hw2; obtain ⟨rfl, cv', hd2, hk2, hf2⟩ := hw2)
 have kk : Kept (dfoot a bv cv) w w2 := (((k1.trans (Kept.refl _ _).drew).mono (by simp)).trans hk2)
 have H2 : Hid (DQ w2 a bv n cv' (D.put i B) ∧ (∀ y, cv'.ownBlock = some y → cv.ownBlock = some y ∨ w1.drew.heap.size ≤ y)) := ⟨hd2, hf2⟩
 have KK : Hid (Kept (dfoot a bv cv) w w2) := kk
 have kz : w.heap.size ≤ w1.drew.heap.size := k1.size
 have KZ : Hid (w.heap.size ≤ w1.drew.heap.size) := kz
 clear hd2 hf2 hk2 kk kz
 go_wp2
 go_end0
 obtain ⟨hd2, hf2⟩ := H2.out
 exact ⟨cv', D.put i B, hd2, KK.out, fun y hy => (hf2 y hy).imp id (fun hx => Nat.le_trans KZ.out hx), rfl, rfl⟩

theorem VLay_bad (v a : Nat) (bv : Value) (n : Nat) (cv : Value) (D : Dv) (B : List UInt8) (i : Nat) (w : World) (hv : Vol w v a n) (h : DQ w a bv n cv D) (hi : i < n) (hn : n ≤ 1000) (hB : B.length = 128) (hq : D.q.length ≤ 1000000) (hb : D.bad = true) (hT : Tab w) :
  Calls Tryz.prog 64 #[.pointer (some ⟨v, 0, none⟩), .int .i64 i, .agg (u8s B).toArray] w (WrR a bv n cv (fun D' e w' => D' = D.tick ∧ Thr 6 e w') w) := by
 have m1 := mWrite
 have hla := lt_heap h.d
 have k1 := (Kept.refl [] w).alloc (.cells (u8s B).toArray 80)
 have c1 : (w.alloc (.cells (u8s B).toArray 80)).cell? ⟨v, 0, none⟩ = some (.iface 23 (.pointer (some ⟨a, 0, none⟩))) := cellAt (k1.get hv (by simp)) rfl
 have h1 := h.k0 k1
 have hx := heap_alloc_new w (.cells (u8s B).toArray 80)
 have HD : Hid (DQ (w.alloc (.cells (u8s B).toArray 80)).drew a bv n cv D) := h1.k0 (Kept.refl _ _).drew
 generalize hw1 : w.alloc (.cells (u8s B).toArray 80) = w1 at *
 have HW : Hid (w.alloc (.cells (u8s B).toArray 80) = w1) := hw1
 clear hw1
 go_enter Tryz.func64, Tryz.ntmps64
 go_wp2
 rw [HW.out]
 go_region_with (go_at_call 172; refine (Write_any a bv n w.heap.size cv D B 80 i _ HD.out hi hB (by exact hx) (by omega) hq).mono ?_; rintro e w2 hw2; unfold WriteR at hw2; rw [hb] at hw2; simp only [if_true, eIO] at hw2; obtain ⟨rfl, hd2, hk2⟩ := hw2)
 have KK : Hid (Kept [a] w w2) := (((k1.trans (Kept.refl _ _).drew).mono (by simp)).trans hk2)
 have H2 : Hid (DQ w2 a bv n cv D.tick) := hd2
 have hT2 : Tab w2 := hT.kept KK.out (hT.dqa h)
 clear hd2 hk2
 go_wp2_with (first
  | (go_at_call 93; refine (Itoa_any hT2 i (by omega)).mono ?_; rintro e w3 ⟨s3, rfl, hs3, hk3⟩; have hs3' : ¬ 9223372036854775807 < 15 + s3.size := (by omega))
  | (go_at_call 46; refine (Throw_v _ _ _).mono ?_; rintro e w4 ⟨ht, hk4⟩; obtain ⟨f, o, rfl, hf⟩ := ht.ex))
 refine ⟨rfl, cv, D.tick, (H2.out.k0 hk3).k0 hk4, (KK.out.trans ((hk3.trans hk4).mono (by simp))).mono (by intro y hy; simp at hy; subst hy; simp [dfoot]), fun y hy => Or.inl hy, rfl, ht⟩

def LaidP (D : Dv) (i : Nat) (B : List UInt8) (D' : Dv) (e : Ending) (w' : World) : Prop := (Wn D i B D' ∧ e = .returned (.tuple #[])) ∨ (Er D D' ∧ Thr 6 e w')
theorem VLay_any (v a : Nat) (bv : Value) (n : Nat) (cv : Value) (D : Dv) (B : List UInt8) (i : Nat) (w : World) (hv : Vol w v a n) (h : DQ w a bv n cv D) (hi : i < n) (hn : n ≤ 1000) (hB : B.length = 128) (hq : D.q.length ≤ 1000000) (hT : Good D ∨ Tab w) :
  Calls Tryz.prog 64 #[.pointer (some ⟨v, 0, none⟩), .int .i64 i, .agg (u8s B).toArray] w (WrR a bv n cv (LaidP D i B) w) := by
 cases hb : D.bad with
 | false => exact (VLay_ok v a bv n cv D B i w hv h hi hB hq hb).mono fun e w' ⟨cv', D', h1, h2, h3, h4, h5⟩ => ⟨cv', D', h1, h2, h3, Or.inl ⟨by rw [h4]; exact Wn.put hb i B, h5⟩⟩
 | true => exact (VLay_bad v a bv n cv D B i w hv h hi hn hB hq hb (hT.resolve_left fun hg => by rw [hg.bad] at hb; cases hb)).mono fun e w' ⟨cv', D', h1, h2, h3, h4, h5⟩ => ⟨cv', D', h1, h2, h3, Or.inr ⟨by rw [h4]; exact Er.tick hb, h5⟩⟩

def SetP (D D' : Dv) (e : Ending) (w' : World) : Prop := (Fl D D' ∧ e = .returned (.tuple #[])) ∨ (Er D D' ∧ Thr 6 e w')
theorem Settle_any (v a : Nat) (bv : Value) (n : Nat) (cv : Value) (D : Dv) (w : World) (hv : Vol w v a n) (h : DQ w a bv n cv D) (hn : n ≤ 1000) (hq : D.q.length ≤ 1000000) :
  Calls Tryz.prog 35 #[.pointer (some ⟨v, 0, none⟩)] w (WrR a bv n cv (SetP D) w) := by
 have m1 := mFlush
 have c1 : w.cell? ⟨v, 0, none⟩ = some (.iface 23 (.pointer (some ⟨a, 0, none⟩))) := cellAt hv rfl
 cases hb : D.bad with
 | false =>
  go_enter Tryz.func35, Tryz.ntmps35
  go_wp2_with (go_at_call 170; refine (Flush_any a bv n cv D w h hn hq).mono ?_; rintro e w2 hw2; unfold FlushR at hw2; rw [hb] at hw2; simp only [Bool.false_eq_true, if_false] at hw2; obtain ⟨rfl, hd2, hk2⟩ := hw2)
  go_end0
  exact ⟨_, _, hd2, hk2.mono (by intro y hy; rcases List.mem_cons.1 hy with rfl | hy; exact List.mem_cons_self; exact List.mem_cons_of_mem _ (List.mem_append_left _ hy)), (by intro y hy; cases hy), Or.inl ⟨Fl.flush hb, rfl⟩⟩
 | true =>
  go_enter Tryz.func35, Tryz.ntmps35
  go_wp2_with (first
   | (go_at_call 170; refine (Flush_any a bv n cv D w h hn hq).mono ?_; rintro e w2 hw2; unfold FlushR at hw2; rw [hb] at hw2; simp only [if_true, eIO] at hw2; obtain ⟨rfl, hd2, hk2⟩ := hw2)
   | (go_at_call 46; refine (Throw_v _ _ _).mono ?_; rintro e w4 ⟨ht, hk4⟩; obtain ⟨f, o, rfl, hf⟩ := ht.ex))
  exact ⟨rfl, cv, D.tick, hd2.k0 hk4, (hk2.trans (hk4.mono (by simp))).mono (by intro y hy; simp at hy; subst hy; simp [dfoot]), fun y hy => Or.inl hy, Or.inr ⟨Er.tick hb, ht⟩⟩

end Go.Proofs.YtcklgafpgdhnaabGreatDoor

namespace Go.Proofs.YtcklgafpgdhnaabGreatDoor
open Go.RowKit

theorem count1_idle (p : Addr) (w : World) :
  CallsD Tryz.prog 119 #[.pointer (some p)] .returning w fun e u' w' => e = .returned (.tuple #[]) ∧ u' = .returning ∧ w' = w := by
 refine callsD_of_wpS Tryz.func119 rfl fun c₀ cs hu => ?_
 apply wpS_seq
 apply wpS_region
 simp [wpOpsS, go_sem, recoverD, hu, Tryz.ntmps119, Exit.thenS]
 refine wpS_cond (t := false) (by simp [Act.eval, Array.replicate]) ?_
 simp only [Bool.false_eq_true, if_false]
 refine wpS_of_wp (wp_skip ?_)
 cases c₀
 simp_all [bodyPostS, results, Tryz.results119]

theorem makes (fn : Fn) (first cap : Array Value) (w : World) : (Instr.makeFunc fn first cap).run Tryz.prog w = .ok (.func fn first cap) w := rfl

theorem count_any (a n cap : Nat) (ao : Option Addr) (cache : Value) (D : Dv) (w : World) (h : DC w a (.slice ao n cap) cache D) :
  Calls Tryz.prog 97 #[.iface 23 (.pointer (some ⟨a, 0, none⟩))] w fun e w' => e = .returned (.int .i64 n) ∧ Kept [] w w' := by
 have hmf := makes
 have m1 := mBlocks
 have k1 := (Kept.refl [] w).alloc (.cells #[.int .i64 0] 3)
 have h1 : DC _ a (.slice ao n cap) cache D := k1.get h (by simp)
 go_enter_defers Tryz.func97, Tryz.ntmps97
 go_wp2_with (go_at_call 23; refine (Blocks_any a ao n cap cache D _ h1).mono ?_; rintro e w' ⟨rfl, rfl⟩)
 refine leaves_cons (f := 119) (args := #[.pointer (some ⟨w.heap.size, 0, none⟩)]) (by simp) (by simp [go_sem]) ?_
 refine (count1_idle ⟨w.heap.size, 0, none⟩ _).mono ?_
 rintro e u' w'' ⟨rfl, rfl, rfl⟩
 simp [Leaves, settle, results, Tryz.results97, go_sem]
 exact (Kept.refl _ _).alloc _

def Thrown (x : Int) (w : World) (e : Ending) (w' : World) : Prop :=
 ∃ f o, e = .panicked [{ v := .iface 143 (.agg #[.iface 98 (.pointer (some ⟨f, 0, none⟩))]), recovered := false }] ∧
  w'.heap[f]? = some (.cells #[o, .iface 44 (.int .i64 x)] 101 (0, 0)) ∧ Kept [] w w'

theorem Throw_any (o : ByteArray) (x : Int) (w : World) : Calls Tryz.prog 46 #[.string o, .int .i64 x] w (Thrown x w) := by
 go_enter Tryz.func46, Tryz.ntmps46
 go_wp2
 exact ⟨rfl, w.heap.size, .string o, rfl, heap_alloc_new _ _, (Kept.refl _ _).alloc _⟩

theorem Thrown.mono {x : Int} {w0 w w' : World} {e : Ending} (h : Thrown x w e w') (k : Kept [] w0 w) : Thrown x w0 e w' := by
 obtain ⟨f, o, h1, h2, h3⟩ := h
 exact ⟨f, o, h1, h2, k.trans h3⟩

def RetVol (a n : Nat) (w : World) (e : Ending) (w' : World) : Prop := ∃ v, e = .returned (.pointer (some ⟨v, 0, none⟩)) ∧ Vol w' v a n ∧ w.heap.size ≤ v ∧ Kept [] w w'

theorem On_fits (a n cap : Nat) (ao : Option Addr) (cache : Value) (D : Dv) (w : World) (h : DC w a (.slice ao n cap) cache D) (h8 : 8 ≤ n) (h4 : n ≤ 400) :
  Calls Tryz.prog 69 #[.iface 23 (.pointer (some ⟨a, 0, none⟩))] w (RetVol a n w) := by
 have g8 : ¬ (n : Int) < 8 := by omega
 have g4 : ¬ (400 : Int) < n := by omega
 go_enter Tryz.func69, Tryz.ntmps69
 go_wp2_with (go_at_call 97; refine (count_any a n cap ao cache D _ h).mono ?_; rintro e w1 ⟨rfl, k1⟩)
 go_ret
 exact ⟨_, rfl, heap_alloc_new _ _, k1.size, k1.alloc _⟩

theorem On_no (a n cap : Nat) (ao : Option Addr) (cache : Value) (D : Dv) (w : World) (h : DC w a (.slice ao n cap) cache D) (hn : n < 8 ∨ 400 < n) :
  Calls Tryz.prog 69 #[.iface 23 (.pointer (some ⟨a, 0, none⟩))] w (Thrown 8 w) := by
 rcases hn with hn | hn
 ·have g8 : (n : Int) < 8 := by omega
  go_enter Tryz.func69, Tryz.ntmps69
  go_wp2_with (first
   | (go_at_call 97; refine (count_any a n cap ao cache D _ h).mono ?_; rintro e w1 ⟨rfl, k1⟩)
   | (go_at_call 46; refine (Throw_any _ _ _).mono ?_; rintro e w2 ⟨f, o, rfl, h2, h3⟩))
  exact ⟨rfl, f, o, rfl, h2, k1.trans h3⟩
 ·have g8 : ¬ (n : Int) < 8 := by omega
  have g4 : (400 : Int) < n := by omega
  go_enter Tryz.func69, Tryz.ntmps69
  go_wp2_with (first
   | (go_at_call 97; refine (count_any a n cap ao cache D _ h).mono ?_; rintro e w1 ⟨rfl, k1⟩)
   | (go_at_call 46; refine (Throw_any _ _ _).mono ?_; rintro e w2 ⟨f, o, rfl, h2, h3⟩))
  exact ⟨rfl, f, o, rfl, h2, k1.trans h3⟩

end Go.Proofs.YtcklgafpgdhnaabGreatDoor

namespace Go.Proofs.YtcklgafpgdhnaabGreatDoor
open Go.RowKit Go.Extern.Stop Go.Stop Go.Extern

theorem hd_err : typeHandle Tryz.prog 35 = .pointer (some ⟨5, 35, none⟩) := by kernel_rfl

theorem as_nil (t : Value) (w : World) :
  Calls Tryz.prog 38 #[.nilIface, t] w fun e w' => e = .returned (.bool false) ∧ w' = w := by
 go_enter Tryz.func38, Tryz.ntmps38
 go_wp2
 go_ret
 exact ⟨rfl, rfl⟩

theorem vOf (t : Addr) (w : World) : (ReflectliteValue.unpack (.iface 86 (.pointer (some t)))).run Tryz.prog w
  = .ok (.agg #[.pointer (some ⟨5, 86, none⟩), .pointer (some ⟨w.heap.size, 0, none⟩), .int .u64 150]) (w.alloc (.cells #[.pointer (some t)] 86)) := by kernel_rfl
theorem tyOf (a : Addr) (w : World) : (ReflectliteValue.methodAny (ReflectliteValue.valueError "reflectlite.Value.Type" 0) (fun t _ _ _ => ReflectliteType.toType t) #[.agg #[.pointer (some ⟨5, 86, none⟩), .pointer (some a), .int .u64 150]]).run Tryz.prog w
  = .ok (.iface 165 (.agg #[.pointer (some ⟨5, 86, none⟩)])) w := by kernel_rfl
theorem mKind (h : Value) (w : World) : (Go.method 391 165 (.agg #[h]) "Kind").run Tryz.prog w = .ok (167, h) w := by kernel_rfl
theorem kPtr (w : World) : ((ReflectliteType.abiMethod fun t => (fun a : Nat => Value.int IntKind.u8 (a : Int)) <$> Rtype.kind t) #[.pointer (some ⟨5, 86, none⟩)]).run Tryz.prog w = .ok (.int .u8 22) w := by kernel_rfl
theorem kErrno (w : World) : ((ReflectliteType.abiMethod fun t => (fun a : Nat => Value.int IntKind.u8 (a : Int)) <$> Rtype.kind t) #[.pointer (some ⟨5, 44, none⟩)]).run Tryz.prog w = .ok (.int .u8 2) w := by kernel_rfl
theorem partsP (a : Addr) (w : World) : (ReflectliteValue.parts (.agg #[.pointer (some ⟨5, 86, none⟩), .pointer (some a), .int .u64 150])).run Tryz.prog w = .ok (some (86, a, 150)) w := by kernel_rfl
theorem isNilP (a p : Addr) (W : World) (ha : W.cell? a = some (.pointer (some p))) :
  (ReflectliteValue.method (ReflectliteValue.valueError "reflectlite.Value.IsNil" 0) ReflectliteValue.isNil #[.agg #[.pointer (some ⟨5, 86, none⟩), .pointer (some a), .int .u64 150]]).run Tryz.prog W = .ok (.bool false) W := by
 change Sem.run Tryz.prog (ReflectliteValue.parts (.agg #[.pointer (some ⟨5, 86, none⟩), .pointer (some a), .int .u64 150]) >>= _) W = _
 simp only [Sem.run_bind, partsP, Result.andThen]
 simp [ReflectliteValue.isNil, loadVar, isAgg, underlying, Tryz.underlying86, ha, Result.andThen]
theorem mElem (h : Value) (w : World) : (Go.method 391 165 (.agg #[h]) "Elem").run Tryz.prog w = .ok (205, .agg #[h]) w := by kernel_rfl
theorem mImpl (h : Value) (w : World) : (Go.method 391 165 (.agg #[h]) "Implements").run Tryz.prog w = .ok (206, .agg #[h]) w := by kernel_rfl
theorem mAssign (h : Value) (w : World) : (Go.method 391 165 (.agg #[h]) "AssignableTo").run Tryz.prog w = .ok (203, .agg #[h]) w := by kernel_rfl
theorem elemP (w : World) : (ReflectliteType.method ReflectliteType.elem #[.agg #[.pointer (some ⟨5, 86, none⟩)]]).run Tryz.prog w = .ok (.iface 165 (.agg #[.pointer (some ⟨5, 44, none⟩)])) w := by kernel_rfl
theorem implE (w : World) : (ReflectliteType.relation "Implements" ReflectliteType.implements_ #[.agg #[.pointer (some ⟨5, 44, none⟩)], .iface 165 (.agg #[.pointer (some ⟨5, 35, none⟩)])]).run Tryz.prog w = .ok (.bool true) w := by kernel_rfl
theorem typeOfE (v : Value) (w : World) : (ReflectliteType.typeOf #[.iface 44 v]).run Tryz.prog w = .ok (.iface 165 (.agg #[.pointer (some ⟨5, 44, none⟩)])) w := by kernel_rfl
theorem typeOfF (v : Value) (w : World) : (ReflectliteType.typeOf #[.iface 98 v]).run Tryz.prog w = .ok (.iface 165 (.agg #[.pointer (some ⟨5, 98, none⟩)])) w := by kernel_rfl
theorem assignE (w : World) : (ReflectliteType.relation "AssignableTo" ReflectliteType.assignableTo #[.agg #[.pointer (some ⟨5, 44, none⟩)], .iface 165 (.agg #[.pointer (some ⟨5, 44, none⟩)])]).run Tryz.prog w = .ok (.bool true) w := by kernel_rfl
theorem assignF (w : World) : (ReflectliteType.relation "AssignableTo" ReflectliteType.assignableTo #[.agg #[.pointer (some ⟨5, 98, none⟩)], .iface 165 (.agg #[.pointer (some ⟨5, 44, none⟩)])]).run Tryz.prog w = .ok (.bool false) w := by kernel_rfl
theorem vOfE (x : Int) (w : World) : (ReflectliteValue.unpack (.iface 44 (.int .i64 x))).run Tryz.prog w
  = .ok (.agg #[.pointer (some ⟨5, 44, none⟩), .pointer (some ⟨w.heap.size, 0, none⟩), .int .u64 130]) (w.alloc (.cells #[.int .i64 x] 44)) := by kernel_rfl
theorem elemOfP (w : World) : (Rtype.elem? 86).run Tryz.prog w = .ok (some 44) w := by kernel_rfl
theorem mkE (p : Addr) (w : World) : (ReflectliteValue.mk 44 p ReflectliteValue.flagAddr).run Tryz.prog w = .ok (.agg #[.pointer (some ⟨5, 44, none⟩), .pointer (some p), .int .u64 386]) w := by kernel_rfl
theorem elemVP (a p : Addr) (W : World) (ha : W.cell? a = some (.pointer (some p))) :
  (ReflectliteValue.method (ReflectliteValue.valueError "reflectlite.Value.Elem" 0) ReflectliteValue.elem #[.agg #[.pointer (some ⟨5, 86, none⟩), .pointer (some a), .int .u64 150]]).run Tryz.prog W
   = .ok (.agg #[.pointer (some ⟨5, 44, none⟩), .pointer (some p), .int .u64 386]) W := by
 change Sem.run Tryz.prog (ReflectliteValue.parts (.agg #[.pointer (some ⟨5, 86, none⟩), .pointer (some a), .int .u64 150]) >>= _) W = _
 simp only [Sem.run_bind, partsP, Result.andThen]
 simp [ReflectliteValue.elem, loadVar, isAgg, underlying, Tryz.underlying86, ha, Result.andThen, elemOfP, mkE]
theorem asrtAs (p : Value) (w : World) : (Instr.typeAssert (.iface 98 p) 35 170 true).run Tryz.prog w = .ok (.tuple #[.nilIface, .bool false]) w := run_typeAssert_lacksB Tryz.underlying170 (by kernel_rfl) (by kernel_rfl) p 35 w
theorem asrtUn (p : Value) (w : World) : (Instr.typeAssert (.iface 98 p) 35 173 true).run Tryz.prog w = .ok (.tuple #[.iface 98 p, .bool true]) w := run_typeAssert_hasB Tryz.underlying173 (by kernel_rfl) p 35 w
theorem mUnwrap (a : Addr) (w : World) : (Go.method 391 98 (.pointer (some a)) "Unwrap").run Tryz.prog w = .ok (179, .pointer (some a)) w := by kernel_rfl

end Go.Proofs.YtcklgafpgdhnaabGreatDoor

namespace Go.Proofs.YtcklgafpgdhnaabGreatDoor
open Go.RowKit Go.Extern.Stop Go.Stop Go.Extern

theorem partsEa (a : Addr) (w : World) : (ReflectliteValue.parts (.agg #[.pointer (some ⟨5, 44, none⟩), .pointer (some a), .int .u64 386])).run Tryz.prog w = .ok (some (44, a, 386)) w := by kernel_rfl
theorem partsE (a : Addr) (w : World) : (ReflectliteValue.parts (.agg #[.pointer (some ⟨5, 44, none⟩), .pointer (some a), .int .u64 130])).run Tryz.prog w = .ok (some (44, a, 130)) w := by kernel_rfl
theorem directE (w : World) : (Rtype.directlyAssignable 44 44).run Tryz.prog w = .ok true w := by kernel_rfl
theorem setE (ta b : Addr) (x : Int) (old : Value) (W : World) (hb : W.cell? b = some (.int .i64 x)) (ht : W.cell? ta = some old) (hf : W.frozen? ta = false) :
  (ReflectliteValue.set #[.agg #[.pointer (some ⟨5, 44, none⟩), .pointer (some ta), .int .u64 386], .agg #[.pointer (some ⟨5, 44, none⟩), .pointer (some b), .int .u64 130]]).run Tryz.prog W
   = .ok (.tuple #[]) (W.setCell ta (.int .i64 x)) := by
 have hs : (sizeOf 44).run Tryz.prog W = .ok 1 W := by kernel_rfl
 change Sem.run Tryz.prog (ReflectliteValue.parts (.agg #[.pointer (some ⟨5, 44, none⟩), .pointer (some ta), .int .u64 386]) >>= fun r1 => ReflectliteValue.parts (.agg #[.pointer (some ⟨5, 44, none⟩), .pointer (some b), .int .u64 130]) >>= _) W = _
 simp only [Sem.run_bind, partsEa, partsE, Result.andThen]
 simp [ReflectliteValue.flagAddr, loadVar, isAgg, underlying, Tryz.underlying44, hb, Result.andThen, directE, storeVar, Value.cells, storeCells, Addr.add]
 rw [run_store Tryz.prog W ta _ _ (by rfl)]
 simp [ht, hf]

end Go.Proofs.YtcklgafpgdhnaabGreatDoor
