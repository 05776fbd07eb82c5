import Derived.Test.YtcklgafpgdhnaaaGreatDoorPtal
import Derived.Test.YtcklgafpgdhnaaaGreatDoorPtac
import Derived.Maps.AppendAt
set_option maxRecDepth 100000
set_option maxHeartbeats 4000000
open List renaming getElem_toArray → zA, getElem_cons_succ → zB, getElem_cons_zero → zC, setIfInBounds_toArray → zD, set_cons_succ → zE, set_cons_zero → zF
namespace Go.Proofs.YtcklgafpgdhnaaaGreatDoor
open Go.RowKit

def opc (K X A B : Int) (s t : ByteArray) : Array Value := #[.int .i64 K, .int .i64 X, .int .i64 A, .int .i64 B, .string s, .string t]

theorem outer_no (p K X A B : _) (s t : ByteArray) (w : World) (hK : K < 5 ∨ 9 < K) :
  Calls Tryz.prog 129 #[.pointer (some ⟨p, 0, none⟩), .agg (opc K X A B s t)] w fun e w' => e = .returned (.bool false) ∧ Kept [] w w' := by
 unfold opc
 by_cases h5 : K < 5
 ·go_enter Tryz.func129, Tryz.ntmps129
  go_wp2
  go_ret
  exact ⟨rfl, (Kept.refl _ _).alloc _⟩
 ·have h9 : 9 < K := by omega
  have d5 : decide (K < 5) = false := by simpa using h5
  go_enter Tryz.func129, Tryz.ntmps129
  go_wp2
  go_ret
  exact ⟨rfl, (Kept.refl _ _).alloc _⟩

theorem outer_none (p : Nat) (X A B : Int) (s t : ByteArray) (kv : Value) (pd : Option Addr) (cap : Nat) (w : World) (hw : WC w p kv (.slice pd 0 cap)) :
  Calls Tryz.prog 129 #[.pointer (some ⟨p, 0, none⟩), .agg (opc 5 X A B s t)] w fun e w' => e = .returned (.bool true) ∧ Kept [] w w' := by
 have c1 : w.cell? ⟨p, 1, none⟩ = some (.slice pd 0 cap) := cellAt hw rfl
 have hl := lt_heap hw
 unfold opc
 go_enter Tryz.func129, Tryz.ntmps129
 go_wp2
 go_ret
 exact ⟨rfl, (Kept.refl _ _).alloc _⟩

theorem owner_outer (p K : _) (X A B : Int) (s t : ByteArray) (w : World) (b : Bool) (R : World → Prop) (hK : K < 1 ∨ 4 < K)
  (hR : ∀ W, Kept [] w W → Calls Tryz.prog 129 #[.pointer (some ⟨p, 0, none⟩), .agg (opc K X A B s t)] W fun e w' => e = .returned (.bool b) ∧ R w') :
  Calls Tryz.prog 96 #[.pointer (some ⟨p, 0, none⟩), .agg (opc K X A B s t)] w fun e w' => e = .returned (.bool b) ∧ R w' := by
 have HR : Hid (∀ W, Kept [] w W → Calls Tryz.prog 129 #[.pointer (some ⟨p, 0, none⟩), .agg (opc K X A B s t)] W fun e w' => e = .returned (.bool b) ∧ R w') := hR
 clear hR
 have e1 : ¬ K = 1 := by omega
 have e2 : ¬ K = 2 := by omega
 have e3 : ¬ K = 3 := by omega
 have e4 : ¬ K = 4 := by omega
 have b1 : (K == 1) = false := by simpa using e1
 have b2 : (K == 2) = false := by simpa using e2
 have b3 : (K == 3) = false := by simpa using e3
 have b4 : (K == 4) = false := by simpa using e4
 unfold opc at HR ⊢
 go_enter Tryz.func96, Tryz.ntmps96
 go_wp2_with (first
  | (go_at_call 129; refine (HR.out _ ((Kept.refl [] w).alloc _)).mono ?_; rintro e w2 ⟨rfl, h2⟩))
 go_ret
 exact ⟨rfl, h2⟩

end Go.Proofs.YtcklgafpgdhnaaaGreatDoor

namespace Go.Proofs.YtcklgafpgdhnaaaGreatDoor
open Go.RowKit

def StepR (I : Iface) (B p : Nat) (N : Nat) (b : Bool) (w : World) (e : Ending) (w' : World) : Prop :=
 e = .returned (.bool b) ∧ ∃ ds' j', WI I B w' p ds' j' ∧ ds'.length ≤ N ∧ j' ≤ N ∧ (∀ d ∈ ds', d.le N) ∧ Below B w w'

theorem ipd : (Tryz.prog.info? 148).map (fun i => (i.zero, i.size, i.bytes)) = some (some (.pointer none), 1, 8) := by kernel_rfl
theorem spd : (Tryz.prog.info? 26).map (·.size) = some 1 := by kernel_rfl
theorem iint : (Tryz.prog.info? 3).map (fun i => (i.zero, i.size, i.bytes)) = some (some (.int .i64 0), 1, 8) := by kernel_rfl

theorem owner_none (I : Iface) (p : Nat) (X A B : Int) (s t : ByteArray) (Bs j N : Nat) (ds : List Dk) (w : World) (h : WI I Bs w p ds j) (hl : ds.length ≤ N) (hk : ∀ d ∈ ds, d.le N) :
  Calls Tryz.prog 96 #[.pointer (some ⟨p, 0, none⟩), .agg (opc 2 X A B s t)] w (StepR I Bs p N true w) := by
 obtain ⟨kv, dv, xs, h1, h2, h3, h4⟩ := h.ex
 have hlp := lt_heap h1
 have c0 : w.cell? ⟨p, 0, none⟩ = some kv := cellAt h1 rfl
 have f0 : w.frozen? ⟨p, 0, none⟩ = false := frozen_of_row _ _ _ _ _ h1
 unfold opc
 go_enter Tryz.func96, Tryz.ntmps96
 go_wp2
 go_ret
 have k1 : Kept (p :: kv.ownBlock.toList) w (w.setCell ⟨p, 0, none⟩ (.slice none 0 0)) := (Kept.refl _ _).setCell (Or.inl (by simp)) _
 obtain ⟨hI, hB⟩ := h.keep h1 h4 h2 k1 (setCellAt (i := 0) (.slice none 0 0) h1) (World.ownsRow_nil _ _ _ _) (by simp)
 have k2 := (Kept.refl [] (w.setCell ⟨p, 0, none⟩ (.slice none 0 0))).alloc (.cells #[.int .i64 2, .int .i64 X, .int .i64 A, .int .i64 B, .string s, .string t] 64)
 exact ⟨rfl, ds, 0, hI.kept k2, hl, Nat.zero_le _, hk, hB.trans (k2.belowB hI.size (by simp))⟩

def newd (n : Nat) : Obj := .cells (#[.pointer none, .int .i64 n, .slice none 0 0, .bool false, .slice none 0 0, .bool false, .bool false, .pointer none] : Array Value) 154 (0, 0)

theorem owner_disk (I : Iface) (p : Nat) (X A B : Int) (s t : ByteArray) (Bs j N : Nat) (ds : List Dk) (w : World) (h : WI I Bs w p ds j) (hl : ds.length + 1 ≤ N) (hj : j ≤ N) (hk : ∀ d ∈ ds, d.le N) (hN : N ≤ 20000) :
  Calls Tryz.prog 96 #[.pointer (some ⟨p, 0, none⟩), .agg (opc 3 X A B s t)] w (StepR I Bs p N true w) := by
 obtain ⟨kv, dv, xs, h1, h2, h3, h4'⟩ := h.ex
 obtain ⟨pd, ld, cd, rfl⟩ := owns_sl h4'
 obtain ⟨ie, hie, hz1, hz2, hz3⟩ := info_parts ipd
 have hlp := lt_heap h1
 have k1 := (Kept.refl [] w).alloc (.cells (opc 3 X A B s t) 64)
 have k2 := (Kept.refl [] (w.alloc (.cells (opc 3 X A B s t) 64))).alloc (newd (nb A))
 have n2 := heap_alloc_new (w.alloc (.cells (opc 3 X A B s t) 64)) (newd (nb A))
 rw [World.size_alloc] at n2
 have HK2 : Hid (Kept [] w ((w.alloc (.cells (opc 3 X A B s t) 64)).alloc (newd (nb A)))) := k1.trans k2
 have hz : ((w.alloc (.cells (opc 3 X A B s t) 64)).alloc (newd (nb A))).heap.size = w.heap.size + 2 := by simp
 have HZ : Hid _ := hz
 generalize hw2 : (w.alloc (.cells (opc 3 X A B s t) 64)).alloc (newd (nb A)) = w2 at *
 have HW2 : Hid _ := hw2
 unfold opc newd at HW2
 unfold newd at n2
 clear hw2 k1 k2 hz
 have hBl := h.size
 unfold opc
 go_enter Tryz.func96, Tryz.ntmps96
 go_wp2_with (first
  | (go_at_call 127; refine (blocks_any _ _).mono ?_; rintro e w' ⟨rfl, rfl⟩)
  | (go_at_call 32; rw [HW2.out]; refine (NewDisk_o A w2).mono ?_; rintro e w3 ⟨a, g, rfl, hd3, ha3, hg3, hk3⟩; have q3 := hk3.get n2 (by simp); have hst := run_store1 (P := Tryz.prog) (ty := 26) (j := 0) (v := .pointer (some ⟨a, 0, none⟩)) spd rfl q3 (by simp); have q4 := setCellAt (i := 0) (.pointer (some ⟨a, 0, none⟩)) q3; have k04 : Kept [] w (w3.setCell ⟨w.heap.size + 1, 0, none⟩ (.pointer (some ⟨a, 0, none⟩))) := (HK2.out.trans hk3).setCell (Or.inr (by simp)) _; have k34 : Kept [w.heap.size + 1] w3 (w3.setCell ⟨w.heap.size + 1, 0, none⟩ (.pointer (some ⟨a, 0, none⟩))) := (Kept.refl _ _).setCell (Or.inl (by simp)) _; have hd4 := hd3.kept k34 (by have := HZ.out; simp; omega) (by have := HZ.out; simp; omega); generalize hw4 : w3.setCell ⟨w.heap.size + 1, 0, none⟩ (.pointer (some ⟨a, 0, none⟩)) = w4 at *; clear hw4; have WC4 : WC w4 p kv (.slice pd ld cd) := k04.get h1 (by simp); have c41 : w4.cell? ⟨p, 1, none⟩ = some (.slice pd ld cd) := cellAt WC4 rfl; have own4 := owns_kept h4' k04 (by simp); have b4 : Bs ≤ w4.heap.size := Nat.le_trans hBl k04.size)
  | (refine wpList_store_seg rfl 26 (.tmp 48) (.tmp 46) rfl ⟨w.heap.size + 1, 0, none⟩ rfl _ rfl _ hst ?_)
  | (at_builtin; refine wpList_append_own _ rfl (.tmp 65) (.tmp 67) 102 rfl Bs 148 ie _ 1 8 Tryz.underlying102 hie hz1 hz2 hz3 rfl (by decide) (.slice pd ld cd) ds.length (ptrs ds) rfl (own4.alloc _) ⟨w4.heap.size, 0, none⟩ 1 1 [.pointer (some ⟨w.heap.size + 1, 0, none⟩)] rfl rfl (cell_one_new _ _ _) (by simp [Value.oneCell']) (by unfold maxLen; omega) (by omega) (by simp; omega) ?_; intro v5 w5 hown5 hgr5 _; obtain ⟨p5, l5, q5, rfl⟩ := owns_sl hown5; have k5 := grown_kept hgr5 (Value.slice pd ld cd).ownBlock.toList (by intro x hx; rw [hx]; simp); have k45 := (Kept.refl [] w4).alloc (.cells #[.pointer (some ⟨w.heap.size + 1, 0, none⟩)] 148); have WC5 : WC w5 p kv (.slice pd ld cd) := k5.get (k45.get WC4 (by simp)) (by intro hx; simp at hx; exact ne_row ⟨_, _, WC4⟩ (owns_row own4 hx) (by decide) rfl); have c51 : w5.cell? ⟨p, 1, none⟩ = some (.slice pd ld cd) := cellAt WC5 rfl; have f51 : w5.frozen? ⟨p, 1, none⟩ = false := frozen_of_row _ _ _ _ _ WC5; clear hgr5 hst))
 go_ret
 have k4' : Kept [] w (w4.alloc (.cells #[.pointer (some ⟨w.heap.size + 1, 0, none⟩)] 148)) := k04.trans k45
 have hI := h.kept k4'
 have hdi : DI I (w4.alloc (.cells #[.pointer (some ⟨w.heap.size + 1, 0, none⟩)] 148)) ⟨w.heap.size + 1, a, g, nb A, 0, none⟩ :=
  ⟨nb_lt A, fun _ => rfl, ⟨.slice none 0 0, .slice none 0 0, 0, _, 0, 0, 0, k45.get q4 (by simp), World.ownsRow_nil _ _ _ _, by omega, fun _ => rfl, fun h0 => absurd h0 (by simp), World.ownsRow_nil _ _ _ _, hd4.kept k45 (by simp) (by simp), fun _ => I.ds0 _⟩, by intro s o hst; cases hst⟩
 have hk6 : Kept (p :: (Value.slice pd ld cd).ownBlock.toList) (w4.alloc (.cells #[.pointer (some ⟨w.heap.size + 1, 0, none⟩)] 148)) (w5.setCell ⟨p, 1, none⟩ (.slice p5 l5 q5)) :=
  (k5.mono (by intro x hx; exact List.mem_cons_of_mem _ hx)).setCell (Or.inl (by simp)) _
 have k56 : Kept [p] w5 (w5.setCell ⟨p, 1, none⟩ (.slice p5 l5 q5)) := (Kept.refl _ _).setCell (Or.inl (by simp)) _
 have hown6 := owns_kept hown5 k56 (by intro b hb; simp; exact ne_row (owns_row hown5 hb) ⟨_, _, WC5⟩ (by decide))
 have hz2 := HZ.out
 obtain ⟨hI6, hB6⟩ := hI.more (k45.get WC4 (by simp)) (own4.alloc _) (owns_kept h2 k4' (by simp)) h3 hk6 (setCellAt (i := 1) _ WC5) ⟨w.heap.size + 1, a, g, nb A, 0, none⟩ (by simpa [ptrs] using hown6) hdi (by
  intro y hy
  simp only [Dk.foot, stFoot, List.mem_cons, List.not_mem_nil, or_false] at hy
  rcases hy with rfl | rfl | rfl <;> omega) (by
  intro e he y hy hx
  have := ((h.all e he).1.foot y hy).lt
  simp only [Dk.foot, stFoot, List.mem_cons, List.not_mem_nil, or_false] at hx
  rcases hx with rfl | rfl | rfl <;> omega)
 refine ⟨rfl, _, j, hI6, by simpa using hl, hj, ?_, (k4'.belowB hBl (by simp)).trans hB6⟩
 intro d hd
 rcases List.mem_append.1 hd with hd | hd
 ·exact hk d hd
 ·simp at hd; subst hd; exact ⟨Nat.zero_le _, by intro s o hst; cases hst⟩

end Go.Proofs.YtcklgafpgdhnaaaGreatDoor

namespace Go.Proofs.YtcklgafpgdhnaaaGreatDoor
open Go.RowKit

theorem sints : (Tryz.prog.info? 24).map (·.size) = some 1 := by kernel_rfl

def KS (w : World) (p : Nat) (kv dv : Value) (cs : Array Value) (W : World) : Prop := WC W p kv dv ∧ W.heap[w.heap.size]? = some (.cells cs 64 (0, 0))

theorem owner_keep (I : Iface) (p : Nat) (X A B : Int) (s t : ByteArray) (Bs j N : Nat) (ds : List Dk) (w : World) (h : WI I Bs w p ds j) (hl : ds.length ≤ N) (hj : j + 1 ≤ N) (hk : ∀ d ∈ ds, d.le N) (hN : N ≤ 20000) :
  Calls Tryz.prog 96 #[.pointer (some ⟨p, 0, none⟩), .agg (opc 1 X A B s t)] w (StepR I Bs p N true w) := by
 obtain ⟨kv, dv, xs, h1, h2, h3, h4⟩ := h.ex
 obtain ⟨ie, hie, hz1, hz2, hz3⟩ := info_parts iint
 have hlp := lt_heap h1
 have k1 := (Kept.refl [] w).alloc (.cells (opc 1 X A B s t) 64)
 have n1 := heap_alloc_new w (.cells (opc 1 X A B s t) 64)
 have hS : KS w p kv dv (opc 1 X A B s t) (w.alloc (.cells (opc 1 X A B s t) 64)).drew := ⟨k1.get h1 (by simp), n1⟩
 have k1d : Kept [] w (w.alloc (.cells (opc 1 X A B s t) 64)).drew := k1.drew
 have hz : (w.alloc (.cells (opc 1 X A B s t) 64)).drew.heap.size = w.heap.size + 1 := by simp [World.drew]
 have HZ : Hid _ := hz
 clear hz n1
 go_enter Tryz.func96, Tryz.ntmps96
 unfold opc at *
 go_wp2
 refine wp_region_K (KS w p kv dv #[.int .i64 1, .int .i64 X, .int .i64 A, .int .i64 B, .string s, .string t]) 11 (by kernel_rfl) ?_
 generalize (w.alloc (.cells #[.int .i64 1, .int .i64 X, .int .i64 A, .int .i64 B, .string s, .string t] 64)).drew = w1 at *
 have own1 := owns_kept h2 k1d (by simp)
 have b1 : Bs ≤ w1.heap.size := Nat.le_trans h.size k1d.size
 have hbs := run_buildS (P := Tryz.prog) w1 24 3 (.int .i64 A) ie (.int .i64 0) Tryz.underlying24 hie hz1 rfl hz2 rfl
 have hS2 : KS w p kv dv #[.int .i64 1, .int .i64 X, .int .i64 A, .int .i64 B, .string s, .string t] (w1.alloc (.cells #[.int .i64 A] 3)) := ⟨((Kept.refl [] w1).alloc _).get hS.1 (by simp), ((Kept.refl [] w1).alloc _).get hS.2 (by simp)⟩
 refine wpAnyK_take (i := 0) (v := .pointer (some ⟨p, 0, none⟩)) rfl (by kernel_rfl) (by kernel_rfl) (by kernel_rfl) (by kernel_rfl) (fun _ _ _ h => h) (Or.inl ⟨by rfl, fun W hW => by rfl⟩) hS ?_
 simp only [Act.put, zA, zC, zD, zE, zF]
 refine wpAnyK_take (i := 1) (v := .pointer (some ⟨p, 0, none⟩)) rfl (by kernel_rfl) (by kernel_rfl) (by kernel_rfl) (by kernel_rfl) (fun _ _ _ h => h) (Or.inl ⟨by rfl, fun W hW => by rfl⟩) hS ?_
 simp only [Act.put, zA, zB, zC, zD, zE, zF]
 refine wpAnyK_take (i := 2) (v := .pointer (some ⟨p, 0, none⟩)) rfl (by kernel_rfl) (by kernel_rfl) (by kernel_rfl) (by kernel_rfl) (fun _ _ _ h => h) (Or.inl ⟨by rfl, fun W hW => by rfl⟩) hS ?_
 simp only [Act.put, zA, zB, zC, zD, zE, zF]
 refine wpAnyK_take (i := 3) (v := .pointer (some ⟨p, 0, none⟩)) rfl (by kernel_rfl) (by kernel_rfl) (by kernel_rfl) (by kernel_rfl) (fun _ _ _ h => h) (Or.inl ⟨by rfl, fun W hW => by rfl⟩) hS ?_
 simp only [Act.put, zA, zB, zC, zD, zE, zF]
 refine wpAnyK_take (i := 4) (v := kv) rfl (by kernel_rfl) (by kernel_rfl) (by kernel_rfl) (by kernel_rfl) (fun _ _ _ h => h) (Or.inl ⟨by rfl, fun W hW => exec_load 24 (.tmp 17) rfl ⟨p, 0, none⟩ rfl _ (run_load1 Tryz.underlying24 rfl (cellAt hW.1 rfl))⟩) hS ?_
 simp only [Act.put, zA, zB, zC, zD, zE, zF]
 refine wpAnyK_take (i := 5) (v := .pointer (some ⟨w.heap.size, 2, none⟩)) rfl (by kernel_rfl) (by kernel_rfl) (by kernel_rfl) (by kernel_rfl) (fun _ _ _ h => h) (Or.inl ⟨by rfl, fun W hW => by rfl⟩) hS ?_
 simp only [Act.put, zA, zB, zC, zD, zE, zF]
 refine wpAnyK_take (i := 6) (v := .int .i64 A) rfl (by kernel_rfl) (by kernel_rfl) (by kernel_rfl) (by kernel_rfl) (fun _ _ _ h => h) (Or.inl ⟨by rfl, fun W hW => exec_load 3 (.tmp 19) rfl ⟨w.heap.size, 2, none⟩ rfl _ (run_load1 Tryz.underlying3 rfl (cellAt hW.2 rfl))⟩) hS ?_
 simp only [Act.put, zA, zB, zC, zD, zE, zF]
 refine K_one (i := 7) (by kernel_rfl) (wpOp_val rfl rfl _ _ (exec_buildSlice 24 1 (.tmp 20) rfl (.int .i64 A) rfl _ hbs) ⟨fun _ => hS2, ?_⟩)
 simp only [Act.put, zA, zB, zC, zD, zE, zF]
 obtain ⟨v8, w8, hr8, hown8, hgr8, -⟩ := run_append_own (P := Tryz.prog) (w1.alloc (.cells #[.int .i64 A] 3)) Bs 24 24 3 ie _ 1 8 Tryz.underlying24 hie hz1 hz2 hz3 rfl (by decide) kv j xs (own1.alloc _) ⟨w1.heap.size, 0, none⟩ 1 1 [.int .i64 A] rfl (cell_one_new _ _ _) (by simp [Value.oneCell']) (by unfold maxLen; omega) (by omega) (by simp; omega)
 obtain ⟨p8, l8, q8, rfl⟩ := owns_sl hown8
 have k12 : Kept [] w (w1.alloc (.cells #[.int .i64 A] 3)) := k1d.alloc _
 have own2 := own1.alloc (.cells #[.int .i64 A] 3)
 have k8 := grown_kept hgr8 kv.ownBlock.toList (by intro x hx; rw [hx]; simp)
 have hpn : p ∉ kv.ownBlock.toList := by intro hx; simp at hx; exact ne_row ⟨_, _, hS2.1⟩ (owns_row own2 hx) (by decide) rfl
 have hon : w.heap.size ∉ kv.ownBlock.toList := by intro hx; simp at hx; exact ne_row ⟨_, _, hS2.2⟩ (owns_row own2 hx) (by decide) rfl
 have hS8 : KS w p kv dv #[.int .i64 1, .int .i64 X, .int .i64 A, .int .i64 B, .string s, .string t] w8 := ⟨k8.get hS2.1 hpn, k8.get hS2.2 hon⟩
 refine K_one (i := 8) (by kernel_rfl) (wpOp_val rfl rfl _ w8 (exec_append (.tmp 18) (.tmp 21) 24 rfl kv (.slice (some ⟨w1.heap.size, 0, none⟩) 1 1) rfl rfl _ hr8) ⟨fun _ => hS8, ?_⟩)
 simp only [Act.put, zA, zB, zC, zD, zE, zF]
 refine K_one (i := 9) (by kernel_rfl) (wpOp_val rfl rfl (.pointer (some ⟨p, 0, none⟩)) w8 rfl ⟨fun _ => hS8, ?_⟩)
 simp only [Act.put, zA, zB, zC, zD, zE, zF]
 refine K_one (i := 10) (by kernel_rfl) (wpOp_val rfl rfl (.pointer (some ⟨p, 0, none⟩)) w8 rfl ⟨fun _ => hS8, ?_⟩)
 simp only [Act.put, zA, zB, zC, zD, zE, zF]
 refine K_one (i := 11) (by kernel_rfl) (wpOp_skip rfl rfl _ (exec_store 24 (.tmp 24) (.tmp 22) rfl ⟨p, 0, none⟩ rfl (.slice p8 l8 q8) rfl (run_store1 sints rfl hS8.1 (by simp))) ⟨fun hne => absurd rfl hne, ?_⟩)
 simp only [Act.put, zA, zB, zC]
 refine wpAnyK_done (by kernel_rfl) ?_ _
 have k9 : Kept [p] w8 (w8.setCell ⟨p, 0, none⟩ (.slice p8 l8 q8)) := (Kept.refl _ _).setCell (Or.inl (by simp)) _
 have hWC9 := setCellAt (i := 0) (.slice p8 l8 q8) hS8.1
 have hown9 := owns_kept hown8 k9 (by intro b hb; simp; exact ne_row (owns_row hown8 hb) ⟨_, _, hS8.1⟩ (by decide))
 have k29 : Kept (p :: kv.ownBlock.toList) (w1.alloc (.cells #[.int .i64 A] 3)) (w8.setCell ⟨p, 0, none⟩ (.slice p8 l8 q8)) := (k8.mono (by intro x hx; exact List.mem_cons_of_mem _ hx)).trans (k9.mono (by intro x hx; simp at hx; subst hx; simp))
 obtain ⟨hI, hB⟩ := (h.kept k12).keep hS2.1 (owns_kept h4 k12 (by simp)) own2 k29 hWC9 hown9 (by intro v hv; rcases List.mem_append.1 hv with hv | hv; exact h3 v hv; simp at hv; subst hv; rfl)
 clear hr8 hgr8 hown8 hS8 k8 k9 hWC9 hown9 k29 hS2 hbs hS
 go_wp2
 go_ret
 exact ⟨rfl, ds, j + 1, hI, hl, hj, hk, (k12.belowB h.size (by simp)).trans hB⟩

end Go.Proofs.YtcklgafpgdhnaaaGreatDoor

namespace Go.Proofs.YtcklgafpgdhnaaaGreatDoor
open Go.RowKit

theorem enters_pick (args : Array Value) (w : World) : (callFunc 97 args).run Tryz.prog w = .ok (.enter 97 args) w := enters Tryz.func97 (by kernel_rfl) (by kernel_rfl) args w
theorem spl : (Tryz.prog.info? 148).map (·.size) = some 1 := by kernel_rfl

def PS (ob p g0 : Nat) (kv dv : Value) (ocs cur : Array Value) (W : World) : Prop := WC W p kv dv ∧ W.heap[ob]? = some (.cells ocs 64 (0, 0)) ∧ W.heap[g0]? = some (.cells cur 148 (0, 0))

theorem PS.kept {ob p g0 : Nat} {kv dv : Value} {ocs cur : Array Value} {w w' : World} (h : PS ob p g0 kv dv ocs cur w) (hk : Kept [] w w') : PS ob p g0 kv dv ocs cur w' :=
 ⟨hk.get h.1 (by simp), hk.get h.2.1 (by simp), hk.get h.2.2 (by simp)⟩

theorem WI.slots {I : Iface} {B p j : Nat} {w : World} {ds : List Dk} (h : WI I B w p ds j) (hlen : 0 < ds.length) : ∃ kv g cap cur xs, WC w p kv (.slice (some ⟨g, 0, none⟩) ds.length cap) ∧ w.heap[g]? = some (.cells cur 148 (0, 0)) ∧
  (∀ (i : Nat) (d : Dk), ds[i]? = some d → cur[i]? = some (.pointer (some ⟨d.q, 0, none⟩))) ∧ w.ownsRow B 3 1 kv j xs ∧ (∀ v ∈ xs, v.oneCell' = true) ∧ w.ownsRow B 148 1 (.slice (some ⟨g, 0, none⟩) ds.length cap) ds.length (ptrs ds) := by
 obtain ⟨kv, dv, xs, h1, h2, h3, h4⟩ := h.ex
 have h4' := h4
 obtain ⟨_, ⟨_, h0⟩ | ⟨g, cap, cur, rfl, _, hh, _, _, _, htk⟩⟩ := h4'
 ·omega
 refine ⟨kv, g, cap, cur, xs, h1, hh, ?_, h2, h3, h4⟩
 intro i d hi
 have hil : i < ds.length := (List.getElem?_eq_some_iff.1 hi).1
 have := congrArg (fun x => x[i]?) htk
 simp only [List.getElem?_take, Nat.mul_one, hil, if_true, ptrs, List.getElem?_map, hi, Option.map_some] at this
 simpa using this

theorem run_build_disk (w : World) (c : Option Addr) (n : Int) (may were : Value) :
  (Instr.build 154 #[(0, .pointer c), (1, .agg (rcells n may false were false false))]).run Tryz.prog w = .ok (.agg #[.pointer c, .int .i64 n, may, .bool false, were, .bool false, .bool false, .pointer none]) w := by
 unfold rcells
 simp [Instr.build, go_sem]

theorem sdisks : (Tryz.prog.info? 102).map (·.size) = some 1 := by kernel_rfl

def CS (p q a : Nat) (n : Int) (kv dv may were s : Value) (W : World) : Prop := WC W p kv dv ∧ LD W q a n may were s
theorem CS.kept {p q a : Nat} {n : Int} {kv dv may were s : Value} {w w' : World} (h : CS p q a n kv dv may were s w) (hk : Kept [] w w') : CS p q a n kv dv may were s w' := ⟨hk.get h.1 (by simp), hk.get h.2 (by simp)⟩

theorem outer_copy (I : Iface) (p : Nat) (X A B : Int) (s t : ByteArray) (Bs j N : Nat) (ds : List Dk) (w : World) (h : WI I Bs w p ds j) (hlen : 0 < ds.length) (hl : ds.length + 1 ≤ N) (hj : j ≤ N) (hk : ∀ d ∈ ds, d.le N) (hN : N ≤ 20000) (hX1 : -9223372036854775808 ≤ X) (hX2 : X ≤ 9223372036854775807) (hA1 : -9223372036854775808 ≤ A) (hA2 : A ≤ 9223372036854775807) (hB1 : -9223372036854775808 ≤ B) (hB2 : B ≤ 9223372036854775807) :
  Calls Tryz.prog 129 #[.pointer (some ⟨p, 0, none⟩), .agg (opc 5 X A B s t)] w (StepR I Bs p N true w) := by
 obtain ⟨kv, g0, cap, cur, xs, h1, hg0, hcur0, h2, h3, h4⟩ := h.slots hlen
 obtain ⟨d, hd⟩ : ∃ d, ds[pk X ds.length]? = some d := ⟨_, List.getElem?_eq_getElem (pk_lt X ds.length hlen)⟩
 have hcur := hcur0 _ d hd
 have hlp := lt_heap h1
 have k1 := (Kept.refl [] w).alloc (.cells (opc 5 X A B s t) 64)
 have n1 := heap_alloc_new w (.cells (opc 5 X A B s t) 64)
 have hS : PS w.heap.size p g0 kv (.slice (some ⟨g0, 0, none⟩) ds.length cap) (opc 5 X A B s t) cur (w.alloc (.cells (opc 5 X A B s t) 64)).drew := ⟨k1.get h1 (by simp), n1, k1.get hg0 (by simp)⟩
 have k1d : Kept [] w (w.alloc (.cells (opc 5 X A B s t) 64)).drew := k1.drew
 have cp1 : w.cell? ⟨p, 1, none⟩ = some (.slice (some ⟨g0, 0, none⟩) ds.length cap) := cellAt h1 rfl
 have hdi := (h.kept k1d).all d (List.mem_of_getElem? hd)
 have hln : ¬ (ds.length : Int) = 0 := by omega
 have hlb : ((ds.length : Int) == 0) = false := by simpa using hln
 have hoc : (opc 5 X A B s t)[1]? = some (.int .i64 X) := rfl
 have hoc0 : (opc 5 X A B s t)[0]? = some (.int .i64 5) := rfl
 have hoc2 : (opc 5 X A B s t)[2]? = some (.int .i64 A) := rfl
 have hoc3 : (opc 5 X A B s t)[3]? = some (.int .i64 B) := rfl
 clear n1 hcur0
 generalize hob : w.heap.size = ob at *
 have HOB : Hid _ := hob
 go_enter Tryz.func129, Tryz.ntmps129
 unfold opc at *
 go_wp2


 clear hob hln hlb
 generalize hocs : (#[.int .i64 5, .int .i64 X, .int .i64 A, .int .i64 B, .string s, .string t] : Array Value) = ocs at *
 refine wp_region_S (PS ob p g0 kv (.slice (some ⟨g0, 0, none⟩) ds.length cap) ocs cur) (by kernel_rfl) ?_
 refine wpAnyH_take (i := 0) (v := .pointer (some ⟨p, 0, none⟩)) rfl (by kernel_rfl) (by kernel_rfl) (by kernel_rfl) (fun _ _ _ h => h) (Or.inl ⟨by rfl, fun W hW => by rfl⟩) hS ?_
 simp only [Act.put, zA, zC, zD, zE, zF]
 refine wpAnyH_take (i := 1) (v := .pointer (some ⟨p, 0, none⟩)) rfl (by kernel_rfl) (by kernel_rfl) (by kernel_rfl) (fun _ _ _ h => h) (Or.inl ⟨by rfl, fun W hW => by rfl⟩) hS ?_
 simp only [Act.put, zA, zB, zC, zD, zE, zF]
 refine wpAnyH_take (i := 2) (v := .pointer (some ⟨p, 1, none⟩)) rfl (by kernel_rfl) (by kernel_rfl) (by kernel_rfl) (fun _ _ _ h => h) (Or.inl ⟨by rfl, fun W hW => by rfl⟩) hS ?_
 simp only [Act.put, zA, zB, zC, zD, zE, zF]
 refine wpAnyH_take (i := 3) (v := .slice (some ⟨g0, 0, none⟩) ds.length cap) rfl (by kernel_rfl) (by kernel_rfl) (by kernel_rfl) (fun _ _ _ h => h) (Or.inl ⟨by rfl, fun W hW => exec_load 102 (.tmp 26) rfl ⟨p, 1, none⟩ rfl _ (run_load1 Tryz.underlying102 rfl (cellAt hW.1 rfl))⟩) hS ?_
 simp only [Act.put, zA, zB, zC, zD, zE, zF]
 refine wpAnyH_take (i := 4) (v := .pointer (some ⟨ob, 1, none⟩)) rfl (by kernel_rfl) (by kernel_rfl) (by kernel_rfl) (fun _ _ _ h => h) (Or.inl ⟨by rfl, fun W hW => by rfl⟩) hS ?_
 simp only [Act.put, zA, zB, zC, zD, zE, zF]
 refine wpAnyH_take (i := 5) (v := .int .i64 X) rfl (by kernel_rfl) (by kernel_rfl) (by kernel_rfl) (fun _ _ _ h => h) (Or.inl ⟨by rfl, fun W hW => exec_load 3 (.tmp 28) rfl ⟨ob, 1, none⟩ rfl _ (run_load1 Tryz.underlying3 rfl (cellAt hW.2.1 hoc))⟩) hS ?_
 simp only [Act.put, zA, zB, zC, zD, zE, zF]
 refine wpAnyH_take (i := 6) (v := .pointer (some ⟨p, 0, none⟩)) rfl (by kernel_rfl) (by kernel_rfl) (by kernel_rfl) (fun _ _ _ h => h) (Or.inl ⟨by rfl, fun W hW => by rfl⟩) hS ?_
 simp only [Act.put, zA, zB, zC, zD, zE, zF]
 refine wpAnyH_take (i := 7) (v := .pointer (some ⟨p, 0, none⟩)) rfl (by kernel_rfl) (by kernel_rfl) (by kernel_rfl) (fun _ _ _ h => h) (Or.inl ⟨by rfl, fun W hW => by rfl⟩) hS ?_
 simp only [Act.put, zA, zB, zC, zD, zE, zF]
 refine wpAnyH_take (i := 8) (v := .pointer (some ⟨p, 1, none⟩)) rfl (by kernel_rfl) (by kernel_rfl) (by kernel_rfl) (fun _ _ _ h => h) (Or.inl ⟨by rfl, fun W hW => by rfl⟩) hS ?_
 simp only [Act.put, zA, zB, zC, zD, zE, zF]
 refine wpAnyH_take (i := 9) (v := .slice (some ⟨g0, 0, none⟩) ds.length cap) rfl (by kernel_rfl) (by kernel_rfl) (by kernel_rfl) (fun _ _ _ h => h) (Or.inl ⟨by rfl, fun W hW => exec_load 102 (.tmp 32) rfl ⟨p, 1, none⟩ rfl _ (run_load1 Tryz.underlying102 rfl (cellAt hW.1 rfl))⟩) hS ?_
 simp only [Act.put, zA, zB, zC, zD, zE, zF]
 refine wpAnyH_take (i := 10) (v := .int .i64 ds.length) rfl (by kernel_rfl) (by kernel_rfl) (by kernel_rfl) (fun _ _ _ h => h) (Or.inl ⟨by rfl, fun W hW => exec_len (.tmp 33) 102 148 rfl _ _ _ rfl Tryz.underlying102⟩) hS ?_
 simp only [Act.put, zA, zB, zC, zD, zE, zF]
 refine held_one (i := 11) (by kernel_rfl) (wpOp_call rfl (by rfl) 97 #[.int .i64 X, .int .i64 ds.length] (exec_call _ _ _ rfl _ (by simp [Act.eval]) (enters_pick _ _)) _ (pick_any X ds.length _ hlen (by omega) hX1 hX2) ?_)
 rintro e W5 ⟨rfl, rfl⟩
 refine ⟨_, rfl, hS, ?_⟩
 simp only [Act.put, zA, zB, zC, zD, zE, zF]
 refine wpAnyH_take (i := 12) (v := .pointer (some ⟨g0, pk X ds.length, none⟩)) rfl (by kernel_rfl) (by kernel_rfl) (by kernel_rfl) (fun _ _ _ h => h) (Or.inl ⟨by rfl, fun W hW => exec_index 102 (.tmp 27) (.tmp 35) rfl g0 0 ds.length cap (pk X ds.length) 1 rfl rfl 148 Tryz.underlying102 spl (pk_lt X ds.length hlen) _ (by omega)⟩) hS ?_
 simp only [Act.put, zA, zB, zC, zD, zE, zF]
 refine wpAnyH_take (i := 13) (v := .pointer (some ⟨d.q, 0, none⟩)) rfl (by kernel_rfl) (by kernel_rfl) (by kernel_rfl) (fun _ _ _ h => h) (Or.inl ⟨by rfl, fun W hW => exec_load 148 (.tmp 36) rfl ⟨g0, pk X ds.length, none⟩ rfl _ (run_load1 Tryz.underlying148 rfl (cellAt hW.2.2 hcur))⟩) hS ?_
 simp only [Act.put, zA, zB, zC, zD, zE, zF]
 refine wpAnyH_take (i := 14) (v := .pointer (some ⟨d.q, 0, none⟩)) rfl (by kernel_rfl) (by kernel_rfl) (by kernel_rfl) (fun _ _ _ h => h) (Or.inl ⟨by rfl, fun W hW => by rfl⟩) hS ?_
 simp only [Act.put, zA, zB, zC, zD, zE, zF]
 refine wpAnyH_done (by kernel_rfl) ?_ _
 generalize (w.alloc (.cells ocs 64)).drew = w1 at *
 obtain ⟨⟨hdn, hdk, ⟨may, were, m, L, c, wr, t0, q1, m1, hm1, hm0, hmk, u1, dv1, hSt⟩, _⟩, bf⟩ := hdi
 generalize stPtr d.st = s0 at q1
 have co0 : w1.cell? ⟨ob, 0, none⟩ = some (.int .i64 5) := cellAt hS.2.1 hoc0
 have co2 : w1.cell? ⟨ob, 2, none⟩ = some (.int .i64 A) := cellAt hS.2.1 hoc2
 have co3 : w1.cell? ⟨ob, 3, none⟩ = some (.int .i64 B) := cellAt hS.2.1 hoc3
 have cd0 : w1.cell? ⟨d.q, 0, none⟩ = some (.pointer (some ⟨d.a, 0, none⟩)) := cellAt q1 rfl
 clear cp1 hoc0 hoc2 hoc3 hoc hcur
 go_wp2_with (first
  | (go_at_call 160; refine (near_any _ _ (by assumption) (by assumption)).mono ?_; rintro e w' ⟨rfl, rfl⟩)
  | (go_at_call 29; refine (Bytes_o d.a d.g d.n L c wr t0 _ dv1 hdn).mono ?_; rintro e w2 ⟨rfl, hk2⟩; have q2 : LD w2 d.q d.a d.n may were (.pointer s0) := hk2.get q1 (by simp); have cd1 : w2.cell? ⟨d.q, 1, none⟩ = some (.int .i64 d.n) := cellAt q2 rfl)
  | (go_at_call 128; refine (Laid_o d.n L _ hdn dv1.l).mono ?_; rintro e w3 ⟨a, g, rfl, hd3, ha3, hg3, hk3⟩))
 have hS3 : CS p d.q d.a d.n kv (.slice (some ⟨g0, 0, none⟩) ds.length cap) may were (.pointer s0) w3.drew := ⟨hk3.get (hk2.get hS.1 (by simp)) (by simp), hk3.get q2 (by simp)⟩
 have k03 : Kept [] w w3.drew := ((k1d.trans hk2).trans hk3).drew
 have hd3' : Dev w3.drew a g d.n L 0 0 0 := hd3.kept ((Kept.refl [] w3).drew) (by simp) (by simp)
 have hsz3 := hk3.size
 have k34 : Kept [] w3 w3.drew := (Kept.refl [] w3).drew
 have hsz2 := k1d.size
 have hsz1 := hk2.size
 refine wp_region_K (CS p d.q d.a d.n kv (.slice (some ⟨g0, 0, none⟩) ds.length cap) may were (.pointer s0)) 16 (by kernel_rfl) ?_
 have hz3 : w3.drew.heap.size = w3.heap.size := rfl
 generalize w3.drew = w4 at *
 refine wpAnyK_take (i := 0) (v := .pointer (some ⟨p, 0, none⟩)) rfl (by kernel_rfl) (by kernel_rfl) (by kernel_rfl) (by kernel_rfl) (fun _ _ _ h => h) (Or.inl ⟨by rfl, fun W hW => by rfl⟩) hS3 ?_
 simp only [Act.put, zA, zC, zD, zE, zF]
 refine wpAnyK_take (i := 1) (v := .pointer (some ⟨p, 0, none⟩)) rfl (by kernel_rfl) (by kernel_rfl) (by kernel_rfl) (by kernel_rfl) (fun _ _ _ h => h) (Or.inl ⟨by rfl, fun W hW => by rfl⟩) hS3 ?_
 simp only [Act.put, zA, zB, zC, zD, zE, zF]
 refine wpAnyK_take (i := 2) (v := .pointer (some ⟨p, 0, none⟩)) rfl (by kernel_rfl) (by kernel_rfl) (by kernel_rfl) (by kernel_rfl) (fun _ _ _ h => h) (Or.inl ⟨by rfl, fun W hW => by rfl⟩) hS3 ?_
 simp only [Act.put, zA, zB, zC, zD, zE, zF]
 refine wpAnyK_take (i := 3) (v := .pointer (some ⟨p, 1, none⟩)) rfl (by kernel_rfl) (by kernel_rfl) (by kernel_rfl) (by kernel_rfl) (fun _ _ _ h => h) (Or.inl ⟨by rfl, fun W hW => by rfl⟩) hS3 ?_
 simp only [Act.put, zA, zB, zC, zD, zE, zF]
 refine wpAnyK_take (i := 4) (v := .slice (some ⟨g0, 0, none⟩) ds.length cap) rfl (by kernel_rfl) (by kernel_rfl) (by kernel_rfl) (by kernel_rfl) (fun _ _ _ h => h) (Or.inl ⟨by rfl, fun W hW => exec_load 102 (.tmp 63) rfl ⟨p, 1, none⟩ rfl _ (run_load1 Tryz.underlying102 rfl (cellAt hW.1 rfl))⟩) hS3 ?_
 simp only [Act.put, zA, zB, zC, zD, zE, zF]
 refine wpAnyK_take (i := 5) (v := .pointer (some ⟨a, 0, none⟩)) rfl (by kernel_rfl) (by kernel_rfl) (by kernel_rfl) (by kernel_rfl) (fun _ _ _ h => h) (Or.inl ⟨by rfl, fun W hW => by rfl⟩) hS3 ?_
 simp only [Act.put, zA, zB, zC, zD, zE, zF]
 refine wpAnyK_take (i := 6) (v := .pointer (some ⟨d.q, 0, none⟩)) rfl (by kernel_rfl) (by kernel_rfl) (by kernel_rfl) (by kernel_rfl) (fun _ _ _ h => h) (Or.inl ⟨by rfl, fun W hW => by rfl⟩) hS3 ?_
 simp only [Act.put, zA, zB, zC, zD, zE, zF]
 refine wpAnyK_take (i := 7) (v := .pointer (some ⟨d.q, 0, none⟩)) rfl (by kernel_rfl) (by kernel_rfl) (by kernel_rfl) (by kernel_rfl) (fun _ _ _ h => h) (Or.inl ⟨by rfl, fun W hW => by rfl⟩) hS3 ?_
 simp only [Act.put, zA, zB, zC, zD, zE, zF]
 refine wpAnyK_take (i := 8) (v := .pointer (some ⟨d.q, 1, none⟩)) rfl (by kernel_rfl) (by kernel_rfl) (by kernel_rfl) (by kernel_rfl) (fun _ _ _ h => h) (Or.inl ⟨by rfl, fun W hW => by rfl⟩) hS3 ?_
 simp only [Act.put, zA, zB, zC, zD, zE, zF]
 refine wpAnyK_take (i := 9) (v := .agg (rcells d.n may false were false false)) rfl (by kernel_rfl) (by kernel_rfl) (by kernel_rfl) (by kernel_rfl) (fun _ _ _ h => h) (Or.inl ⟨by rfl, fun W hW => exec_load 151 (.tmp 68) rfl ⟨d.q, 1, none⟩ rfl _ hW.2.load⟩) hS3 ?_
 simp only [Act.put, zA, zB, zC, zD, zE, zF]
 refine wpAnyK_take (i := 10) (v := .agg (#[.pointer (some ⟨a, 0, none⟩), .int .i64 d.n, may, .bool false, were, .bool false, .bool false, .pointer none] : Array Value)) rfl (by kernel_rfl) (by kernel_rfl) (by kernel_rfl) (by kernel_rfl) (fun _ _ _ h => h) (Or.inl ⟨by rfl, fun W hW => exec_build 154 (.tmp 65) (.tmp 69) 0 1 rfl _ _ _ rfl rfl (run_build_disk _ _ _ _ _)⟩) hS3 ?_
 simp only [Act.put, zA, zB, zC, zD, zE, zF]
 have hS5 := hS3.kept ((Kept.refl [] w4).alloc (.cells (#[.pointer (some ⟨a, 0, none⟩), .int .i64 d.n, may, .bool false, were, .bool false, .bool false, .pointer none] : Array Value) 154))
 refine K_one (i := 11) (by kernel_rfl) (wpOp_val rfl rfl _ _ (exec_box 154 (.tmp 70) rfl (#[.pointer (some ⟨a, 0, none⟩), .int .i64 d.n, may, .bool false, were, .bool false, .bool false, .pointer none] : Array Value) rfl) ⟨fun _ => hS5, ?_⟩)
 simp only [Act.put, zA, zB, zC, zD, zE, zF]
 have q5 := heap_alloc_new w4 (.cells (#[.pointer (some ⟨a, 0, none⟩), .int .i64 d.n, may, .bool false, were, .bool false, .bool false, .pointer none] : Array Value) 154)
 have k45 := (Kept.refl [] w4).alloc (.cells (#[.pointer (some ⟨a, 0, none⟩), .int .i64 d.n, may, .bool false, were, .bool false, .bool false, .pointer none] : Array Value) 154)
 have hz5 : (w4.alloc (.cells (#[.pointer (some ⟨a, 0, none⟩), .int .i64 d.n, may, .bool false, were, .bool false, .bool false, .pointer none] : Array Value) 154)).heap.size = w4.heap.size + 1 := by simp
 generalize hw5 : w4.alloc (.cells (#[.pointer (some ⟨a, 0, none⟩), .int .i64 d.n, may, .bool false, were, .bool false, .bool false, .pointer none] : Array Value) 154) = w5 at *
 clear hw5
 obtain ⟨ie, hie, hz1, hz2, hz3⟩ := info_parts ipd
 have hbs := run_buildS (P := Tryz.prog) w5 102 148 (.pointer (some ⟨w4.heap.size, 0, none⟩)) ie (.pointer none) Tryz.underlying102 hie hz1 rfl hz2 rfl
 have k56 := (Kept.refl [] w5).alloc (.cells #[.pointer (some ⟨w4.heap.size, 0, none⟩)] 148)
 have hS6 := hS5.kept k56
 refine K_one (i := 12) (by kernel_rfl) (wpOp_val rfl rfl _ _ (exec_buildSlice 102 1 (.tmp 71) rfl (.pointer (some ⟨w4.heap.size, 0, none⟩)) rfl _ hbs) ⟨fun _ => hS6, ?_⟩)
 simp only [Act.put, zA, zB, zC, zD, zE, zF]
 have k06 : Kept [] w (w5.alloc (.cells #[.pointer (some ⟨w4.heap.size, 0, none⟩)] 148)) := (k03.trans k45).trans k56
 have own6 := owns_kept h4 k06 (by simp)
 have hsz5 := k45.size
 have hBs := h.size
 obtain ⟨v8, w8, hr8, hown8, hgr8, -⟩ := run_append_own (P := Tryz.prog) (w5.alloc (.cells #[.pointer (some ⟨w4.heap.size, 0, none⟩)] 148)) Bs 102 102 148 ie _ 1 8 Tryz.underlying102 hie hz1 hz2 hz3 rfl (by decide) (.slice (some ⟨g0, 0, none⟩) ds.length cap) ds.length (ptrs ds) own6 ⟨w5.heap.size, 0, none⟩ 1 1 [.pointer (some ⟨w4.heap.size, 0, none⟩)] rfl (cell_one_new _ _ _) (by simp [Value.oneCell']) (by unfold maxLen; omega) (by omega) (by simp; omega)
 obtain ⟨p8, l8, q8, rfl⟩ := owns_sl hown8
 have k8 := grown_kept hgr8 (Value.slice (some ⟨g0, 0, none⟩) ds.length cap).ownBlock.toList (by intro x hx; rw [hx]; simp)
 have hpn : ∀ {x : Nat} {t : TypeId}, (∃ cs fr, (w5.alloc (.cells #[.pointer (some ⟨w4.heap.size, 0, none⟩)] 148)).heap[x]? = some (.cells cs t fr)) → t ≠ 148 → x ∉ (Value.slice (some ⟨g0, 0, none⟩) ds.length cap).ownBlock.toList := by
  intro x t hx ht hm; simp at hm; exact ne_row hx (owns_row own6 hm) ht rfl
 have hS8 : CS p d.q d.a d.n kv (.slice (some ⟨g0, 0, none⟩) ds.length cap) may were (.pointer s0) w8 := ⟨k8.get hS6.1 (hpn ⟨_, _, hS6.1⟩ (by decide)), k8.get hS6.2 (hpn ⟨_, _, hS6.2⟩ (by decide))⟩
 refine K_one (i := 13) (by kernel_rfl) (wpOp_val rfl rfl _ w8 (exec_append (.tmp 64) (.tmp 72) 102 rfl (.slice (some ⟨g0, 0, none⟩) ds.length cap) (.slice (some ⟨w5.heap.size, 0, none⟩) 1 1) rfl rfl _ hr8) ⟨fun _ => hS8, ?_⟩)
 simp only [Act.put, zA, zB, zC, zD, zE, zF]
 refine K_one (i := 14) (by kernel_rfl) (wpOp_val rfl rfl (.pointer (some ⟨p, 0, none⟩)) w8 rfl ⟨fun _ => hS8, ?_⟩)
 simp only [Act.put, zA, zB, zC, zD, zE, zF]
 refine K_one (i := 15) (by kernel_rfl) (wpOp_val rfl rfl (.pointer (some ⟨p, 1, none⟩)) w8 rfl ⟨fun _ => hS8, ?_⟩)
 simp only [Act.put, zA, zB, zC, zD, zE, zF]
 refine K_one (i := 16) (by kernel_rfl) (wpOp_skip rfl rfl _ (exec_store 102 (.tmp 75) (.tmp 73) rfl ⟨p, 1, none⟩ rfl (.slice p8 l8 q8) rfl (run_store1 sdisks rfl hS8.1 (by simp))) ⟨fun hne => absurd rfl hne, ?_⟩)
 simp only [Act.put, zA, zB, zC]
 refine wpAnyK_done (by kernel_rfl) ?_ _
 have k9 : Kept [p] w8 (w8.setCell ⟨p, 1, none⟩ (.slice p8 l8 q8)) := (Kept.refl _ _).setCell (Or.inl (by simp)) _
 have hWC9 := setCellAt (i := 1) (.slice p8 l8 q8) hS8.1
 have hown9 := owns_kept hown8 k9 (by intro b hb; simp; exact ne_row (owns_row hown8 hb) ⟨_, _, hS8.1⟩ (by decide))
 have k29 : Kept (p :: (Value.slice (some ⟨g0, 0, none⟩) ds.length cap).ownBlock.toList) (w5.alloc (.cells #[.pointer (some ⟨w4.heap.size, 0, none⟩)] 148)) (w8.setCell ⟨p, 1, none⟩ (.slice p8 l8 q8)) := (k8.mono (by intro x hx; exact List.mem_cons_of_mem _ hx)).trans (k9.mono (by intro x hx; simp at hx; subst hx; simp))
 have k16 : Kept [] w' (w5.alloc (.cells #[.pointer (some ⟨w4.heap.size, 0, none⟩)] 148)) := (((hk2.trans hk3).trans k34).trans k45).trans k56
 have hdi : DI I (w5.alloc (.cells #[.pointer (some ⟨w4.heap.size, 0, none⟩)] 148)) ⟨w4.heap.size, a, g, d.n, d.k, none⟩ :=
  ⟨hdn, hdk, ⟨may, were, m, L, 0, 0, 0, k56.get q5 (by simp), owns_kept m1 k16 (by simp), hm1, hm0, hmk, owns_kept u1 k16 (by simp), (hd3'.kept k45 (by simp) (by simp)).kept k56 (by simp) (by simp), hSt⟩, by intro s o hst; cases hst⟩
 obtain ⟨hI, hB⟩ := (h.kept k06).more hS6.1 own6 (owns_kept h2 k06 (by simp)) h3 k29 hWC9 ⟨w4.heap.size, a, g, d.n, d.k, none⟩ (by simpa [ptrs] using hown9) hdi (by
  intro y hy
  simp only [Dk.foot, stFoot, List.mem_cons, List.not_mem_nil, or_false] at hy
  rcases hy with rfl | rfl | rfl <;> omega) (by
  intro e he y hy hx
  have := ((h.all e he).1.foot y hy).lt
  simp only [Dk.foot, stFoot, List.mem_cons, List.not_mem_nil, or_false] at hx
  rcases hx with rfl | rfl | rfl <;> omega)
 clear hr8 hgr8 hown8 hS8 k8 k9 hWC9 hown9 k29 hbs hS6 hS5 hS3 hdi q5
 go_wp2
 go_ret
 refine ⟨rfl, _, j, hI, by simpa using hl, hj, ?_, (k06.belowB h.size (by simp)).trans hB⟩
 intro e he
 rcases List.mem_append.1 he with he | he
 ·exact hk e he
 ·simp at he; subst he; exact ⟨(hk d (List.mem_of_getElem? hd)).1, by intro s o hst; cases hst⟩

end Go.Proofs.YtcklgafpgdhnaaaGreatDoor
