import Derived.Test.YtloihcnbcknbnaaGreatDoorPtal
namespace Go.Proofs.YtloihcnbcknbnaaGreatDoor
open Go.RowKit

/-- a step of a script, as it is handed on -/
def opc (K X A B : Int) (s t : ByteArray) : Array Value := #[.int .i64 K, .int .i64 X, .int .i64 A, .int .i64 B, .string s, .string t]

set_option maxRecDepth 100000 in
set_option maxHeartbeats 400000 in
theorem outer_no (p K X A B : _) (s t : ByteArray) (w : World) (hK : K < 5 ∨ 9 < K) :
    Calls Tryz.prog 104 #[.pointer (some ⟨p, 0, none⟩), .agg (opc K X A B s t)] w fun e w' => e = .returned (.bool false) ∧ Kept [] w w' := by
  unfold opc
  by_cases h5 : K < 5
  · go_enter Tryz.func104, Tryz.ntmps104
    go_wp2
    go_ret
    exact ⟨rfl, (Kept.refl _ _).alloc _⟩
  · have h9 : 9 < K := by omega
    have d5 : decide (K < 5) = false := by simpa using h5
    go_enter Tryz.func104, Tryz.ntmps104
    go_wp2
    go_ret
    exact ⟨rfl, (Kept.refl _ _).alloc _⟩

set_option maxRecDepth 100000 in
set_option maxHeartbeats 400000 in
theorem outer_none (p : Nat) (X A B : Int) (s t : ByteArray) (kv : Value) (pd : Option Addr) (cap : Nat) (w : World) (hw : WC w p kv (.slice pd 0 cap)) :
    Calls Tryz.prog 104 #[.pointer (some ⟨p, 0, none⟩), .agg (opc 5 X A B s t)] w fun e w' => e = .returned (.bool true) ∧ Kept [] w w' := by
  have c1 : w.cell? ⟨p, 1, none⟩ = some (.slice pd 0 cap) := cellAt hw rfl
  have hl := lt_heap hw
  unfold opc
  go_enter Tryz.func104, Tryz.ntmps104
  go_wp2
  go_ret
  exact ⟨rfl, (Kept.refl _ _).alloc _⟩

set_option maxRecDepth 100000 in
set_option maxHeartbeats 400000 in
theorem owner_outer (p K : _) (X A B : Int) (s t : ByteArray) (w : World) (b : Bool) (R : World → Prop) (hK : K < 1 ∨ 4 < K)
    (hR : ∀ W, Kept [] w W → Calls Tryz.prog 104 #[.pointer (some ⟨p, 0, none⟩), .agg (opc K X A B s t)] W fun e w' => e = .returned (.bool b) ∧ R w') :
    Calls Tryz.prog 77 #[.pointer (some ⟨p, 0, none⟩), .agg (opc K X A B s t)] w fun e w' => e = .returned (.bool b) ∧ R w' := by
  have HR : Hid (∀ W, Kept [] w W → Calls Tryz.prog 104 #[.pointer (some ⟨p, 0, none⟩), .agg (opc K X A B s t)] W fun e w' => e = .returned (.bool b) ∧ R w') := hR
  clear hR
  have e1 : ¬ K = 1 := by omega
  have e2 : ¬ K = 2 := by omega
  have e3 : ¬ K = 3 := by omega
  have e4 : ¬ K = 4 := by omega
  have b1 : (K == 1) = false := by simpa using e1
  have b2 : (K == 2) = false := by simpa using e2
  have b3 : (K == 3) = false := by simpa using e3
  have b4 : (K == 4) = false := by simpa using e4
  unfold opc at HR ⊢
  go_enter Tryz.func77, Tryz.ntmps77
  go_wp2_with (first
    | (go_at_call 104; refine (HR.out _ ((Kept.refl [] w).alloc _)).mono ?_; rintro e w2 ⟨rfl, h2⟩))
  go_ret
  exact ⟨rfl, h2⟩

end Go.Proofs.YtloihcnbcknbnaaGreatDoor

namespace Go.Proofs.YtloihcnbcknbnaaGreatDoor
open Go.RowKit

/-- a step: what it answers, and what is there behind it -/
def StepR (I : Iface) (B p : Nat) (N : Nat) (b : Bool) (w : World) (e : Ending) (w' : World) : Prop :=
  e = .returned (.bool b) ∧ ∃ ds' j', WI I B w' p ds' j' ∧ ds'.length ≤ N ∧ j' ≤ N ∧ (∀ d ∈ ds', d.le N) ∧ Below B w w'

theorem ipd : (Tryz.prog.info? 130).map (fun i => (i.zero, i.size, i.bytes)) = some (some (.pointer none), 1, 8) := by kernel_rfl
theorem spd : (Tryz.prog.info? 26).map (·.size) = some 1 := by kernel_rfl
theorem iint : (Tryz.prog.info? 3).map (fun i => (i.zero, i.size, i.bytes)) = some (some (.int .i64 0), 1, 8) := by kernel_rfl

set_option maxRecDepth 100000 in
set_option maxHeartbeats 400000 in
theorem owner_none (I : Iface) (p : Nat) (X A B : Int) (s t : ByteArray) (Bs j N : Nat) (ds : List Dk) (w : World) (h : WI I Bs w p ds j) (hl : ds.length ≤ N) (hk : ∀ d ∈ ds, d.le N) :
    Calls Tryz.prog 77 #[.pointer (some ⟨p, 0, none⟩), .agg (opc 2 X A B s t)] w (StepR I Bs p N true w) := by
  obtain ⟨kv, dv, xs, h1, h2, h3, h4⟩ := h.ex
  have hlp := lt_heap h1
  have c0 : w.cell? ⟨p, 0, none⟩ = some kv := cellAt h1 rfl
  have f0 : w.frozen? ⟨p, 0, none⟩ = false := frozen_of_row _ _ _ _ _ h1
  unfold opc
  go_enter Tryz.func77, Tryz.ntmps77
  go_wp2
  go_ret
  have k1 : Kept (p :: kv.ownBlock.toList) w (w.setCell ⟨p, 0, none⟩ (.slice none 0 0)) := (Kept.refl _ _).setCell (Or.inl (by simp)) _
  obtain ⟨hI, hB⟩ := h.keep h1 h4 h2 k1 (setCellAt (i := 0) (.slice none 0 0) h1) (World.ownsRow_nil _ _ _ _) (by simp)
  have k2 := (Kept.refl [] (w.setCell ⟨p, 0, none⟩ (.slice none 0 0))).alloc (.cells #[.int .i64 2, .int .i64 X, .int .i64 A, .int .i64 B, .string s, .string t] 62)
  exact ⟨rfl, ds, 0, hI.kept k2, hl, Nat.zero_le _, hk, hB.trans (k2.belowB hI.size (by simp))⟩

/-- a new disk's record -/
def newd (n : Nat) : Obj := .cells (#[.pointer none, .int .i64 n, .slice none 0 0, .bool false, .slice none 0 0, .bool false, .bool false, .pointer none] : Array Value) 136 (0, 0)

set_option maxRecDepth 100000 in
set_option maxHeartbeats 400000 in
theorem owner_disk (I : Iface) (p : Nat) (X A B : Int) (s t : ByteArray) (Bs j N : Nat) (ds : List Dk) (w : World) (h : WI I Bs w p ds j) (hl : ds.length + 1 ≤ N) (hj : j ≤ N) (hk : ∀ d ∈ ds, d.le N) (hN : N ≤ 20000) :
    Calls Tryz.prog 77 #[.pointer (some ⟨p, 0, none⟩), .agg (opc 3 X A B s t)] w (StepR I Bs p N true w) := by
  obtain ⟨kv, dv, xs, h1, h2, h3, h4'⟩ := h.ex
  obtain ⟨pd, ld, cd, rfl⟩ := owns_slice h4'
  obtain ⟨ie, hie, hz1, hz2, hz3⟩ := info_parts ipd
  have hlp := lt_heap h1
  have k1 := (Kept.refl [] w).alloc (.cells (opc 3 X A B s t) 62)
  have k2 := (Kept.refl [] (w.alloc (.cells (opc 3 X A B s t) 62))).alloc (newd (nb A))
  have n2 := heap_alloc_new (w.alloc (.cells (opc 3 X A B s t) 62)) (newd (nb A))
  rw [World.size_alloc] at n2
  have HK2 : Hid (Kept [] w ((w.alloc (.cells (opc 3 X A B s t) 62)).alloc (newd (nb A)))) := k1.trans k2
  have hz : ((w.alloc (.cells (opc 3 X A B s t) 62)).alloc (newd (nb A))).heap.size = w.heap.size + 2 := by simp
  have HZ : Hid _ := hz
  generalize hw2 : (w.alloc (.cells (opc 3 X A B s t) 62)).alloc (newd (nb A)) = w2 at *
  have HW2 : Hid _ := hw2
  unfold opc newd at HW2
  unfold newd at n2
  clear hw2 k1 k2 hz
  have hBl := h.size
  unfold opc
  go_enter Tryz.func77, Tryz.ntmps77
  go_wp2_with (first
    | (go_at_call 102; refine (blocks_any _ _).mono ?_; rintro e w' ⟨rfl, rfl⟩)
    | (go_at_call 29; rw [HW2.out]; refine (NewDisk_any A w2).mono ?_; rintro e w3 ⟨a, g, rfl, hd3, ha3, hg3, hk3⟩; have q3 := hk3.get n2 (by simp); have hst := run_store1 (P := Tryz.prog) (ty := 26) (j := 0) (v := .pointer (some ⟨a, 0, none⟩)) spd rfl q3 (by simp); have q4 := setCellAt (i := 0) (.pointer (some ⟨a, 0, none⟩)) q3; have k04 : Kept [] w (w3.setCell ⟨w.heap.size + 1, 0, none⟩ (.pointer (some ⟨a, 0, none⟩))) := (HK2.out.trans hk3).setCell (Or.inr (by simp)) _; have k34 : Kept [w.heap.size + 1] w3 (w3.setCell ⟨w.heap.size + 1, 0, none⟩ (.pointer (some ⟨a, 0, none⟩))) := (Kept.refl _ _).setCell (Or.inl (by simp)) _; have hd4 := hd3.kept k34 (by have := HZ.out; simp; omega) (by have := HZ.out; simp; omega); generalize hw4 : w3.setCell ⟨w.heap.size + 1, 0, none⟩ (.pointer (some ⟨a, 0, none⟩)) = w4 at *; clear hw4; have WC4 : WC w4 p kv (.slice pd ld cd) := k04.get h1 (by simp); have c41 : w4.cell? ⟨p, 1, none⟩ = some (.slice pd ld cd) := cellAt WC4 rfl; have own4 := owns_kept h4' k04 (by simp); have b4 : Bs ≤ w4.heap.size := Nat.le_trans hBl k04.size)
    | (refine wpList_store_seg rfl 26 (.tmp 48) (.tmp 46) rfl ⟨w.heap.size + 1, 0, none⟩ rfl _ rfl _ hst ?_)
    | (at_builtin; refine wpList_append_own _ rfl (.tmp 65) (.tmp 67) 94 rfl Bs 130 ie _ 1 8 Tryz.underlying94 hie hz1 hz2 hz3 rfl (by decide) (.slice pd ld cd) ds.length (ptrs ds) rfl (own4.alloc _) ⟨w4.heap.size, 0, none⟩ 1 1 [.pointer (some ⟨w.heap.size + 1, 0, none⟩)] rfl rfl (cell_one_new _ _ _) (by simp [Value.oneCell']) (by unfold maxLen; omega) (by omega) (by simp; omega) ?_; intro v5 w5 hown5 hgr5 _; obtain ⟨p5, l5, q5, rfl⟩ := owns_slice hown5; have k5 := grown_kept hgr5 (Value.slice pd ld cd).ownBlock.toList (by intro x hx; rw [hx]; simp); have k45 := (Kept.refl [] w4).alloc (.cells #[.pointer (some ⟨w.heap.size + 1, 0, none⟩)] 130); have WC5 : WC w5 p kv (.slice pd ld cd) := k5.get (k45.get WC4 (by simp)) (by intro hx; simp at hx; exact ne_row ⟨_, _, WC4⟩ (owns_row own4 hx) (by decide) rfl); have c51 : w5.cell? ⟨p, 1, none⟩ = some (.slice pd ld cd) := cellAt WC5 rfl; have f51 : w5.frozen? ⟨p, 1, none⟩ = false := frozen_of_row _ _ _ _ _ WC5; clear hgr5 hst))
  go_ret
  have k4' : Kept [] w (w4.alloc (.cells #[.pointer (some ⟨w.heap.size + 1, 0, none⟩)] 130)) := k04.trans k45
  have hI := h.kept k4'
  have hdi : DI I (w4.alloc (.cells #[.pointer (some ⟨w.heap.size + 1, 0, none⟩)] 130)) ⟨w.heap.size + 1, a, g, nb A, 0, none⟩ :=
    ⟨nb_lt A, fun _ => rfl, ⟨.slice none 0 0, .slice none 0 0, 0, _, 0, 0, 0, k45.get q4 (by simp), World.ownsRow_nil _ _ _ _, by omega, fun _ => rfl, fun h0 => absurd h0 (by simp), World.ownsRow_nil _ _ _ _, hd4.kept k45 (by simp) (by simp), fun _ => I.ds0 _⟩, by intro s o hst; cases hst⟩
  have hk6 : Kept (p :: (Value.slice pd ld cd).ownBlock.toList) (w4.alloc (.cells #[.pointer (some ⟨w.heap.size + 1, 0, none⟩)] 130)) (w5.setCell ⟨p, 1, none⟩ (.slice p5 l5 q5)) :=
    (k5.mono (by intro x hx; exact List.mem_cons_of_mem _ hx)).setCell (Or.inl (by simp)) _
  have k56 : Kept [p] w5 (w5.setCell ⟨p, 1, none⟩ (.slice p5 l5 q5)) := (Kept.refl _ _).setCell (Or.inl (by simp)) _
  have hown6 := owns_kept hown5 k56 (by intro b hb; simp; exact ne_row (owns_row hown5 hb) ⟨_, _, WC5⟩ (by decide))
  have hz2 := HZ.out
  obtain ⟨hI6, hB6⟩ := hI.more (k45.get WC4 (by simp)) (own4.alloc _) (owns_kept h2 k4' (by simp)) h3 hk6 (setCellAt (i := 1) _ WC5) ⟨w.heap.size + 1, a, g, nb A, 0, none⟩ (by simpa [ptrs] using hown6) hdi (by
    intro y hy
    simp only [Dk.foot, stFoot, List.mem_cons, List.not_mem_nil, or_false] at hy
    rcases hy with rfl | rfl | rfl <;> omega) (by
    intro e he y hy hx
    have := ((h.all e he).1.foot y hy).lt
    simp only [Dk.foot, stFoot, List.mem_cons, List.not_mem_nil, or_false] at hx
    rcases hx with rfl | rfl | rfl <;> omega)
  refine ⟨rfl, _, j, hI6, by simpa using hl, hj, ?_, (k4'.belowB hBl (by simp)).trans hB6⟩
  intro d hd
  rcases List.mem_append.1 hd with hd | hd
  · exact hk d hd
  · simp at hd; subst hd; exact ⟨Nat.zero_le _, by intro s o hst; cases hst⟩

end Go.Proofs.YtloihcnbcknbnaaGreatDoor
