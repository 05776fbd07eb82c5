import Derived.Test.YtnofaofjgjgkgaaGreatDoorHeadD
namespace Go.Proofs.YtnofaofjgjgkgaaGreatDoor
open Go.RowKit

/-- the heads of a device on which k Formats were done -/
def St (k : Nat) (L : List UInt8) : Prop :=
  (k = 0 ∧ (blockOf L 0).take 32 = List.replicate 32 0 ∧ (blockOf L 1).take 32 = List.replicate 32 0) ∨
  (0 < k ∧ (blockOf L 0).take 32 = sec (2 * k) ∧ (blockOf L 1).take 32 = sec (2 * k - 1))

theorem turn_of (B : List UInt8) : (B.drop 8).take 8 = ((B.take 32).drop 8).take 8 := by
  rw [List.drop_take, List.take_take]; rfl
theorem splice_at {α : Type} (L cs : List α) (off : Nat) (h : off + cs.length ≤ L.length) : ((splice L off cs).drop off).take cs.length = cs := by
  have hl : (L.take off).length = off := by rw [List.length_take]; omega
  rw [splice, List.drop_append_of_le_length (by omega), List.drop_of_length_le (by omega), List.nil_append, List.take_left' rfl]
theorem splice_before {α : Type} (L cs : List α) (off m k : Nat) (h : m + k ≤ off) (h2 : off ≤ L.length) : ((splice L off cs).drop m).take k = (L.drop m).take k := by
  apply List.ext_getElem?
  intro j
  simp only [List.getElem?_take, List.getElem?_drop]
  by_cases hj : j < k
  · simp only [hj, if_true, splice]
    rw [List.getElem?_append_left (by rw [List.length_take]; omega), List.getElem?_take, if_pos (by omega)]
  · simp [hj]
theorem turn_sec (t : Nat) : ((sec t).drop 8).take 8 = bytesOf t 8 := by
  rw [sec, splice_before _ _ 28 8 8 (by omega) (by rw [length_sec1]; omega), sec1]
  have := splice_at sec0 (bytesOf t 8) 8 (by rw [length_bytesOf, length_sec0]; omega)
  rwa [length_bytesOf] at this
theorem leNum_sec (t : Nat) (h : t < 2 ^ 64) : leNum (((sec t).drop 8).take 8) = t := by
  rw [turn_sec, leNum_bytesOf]; exact Nat.mod_eq_of_lt h
theorem sec_ne (t : Nat) : ¬ sec t = List.replicate 32 0 := by
  intro h
  have h1 : ((sec t).drop 0).take 8 = markL := by
    rw [sec, splice_before _ _ 28 0 8 (by omega) (by rw [length_sec1]; omega), sec1, splice_before _ _ 8 0 8 (by omega) (by rw [length_sec0]; omega)]
    decide
  rw [h] at h1
  revert h1; decide
theorem leNum_zero : leNum (((List.replicate 32 (0 : UInt8)).drop 8).take 8) = 0 := by decide

set_option maxRecDepth 100000 in
set_option maxHeartbeats 1000000 in
theorem Newest_some (v a g n k : Nat) (L : List UInt8) (c wr t : Int) (w : World) (hv : Vol w v a) (h : Dev w a g n L c wr t) (hn8 : 8 ≤ n) (hn : n ≤ 1000) (hk : 0 < k) (hk2 : k ≤ 100000)
    (h0 : (blockOf L 0).take 32 = sec (2 * k)) (h1 : (blockOf L 1).take 32 = sec (2 * k - 1)) :
    Calls Tryz.prog 71 #[.pointer (some ⟨v, 0, none⟩)] w (ReadR a g n L wr t (2 * k) true w) := by
  have hla := lt_heap h.d
  have hlg := lt_heap h.b
  have hlv := lt_heap hv
  have nva : v ≠ a := ne_tag hv h.d (by decide)
  have e64 : (2 : Nat) ^ 64 = 18446744073709551616 := by decide
  have t0 : leNum (((blockOf L 0).drop 8).take 8) = 2 * k := by rw [turn_of, h0]; exact leNum_sec _ (by omega)
  have t1 : leNum (((blockOf L 1).drop 8).take 8) = 2 * k - 1 := by rw [turn_of, h1]; exact leNum_sec _ (by omega)
  have R0 : Hid (∀ W c, Vol W v a → Dev W a g n L c wr t → Calls Tryz.prog 84 #[.pointer (some ⟨v, 0, none⟩), .int .i64 0] W (ReadR a g n L wr t (2 * k) true W)) := by
    intro W c hV hD
    exact hread_at v a g n L c wr t 0 (2 * k) W hV hD (by omega) hn t0 (by omega) (by omega) h0.symm
  have R1 : Hid (∀ W c, Vol W v a → Dev W a g n L c wr t → Calls Tryz.prog 84 #[.pointer (some ⟨v, 0, none⟩), .int .i64 1] W (ReadR a g n L wr t (2 * k - 1) true W)) := by
    intro W c hV hD
    exact hread_at v a g n L c wr t 1 (2 * k - 1) W hV hD (by omega) hn t1 (by omega) (by omega) h1.symm
  have NW : Hid (∀ W, Calls Tryz.prog 85 #[.agg #[.int .u64 (2 * k - 1 : Nat)], .agg #[.int .u64 (2 * k : Nat)]] W fun e w' => e = .returned (.bool false) ∧ Kept [] W w') := by
    intro W
    have := newer_any (2 * k - 1) (2 * k) W (by omega) (by omega)
    have hd : decide (2 * k < 2 * k - 1) = false := by rw [decide_eq_false_iff_not]; omega
    rw [hd] at this
    exact this
  generalize hp : 2 * k = p at *
  generalize hq : p - 1 = q at *
  clear hp hq t0 t1 h0 h1 hk hk2 e64
  have k0 := (Kept.refl [] w).alloc (.cells #[.int .u64 0] 119)
  have n0 := heap_alloc_new w (.cells #[.int .u64 0] 119)
  go_enter Tryz.func71, Tryz.ntmps71
  go_wp2_with fail
  refine (R0.out _ c (k0.get hv (by simp)) (h.kept k0 (by simp) (by simp))).mono ?_
  rintro e w1 ⟨rfl, ⟨c1, hd1⟩, hk1⟩
  have n1 := hk1.get n0 (by simp; omega)
  have hv1 : Vol w1 v a := hk1.get (k0.get hv (by simp)) (by simpa using nva)
  have k2 := (Kept.refl [] w1).alloc (.cells #[.int .u64 p] 119)
  have m2 := heap_alloc_new w1 (.cells #[.int .u64 (p : Int)] 119)
  have n2 := k2.get n1 (by simp)
  have hl1 := lt_heap n1
  go_wp2_with fail
  refine (R1.out _ c1 (k2.get hv1 (by simp)) (hd1.kept k2 (by simp) (by simp))).mono ?_
  rintro e w3 ⟨rfl, ⟨c3, hd3⟩, hk3⟩
  have n3 := hk3.get n2 (by simp; omega)
  have m3 := hk3.get m2 (by have := lt_heap hd1.d; simp; omega)
  have k4 := (Kept.refl [] w3).alloc (.cells #[.int .u64 q] 119)
  have n4 := k4.get n3 (by simp)
  have m4 := k4.get m3 (by simp)
  have hd4 := hd3.kept k4 (by simp) (by simp)
  have a4 : (w3.alloc (.cells #[.int .u64 q] 119)).cell? ⟨w1.heap.size, 0, none⟩ = some (.int .u64 p) := cellAt m4 rfl
  have hk04 : Kept [a] w (w3.alloc (.cells #[.int .u64 q] 119)) := (((k0.mono (by simp)).trans hk1).trans2 k2 (by simp)).trans hk3 |>.trans2 k4 (by simp)
  go_wp2_with fail
  refine (NW.out _).mono ?_
  rintro e w5 ⟨rfl, hk5⟩
  have n5 := hk5.get n4 (by simp)
  have m5 := hk5.get m4 (by simp)
  have hd5 := hd4.kept hk5 (by simp) (by simp)
  have a5 : w5.cell? ⟨w1.heap.size, 0, none⟩ = some (.int .u64 p) := cellAt m5 rfl
  have b5 : w5.cell? ⟨w.heap.size, 0, none⟩ = some (.int .u64 0) := cellAt n5 rfl
  have f5 : w5.frozen? ⟨w.heap.size, 0, none⟩ = false := frozen_of_row _ _ _ _ _ n5
  go_wp2
  have k6 : Kept [w.heap.size] w5 (w5.setCell ⟨w.heap.size, 0, none⟩ (.int .u64 p)) := (Kept.refl _ _).setCell (Or.inl (by simp)) _
  refine bodyPost_ret (res2 rfl _ _ w.heap.size 119 #[.int .u64 p] (0, 0) _ _ rfl rfl (setCellAt (i := 0) (.int .u64 p) n5) Tryz.underlying119 rfl shead) rfl ?_
  exact ⟨rfl, ⟨c3, hd5.kept k6 (by simp; omega) (by simp; omega)⟩, (hk04.trans2 hk5 (by simp)).trans2 k6 (by intro x hx; simp at hx; subst hx; exact Or.inr (Nat.le_refl _))⟩

set_option maxRecDepth 100000 in
set_option maxHeartbeats 1000000 in
theorem Newest_none (v a g n : Nat) (L : List UInt8) (c wr t : Int) (w : World) (hv : Vol w v a) (h : Dev w a g n L c wr t) (hn8 : 8 ≤ n) (hn : n ≤ 1000)
    (h0 : (blockOf L 0).take 32 = List.replicate 32 0) (h1 : (blockOf L 1).take 32 = List.replicate 32 0) :
    Calls Tryz.prog 71 #[.pointer (some ⟨v, 0, none⟩)] w (ReadR a g n L wr t 0 false w) := by
  have hla := lt_heap h.d
  have hlg := lt_heap h.b
  have hlv := lt_heap hv
  have nva : v ≠ a := ne_tag hv h.d (by decide)
  have t0 : leNum (((blockOf L 0).drop 8).take 8) = 0 := by rw [turn_of, h0]; exact leNum_zero
  have t1 : leNum (((blockOf L 1).drop 8).take 8) = 0 := by rw [turn_of, h1]; exact leNum_zero
  have R0 : Hid (∀ W c, Vol W v a → Dev W a g n L c wr t → Calls Tryz.prog 84 #[.pointer (some ⟨v, 0, none⟩), .int .i64 0] W (ReadR a g n L wr t 0 false W)) := by
    intro W c hV hD
    exact hread_torn v a g n L c wr t 0 0 W hV hD (by omega) hn t0 (by omega) (by omega) (by rw [h0]; exact sec_ne 0)
  have R1 : Hid (∀ W c, Vol W v a → Dev W a g n L c wr t → Calls Tryz.prog 84 #[.pointer (some ⟨v, 0, none⟩), .int .i64 1] W (ReadR a g n L wr t 0 false W)) := by
    intro W c hV hD
    exact hread_other v a g n L c wr t 1 0 W hV hD (by omega) hn t1 (by omega) (by omega)
  clear t0 t1 h0 h1
  have k0 := (Kept.refl [] w).alloc (.cells #[.int .u64 0] 119)
  have n0 := heap_alloc_new w (.cells #[.int .u64 0] 119)
  go_enter Tryz.func71, Tryz.ntmps71
  go_wp2_with fail
  refine (R0.out _ c (k0.get hv (by simp)) (h.kept k0 (by simp) (by simp))).mono ?_
  rintro e w1 ⟨rfl, ⟨c1, hd1⟩, hk1⟩
  have n1 := hk1.get n0 (by simp; omega)
  have hv1 : Vol w1 v a := hk1.get (k0.get hv (by simp)) (by simpa using nva)
  have k2 := (Kept.refl [] w1).alloc (.cells #[.int .u64 0] 119)
  have n2 := k2.get n1 (by simp)
  have hl1 := lt_heap n1
  go_wp2_with fail
  refine (R1.out _ c1 (k2.get hv1 (by simp)) (hd1.kept k2 (by simp) (by simp))).mono ?_
  rintro e w3 ⟨rfl, ⟨c3, hd3⟩, hk3⟩
  have n3 := hk3.get n2 (by simp; omega)
  have k4 := (Kept.refl [] w3).alloc (.cells #[.int .u64 0] 119)
  have n4 := k4.get n3 (by simp)
  have hd4 := hd3.kept k4 (by simp) (by simp)
  have hk04 : Kept [a] w (w3.alloc (.cells #[.int .u64 0] 119)) := (((k0.mono (by simp)).trans hk1).trans2 k2 (by simp)).trans hk3 |>.trans2 k4 (by simp)
  have b4 : (w3.alloc (.cells #[.int .u64 0] 119)).cell? ⟨w.heap.size, 0, none⟩ = some (.int .u64 0) := cellAt n4 rfl
  have f4 : (w3.alloc (.cells #[.int .u64 0] 119)).frozen? ⟨w.heap.size, 0, none⟩ = false := frozen_of_row _ _ _ _ _ n4
  have k6 : Kept [w.heap.size] w3 ((w3.alloc (.cells #[.int .u64 0] 119)).setCell ⟨w.heap.size, 0, none⟩ (.int .u64 0)) := ((Kept.refl _ _).alloc _).setCell (Or.inl (by simp)) _
  have N6 : Hid (((w3.alloc (.cells #[.int .u64 0] 119)).setCell ⟨w.heap.size, 0, none⟩ (.int .u64 0)).heap[w.heap.size]? = some (.cells #[.int .u64 0] 119 (0, 0))) := setCellAt (i := 0) (.int .u64 0) n4
  have hk03 : Kept [a] w w3 := (((k0.mono (by simp)).trans hk1).trans2 k2 (by simp)).trans hk3
  clear hk04 hd4 n4 k4
  go_wp2
  refine bodyPost_ret (res2 rfl _ _ w.heap.size 119 #[.int .u64 0] (0, 0) _ _ rfl rfl N6.out Tryz.underlying119 rfl shead) rfl ?_
  exact ⟨rfl, ⟨c3, hd3.kept k6 (by simp; omega) (by simp; omega)⟩, hk03.trans2 k6 (by intro x hx; simp at hx; subst hx; exact Or.inr (Nat.le_refl _))⟩

end Go.Proofs.YtnofaofjgjgkgaaGreatDoor
