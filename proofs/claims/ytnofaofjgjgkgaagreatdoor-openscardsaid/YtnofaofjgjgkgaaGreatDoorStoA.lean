import Derived.Test.YtnofaofjgjgkgaaGreatDoorHeadF
namespace Go.Proofs.YtnofaofjgjgkgaaGreatDoor
open Go.RowKit

theorem splice_after {α : Type} (L cs : List α) (off m : Nat) (h : off + cs.length ≤ m) (h2 : off ≤ L.length) : (splice L off cs)[m]? = L[m]? := by
  have hl : (L.take off).length = off := by rw [List.length_take]; omega
  rw [splice, List.getElem?_append_right (by omega), List.getElem?_append_right (by omega), List.getElem?_drop, hl]
  congr 1
  omega
theorem blockOf_set (L B : List UInt8) (n i : Nat) (hL : L.length = n * 128) (hi : i < n) (hB : B.length = 128) : blockOf (setBlock L i B) i = B := by
  have := splice_at L B (i * 128) (by rw [hL, hB]; omega)
  rwa [hB] at this
theorem blockOf_other (L B : List UInt8) (n i j : Nat) (hL : L.length = n * 128) (hi : i < n) (_hj : j < n) (hB : B.length = 128) (hne : i ≠ j) : blockOf (setBlock L i B) j = blockOf L j := by
  rcases Nat.lt_or_ge j i with h | h
  · exact splice_before L B (i * 128) (j * 128) 128 (by omega) (by omega)
  · apply List.ext_getElem?
    intro m
    simp only [blockOf, setBlock, List.getElem?_take, List.getElem?_drop]
    split
    · exact splice_after L B (i * 128) (j * 128 + m) (by omega) (by omega)
    · rfl
theorem length_setBlock (L B : List UInt8) (n i : Nat) (hL : L.length = n * 128) (hi : i < n) (hB : B.length = 128) : (setBlock L i B).length = n * 128 := by
  rw [setBlock, length_splice _ _ _ (by rw [hB, hL]; omega), hL]

/-- the bytes behind a Format -/
def formL (k : Nat) (L : List UInt8) : List UInt8 := setBlock (setBlock L 1 (blk (2 * k + 1))) 0 (blk (2 * k + 2))
theorem formL_St (k n : Nat) (L : List UInt8) (hL : L.length = n * 128) (hn : 8 ≤ n) : St (k + 1) (formL k L) := by
  right
  refine ⟨by omega, ?_, ?_⟩
  · rw [formL, blockOf_set _ _ n 0 (length_setBlock _ _ n 1 hL (by omega) (length_blk _)) (by omega) (length_blk _), blk_take]
    rfl
  · rw [formL, blockOf_other _ _ n 0 1 (length_setBlock _ _ n 1 hL (by omega) (length_blk _)) (by omega) (by omega) (length_blk _) (by omega), blockOf_set _ _ n 1 hL (by omega) (length_blk _), blk_take]
    rfl

/-- a device behind a Format -/
def Formed (a g n k : Nat) (t : Int) (W : World) : Prop := ∃ L c wr, Dev W a g n L c wr t ∧ St (k + 1) L

theorem Newest_any (v a g n k : Nat) (L : List UInt8) (c wr t : Int) (w : World) (hv : Vol w v a) (h : Dev w a g n L c wr t) (hn8 : 8 ≤ n) (hn : n ≤ 1000) (hk : k ≤ 100000) (hs : St k L) :
    Calls Tryz.prog 71 #[.pointer (some ⟨v, 0, none⟩)] w (ReadR a g n L wr t (2 * k) (decide (0 < k)) w) := by
  rcases hs with ⟨rfl, h0, h1⟩ | ⟨hk0, h0, h1⟩
  · exact Newest_none v a g n L c wr t w hv h hn8 hn h0 h1
  · have := Newest_some v a g n k L c wr t w hv h hn8 hn hk0 hk h0 h1
    simpa [hk0] using this

set_option maxRecDepth 100000 in
set_option maxHeartbeats 2000000 in
theorem Format1_fits (p a g n k : Nat) (L : List UInt8) (c wr t : Int) (w : World) (hp : w.heap[p]? = some (.cells #[.iface 37 (.pointer (some ⟨a, 0, none⟩))] 113 (0, 0))) (h : Dev w a g n L c wr t) (hn8 : 8 ≤ n) (hn : n ≤ 400) (hk : k ≤ 50000) (hs : St k L) :
    Calls Tryz.prog 69 #[.pointer (some ⟨p, 0, none⟩)] w (Ends [a, g] (Formed a g n k t) w) := by
  have c0 : w.cell? ⟨p, 0, none⟩ = some (.iface 37 (.pointer (some ⟨a, 0, none⟩))) := cellAt hp rfl
  have hla := lt_heap h.d
  have hlg := lt_heap h.b
  have nag := h.ne
  have hL := h.l
  obtain ⟨q0, hq0⟩ : ∃ q, q = 2 * k := ⟨_, rfl⟩
  obtain ⟨q1, hq1⟩ : ∃ q, q = 2 * k + 1 := ⟨_, rfl⟩
  obtain ⟨q2, hq2⟩ : ∃ q, q = 2 * k + 2 := ⟨_, rfl⟩
  have HN : Hid (∀ v W c, Vol W v a → Dev W a g n L c wr t → Calls Tryz.prog 71 #[.pointer (some ⟨v, 0, none⟩)] W (ReadR a g n L wr t q0 (decide (0 < k)) W)) := by
    intro v W c hV hD; rw [hq0]; exact Newest_any v a g n k L c wr t W hV hD hn8 (by omega) (by omega) hs
  have X1 : Hid (∀ W, Calls Tryz.prog 72 #[.agg #[.int .u64 q0]] W fun e w' => e = .returned (.agg #[.int .u64 q1]) ∧ Kept [] W w') := by
    intro W; have := Next_any q0 W (by omega); rw [show q0 + 1 = q1 by omega] at this; exact this
  have X2 : Hid (∀ W, Calls Tryz.prog 72 #[.agg #[.int .u64 q1]] W fun e w' => e = .returned (.agg #[.int .u64 q2]) ∧ Kept [] W w') := by
    intro W; have := Next_any q1 W (by omega); rw [show q1 + 1 = q2 by omega] at this; exact this
  have Y1 : Hid (∀ v W c, Vol W v a → Dev W a g n L c wr t → Calls Tryz.prog 73 #[.pointer (some ⟨v, 0, none⟩), .agg #[.int .u64 q1]] W (LayR a g n (setBlock L 1 (blk (2 * k + 1))) t W)) := by
    intro v W c hV hD
    have := HLay_any v a g n L c wr t q1 W hV hD hn8 (by omega) (by omega)
    rw [show q1 % 2 = 1 by omega] at this
    rw [← hq1]; exact this
  have Y2 : Hid (∀ v W c wr, Vol W v a → Dev W a g n (setBlock L 1 (blk (2 * k + 1))) c wr t → Calls Tryz.prog 73 #[.pointer (some ⟨v, 0, none⟩), .agg #[.int .u64 q2]] W (LayR a g n (formL k L) t W)) := by
    intro v W c wr hV hD
    have := HLay_any v a g n (setBlock L 1 (blk (2 * k + 1))) c wr t q2 W hV hD hn8 (by omega) (by omega)
    rw [show q2 % 2 = 0 by omega, hq2] at this
    rw [hq2]; exact this
  have HF := formL_St k n L hL hn8
  clear hs hq0 hq1 hq2 hL
  go_enter Tryz.func69, Tryz.ntmps69
  go_wp2_with fail
  refine (On_fits a n n _ _ c wr t w h.d hn8 hn).mono ?_
  rintro e w1 ⟨v, rfl, hv1, hvl, hk1⟩
  have h1 := h.kept hk1 (by simp) (by simp)
  have nva : v ≠ a := by omega
  have nvg : v ≠ g := by omega
  go_wp2_with fail
  refine (HN.out v w1 c hv1 h1).mono ?_
  rintro e w2 ⟨rfl, ⟨c2, hd2⟩, hk2⟩
  have hv2 : Vol w2 v a := hk2.get hv1 (by simpa using nva)
  have hk02 : Kept [a, g] w w2 := (hk1.mono (by simp)).trans (hk2.mono (by simp))
  have k3 := (Kept.refl [] w2).alloc (.cells #[.int .u64 q0] 119)
  have n3 := heap_alloc_new w2 (.cells #[.int .u64 (q0 : Int)] 119)
  have hd3 := hd2.kept k3 (by simp) (by simp)
  have hv3 : Vol (w2.alloc (.cells #[.int .u64 q0] 119)) v a := k3.get hv2 (by simp)
  have hk03 := hk02.trans2 k3 (by simp)
  have hlv2 := lt_heap hv2
  have hz2 := hk02.size
  clear h1
  go_wp2_with fail
  refine wp_loop_rounds 3 ?_
  rw [rounds_succ]
  go_wp2_with fail
  refine (X1.out _).mono ?_
  rintro e w4 ⟨rfl, hk4⟩
  have n4 := hk4.get n3 (by simp)
  have c4 : w4.cell? ⟨w2.heap.size, 0, none⟩ = some (.int .u64 q0) := cellAt n4 rfl
  have f4 : w4.frozen? ⟨w2.heap.size, 0, none⟩ = false := frozen_of_row _ _ _ _ _ n4
  have k5 : Kept [w2.heap.size] w4 (w4.setCell ⟨w2.heap.size, 0, none⟩ (.int .u64 q1)) := (Kept.refl _ _).setCell (Or.inl (by simp)) _
  have n5 := setCellAt (i := 0) (.int .u64 (q1 : Int)) n4
  have hd5 := (hd3.kept hk4 (by simp) (by simp)).kept k5 (by simp; omega) (by simp; omega)
  have hv5 : Vol (w4.setCell ⟨w2.heap.size, 0, none⟩ (.int .u64 q1)) v a := k5.get (hk4.get hv3 (by simp)) (by simp; omega)
  have hk05 : Kept [a, g] w (w4.setCell ⟨w2.heap.size, 0, none⟩ (.int .u64 q1)) := (hk03.trans2 hk4 (by simp)).trans2 k5 (by intro x hx; simp at hx; subst hx; exact Or.inr (by omega))
  go_wp2_with fail
  refine (Y1.out v _ _ hv5 hd5).mono ?_
  rintro e w6 ⟨rfl, c6, wr6, hd6, hk6⟩
  have n6 := hk6.get n5 (by simp; omega)
  have hv6 : Vol w6 v a := hk6.get hv5 (by simp; omega)
  have hk06 := hk05.trans hk6
  have c6' : w6.cell? ⟨w2.heap.size, 0, none⟩ = some (.int .u64 q1) := cellAt n6 rfl
  go_wp2_with fail
  rw [rounds_succ]
  go_wp2_with fail
  refine (X2.out _).mono ?_
  rintro e w7 ⟨rfl, hk7⟩
  have n7 := hk7.get n6 (by simp)
  have c7 : w7.cell? ⟨w2.heap.size, 0, none⟩ = some (.int .u64 q1) := cellAt n7 rfl
  have f7 : w7.frozen? ⟨w2.heap.size, 0, none⟩ = false := frozen_of_row _ _ _ _ _ n7
  have k8 : Kept [w2.heap.size] w7 (w7.setCell ⟨w2.heap.size, 0, none⟩ (.int .u64 q2)) := (Kept.refl _ _).setCell (Or.inl (by simp)) _
  have hd8 := (hd6.kept hk7 (by simp) (by simp)).kept k8 (by simp; omega) (by simp; omega)
  have hv8 : Vol (w7.setCell ⟨w2.heap.size, 0, none⟩ (.int .u64 q2)) v a := k8.get (hk7.get hv6 (by simp)) (by simp; omega)
  have hk08 : Kept [a, g] w (w7.setCell ⟨w2.heap.size, 0, none⟩ (.int .u64 q2)) := (hk06.trans2 hk7 (by simp)).trans2 k8 (by intro x hx; simp at hx; subst hx; exact Or.inr (by omega))
  go_wp2_with fail
  refine (Y2.out v _ _ _ hv8 hd8).mono ?_
  rintro e w9 ⟨rfl, c9, wr9, hd9, hk9⟩
  go_wp2_with fail
  rw [rounds_succ]
  go_wp2
  go_end0
  exact ⟨rfl, ⟨_, c9, wr9, hd9, HF⟩, hk08.trans hk9⟩

end Go.Proofs.YtnofaofjgjgkgaaGreatDoor
