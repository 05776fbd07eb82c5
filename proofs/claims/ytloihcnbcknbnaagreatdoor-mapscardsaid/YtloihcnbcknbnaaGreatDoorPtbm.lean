import Derived.Test.YtloihcnbcknbnaaGreatDoorPtbl
namespace Go.Proofs.YtloihcnbcknbnaaGreatDoor
open Go.RowKit

theorem splice_after {α : Type} (L cs : List α) (off m : Nat) (h : off + cs.length ≤ m) (h2 : off ≤ L.length) : (splice L off cs)[m]? = L[m]? := by
  have hl : (L.take off).length = off := by rw [List.length_take]; omega
  rw [splice, List.getElem?_append_right (by omega), List.getElem?_append_right (by omega), List.getElem?_drop, hl]
  congr 1
  omega
theorem blockOf_set (L B : List UInt8) (n i : Nat) (hL : L.length = n * 128) (hi : i < n) (hB : B.length = 128) : blockOf (setBlock L i B) i = B := by
  have := splice_at L B (i * 128) (by rw [hL, hB]; omega)
  rwa [hB] at this
theorem blockOf_other (L B : List UInt8) (n i j : Nat) (hL : L.length = n * 128) (hi : i < n) (_hj : j < n) (hB : B.length = 128) (hne : i ≠ j) : blockOf (setBlock L i B) j = blockOf L j := by
  rcases Nat.lt_or_ge j i with h | h
  · exact splice_before L B (i * 128) (j * 128) 128 (by omega) (by omega)
  · apply List.ext_getElem?
    intro m
    simp only [blockOf, setBlock, List.getElem?_take, List.getElem?_drop]
    split
    · exact splice_after L B (i * 128) (j * 128 + m) (by omega) (by omega)
    · rfl
theorem length_setBlock (L B : List UInt8) (n i : Nat) (hL : L.length = n * 128) (hi : i < n) (hB : B.length = 128) : (setBlock L i B).length = n * 128 := by
  rw [setBlock, length_splice _ _ _ (by rw [hB, hL]; omega), hL]

/-- the bytes behind a Format -/
def formL (k : Nat) (L : List UInt8) : List UInt8 := setBlock (setBlock L 1 (blk (2 * k + 1))) 0 (blk (2 * k + 2))
theorem formL_St (k n : Nat) (L : List UInt8) (hL : L.length = n * 128) (hn : 8 ≤ n) : St (k + 1) (formL k L) := by
  right
  refine ⟨by omega, ?_, ?_⟩
  · rw [formL, blockOf_set _ _ n 0 (length_setBlock _ _ n 1 hL (by omega) (length_blk _)) (by omega) (length_blk _), blk_take]
    rfl
  · rw [formL, blockOf_other _ _ n 0 1 (length_setBlock _ _ n 1 hL (by omega) (length_blk _)) (by omega) (by omega) (length_blk _) (by omega), blockOf_set _ _ n 1 hL (by omega) (length_blk _), blk_take]
    rfl

/-- a device behind a Format -/
def Formed (a g n k : Nat) (t : Int) (W : World) : Prop := ∃ L c wr, Dev W a g n L c wr t ∧ St (k + 1) L

theorem Newest_any (v a g n k : Nat) (L : List UInt8) (c wr t : Int) (w : World) (hv : Vol w v a n) (h : Dev w a g n L c wr t) (hn8 : 8 ≤ n) (hn : n ≤ 1000) (hk : k ≤ 100000) (hs : St k L) :
    Calls Tryz.prog 70 #[.pointer (some ⟨v, 0, none⟩)] w (ReadR a g n L wr t (2 * k) (decide (0 < k)) w) := by
  rcases hs with ⟨rfl, h0, h1⟩ | ⟨hk0, h0, h1⟩
  · exact Newest_none v a g n L c wr t w hv h hn8 hn h0 h1
  · have := Newest_some v a g n k L c wr t w hv h hn8 hn hk0 hk h0 h1
    simpa [hk0] using this

set_option maxRecDepth 100000 in
set_option maxHeartbeats 2000000 in
theorem Format1_fits (p a g n k : Nat) (L : List UInt8) (c wr t : Int) (w : World) (hp : w.heap[p]? = some (.cells #[.iface 26 (.pointer (some ⟨a, 0, none⟩))] 118 (0, 0))) (h : Dev w a g n L c wr t) (hn8 : 8 ≤ n) (hn : n ≤ 400) (hk : k ≤ 50000) (hs : St k L) :
    Calls Tryz.prog 68 #[.pointer (some ⟨p, 0, none⟩)] w (Ends [a, g] (Formed a g n k t) w) := by
  have c0 : w.cell? ⟨p, 0, none⟩ = some (.iface 26 (.pointer (some ⟨a, 0, none⟩))) := cellAt hp rfl
  have hla := lt_heap h.d
  have hlg := lt_heap h.b
  have nag := h.ne
  have hL := h.l
  obtain ⟨q0, hq0⟩ : ∃ q, q = 2 * k := ⟨_, rfl⟩
  obtain ⟨q1, hq1⟩ : ∃ q, q = 2 * k + 1 := ⟨_, rfl⟩
  obtain ⟨q2, hq2⟩ : ∃ q, q = 2 * k + 2 := ⟨_, rfl⟩
  have HN : Hid (∀ v W c, Vol W v a n → Dev W a g n L c wr t → Calls Tryz.prog 70 #[.pointer (some ⟨v, 0, none⟩)] W (ReadR a g n L wr t q0 (decide (0 < k)) W)) := by
    intro v W c hV hD; rw [hq0]; exact Newest_any v a g n k L c wr t W hV hD hn8 (by omega) (by omega) hs
  have X1 : Hid (∀ W, Calls Tryz.prog 71 #[.agg #[.int .u64 q0]] W fun e w' => e = .returned (.agg #[.int .u64 q1]) ∧ Kept [] W w') := by
    intro W; have := Next_any q0 W (by omega); rw [show q0 + 1 = q1 by omega] at this; exact this
  have X2 : Hid (∀ W, Calls Tryz.prog 71 #[.agg #[.int .u64 q1]] W fun e w' => e = .returned (.agg #[.int .u64 q2]) ∧ Kept [] W w') := by
    intro W; have := Next_any q1 W (by omega); rw [show q1 + 1 = q2 by omega] at this; exact this
  have Y1 : Hid (∀ v W c, Vol W v a n → Dev W a g n L c wr t → Calls Tryz.prog 72 #[.pointer (some ⟨v, 0, none⟩), .agg #[.int .u64 q1]] W (LayR a g n (setBlock L 1 (blk (2 * k + 1))) t W)) := by
    intro v W c hV hD
    have := HLay_any v a g n L c wr t q1 W hV hD hn8 (by omega) (by omega)
    rw [show q1 % 2 = 1 by omega] at this
    rw [← hq1]; exact this
  have Y2 : Hid (∀ v W c wr, Vol W v a n → Dev W a g n (setBlock L 1 (blk (2 * k + 1))) c wr t → Calls Tryz.prog 72 #[.pointer (some ⟨v, 0, none⟩), .agg #[.int .u64 q2]] W (LayR a g n (formL k L) t W)) := by
    intro v W c wr hV hD
    have := HLay_any v a g n (setBlock L 1 (blk (2 * k + 1))) c wr t q2 W hV hD hn8 (by omega) (by omega)
    rw [show q2 % 2 = 0 by omega, hq2] at this
    rw [hq2]; exact this
  have HF := formL_St k n L hL hn8
  clear hs hq0 hq1 hq2 hL
  go_enter Tryz.func68, Tryz.ntmps68
  go_wp2_with fail
  refine (On_fits a n n _ _ c wr t w h.d hn8 hn).mono ?_
  rintro e w1 ⟨v, rfl, hv1, hvl, hk1⟩
  have h1 := h.kept hk1 (by simp) (by simp)
  have nva : v ≠ a := by omega
  have nvg : v ≠ g := by omega
  go_wp2_with fail
  refine (HN.out v w1 c hv1 h1).mono ?_
  rintro e w2 ⟨rfl, ⟨c2, hd2⟩, hk2⟩
  have hv2 : Vol w2 v a n := hk2.get hv1 (by simpa using nva)
  have hk02 : Kept [a, g] w w2 := (hk1.mono (by simp)).trans (hk2.mono (by simp))
  have k3 := (Kept.refl [] w2).alloc (.cells #[.int .u64 q0] 122)
  have n3 := heap_alloc_new w2 (.cells #[.int .u64 (q0 : Int)] 122)
  have hd3 := hd2.kept k3 (by simp) (by simp)
  have hv3 : Vol (w2.alloc (.cells #[.int .u64 q0] 122)) v a n := k3.get hv2 (by simp)
  have hk03 := hk02.trans2 k3 (by simp)
  have hlv2 := lt_heap hv2
  have hz2 := hk02.size
  clear h1
  go_wp2_with fail
  refine wp_loop_rounds 3 ?_
  rw [rounds_succ]
  go_wp2_with fail
  refine (X1.out _).mono ?_
  rintro e w4 ⟨rfl, hk4⟩
  have n4 := hk4.get n3 (by simp)
  have c4 : w4.cell? ⟨w2.heap.size, 0, none⟩ = some (.int .u64 q0) := cellAt n4 rfl
  have f4 : w4.frozen? ⟨w2.heap.size, 0, none⟩ = false := frozen_of_row _ _ _ _ _ n4
  have k5 : Kept [w2.heap.size] w4 (w4.setCell ⟨w2.heap.size, 0, none⟩ (.int .u64 q1)) := (Kept.refl _ _).setCell (Or.inl (by simp)) _
  have n5 := setCellAt (i := 0) (.int .u64 (q1 : Int)) n4
  have hd5 := (hd3.kept hk4 (by simp) (by simp)).kept k5 (by simp; omega) (by simp; omega)
  have hv5 : Vol (w4.setCell ⟨w2.heap.size, 0, none⟩ (.int .u64 q1)) v a n := k5.get (hk4.get hv3 (by simp)) (by simp; omega)
  have hk05 : Kept [a, g] w (w4.setCell ⟨w2.heap.size, 0, none⟩ (.int .u64 q1)) := (hk03.trans2 hk4 (by simp)).trans2 k5 (by intro x hx; simp at hx; subst hx; exact Or.inr (by omega))
  go_wp2_with fail
  refine (Y1.out v _ _ hv5 hd5).mono ?_
  rintro e w6 ⟨rfl, c6, wr6, hd6, hk6⟩
  have n6 := hk6.get n5 (by simp; omega)
  have hv6 : Vol w6 v a n := hk6.get hv5 (by simp; omega)
  have hk06 := hk05.trans hk6
  have c6' : w6.cell? ⟨w2.heap.size, 0, none⟩ = some (.int .u64 q1) := cellAt n6 rfl
  go_wp2_with fail
  rw [rounds_succ]
  go_wp2_with fail
  refine (X2.out _).mono ?_
  rintro e w7 ⟨rfl, hk7⟩
  have n7 := hk7.get n6 (by simp)
  have c7 : w7.cell? ⟨w2.heap.size, 0, none⟩ = some (.int .u64 q1) := cellAt n7 rfl
  have f7 : w7.frozen? ⟨w2.heap.size, 0, none⟩ = false := frozen_of_row _ _ _ _ _ n7
  have k8 : Kept [w2.heap.size] w7 (w7.setCell ⟨w2.heap.size, 0, none⟩ (.int .u64 q2)) := (Kept.refl _ _).setCell (Or.inl (by simp)) _
  have hd8 := (hd6.kept hk7 (by simp) (by simp)).kept k8 (by simp; omega) (by simp; omega)
  have hv8 : Vol (w7.setCell ⟨w2.heap.size, 0, none⟩ (.int .u64 q2)) v a n := k8.get (hk7.get hv6 (by simp)) (by simp; omega)
  have hk08 : Kept [a, g] w (w7.setCell ⟨w2.heap.size, 0, none⟩ (.int .u64 q2)) := (hk06.trans2 hk7 (by simp)).trans2 k8 (by intro x hx; simp at hx; subst hx; exact Or.inr (by omega))
  go_wp2_with fail
  refine (Y2.out v _ _ _ hv8 hd8).mono ?_
  rintro e w9 ⟨rfl, c9, wr9, hd9, hk9⟩
  go_wp2_with fail
  rw [rounds_succ]
  go_wp2
  go_end0
  exact ⟨rfl, ⟨_, c9, wr9, hd9, HF⟩, hk08.trans hk9⟩

end Go.Proofs.YtloihcnbcknbnaaGreatDoor

namespace Go.Proofs.YtloihcnbcknbnaaGreatDoor
open Go.RowKit

def Always (_ : World) : Prop := True

set_option maxHeartbeats 1000000 in
theorem Format1_no (p a n cap : Nat) (ao : Option Addr) (cache : Value) (c wr t : Int) (w : World) (hp : w.heap[p]? = some (.cells #[.iface 26 (.pointer (some ⟨a, 0, none⟩))] 118 (0, 0))) (h : w.heap[a]? = some (.cells (dcells (.slice ao n cap) cache c wr t) 83 (0, 0))) (hn : n < 8 ∨ 400 < n) :
    Calls Tryz.prog 68 #[.pointer (some ⟨p, 0, none⟩)] w (Throws 8 [] Always w) := by
  have c0 : w.cell? ⟨p, 0, none⟩ = some (.iface 26 (.pointer (some ⟨a, 0, none⟩))) := cellAt hp rfl
  go_enter Tryz.func68, Tryz.ntmps68
  go_wp2_with fail
  refine (On_no a n cap ao cache c wr t w h hn).mono ?_
  rintro e w1 ⟨f, o, rfl, hf, hk⟩
  exact ⟨rfl, f, o, rfl, hf, trivial, hk⟩


theorem Formed.kept {a g n k : Nat} {t : Int} {W W' : World} {T : List Nat} (h : Formed a g n k t W) (hk : Kept T W W') (ha : a ∉ T) (hg : g ∉ T) : Formed a g n k t W' := by
  obtain ⟨L, c, wr, hd, hs⟩ := h
  exact ⟨L, c, wr, hd.kept hk ha hg, hs⟩

set_option maxHeartbeats 1000000 in
theorem Format_fits (a g n k : Nat) (L : List UInt8) (c wr t : Int) (w : World) (h : Dev w a g n L c wr t) (hn8 : 8 ≤ n) (hn : n ≤ 400) (hk : k ≤ 50000) (hs : St k L) :
    Calls Tryz.prog 47 #[.iface 26 (.pointer (some ⟨a, 0, none⟩))] w fun e w' => e = .returned .nilIface ∧ Formed a g n k t w' ∧ Kept [a, g] w w' := by
  have hmf := makes
  have hla := lt_heap h.d
  have hlg := lt_heap h.b
  have k1 := (Kept.refl [] w).alloc (.cells #[.iface 26 (.pointer (some ⟨a, 0, none⟩))] 118)
  have n1 := heap_alloc_new w (.cells #[.iface 26 (.pointer (some ⟨a, 0, none⟩))] 118)
  have h1 := h.kept k1 (by simp) (by simp)
  have HC : Hid (∀ b, Calls Tryz.prog 39 #[.string b, .func (.func 68) #[] #[.pointer (some ⟨w.heap.size, 0, none⟩)]] (w.alloc (.cells #[.iface 26 (.pointer (some ⟨a, 0, none⟩))] 118)) fun e w' => e = .returned .nilIface ∧ Formed a g n k t w' ∧ Kept [a, g] (w.alloc (.cells #[.iface 26 (.pointer (some ⟨a, 0, none⟩))] 118)) w') := by
    intro b
    refine Catch_ok b 68 _ (fun _ _ => by kernel_rfl) [a, g] (Formed a g n k t) _ ?_ ?_ ?_
    · intro x hx; simp at hx ⊢; omega
    · intro W W' T hR hK hT
      refine hR.kept hK ?_ ?_
      · intro hx; have := (hT _ hx).1; simp at this; omega
      · intro hx; have := (hT _ hx).1; simp at this; omega
    · intro W hW _
      exact Format1_fits w.heap.size a g n k L c wr t W (hW.get n1 (by simp)) (h1.kept hW (by simp) (by simp)) hn8 hn hk hs
  clear h1 n1 hs
  go_enter Tryz.func47, Tryz.ntmps47
  go_wp2_with (go_at_call 39; refine (HC.out _).mono ?_; rintro e w2 ⟨rfl, hF2, hk2⟩)
  go_ret
  exact ⟨rfl, hF2, (k1.mono (by simp)).trans hk2⟩

set_option maxHeartbeats 1000000 in
theorem Format_no (a n cap : Nat) (ao : Option Addr) (cache : Value) (c wr t : Int) (w : World) (h : w.heap[a]? = some (.cells (dcells (.slice ao n cap) cache c wr t) 83 (0, 0))) (hn : n < 8 ∨ 400 < n) :
    Calls Tryz.prog 47 #[.iface 26 (.pointer (some ⟨a, 0, none⟩))] w (Gives 8 [] Always w) := by
  have hmf := makes
  have hla := lt_heap h
  have k1 := (Kept.refl [] w).alloc (.cells #[.iface 26 (.pointer (some ⟨a, 0, none⟩))] 118)
  have n1 := heap_alloc_new w (.cells #[.iface 26 (.pointer (some ⟨a, 0, none⟩))] 118)
  have h1 := k1.get h (by simp)
  have HC : Hid (∀ b, Calls Tryz.prog 39 #[.string b, .func (.func 68) #[] #[.pointer (some ⟨w.heap.size, 0, none⟩)]] (w.alloc (.cells #[.iface 26 (.pointer (some ⟨a, 0, none⟩))] 118)) (Gives 8 [] Always (w.alloc (.cells #[.iface 26 (.pointer (some ⟨a, 0, none⟩))] 118)))) := by
    intro b
    refine Catch_no b 68 _ (fun _ _ => by kernel_rfl) 8 [] Always _ (by simp) (fun _ _ _ _ _ _ => trivial) ?_
    intro W hW _
    exact Format1_no w.heap.size a n cap ao cache c wr t W (hW.get n1 (by simp)) (hW.get h1 (by simp)) hn
  clear h1 n1
  go_enter Tryz.func47, Tryz.ntmps47
  go_wp2_with (go_at_call 39; refine (HC.out _).mono ?_; rintro e w2 ⟨err, rfl, hc2, _, hk2⟩)
  go_ret
  exact ⟨err, rfl, hc2, trivial, k1.trans hk2⟩

theorem PFormat_of (a : Nat) (w : World) (R : Ending → World → Prop) (hR : Calls Tryz.prog 47 #[.iface 26 (.pointer (some ⟨a, 0, none⟩))] w fun e w' => ∃ v, e = .returned v ∧ R e w') :
    Calls Tryz.prog 30 #[.pointer (some ⟨a, 0, none⟩)] w R := by
  have HR : Hid (Calls _ _ _ _ _) := hR
  clear hR
  go_enter Tryz.func30, Tryz.ntmps30
  go_wp2_with (go_at_call 47; refine HR.out.mono ?_; rintro e w2 ⟨v, rfl, h2⟩)
  exact h2

end Go.Proofs.YtloihcnbcknbnaaGreatDoor

namespace Go.Proofs.YtloihcnbcknbnaaGreatDoor
open Go.RowKit

/-- what Open's work leaves: the variable of the store -/
def SVar (lo sv a g n : Nat) (L : List UInt8) (wr t : Int) (W : World) : Prop := ∃ st v c, W.heap[sv]? = some (.cells #[.pointer (some ⟨st, 0, none⟩)] 27 (0, 0)) ∧ W.heap[st]? = some (.cells #[.pointer (some ⟨v, 0, none⟩), .nilIface] 76 (0, 0)) ∧ Vol W v a n ∧ lo ≤ st ∧ Dev W a g n L c wr t
def SNil (sv a g n : Nat) (L : List UInt8) (wr t : Int) (W : World) : Prop := ∃ c, W.heap[sv]? = some (.cells #[.pointer none] 27 (0, 0)) ∧ Dev W a g n L c wr t

set_option maxRecDepth 100000 in
set_option maxHeartbeats 2000000 in
theorem Open1_fits (p sv a g n k : Nat) (L : List UInt8) (c wr t : Int) (w : World) (hp : w.heap[p]? = some (.cells #[.iface 26 (.pointer (some ⟨a, 0, none⟩))] 118 (0, 0))) (hsv : w.heap[sv]? = some (.cells #[.pointer none] 27 (0, 0))) (h : Dev w a g n L c wr t) (hn8 : 8 ≤ n) (hn : n ≤ 400) (hk : k ≤ 50000) (hk0 : 0 < k) (hs : St k L) :
    Calls Tryz.prog 73 #[.pointer (some ⟨p, 0, none⟩), .pointer (some ⟨sv, 0, none⟩)] w (Ends [a, sv] (SVar w.heap.size sv a g n L wr t) w) := by
  have c0 : w.cell? ⟨p, 0, none⟩ = some (.iface 26 (.pointer (some ⟨a, 0, none⟩))) := cellAt hp rfl
  have hla := lt_heap h.d
  have hlg := lt_heap h.b
  have hls := lt_heap hsv
  have nag := h.ne
  have nsa : sv ≠ a := ne_tag hsv h.d (by decide)
  have nsg : sv ≠ g := ne_tag hsv h.b (by decide)
  have hd0 : decide (0 < k) = true := by simpa using hk0
  obtain ⟨q0, hq0⟩ : ∃ q, q = 2 * k := ⟨_, rfl⟩
  have HN : Hid (∀ v W c, Vol W v a n → Dev W a g n L c wr t → Calls Tryz.prog 70 #[.pointer (some ⟨v, 0, none⟩)] W (ReadR a g n L wr t q0 true W)) := by
    intro v W c hV hD; rw [hq0]; have := Newest_any v a g n k L c wr t W hV hD hn8 (by omega) (by omega) hs; rwa [hd0] at this
  clear hs hq0 hd0
  go_enter Tryz.func73, Tryz.ntmps73
  go_wp2_with fail
  refine (On_fits a n n _ _ c wr t w h.d hn8 hn).mono ?_
  rintro e w1 ⟨v, rfl, hv1, hvl, hk1⟩
  have h1 := h.kept hk1 (by simp) (by simp)
  have nva : v ≠ a := by omega
  go_wp2_with fail
  refine (HN.out v w1 c hv1 h1).mono ?_
  rintro e w2 ⟨rfl, ⟨c2, hd2⟩, hk2⟩
  have s2 := hk2.get (hk1.get hsv (by simp)) (by simpa using nsa)
  have hk02 : Kept [a, sv] w w2 := (hk1.mono (by simp)).trans (hk2.mono (by simp))
  have k3 := ((Kept.refl [] w2).alloc (.cells #[.int .u64 q0] 122)).alloc (.cells #[.pointer (some ⟨v, 0, none⟩), .nilIface] 76)
  have s3 := k3.get s2 (by simp)
  have e3 : ((w2.alloc (.cells #[.int .u64 q0] 122)).alloc (.cells #[.pointer (some ⟨v, 0, none⟩), .nilIface] 76)).cell? ⟨sv, 0, none⟩ = some (.pointer none) := cellAt s3 rfl
  have f3 : ((w2.alloc (.cells #[.int .u64 q0] 122)).alloc (.cells #[.pointer (some ⟨v, 0, none⟩), .nilIface] 76)).frozen? ⟨sv, 0, none⟩ = false := frozen_of_row _ _ _ _ _ s3
  have hls2 := lt_heap s2
  go_wp2
  go_end0
  have k4 : Kept [sv] w2 (((w2.setCell ⟨sv, 0, none⟩ (.pointer (some ⟨w2.heap.size + 1, 0, none⟩))).alloc (.cells #[.int .u64 q0] 122)).alloc (.cells #[.pointer (some ⟨v, 0, none⟩), .nilIface] 76)) := (((Kept.refl _ _).setCell (Or.inl (by simp)) _).alloc _).alloc _
  refine ⟨rfl, ⟨w2.heap.size + 1, v, c2, ?_, ?_, k4.get (hk2.get hv1 (by simpa using nva)) (by simp; omega), by have := hk02.size; omega, hd2.kept k4 (by simpa using nsa.symm) (by simpa using nsg.symm)⟩, hk02.trans2 k4 (by simp)⟩
  rotate_left
  · have := heap_alloc_new ((w2.setCell ⟨sv, 0, none⟩ (.pointer (some ⟨w2.heap.size + 1, 0, none⟩))).alloc (.cells #[.int .u64 (q0 : Int)] 122)) (.cells #[.pointer (some ⟨v, 0, none⟩), .nilIface] 76)
    rw [World.size_alloc] at this
    simpa using this
  have := setCellAt (i := 0) (.pointer (some ⟨w2.heap.size + 1, 0, none⟩)) s2
  exact (((Kept.refl [] _).alloc _).alloc _).get this (by simp)

set_option maxRecDepth 100000 in
set_option maxHeartbeats 2000000 in
theorem Open1_none (p sv a g n : Nat) (L : List UInt8) (c wr t : Int) (w : World) (hp : w.heap[p]? = some (.cells #[.iface 26 (.pointer (some ⟨a, 0, none⟩))] 118 (0, 0))) (hsv : w.heap[sv]? = some (.cells #[.pointer none] 27 (0, 0))) (h : Dev w a g n L c wr t) (hn8 : 8 ≤ n) (hn : n ≤ 400) (hs : St 0 L) :
    Calls Tryz.prog 73 #[.pointer (some ⟨p, 0, none⟩), .pointer (some ⟨sv, 0, none⟩)] w (Throws 7 [a] (SNil sv a g n L wr t) w) := by
  have c0 : w.cell? ⟨p, 0, none⟩ = some (.iface 26 (.pointer (some ⟨a, 0, none⟩))) := cellAt hp rfl
  have hla := lt_heap h.d
  have hlg := lt_heap h.b
  have hls := lt_heap hsv
  have nsa : sv ≠ a := ne_tag hsv h.d (by decide)
  have HN : Hid (∀ v W c, Vol W v a n → Dev W a g n L c wr t → Calls Tryz.prog 70 #[.pointer (some ⟨v, 0, none⟩)] W (ReadR a g n L wr t 0 false W)) := by
    intro v W c hV hD; exact Newest_any v a g n 0 L c wr t W hV hD hn8 (by omega) (by omega) hs
  clear hs
  go_enter Tryz.func73, Tryz.ntmps73
  go_wp2_with fail
  refine (On_fits a n n _ _ c wr t w h.d hn8 hn).mono ?_
  rintro e w1 ⟨v, rfl, hv1, hvl, hk1⟩
  have h1 := h.kept hk1 (by simp) (by simp)
  have nva : v ≠ a := by omega
  go_wp2_with fail
  refine (HN.out v w1 c hv1 h1).mono ?_
  rintro e w2 ⟨rfl, ⟨c2, hd2⟩, hk2⟩
  have s2 := hk2.get (hk1.get hsv (by simp)) (by simpa using nsa)
  have hk02 : Kept [a] w w2 := (hk1.mono (by simp)).trans (hk2.mono (by simp))
  go_wp2_with (go_at_call 55; refine (Throw_any _ _ _).mono ?_; rintro e w3 ⟨f, o, rfl, hf, hk3⟩)
  have k3 : Kept [] w2 w3 := ((Kept.refl [] w2).alloc _).trans hk3
  exact ⟨rfl, f, o, rfl, hf, ⟨c2, k3.get s2 (by simp), hd2.kept k3 (by simp) (by simp)⟩, hk02.trans2 k3 (by simp)⟩

set_option maxHeartbeats 1000000 in
theorem Open1_no (p a n cap : Nat) (sv : Value) (ao : Option Addr) (cache : Value) (c wr t : Int) (w : World) (hp : w.heap[p]? = some (.cells #[.iface 26 (.pointer (some ⟨a, 0, none⟩))] 118 (0, 0))) (h : w.heap[a]? = some (.cells (dcells (.slice ao n cap) cache c wr t) 83 (0, 0))) (hn : n < 8 ∨ 400 < n) :
    Calls Tryz.prog 73 #[.pointer (some ⟨p, 0, none⟩), sv] w (Throws 8 [] Always w) := by
  have c0 : w.cell? ⟨p, 0, none⟩ = some (.iface 26 (.pointer (some ⟨a, 0, none⟩))) := cellAt hp rfl
  go_enter Tryz.func73, Tryz.ntmps73
  go_wp2_with fail
  refine (On_no a n cap ao cache c wr t w h hn).mono ?_
  rintro e w1 ⟨f, o, rfl, hf, hk⟩
  exact ⟨rfl, f, o, rfl, hf, trivial, hk⟩

/-- what Open gives: a store; an error -/
def OpenOk (a g n : Nat) (L : List UInt8) (wr t : Int) (w : World) (e : Ending) (w' : World) : Prop :=
  ∃ st v c, e = .returned (.tuple #[.pointer (some ⟨st, 0, none⟩), .nilIface]) ∧ w'.heap[st]? = some (.cells #[.pointer (some ⟨v, 0, none⟩), .nilIface] 76 (0, 0)) ∧ Vol w' v a n ∧ w.heap.size ≤ st ∧ Dev w' a g n L c wr t ∧ Kept [a] w w'
def OpenNo (x : Int) (S : List Nat) (R : World → Prop) (w : World) (e : Ending) (w' : World) : Prop :=
  ∃ err, e = .returned (.tuple #[.pointer none, err]) ∧ Chain w' err x ∧ R w' ∧ Kept S w w'

/-- the two variables of Open -/
theorem open_vars (w : World) (d : Value) : ((w.alloc (.cells #[d] 118)).alloc (.cells #[.pointer none] 27)).heap[w.heap.size]? = some (.cells #[d] 118 (0, 0)) ∧
    ((w.alloc (.cells #[d] 118)).alloc (.cells #[.pointer none] 27)).heap[w.heap.size + 1]? = some (.cells #[.pointer none] 27 (0, 0)) := by
  constructor
  · exact ((Kept.refl [] _).alloc _).get (heap_alloc_new _ _) (by simp)
  · have := heap_alloc_new (w.alloc (.cells #[d] 118)) (.cells #[.pointer none] 27)
    rwa [World.size_alloc] at this

set_option maxRecDepth 100000 in
set_option maxHeartbeats 1000000 in
theorem Open_fits (a g n k : Nat) (L : List UInt8) (c wr t : Int) (w : World) (h : Dev w a g n L c wr t) (hn8 : 8 ≤ n) (hn : n ≤ 400) (hk : k ≤ 50000) (hk0 : 0 < k) (hs : St k L) :
    Calls Tryz.prog 48 #[.iface 26 (.pointer (some ⟨a, 0, none⟩))] w (OpenOk a g n L wr t w) := by
  have hmf := makes
  have hla := lt_heap h.d
  have hlg := lt_heap h.b
  have k1 := ((Kept.refl [] w).alloc (.cells #[.iface 26 (.pointer (some ⟨a, 0, none⟩))] 118)).alloc (.cells #[.pointer none] 27)
  obtain ⟨n1, s1⟩ := open_vars w (.iface 26 (.pointer (some ⟨a, 0, none⟩)))
  have h1 := h.kept k1 (by simp) (by simp)
  have hsz : ((w.alloc (.cells #[.iface 26 (.pointer (some ⟨a, 0, none⟩))] 118)).alloc (.cells #[.pointer none] 27)).heap.size = w.heap.size + 2 := by simp
  generalize hw1 : (w.alloc (.cells #[.iface 26 (.pointer (some ⟨a, 0, none⟩))] 118)).alloc (.cells #[.pointer none] 27) = w1 at *
  have HC : Hid (∀ b, Calls Tryz.prog 39 #[.string b, .func (.func 73) #[] #[.pointer (some ⟨w.heap.size, 0, none⟩), .pointer (some ⟨w.heap.size + 1, 0, none⟩)]] w1 fun e w' => e = .returned .nilIface ∧ SVar w.heap.size (w.heap.size + 1) a g n L wr t w' ∧ Kept [a, w.heap.size + 1] w1 w') := by
    intro b
    refine Catch_ok b 73 _ (fun _ _ => by kernel_rfl) [a, w.heap.size + 1] (SVar w.heap.size (w.heap.size + 1) a g n L wr t) w1 ?_ ?_ ?_
    · intro x hx; simp at hx; omega
    · rintro W W' T ⟨st, v, c', hs', hst', hv', hlo', hd'⟩ hK hT
      have hnot : ∀ y, y < w1.heap.size → y ∉ T := fun y hy hx => by have := (hT _ hx).1; omega
      have htag : ∀ y cs t fr, W.heap[y]? = some (.cells cs t fr) → t ≠ 35 → y ∉ T := fun y cs t fr hy ht hx => by
        obtain ⟨_, _, cs', fr', he⟩ := hT _ hx
        rw [he] at hy
        cases hy
        exact ht rfl
      exact ⟨st, v, c', hK.get hs' (hnot _ (by omega)), hK.get hst' (htag _ _ _ _ hst' (by decide)), hK.get hv' (htag _ _ _ _ hv' (by decide)), hlo', hd'.kept hK (hnot _ (by omega)) (hnot _ (by omega))⟩
    · intro W hW hWs
      refine (Open1_fits w.heap.size (w.heap.size + 1) a g n k L c wr t W (hW.get n1 (by simp)) (hW.get s1 (by simp)) (h1.kept hW (by simp) (by simp)) hn8 hn hk hk0 hs).mono ?_
      rintro e w' ⟨rfl, ⟨st, v, c', q1, q2, q3, q4, q5⟩, q6⟩
      exact ⟨rfl, ⟨st, v, c', q1, q2, q3, by omega, q5⟩, q6⟩
  have HW : Hid _ := hw1
  clear hw1 h1 n1 s1 hs hsz
  go_enter Tryz.func48, Tryz.ntmps48
  go_wp2_with (go_at_call 39; rw [HW.out]; refine (HC.out _).mono ?_; rintro e w2 ⟨rfl, ⟨st, v, c2, hs2, hst2, hv2, hlo2, hd2⟩, hk2⟩; have e2 : w2.cell? ⟨w.heap.size + 1, 0, none⟩ = some (.pointer (some ⟨st, 0, none⟩)) := cellAt hs2 rfl)
  go_ret2
  exact ⟨st, v, c2, rfl, hst2, hv2, hlo2, hd2, (k1.mono (by simp)).trans2 hk2 (by intro x hx; simp at hx; rcases hx with rfl | rfl; exact Or.inl (by simp); exact Or.inr (by omega))⟩

end Go.Proofs.YtloihcnbcknbnaaGreatDoor

namespace Go.Proofs.YtloihcnbcknbnaaGreatDoor
open Go.RowKit

def DevC (a g n : Nat) (L : List UInt8) (wr t : Int) (W : World) : Prop := ∃ c, Dev W a g n L c wr t

set_option maxRecDepth 100000 in
set_option maxHeartbeats 1000000 in
theorem Open_none (a g n : Nat) (L : List UInt8) (c wr t : Int) (w : World) (h : Dev w a g n L c wr t) (hn8 : 8 ≤ n) (hn : n ≤ 400) (hs : St 0 L) :
    Calls Tryz.prog 48 #[.iface 26 (.pointer (some ⟨a, 0, none⟩))] w (OpenNo 7 [a] (DevC a g n L wr t) w) := by
  have hmf := makes
  have hla := lt_heap h.d
  have hlg := lt_heap h.b
  have k1 := ((Kept.refl [] w).alloc (.cells #[.iface 26 (.pointer (some ⟨a, 0, none⟩))] 118)).alloc (.cells #[.pointer none] 27)
  obtain ⟨n1, s1⟩ := open_vars w (.iface 26 (.pointer (some ⟨a, 0, none⟩)))
  have h1 := h.kept k1 (by simp) (by simp)
  have hsz : ((w.alloc (.cells #[.iface 26 (.pointer (some ⟨a, 0, none⟩))] 118)).alloc (.cells #[.pointer none] 27)).heap.size = w.heap.size + 2 := by simp
  generalize hw1 : (w.alloc (.cells #[.iface 26 (.pointer (some ⟨a, 0, none⟩))] 118)).alloc (.cells #[.pointer none] 27) = w1 at *
  have HC : Hid (∀ b, Calls Tryz.prog 39 #[.string b, .func (.func 73) #[] #[.pointer (some ⟨w.heap.size, 0, none⟩), .pointer (some ⟨w.heap.size + 1, 0, none⟩)]] w1 (Gives 7 [a] (SNil (w.heap.size + 1) a g n L wr t) w1)) := by
    intro b
    refine Catch_no b 73 _ (fun _ _ => by kernel_rfl) 7 [a] (SNil (w.heap.size + 1) a g n L wr t) w1 ?_ ?_ ?_
    · intro x hx; simp at hx; omega
    · rintro W W' T ⟨c', hs', hd'⟩ hK hT
      have hnot : ∀ y, y < w1.heap.size → y ∉ T := fun y hy hx => by have := (hT _ hx).1; omega
      exact ⟨c', hK.get hs' (hnot _ (by omega)), hd'.kept hK (hnot _ (by omega)) (hnot _ (by omega))⟩
    · intro W hW _
      exact Open1_none w.heap.size (w.heap.size + 1) a g n L c wr t W (hW.get n1 (by simp)) (hW.get s1 (by simp)) (h1.kept hW (by simp) (by simp)) hn8 hn hs
  have HW : Hid _ := hw1
  clear hw1 h1 n1 s1 hs hsz
  go_enter Tryz.func48, Tryz.ntmps48
  go_wp2_with (go_at_call 39; rw [HW.out]; refine (HC.out _).mono ?_; rintro e w2 ⟨err, rfl, hc2, ⟨c2, hs2, hd2⟩, hk2⟩; have e2 : w2.cell? ⟨w.heap.size + 1, 0, none⟩ = some (.pointer none) := cellAt hs2 rfl)
  go_ret2
  exact ⟨err, rfl, hc2, ⟨c2, hd2⟩, (k1.mono (by simp)).trans hk2⟩

set_option maxRecDepth 100000 in
set_option maxHeartbeats 1000000 in
theorem Open_no (a n cap : Nat) (ao : Option Addr) (cache : Value) (c wr t : Int) (w : World) (h : w.heap[a]? = some (.cells (dcells (.slice ao n cap) cache c wr t) 83 (0, 0))) (hn : n < 8 ∨ 400 < n) :
    Calls Tryz.prog 48 #[.iface 26 (.pointer (some ⟨a, 0, none⟩))] w (OpenNo 8 [] Always w) := by
  have hmf := makes
  have hla := lt_heap h
  have k1 := ((Kept.refl [] w).alloc (.cells #[.iface 26 (.pointer (some ⟨a, 0, none⟩))] 118)).alloc (.cells #[.pointer none] 27)
  obtain ⟨n1, s1⟩ := open_vars w (.iface 26 (.pointer (some ⟨a, 0, none⟩)))
  have h1 := k1.get h (by simp)
  have hsz : ((w.alloc (.cells #[.iface 26 (.pointer (some ⟨a, 0, none⟩))] 118)).alloc (.cells #[.pointer none] 27)).heap.size = w.heap.size + 2 := by simp
  generalize hw1 : (w.alloc (.cells #[.iface 26 (.pointer (some ⟨a, 0, none⟩))] 118)).alloc (.cells #[.pointer none] 27) = w1 at *
  have HC : Hid (∀ b, Calls Tryz.prog 39 #[.string b, .func (.func 73) #[] #[.pointer (some ⟨w.heap.size, 0, none⟩), .pointer (some ⟨w.heap.size + 1, 0, none⟩)]] w1 (Gives 8 [] Always w1)) := by
    intro b
    refine Catch_no b 73 _ (fun _ _ => by kernel_rfl) 8 [] Always w1 (by simp) (fun _ _ _ _ _ _ => trivial) ?_
    intro W hW _
    exact Open1_no w.heap.size a n cap _ ao cache c wr t W (hW.get n1 (by simp)) (hW.get h1 (by simp)) hn
  have HW : Hid _ := hw1
  clear hw1 h1 n1 hsz
  go_enter Tryz.func48, Tryz.ntmps48
  go_wp2_with (go_at_call 39; rw [HW.out]; refine (HC.out _).mono ?_; rintro e w2 ⟨err, rfl, hc2, _, hk2⟩; have e2 : w2.cell? ⟨w.heap.size + 1, 0, none⟩ = some (.pointer none) := cellAt (hk2.get s1 (by simp)) rfl)
  go_ret2
  exact ⟨err, rfl, hc2, trivial, k1.trans hk2⟩

set_option maxHeartbeats 1000000 in
theorem POpen_of (a : Nat) (w : World) (R : Ending → World → Prop) (hR : Calls Tryz.prog 48 #[.iface 26 (.pointer (some ⟨a, 0, none⟩))] w fun e w' => ∃ v u, e = .returned (.tuple #[v, u]) ∧ R e w') :
    Calls Tryz.prog 31 #[.pointer (some ⟨a, 0, none⟩)] w R := by
  have HR : Hid (Calls _ _ _ _ _) := hR
  clear hR
  go_enter Tryz.func31, Tryz.ntmps31
  go_wp2_with (go_at_call 48; refine HR.out.mono ?_; rintro e w2 ⟨v, u, rfl, h2⟩)
  exact h2

end Go.Proofs.YtloihcnbcknbnaaGreatDoor
