import Derived.Test.YtloihcnbcknbnaaGreatDoorPtbk
namespace Go.Proofs.YtloihcnbcknbnaaGreatDoor
open Go.RowKit

/-- the heads of a device on which k Formats were done -/
def St (k : Nat) (L : List UInt8) : Prop :=
  (k = 0 ∧ (blockOf L 0).take 32 = List.replicate 32 0 ∧ (blockOf L 1).take 32 = List.replicate 32 0) ∨
  (0 < k ∧ (blockOf L 0).take 32 = sec (2 * k) ∧ (blockOf L 1).take 32 = sec (2 * k - 1))

theorem turn_of (B : List UInt8) : (B.drop 8).take 8 = ((B.take 32).drop 8).take 8 := by
  rw [List.drop_take, List.take_take]; rfl
theorem splice_at {α : Type} (L cs : List α) (off : Nat) (h : off + cs.length ≤ L.length) : ((splice L off cs).drop off).take cs.length = cs := by
  have hl : (L.take off).length = off := by rw [List.length_take]; omega
  rw [splice, List.drop_append_of_le_length (by omega), List.drop_of_length_le (by omega), List.nil_append, List.take_left' rfl]
theorem splice_before {α : Type} (L cs : List α) (off m k : Nat) (h : m + k ≤ off) (h2 : off ≤ L.length) : ((splice L off cs).drop m).take k = (L.drop m).take k := by
  apply List.ext_getElem?
  intro j
  simp only [List.getElem?_take, List.getElem?_drop]
  by_cases hj : j < k
  · simp only [hj, if_true, splice]
    rw [List.getElem?_append_left (by rw [List.length_take]; omega), List.getElem?_take, if_pos (by omega)]
  · simp [hj]
theorem turn_sec (t : Nat) : ((sec t).drop 8).take 8 = bytesOf t 8 := by
  rw [sec, splice_before _ _ 28 8 8 (by omega) (by rw [length_sec1]; omega), sec1]
  have := splice_at sec0 (bytesOf t 8) 8 (by rw [length_bytesOf, length_sec0]; omega)
  rwa [length_bytesOf] at this
theorem leNum_sec (t : Nat) (h : t < 2 ^ 64) : leNum (((sec t).drop 8).take 8) = t := by
  rw [turn_sec, leNum_bytesOf]; exact Nat.mod_eq_of_lt h
theorem sec_ne (t : Nat) : ¬ sec t = List.replicate 32 0 := by
  intro h
  have h1 : ((sec t).drop 0).take 8 = markL := by
    rw [sec, splice_before _ _ 28 0 8 (by omega) (by rw [length_sec1]; omega), sec1, splice_before _ _ 8 0 8 (by omega) (by rw [length_sec0]; omega)]
    decide
  rw [h] at h1
  revert h1; decide
theorem leNum_zero : leNum (((List.replicate 32 (0 : UInt8)).drop 8).take 8) = 0 := by decide

set_option maxRecDepth 100000 in
set_option maxHeartbeats 1000000 in
theorem Newest_some (v a g n k : Nat) (L : List UInt8) (c wr t : Int) (w : World) (hv : Vol w v a n) (h : Dev w a g n L c wr t) (hn8 : 8 ≤ n) (hn : n ≤ 1000) (hk : 0 < k) (hk2 : k ≤ 100000)
    (h0 : (blockOf L 0).take 32 = sec (2 * k)) (h1 : (blockOf L 1).take 32 = sec (2 * k - 1)) :
    Calls Tryz.prog 70 #[.pointer (some ⟨v, 0, none⟩)] w (ReadR a g n L wr t (2 * k) true w) := by
  have hla := lt_heap h.d
  have hlg := lt_heap h.b
  have hlv := lt_heap hv
  have nva : v ≠ a := ne_tag hv h.d (by decide)
  have e64 : (2 : Nat) ^ 64 = 18446744073709551616 := by decide
  have t0 : leNum (((blockOf L 0).drop 8).take 8) = 2 * k := by rw [turn_of, h0]; exact leNum_sec _ (by omega)
  have t1 : leNum (((blockOf L 1).drop 8).take 8) = 2 * k - 1 := by rw [turn_of, h1]; exact leNum_sec _ (by omega)
  have R0 : Hid (∀ W c, Vol W v a n → Dev W a g n L c wr t → Calls Tryz.prog 95 #[.pointer (some ⟨v, 0, none⟩), .int .i64 0] W (ReadR a g n L wr t (2 * k) true W)) := by
    intro W c hV hD
    exact hread_at v a g n L c wr t 0 (2 * k) W hV hD (by omega) hn t0 (by omega) (by omega) h0.symm
  have R1 : Hid (∀ W c, Vol W v a n → Dev W a g n L c wr t → Calls Tryz.prog 95 #[.pointer (some ⟨v, 0, none⟩), .int .i64 1] W (ReadR a g n L wr t (2 * k - 1) true W)) := by
    intro W c hV hD
    exact hread_at v a g n L c wr t 1 (2 * k - 1) W hV hD (by omega) hn t1 (by omega) (by omega) h1.symm
  have NW : Hid (∀ W, Calls Tryz.prog 96 #[.agg #[.int .u64 (2 * k - 1 : Nat)], .agg #[.int .u64 (2 * k : Nat)]] W fun e w' => e = .returned (.bool false) ∧ Kept [] W w') := by
    intro W
    have := newer_any (2 * k - 1) (2 * k) W (by omega) (by omega)
    have hd : decide (2 * k < 2 * k - 1) = false := by rw [decide_eq_false_iff_not]; omega
    rw [hd] at this
    exact this
  generalize hp : 2 * k = p at *
  generalize hq : p - 1 = q at *
  clear hp hq t0 t1 h0 h1 hk hk2 e64
  have k0 := (Kept.refl [] w).alloc (.cells #[.int .u64 0] 122)
  have n0 := heap_alloc_new w (.cells #[.int .u64 0] 122)
  go_enter Tryz.func70, Tryz.ntmps70
  go_wp2_with fail
  refine (R0.out _ c (k0.get hv (by simp)) (h.kept k0 (by simp) (by simp))).mono ?_
  rintro e w1 ⟨rfl, ⟨c1, hd1⟩, hk1⟩
  have n1 := hk1.get n0 (by simp; omega)
  have hv1 : Vol w1 v a n := hk1.get (k0.get hv (by simp)) (by simpa using nva)
  have k2 := (Kept.refl [] w1).alloc (.cells #[.int .u64 p] 122)
  have m2 := heap_alloc_new w1 (.cells #[.int .u64 (p : Int)] 122)
  have n2 := k2.get n1 (by simp)
  have hl1 := lt_heap n1
  go_wp2_with fail
  refine (R1.out _ c1 (k2.get hv1 (by simp)) (hd1.kept k2 (by simp) (by simp))).mono ?_
  rintro e w3 ⟨rfl, ⟨c3, hd3⟩, hk3⟩
  have n3 := hk3.get n2 (by simp; omega)
  have m3 := hk3.get m2 (by have := lt_heap hd1.d; simp; omega)
  have k4 := (Kept.refl [] w3).alloc (.cells #[.int .u64 q] 122)
  have n4 := k4.get n3 (by simp)
  have m4 := k4.get m3 (by simp)
  have hd4 := hd3.kept k4 (by simp) (by simp)
  have a4 : (w3.alloc (.cells #[.int .u64 q] 122)).cell? ⟨w1.heap.size, 0, none⟩ = some (.int .u64 p) := cellAt m4 rfl
  have hk04 : Kept [a] w (w3.alloc (.cells #[.int .u64 q] 122)) := (((k0.mono (by simp)).trans hk1).trans2 k2 (by simp)).trans hk3 |>.trans2 k4 (by simp)
  go_wp2_with fail
  refine (NW.out _).mono ?_
  rintro e w5 ⟨rfl, hk5⟩
  have n5 := hk5.get n4 (by simp)
  have m5 := hk5.get m4 (by simp)
  have hd5 := hd4.kept hk5 (by simp) (by simp)
  have a5 : w5.cell? ⟨w1.heap.size, 0, none⟩ = some (.int .u64 p) := cellAt m5 rfl
  have b5 : w5.cell? ⟨w.heap.size, 0, none⟩ = some (.int .u64 0) := cellAt n5 rfl
  have f5 : w5.frozen? ⟨w.heap.size, 0, none⟩ = false := frozen_of_row _ _ _ _ _ n5
  go_wp2
  have k6 : Kept [w.heap.size] w5 (w5.setCell ⟨w.heap.size, 0, none⟩ (.int .u64 p)) := (Kept.refl _ _).setCell (Or.inl (by simp)) _
  refine bodyPost_ret (res2 rfl _ _ w.heap.size 122 #[.int .u64 p] (0, 0) _ _ rfl rfl (setCellAt (i := 0) (.int .u64 p) n5) Tryz.underlying122 rfl shead) rfl ?_
  exact ⟨rfl, ⟨c3, hd5.kept k6 (by simp; omega) (by simp; omega)⟩, (hk04.trans2 hk5 (by simp)).trans2 k6 (by intro x hx; simp at hx; subst hx; exact Or.inr (Nat.le_refl _))⟩

set_option maxRecDepth 100000 in
set_option maxHeartbeats 1000000 in
theorem Newest_none (v a g n : Nat) (L : List UInt8) (c wr t : Int) (w : World) (hv : Vol w v a n) (h : Dev w a g n L c wr t) (hn8 : 8 ≤ n) (hn : n ≤ 1000)
    (h0 : (blockOf L 0).take 32 = List.replicate 32 0) (h1 : (blockOf L 1).take 32 = List.replicate 32 0) :
    Calls Tryz.prog 70 #[.pointer (some ⟨v, 0, none⟩)] w (ReadR a g n L wr t 0 false w) := by
  have hla := lt_heap h.d
  have hlg := lt_heap h.b
  have hlv := lt_heap hv
  have nva : v ≠ a := ne_tag hv h.d (by decide)
  have t0 : leNum (((blockOf L 0).drop 8).take 8) = 0 := by rw [turn_of, h0]; exact leNum_zero
  have t1 : leNum (((blockOf L 1).drop 8).take 8) = 0 := by rw [turn_of, h1]; exact leNum_zero
  have R0 : Hid (∀ W c, Vol W v a n → Dev W a g n L c wr t → Calls Tryz.prog 95 #[.pointer (some ⟨v, 0, none⟩), .int .i64 0] W (ReadR a g n L wr t 0 false W)) := by
    intro W c hV hD
    exact hread_torn v a g n L c wr t 0 0 W hV hD (by omega) hn t0 (by omega) (by omega) (by rw [h0]; exact sec_ne 0)
  have R1 : Hid (∀ W c, Vol W v a n → Dev W a g n L c wr t → Calls Tryz.prog 95 #[.pointer (some ⟨v, 0, none⟩), .int .i64 1] W (ReadR a g n L wr t 0 false W)) := by
    intro W c hV hD
    exact hread_other v a g n L c wr t 1 0 W hV hD (by omega) hn t1 (by omega) (by omega)
  clear t0 t1 h0 h1
  have k0 := (Kept.refl [] w).alloc (.cells #[.int .u64 0] 122)
  have n0 := heap_alloc_new w (.cells #[.int .u64 0] 122)
  go_enter Tryz.func70, Tryz.ntmps70
  go_wp2_with fail
  refine (R0.out _ c (k0.get hv (by simp)) (h.kept k0 (by simp) (by simp))).mono ?_
  rintro e w1 ⟨rfl, ⟨c1, hd1⟩, hk1⟩
  have n1 := hk1.get n0 (by simp; omega)
  have hv1 : Vol w1 v a n := hk1.get (k0.get hv (by simp)) (by simpa using nva)
  have k2 := (Kept.refl [] w1).alloc (.cells #[.int .u64 0] 122)
  have n2 := k2.get n1 (by simp)
  have hl1 := lt_heap n1
  go_wp2_with fail
  refine (R1.out _ c1 (k2.get hv1 (by simp)) (hd1.kept k2 (by simp) (by simp))).mono ?_
  rintro e w3 ⟨rfl, ⟨c3, hd3⟩, hk3⟩
  have n3 := hk3.get n2 (by simp; omega)
  have k4 := (Kept.refl [] w3).alloc (.cells #[.int .u64 0] 122)
  have n4 := k4.get n3 (by simp)
  have hd4 := hd3.kept k4 (by simp) (by simp)
  have hk04 : Kept [a] w (w3.alloc (.cells #[.int .u64 0] 122)) := (((k0.mono (by simp)).trans hk1).trans2 k2 (by simp)).trans hk3 |>.trans2 k4 (by simp)
  have b4 : (w3.alloc (.cells #[.int .u64 0] 122)).cell? ⟨w.heap.size, 0, none⟩ = some (.int .u64 0) := cellAt n4 rfl
  have f4 : (w3.alloc (.cells #[.int .u64 0] 122)).frozen? ⟨w.heap.size, 0, none⟩ = false := frozen_of_row _ _ _ _ _ n4
  have k6 : Kept [w.heap.size] w3 ((w3.alloc (.cells #[.int .u64 0] 122)).setCell ⟨w.heap.size, 0, none⟩ (.int .u64 0)) := ((Kept.refl _ _).alloc _).setCell (Or.inl (by simp)) _
  have N6 : Hid (((w3.alloc (.cells #[.int .u64 0] 122)).setCell ⟨w.heap.size, 0, none⟩ (.int .u64 0)).heap[w.heap.size]? = some (.cells #[.int .u64 0] 122 (0, 0))) := setCellAt (i := 0) (.int .u64 0) n4
  have hk03 : Kept [a] w w3 := (((k0.mono (by simp)).trans hk1).trans2 k2 (by simp)).trans hk3
  clear hk04 hd4 n4 k4
  go_wp2
  refine bodyPost_ret (res2 rfl _ _ w.heap.size 122 #[.int .u64 0] (0, 0) _ _ rfl rfl N6.out Tryz.underlying122 rfl shead) rfl ?_
  exact ⟨rfl, ⟨c3, hd3.kept k6 (by simp; omega) (by simp; omega)⟩, hk03.trans2 k6 (by intro x hx; simp at hx; subst hx; exact Or.inr (Nat.le_refl _))⟩

end Go.Proofs.YtloihcnbcknbnaaGreatDoor

namespace Go.Proofs.YtloihcnbcknbnaaGreatDoor
open Go.RowKit

theorem exec_copy {P : Program} {o : Oper} {a : Act} {w w' : World} (x y : Operand) (t u : TypeId) (ho : o.op = .call { callee := .builtin .copy, args := #[x, y], argTypes := #[t, u] }) (vx vy : Value) (hx : a.eval x = vx) (hy : a.eval y = vy) (v : Value)
    (hrun : (Builtin.copy_ #[t, u] o.type #[vx, vy]).run P w = .ok v w') : (execOp a.eval o).run P w = .ok (.value v) w' := by
  simp [execOp, ho, resolve, invoke, builtin, hx, hy, hrun, Result.andThen]

/-- a head's block -/
def blk (t : Nat) : List UInt8 := splice (List.replicate 128 0) 0 (sec t)
theorem length_blk (t : Nat) : (blk t).length = 128 := by rw [blk, length_splice _ _ _ (by rw [length_sec, List.length_replicate]; omega), List.length_replicate]
theorem blk_take (t : Nat) : (blk t).take 32 = sec t := by
  have := splice_at (List.replicate 128 (0 : UInt8)) (sec t) 0 (by rw [length_sec, List.length_replicate]; omega)
  rwa [length_sec, List.drop_zero] at this

def LayR (a g n : Nat) (L : List UInt8) (t : Int) (w : World) (e : Ending) (w' : World) : Prop := e = .returned (.tuple #[]) ∧ Flushed a g n L t w w'

set_option maxRecDepth 100000 in
set_option maxHeartbeats 2000000 in
theorem HLay_any (v a g n : Nat) (L : List UInt8) (c wr t : Int) (T : Nat) (w : World) (hv : Vol w v a n) (h : Dev w a g n L c wr t) (hn8 : 8 ≤ n) (hn : n ≤ 1000) (hT2 : (T : Int) < 9223372036854775807) :
    Calls Tryz.prog 72 #[.pointer (some ⟨v, 0, none⟩), .agg #[.int .u64 T]] w (LayR a g n (setBlock L (T % 2) (blk T)) t w) := by
  have hla := lt_heap h.d
  have hlg := lt_heap h.b
  have hlv := lt_heap hv
  have nva : v ≠ a := ne_tag hv h.d (by decide)
  have nvg : v ≠ g := ne_tag hv h.b (by decide)
  have nag := h.ne
  have k0 := (Kept.refl [] w).alloc (.cells #[.int .u64 T] 122)
  have n0 := heap_alloc_new w (.cells #[.int .u64 T] 122)
  go_enter Tryz.func72, Tryz.ntmps72
  go_wp2_with (first
    | (refine wpList_alloc_d rfl 4 rfl 84 rfl _ (zblk _) ?_; intro w1 hn1 hk1 hs1; have HS1 : Hid _ := hs1; clear hs1; have n1 := hk1.get n0 (by simp); have c1 : w1.cell? ⟨w.heap.size, 0, none⟩ = some (.int .u64 T) := cellAt n1 rfl)
    | (go_at_call 97; refine (sector_any T w1 hT2).mono ?_; rintro e w2 ⟨rfl, hk2⟩; have n2 := hk2.get n1 (by simp); have b2 := hk2.get hn1 (by simp))
    | (refine wpList_alloc_d rfl 5 rfl 160 rfl _ (zsec _) ?_; intro w3 hn3 hk3 hs3; clear hs3; have n3 := hk3.get n2 (by simp); have b3 := hk3.get b2 (by simp))
    | (refine wpList_store_k rfl 160 (.tmp 5) (.tmp 7) rfl w2.heap.size (u8s (sec T)).toArray rfl rfl 160 _ hn3 (by rw [ssec]; simp [length_u8s, length_sec]) (by simp [length_u8s, length_sec]) (all_of (one_u8s _)) ?_; intro w4 hn4 hk4))
  have hz1 : w1.heap.size = w.heap.size + 1 + 1 := by have := HS1.out; simpa using this
  have hz2 := hk2.size
  have hz3 := hk3.size
  have hz4 := hk4.size
  rw [World.size_alloc] at hn1 b2 b3
  have n4 := hk4.get n3 (by simp; omega)
  have b4 := hk4.get b3 (by simp; omega)
  have hk04 : Kept [] w w4 := by
    refine Kept.trans2 (Kept.trans (Kept.trans (Kept.trans k0 hk1) hk2) hk3) hk4 ?_
    intro x hx; simp at hx; subst hx; exact Or.inr (by omega)
  have HZ : Hid (w1.heap.size = w.heap.size + 1 + 1) := hz1
  clear hz1 HS1 hn1 b2 b3 n3 n2 n1 c1 k0 n0 hk1 hk2 hk3 hk4 hn3
  refine wp_region_held (S := fun _ => True) (by kernel_rfl) ?_
  refine wpAnyH_take (i := 0) (v := .slice (some ⟨w.heap.size + 1, 0, none⟩) 128 128) rfl (by kernel_rfl) (by kernel_rfl) (by kernel_rfl) (fun _ _ _ h => h) (Or.inl ⟨by rfl, fun W hW => by rfl⟩) trivial ?_
  simp only [Act.put, List.getElem_toArray, List.getElem_cons_zero, List.setIfInBounds_toArray, List.set_cons_succ, List.set_cons_zero]
  refine wpAnyH_take (i := 1) (v := .slice (some ⟨w2.heap.size, 0, none⟩) 32 32) rfl (by kernel_rfl) (by kernel_rfl) (by kernel_rfl) (fun _ _ _ h => h) (Or.inl ⟨by rfl, fun W hW => by rfl⟩) trivial ?_
  simp only [Act.put, List.getElem_toArray, List.getElem_cons_succ, List.getElem_cons_zero, List.setIfInBounds_toArray, List.set_cons_succ, List.set_cons_zero]
  have hcp := run_copy_row (P := Tryz.prog) w4.drew 58 58 3 5 (w.heap.size + 1) 0 128 128 ⟨w2.heap.size, 0, none⟩ 32 32 (u8s (List.replicate 128 0)).toArray 84 (u8s (sec T)) Tryz.underlying58 su8 b4 (by rw [length_u8s, length_sec]; rfl) (row_src (w := w4.drew) hn4) (by simp [length_u8s, length_sec]) (one_u8s _)
  refine held_one (i := 2) (by kernel_rfl) (wpOp_val rfl rfl _ _ (exec_copy (.tmp 8) (.tmp 9) 58 58 rfl (.slice (some ⟨w.heap.size + 1, 0, none⟩) 128 128) (.slice (some ⟨w2.heap.size, 0, none⟩) 32 32) rfl rfl _ hcp) ⟨trivial, ?_⟩)
  simp only [Act.put, List.getElem_toArray, List.getElem_cons_succ, List.getElem_cons_zero, List.setIfInBounds_toArray, List.set_cons_succ, List.set_cons_zero]
  refine wpAnyH_done (by kernel_rfl) ?_ _
  have k5 : Kept [w.heap.size + 1] w4 (w4.drew.setRow (w.heap.size + 1) ((u8s (List.replicate 128 0)).toArray.toList.take 0 ++ u8s (sec T) ++ (u8s (List.replicate 128 0)).toArray.toList.drop (0 + (u8s (sec T)).length)).toArray) := (Kept.refl _ _).drew.setRow (Or.inl (by simp)) _
  have b5 : (w4.drew.setRow (w.heap.size + 1) ((u8s (List.replicate 128 0)).toArray.toList.take 0 ++ u8s (sec T) ++ (u8s (List.replicate 128 0)).toArray.toList.drop (0 + (u8s (sec T)).length)).toArray).heap[w.heap.size + 1]? = some (.cells (u8s (blk T)).toArray 84 (0, 0)) := by
    rw [setRow_heap w4.drew (w.heap.size + 1) _ _ 84 _ b4, blk, ← u8s_splice]
    simp [splice]
  generalize w4.drew.setRow (w.heap.size + 1) ((u8s (List.replicate 128 0)).toArray.toList.take 0 ++ u8s (sec T) ++ (u8s (List.replicate 128 0)).toArray.toList.drop (0 + (u8s (sec T)).length)).toArray = w5 at *
  have n5 := k5.get n4 (by simp)
  have hk05 : Kept [] w w5 := hk04.trans2 k5 (by intro x hx; simp at hx; subst hx; exact Or.inr (by omega))
  clear hcp hn4 n4 b4 hk04 k5
  go_wp2
  have hS : (fun W : World => W.heap[w.heap.size]? = some (.cells #[.int .u64 T] 122 (0, 0)) ∧ W.heap[w.heap.size + 1]? = some (.cells (u8s (blk T)).toArray 84 (0, 0))) w5.drew := ⟨n5, b5⟩
  refine wp_region_held (S := fun W => W.heap[w.heap.size]? = some (.cells #[.int .u64 T] 122 (0, 0)) ∧ W.heap[w.heap.size + 1]? = some (.cells (u8s (blk T)).toArray 84 (0, 0))) (by kernel_rfl) ?_
  refine wpAnyH_take (i := 0) (v := .pointer (some ⟨v, 0, none⟩)) rfl (by kernel_rfl) (by kernel_rfl) (by kernel_rfl) (fun _ _ _ h => h) (Or.inl ⟨by rfl, fun W hW => by rfl⟩) hS ?_
  simp only [Act.put, List.getElem_toArray, List.getElem_cons_zero, List.setIfInBounds_toArray, List.set_cons_succ, List.set_cons_zero]
  refine wpAnyH_take (i := 1) (v := .agg #[.int .u64 T]) rfl (by kernel_rfl) (by kernel_rfl) (by kernel_rfl) (fun _ _ _ h => h) (Or.inl ⟨by rfl, fun W hW => exec_load 122 (.tmp 3) rfl ⟨w.heap.size, 0, none⟩ rfl _ (run_loadVar_row W _ _ _ _ _ _ hW.1 Tryz.underlying122 rfl shead)⟩) hS ?_
  simp only [Act.put, List.getElem_toArray, List.getElem_cons_succ, List.getElem_cons_zero, List.setIfInBounds_toArray, List.set_cons_succ, List.set_cons_zero]
  refine wpAnyH_take (i := 3) (v := .agg (u8s (blk T)).toArray) rfl (by kernel_rfl) (by kernel_rfl) (by kernel_rfl) (fun _ _ _ h => h) (Or.inl ⟨by rfl, fun W hW => exec_load 84 (.tmp 4) rfl ⟨w.heap.size + 1, 0, none⟩ rfl _ (run_loadVar_row W _ _ _ _ _ _ hW.2 Tryz.underlying84 rfl (by rw [sblk]; simp [length_u8s, length_blk]))⟩) hS ?_
  simp only [Act.put, List.getElem_toArray, List.getElem_cons_succ, List.getElem_cons_zero, List.setIfInBounds_toArray, List.set_cons_succ, List.set_cons_zero]
  refine held_one (i := 2) (by kernel_rfl) (wpOp_call rfl (by rfl) 99 #[.agg #[.int .u64 T]] (exec_call _ _ _ rfl _ (by simp [Act.eval]) (enters_hblock _ _)) _ (hblock_any T _ (by omega)) ?_)
  rintro e w6 ⟨rfl, k6⟩
  have n6 := k6.get (w := w5.drew) n5 (by simp)
  have b6 := k6.get (w := w5.drew) b5 (by simp)
  refine ⟨_, rfl, ⟨n6, b6⟩, ?_⟩
  simp only [Act.put, List.getElem_toArray, List.getElem_cons_succ, List.getElem_cons_zero, List.setIfInBounds_toArray, List.set_cons_succ, List.set_cons_zero]
  have hk06 : Kept [] w w6 := hk05.drew.trans k6
  have hV6 : Vol w6 v a n := hk06.get hv (by simp)
  have hD6 := h.kept hk06 (by simp) (by simp)
  refine held_one (i := 4) (by kernel_rfl) (wpOp_call rfl (by rfl) 98 #[.pointer (some ⟨v, 0, none⟩), .int .i64 (T % 2 : Nat), .agg (u8s (blk T)).toArray] (exec_call _ _ _ rfl _ (by simp [Act.eval]) (enters_VLay _ _)) _ (VLay_any v a g n L (blk T) c wr t (T % 2) w6 hV6 hD6 (by omega) (length_blk T)) ?_)
  rintro e w7 ⟨rfl, hw7⟩
  have hk7 : Kept [a] w6 w7 := by obtain ⟨_, _, _, _, _, _, _, hk⟩ := hw7; exact hk
  refine ⟨_, rfl, ⟨hk7.get n6 (by simp; omega), hk7.get b6 (by simp; omega)⟩, ?_⟩
  simp only [Act.put, List.getElem_toArray, List.getElem_cons_succ, List.getElem_cons_zero, List.setIfInBounds_toArray, List.set_cons_succ, List.set_cons_zero]
  refine wpAnyH_done (by kernel_rfl) ?_ _
  have hV7 : Vol w7 v a n := hk7.get hV6 (by simpa using nva)
  have hB7 := hk7.get hD6.b (by simpa using nag.symm)
  have hk07 : Kept [a] w w7 := (hk06.mono (by simp)).trans hk7
  clear hS n5 b5 n6 b6 k6 hk05
  go_wp2_with (go_at_call 100; refine (Settle_any v a g n (T % 2) L (blk T) t w6 w7 hV7 hw7 hB7 h.l (length_blk T) (by omega) hn).mono ?_; rintro e w8 ⟨rfl, hw8⟩)
  go_end0
  obtain ⟨c8, wr8, hd8, hk8⟩ := hw8
  exact ⟨rfl, c8, wr8, hd8, (hk07.mono (by simp)).trans hk8⟩

end Go.Proofs.YtloihcnbcknbnaaGreatDoor
