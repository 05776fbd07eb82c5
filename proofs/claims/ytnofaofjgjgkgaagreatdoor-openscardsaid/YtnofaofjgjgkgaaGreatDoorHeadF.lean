import Derived.Test.YtnofaofjgjgkgaaGreatDoorHeadE
namespace Go.Proofs.YtnofaofjgjgkgaaGreatDoor
open Go.RowKit

theorem exec_copy {P : Program} {o : Oper} {a : Act} {w w' : World} (x y : Operand) (t u : TypeId) (ho : o.op = .call { callee := .builtin .copy, args := #[x, y], argTypes := #[t, u] }) (vx vy : Value) (hx : a.eval x = vx) (hy : a.eval y = vy) (v : Value)
    (hrun : (Builtin.copy_ #[t, u] o.type #[vx, vy]).run P w = .ok v w') : (execOp a.eval o).run P w = .ok (.value v) w' := by
  simp [execOp, ho, resolve, invoke, builtin, hx, hy, hrun, Result.andThen]

/-- a head's block -/
def blk (t : Nat) : List UInt8 := splice (List.replicate 128 0) 0 (sec t)
theorem length_blk (t : Nat) : (blk t).length = 128 := by rw [blk, length_splice _ _ _ (by rw [length_sec, List.length_replicate]; omega), List.length_replicate]
theorem blk_take (t : Nat) : (blk t).take 32 = sec t := by
  have := splice_at (List.replicate 128 (0 : UInt8)) (sec t) 0 (by rw [length_sec, List.length_replicate]; omega)
  rwa [length_sec, List.drop_zero] at this

def LayR (a g n : Nat) (L : List UInt8) (t : Int) (w : World) (e : Ending) (w' : World) : Prop := e = .returned (.tuple #[]) ∧ Flushed a g n L t w w'

set_option maxRecDepth 100000 in
set_option maxHeartbeats 2000000 in
theorem HLay_any (v a g n : Nat) (L : List UInt8) (c wr t : Int) (T : Nat) (w : World) (hv : Vol w v a) (h : Dev w a g n L c wr t) (hn8 : 8 ≤ n) (hn : n ≤ 1000) (hT2 : (T : Int) < 9223372036854775807) :
    Calls Tryz.prog 73 #[.pointer (some ⟨v, 0, none⟩), .agg #[.int .u64 T]] w (LayR a g n (setBlock L (T % 2) (blk T)) t w) := by
  have hla := lt_heap h.d
  have hlg := lt_heap h.b
  have hlv := lt_heap hv
  have nva : v ≠ a := ne_tag hv h.d (by decide)
  have nvg : v ≠ g := ne_tag hv h.b (by decide)
  have nag := h.ne
  have k0 := (Kept.refl [] w).alloc (.cells #[.int .u64 T] 119)
  have n0 := heap_alloc_new w (.cells #[.int .u64 T] 119)
  go_enter Tryz.func73, Tryz.ntmps73
  go_wp2_with (first
    | (refine wpList_alloc_d rfl 4 rfl 94 rfl _ (zblk _) ?_; intro w1 hn1 hk1 hs1; have HS1 : Hid _ := hs1; clear hs1; have n1 := hk1.get n0 (by simp); have c1 : w1.cell? ⟨w.heap.size, 0, none⟩ = some (.int .u64 T) := cellAt n1 rfl)
    | (go_at_call 86; refine (sector_any T w1 hT2).mono ?_; rintro e w2 ⟨rfl, hk2⟩; have n2 := hk2.get n1 (by simp); have b2 := hk2.get hn1 (by simp))
    | (refine wpList_alloc_d rfl 5 rfl 150 rfl _ (zsec _) ?_; intro w3 hn3 hk3 hs3; clear hs3; have n3 := hk3.get n2 (by simp); have b3 := hk3.get b2 (by simp))
    | (refine wpList_store_k rfl 150 (.tmp 5) (.tmp 7) rfl w2.heap.size (u8s (sec T)).toArray rfl rfl 150 _ hn3 (by rw [ssec]; simp [length_u8s, length_sec]) (by simp [length_u8s, length_sec]) (all_of (one_u8s _)) ?_; intro w4 hn4 hk4))
  have hz1 : w1.heap.size = w.heap.size + 1 + 1 := by have := HS1.out; simpa using this
  have hz2 := hk2.size
  have hz3 := hk3.size
  have hz4 := hk4.size
  rw [World.size_alloc] at hn1 b2 b3
  have n4 := hk4.get n3 (by simp; omega)
  have b4 := hk4.get b3 (by simp; omega)
  have hk04 : Kept [] w w4 := by
    refine Kept.trans2 (Kept.trans (Kept.trans (Kept.trans k0 hk1) hk2) hk3) hk4 ?_
    intro x hx; simp at hx; subst hx; exact Or.inr (by omega)
  have HZ : Hid (w1.heap.size = w.heap.size + 1 + 1) := hz1
  clear hz1 HS1 hn1 b2 b3 n3 n2 n1 c1 k0 n0 hk1 hk2 hk3 hk4 hn3
  refine wp_region_held (S := fun _ => True) (by kernel_rfl) ?_
  refine wpAnyH_take (i := 0) (v := .slice (some ⟨w.heap.size + 1, 0, none⟩) 128 128) rfl (by kernel_rfl) (by kernel_rfl) (by kernel_rfl) (fun _ _ _ h => h) (Or.inl ⟨by rfl, fun W hW => by rfl⟩) trivial ?_
  simp only [Act.put, List.getElem_toArray, List.getElem_cons_zero, List.setIfInBounds_toArray, List.set_cons_succ, List.set_cons_zero]
  refine wpAnyH_take (i := 1) (v := .slice (some ⟨w2.heap.size, 0, none⟩) 32 32) rfl (by kernel_rfl) (by kernel_rfl) (by kernel_rfl) (fun _ _ _ h => h) (Or.inl ⟨by rfl, fun W hW => by rfl⟩) trivial ?_
  simp only [Act.put, List.getElem_toArray, List.getElem_cons_succ, List.getElem_cons_zero, List.setIfInBounds_toArray, List.set_cons_succ, List.set_cons_zero]
  have hcp := run_copy_row (P := Tryz.prog) w4.drew 109 109 3 5 (w.heap.size + 1) 0 128 128 ⟨w2.heap.size, 0, none⟩ 32 32 (u8s (List.replicate 128 0)).toArray 94 (u8s (sec T)) Tryz.underlying109 su8 b4 (by rw [length_u8s, length_sec]; rfl) (row_src (w := w4.drew) hn4) (by simp [length_u8s, length_sec]) (one_u8s _)
  refine held_one (i := 2) (by kernel_rfl) (wpOp_val rfl rfl _ _ (exec_copy (.tmp 8) (.tmp 9) 109 109 rfl (.slice (some ⟨w.heap.size + 1, 0, none⟩) 128 128) (.slice (some ⟨w2.heap.size, 0, none⟩) 32 32) rfl rfl _ hcp) ⟨trivial, ?_⟩)
  simp only [Act.put, List.getElem_toArray, List.getElem_cons_succ, List.getElem_cons_zero, List.setIfInBounds_toArray, List.set_cons_succ, List.set_cons_zero]
  refine wpAnyH_done (by kernel_rfl) ?_ _
  have k5 : Kept [w.heap.size + 1] w4 (w4.drew.setRow (w.heap.size + 1) ((u8s (List.replicate 128 0)).toArray.toList.take 0 ++ u8s (sec T) ++ (u8s (List.replicate 128 0)).toArray.toList.drop (0 + (u8s (sec T)).length)).toArray) := (Kept.refl _ _).drew.setRow (Or.inl (by simp)) _
  have b5 : (w4.drew.setRow (w.heap.size + 1) ((u8s (List.replicate 128 0)).toArray.toList.take 0 ++ u8s (sec T) ++ (u8s (List.replicate 128 0)).toArray.toList.drop (0 + (u8s (sec T)).length)).toArray).heap[w.heap.size + 1]? = some (.cells (u8s (blk T)).toArray 94 (0, 0)) := by
    rw [setRow_heap w4.drew (w.heap.size + 1) _ _ 94 _ b4, blk, ← u8s_splice]
    simp [splice]
  generalize w4.drew.setRow (w.heap.size + 1) ((u8s (List.replicate 128 0)).toArray.toList.take 0 ++ u8s (sec T) ++ (u8s (List.replicate 128 0)).toArray.toList.drop (0 + (u8s (sec T)).length)).toArray = w5 at *
  have n5 := k5.get n4 (by simp)
  have hk05 : Kept [] w w5 := hk04.trans2 k5 (by intro x hx; simp at hx; subst hx; exact Or.inr (by omega))
  clear hcp hn4 n4 b4 hk04 k5
  go_wp2
  have hS : (fun W : World => W.heap[w.heap.size]? = some (.cells #[.int .u64 T] 119 (0, 0)) ∧ W.heap[w.heap.size + 1]? = some (.cells (u8s (blk T)).toArray 94 (0, 0))) w5.drew := ⟨n5, b5⟩
  refine wp_region_held (S := fun W => W.heap[w.heap.size]? = some (.cells #[.int .u64 T] 119 (0, 0)) ∧ W.heap[w.heap.size + 1]? = some (.cells (u8s (blk T)).toArray 94 (0, 0))) (by kernel_rfl) ?_
  refine wpAnyH_take (i := 0) (v := .pointer (some ⟨v, 0, none⟩)) rfl (by kernel_rfl) (by kernel_rfl) (by kernel_rfl) (fun _ _ _ h => h) (Or.inl ⟨by rfl, fun W hW => by rfl⟩) hS ?_
  simp only [Act.put, List.getElem_toArray, List.getElem_cons_zero, List.setIfInBounds_toArray, List.set_cons_succ, List.set_cons_zero]
  refine wpAnyH_take (i := 1) (v := .agg #[.int .u64 T]) rfl (by kernel_rfl) (by kernel_rfl) (by kernel_rfl) (fun _ _ _ h => h) (Or.inl ⟨by rfl, fun W hW => exec_load 119 (.tmp 3) rfl ⟨w.heap.size, 0, none⟩ rfl _ (run_loadVar_row W _ _ _ _ _ _ hW.1 Tryz.underlying119 rfl shead)⟩) hS ?_
  simp only [Act.put, List.getElem_toArray, List.getElem_cons_succ, List.getElem_cons_zero, List.setIfInBounds_toArray, List.set_cons_succ, List.set_cons_zero]
  refine wpAnyH_take (i := 3) (v := .agg (u8s (blk T)).toArray) rfl (by kernel_rfl) (by kernel_rfl) (by kernel_rfl) (fun _ _ _ h => h) (Or.inl ⟨by rfl, fun W hW => exec_load 94 (.tmp 4) rfl ⟨w.heap.size + 1, 0, none⟩ rfl _ (run_loadVar_row W _ _ _ _ _ _ hW.2 Tryz.underlying94 rfl (by rw [sblk]; simp [length_u8s, length_blk]))⟩) hS ?_
  simp only [Act.put, List.getElem_toArray, List.getElem_cons_succ, List.getElem_cons_zero, List.setIfInBounds_toArray, List.set_cons_succ, List.set_cons_zero]
  refine held_one (i := 2) (by kernel_rfl) (wpOp_call rfl (by rfl) 88 #[.agg #[.int .u64 T]] (exec_call _ _ _ rfl _ (by simp [Act.eval]) (enters_hblock _ _)) _ (hblock_any T _ (by omega)) ?_)
  rintro e w6 ⟨rfl, k6⟩
  have n6 := k6.get (w := w5.drew) n5 (by simp)
  have b6 := k6.get (w := w5.drew) b5 (by simp)
  refine ⟨_, rfl, ⟨n6, b6⟩, ?_⟩
  simp only [Act.put, List.getElem_toArray, List.getElem_cons_succ, List.getElem_cons_zero, List.setIfInBounds_toArray, List.set_cons_succ, List.set_cons_zero]
  have hk06 : Kept [] w w6 := hk05.drew.trans k6
  have hV6 : Vol w6 v a := hk06.get hv (by simp)
  have hD6 := h.kept hk06 (by simp) (by simp)
  refine held_one (i := 4) (by kernel_rfl) (wpOp_call rfl (by rfl) 87 #[.pointer (some ⟨v, 0, none⟩), .int .i64 (T % 2 : Nat), .agg (u8s (blk T)).toArray] (exec_call _ _ _ rfl _ (by simp [Act.eval]) (enters_VLay _ _)) _ (VLay_any v a g n L (blk T) c wr t (T % 2) w6 hV6 hD6 (by omega) (length_blk T)) ?_)
  rintro e w7 ⟨rfl, hw7⟩
  have hk7 : Kept [a] w6 w7 := by obtain ⟨_, _, _, _, _, _, _, hk⟩ := hw7; exact hk
  refine ⟨_, rfl, ⟨hk7.get n6 (by simp; omega), hk7.get b6 (by simp; omega)⟩, ?_⟩
  simp only [Act.put, List.getElem_toArray, List.getElem_cons_succ, List.getElem_cons_zero, List.setIfInBounds_toArray, List.set_cons_succ, List.set_cons_zero]
  refine wpAnyH_done (by kernel_rfl) ?_ _
  have hV7 : Vol w7 v a := hk7.get hV6 (by simpa using nva)
  have hB7 := hk7.get hD6.b (by simpa using nag.symm)
  have hk07 : Kept [a] w w7 := (hk06.mono (by simp)).trans hk7
  clear hS n5 b5 n6 b6 k6 hk05
  go_wp2_with (go_at_call 89; refine (Settle_any v a g n (T % 2) L (blk T) t w6 w7 hV7 hw7 hB7 h.l (length_blk T) (by omega) hn).mono ?_; rintro e w8 ⟨rfl, hw8⟩)
  go_end0
  obtain ⟨c8, wr8, hd8, hk8⟩ := hw8
  exact ⟨rfl, c8, wr8, hd8, (hk07.mono (by simp)).trans hk8⟩

end Go.Proofs.YtnofaofjgjgkgaaGreatDoor
