import Derived.Test.YtnofaofjgjgkgaaGreatDoorApiB
namespace Go.Proofs.YtnofaofjgjgkgaaGreatDoor
open Go.RowKit

/-- the cells of an api.write -/
def wcells (i : Int) (B : List Value) : List Value := .int .i64 i :: B
theorem zc_write : Tryz.zeroCells111 = (wcells 0 (zl 128)).toArray := by kernel_rfl
theorem zc_write' (i : Int) : Tryz.zeroCells111.setIfInBounds 0 (.int .i64 i) = (wcells i (zl 128)).toArray := by rw [zc_write]; simp [wcells]
theorem one_wcells (i : Int) (l : List Value) (h : ∀ v ∈ l, v.oneCell' = true) : ∀ v ∈ wcells i l, v.oneCell' = true := by
  intro v hv; rcases List.mem_cons.1 hv with rfl | hv; rfl; exact h v hv
theorem all_of {l : List Value} (h : ∀ v ∈ l, v.oneCell' = true) : l.toArray.all (·.oneCell') = true := by
  rw [Array.all_eq_true_iff_forall_mem]; intro v hv; exact h v (by simpa using hv)
theorem swrite : (Tryz.prog.info? 111).map (·.size) = some 129 := by kernel_rfl
theorem zwrite (w : World) : (Instr.alloc 111 true (.tuple #[])).run Tryz.prog w = .ok (.pointer (some ⟨w.heap.size, 0, none⟩)) (w.alloc (.cells (wcells 0 (zl 128)).toArray 111)) := by kernel_rfl
theorem one_zl (n : Nat) : ∀ v ∈ zl n, v.oneCell' = true := by
  intro v hv; rw [List.eq_of_mem_replicate hv]; rfl

theorem iwrite : (Tryz.prog.info? 111).map (fun i => (i.zero, i.size, i.bytes)) = some (some (.agg (wcells 0 (zl 128)).toArray), 129, 136) := by kernel_rfl
theorem swrites : (Tryz.prog.info? 91).map (·.size) = some 1 := by kernel_rfl

theorem splice_wcells (i : Int) (B : List UInt8) (h : B.length = 128) : splice (wcells i (zl 128)) 1 (u8s B) = wcells i (u8s B) := by
  simp [splice, wcells, length_u8s, h, zl]
theorem row_src {w : World} {s : Nat} {l : List Value} {t : TypeId} {fr : Nat × Nat} (h : w.heap[s]? = some (.cells l.toArray t fr)) : ∀ j v, l[j]? = some v → w.cell? ((⟨s, 0, none⟩ : Addr).add j) = some v := by
  intro j v hv
  have : (⟨s, 0, none⟩ : Addr).add j = ⟨s, j, none⟩ := by unfold Addr.add; split <;> simp_all
  rw [this, cell_of_row _ _ _ _ _ _ h]; simpa using hv

/-- what a Write leaves: one write in the cache -/
def Wrote (a g n i : Nat) (B : List UInt8) (t : Int) (w w' : World) : Prop :=
  ∃ q cap c' wr', w'.heap[a]? = some (.cells (dcells (.slice (some ⟨g, 0, none⟩) n n) (.slice (some ⟨q, 0, none⟩) 1 cap) c' wr' t) 93 (0, 0)) ∧
    (∃ sp, w'.heap[q]? = some (.cells (wcells i (u8s B) ++ sp).toArray 111 (0, 0))) ∧ w.heap.size ≤ q ∧ Kept [a] w w'

set_option maxRecDepth 100000 in
set_option maxHeartbeats 400000 in
theorem Write_any (a g n s : Nat) (L B : List UInt8) (t' : TypeId) (c wr t : Int) (i : Nat) (w : World) (h : Dev w a g n L c wr t) (hi : i < n) (hB : B.length = 128)
    (hs : w.heap[s]? = some (.cells (u8s B).toArray t' (0, 0))) (hsa : s ≠ a) :
    Calls Tryz.prog 132 #[.pointer (some ⟨a, 0, none⟩), .int .i64 i, .slice (some ⟨s, 0, none⟩) 128 128] w fun e w' => e = .returned .nilIface ∧
      Wrote a g n i B t w w' := by
  go_enter Tryz.func132, Tryz.ntmps132
  go_wp2_with fail
  refine (fails_any a _ _ c wr t w h.d).mono ?_
  rintro e w1 ⟨rfl, hd1, hk1, -⟩
  go_wp2_with fail
  refine (none_any a _ n n _ _ wr t i w1 hd1 (by omega) (by omega)).mono ?_
  rintro e w2 ⟨rfl, rfl⟩
  have hb2 := hk1.get h.b (by simpa using h.ne.symm)
  have hs2 := hk1.get hs (by simpa using hsa)
  have hla := lt_heap hd1
  have hls := lt_heap hs2
  go_wp2_with (first
    | (refine wpList_alloc_k rfl 111 rfl _ (zwrite _) ?_; intro w3 hn3 hk3 _; have hd3 := hk3.get hd1 (by simp); have hs3 := hk3.get hs2 (by simp))
    | (refine wpList_store_k rfl 111 (.tmp 7) (.tmp 17) rfl w2.heap.size (wcells i (zl 128)).toArray rfl (by simp only [Act.eval]; exact congrArg Value.agg (zc_write' i)) 111 _ hn3 (by rw [swrite]; simp [wcells, zl]) (by simp [wcells, zl]) (all_of (one_wcells _ _ (one_zl _))) ?_; intro w4 hn4 hk4; have hd4 := hk4.get hd3 (by simp; omega); have hs4 := hk4.get hs3 (by simp; omega))
    | (refine upon_copy_k 109 109 5 Tryz.underlying109 su8 w2.heap.size 1 128 128 ⟨s, 0, none⟩ 128 128 (wcells i (zl 128)) 111 hn4 (u8s B) (by rw [length_u8s, hB]; exact (Nat.min_self 128).symm) (row_src hs4) (by simp [wcells, zl, length_u8s, hB]) (one_u8s _) ?_; intro w5 hg5 hk5; have hd5 := hk5.get hd4 (by simp; omega)))
  have hg5' : w5.heap[w2.heap.size]? = some (.cells (wcells i (u8s B)).toArray 111 (0, 0)) := by rw [splice_wcells _ _ (by rw [hB])] at hg5; exact hg5
  clear hg5
  refine wp_region_held (S := fun W => W.heap[w2.heap.size]? = some (.cells (wcells i (u8s B)).toArray 111 (0, 0))) (by kernel_rfl) ?_
  refine wpAnyH_take (i := 0) (v := _) rfl (by kernel_rfl) (by kernel_rfl) (by kernel_rfl) (fun _ _ _ h => h) (Or.inl ⟨by rfl, fun w _ => by rfl⟩) hg5' ?_
  simp only [Act.put, List.getElem_toArray, List.getElem_cons_zero, List.setIfInBounds_toArray, List.set_cons_succ, List.set_cons_zero]
  refine wpAnyH_take (i := 1) (v := _) rfl (by kernel_rfl) (by kernel_rfl) (by kernel_rfl) (fun _ _ _ h => h) (Or.inl ⟨by rfl, fun w _ => by rfl⟩) hg5' ?_
  simp only [Act.put, List.getElem_toArray, List.getElem_cons_succ, List.getElem_cons_zero, List.setIfInBounds_toArray, List.set_cons_succ, List.set_cons_zero]
  refine wpAnyH_take (i := 2) (v := .pointer (some ⟨a, 0, none⟩)) rfl (by kernel_rfl) (by kernel_rfl) (by kernel_rfl) (fun _ _ _ h => h) (Or.inl ⟨by rfl, fun w _ => by rfl⟩) hg5' ?_
  simp only [Act.put, List.getElem_toArray, List.getElem_cons_succ, List.getElem_cons_zero, List.setIfInBounds_toArray, List.set_cons_succ, List.set_cons_zero]
  refine wpAnyH_take (i := 3) (v := .pointer (some ⟨a, 1, none⟩)) rfl (by kernel_rfl) (by kernel_rfl) (by kernel_rfl) (fun _ _ _ h => h) (Or.inl ⟨by rfl, fun w _ => by rfl⟩) hg5' ?_
  simp only [Act.put, List.getElem_toArray, List.getElem_cons_succ, List.getElem_cons_zero, List.setIfInBounds_toArray, List.set_cons_succ, List.set_cons_zero]
  refine wpAnyH_take (i := 5) (v := .agg (wcells i (u8s B)).toArray) rfl (by kernel_rfl) (by kernel_rfl) (by kernel_rfl) (fun _ _ _ h => h) (Or.inl ⟨by rfl, fun W hW => exec_load 111 (.tmp 7) rfl _ rfl _ (run_loadVar_row W _ _ _ _ _ _ hW Tryz.underlying111 rfl (by rw [swrite]; simp [wcells, length_u8s, hB]))⟩) hg5' ?_
  simp only [Act.put, List.getElem_toArray, List.getElem_cons_succ, List.getElem_cons_zero, List.setIfInBounds_toArray, List.set_cons_succ, List.set_cons_zero]
  obtain ⟨ie, hie, hz1, hz2, hz3⟩ := info_parts iwrite
  have e1 : w5.drew.cell? ⟨a, 1, none⟩ = some (.slice none 0 0) := cellAt (w := w5.drew) hd5 rfl
  have hbs := run_build1 (P := Tryz.prog) w5.drew 91 111 (wcells i (u8s B)).toArray ie _ Tryz.underlying91 hie hz1 (by rw [hz2]; simp [wcells, length_u8s, hB]) (by simp [wcells]) (by simp [wcells, length_u8s, hB])
  have hkd : Kept [] w5.drew (w5.drew.alloc (.cells (wcells i (u8s B)).toArray 111)) := (Kept.refl _ _).alloc _
  have hS6 := hkd.get (w := w5.drew) hg5' (by simp)
  have hd6 := hkd.get (w := w5.drew) hd5 (by simp)
  have e6 : (w5.drew.alloc (.cells (wcells i (u8s B)).toArray 111)).cell? ⟨a, 1, none⟩ = some (.slice none 0 0) := cellAt hd6 rfl
  have hsz1 := hk1.size
  have hsz3 := hk3.size
  have hsz4 := hk4.size
  have hsz5 := hk5.size
  refine held_two (i := 4) (j := 6) (by kernel_rfl) ?_ ?_
  · refine wpOp_val rfl rfl (.slice none 0 0) _ (exec_load 91 (.tmp 25) rfl ⟨a, 1, none⟩ rfl _ (run_load1 Tryz.underlying91 rfl e1)) ⟨hg5', ?_⟩
    simp only [Act.put, List.getElem_toArray, List.getElem_cons_succ, List.getElem_cons_zero, List.setIfInBounds_toArray, List.set_cons_succ, List.set_cons_zero]
    refine held_one (i := 6) (by kernel_rfl) (wpOp_val rfl rfl (.slice (some ⟨w5.heap.size, 0, none⟩) 1 1) (w5.drew.alloc (.cells (wcells i (u8s B)).toArray 111)) (exec_buildSlice 91 1 (.tmp 27) rfl (.agg (wcells i (u8s B)).toArray) rfl _ hbs) ⟨hS6, ?_⟩)
    simp only [Act.put, List.getElem_toArray, List.getElem_cons_succ, List.getElem_cons_zero, List.setIfInBounds_toArray, List.set_cons_succ, List.set_cons_zero]
    obtain ⟨v', w8, hr8, hown8, hgr8, hnil8⟩ := run_append_own (P := Tryz.prog) (w5.drew.alloc (.cells (wcells i (u8s B)).toArray 111)) (w2.heap.size + 1) 91 91 111 ie _ 129 136 Tryz.underlying91 hie hz1 hz2 hz3 (by simp [Value.cells, wcells, zl]) (by omega) (.slice none 0 0) 0 [] (World.ownsRow_nil _ _ _ _) ⟨w5.heap.size, 0, none⟩ 1 1 (wcells i (u8s B)) (by simp [wcells, length_u8s, hB]) (row_src (heap_alloc_new _ _)) (one_wcells _ _ (one_u8s _)) (by unfold maxLen; omega) (by omega) (by simp; omega)
    have hk8 : Kept [] (w5.drew.alloc (.cells (wcells i (u8s B)).toArray 111)) w8 := ⟨hgr8.os, hgr8.tape, hgr8.output, hgr8.size, fun k hk _ => hgr8.block k hk (by simp [Value.ownBlock])⟩
    obtain ⟨hl8, hv8⟩ := hown8
    rcases hv8 with ⟨-, hbad⟩ | ⟨q, cap, cur, rfl, hq, hcur, hcap, -, hcs, htk⟩
    · omega
    simp only [List.nil_append, Nat.zero_add, Nat.one_mul] at htk hq
    have hS8 := hk8.get hS6 (by simp)
    have hd8 := hk8.get hd6 (by simp)
    refine held_one (i := 7) (by kernel_rfl) (wpOp_val rfl rfl (.slice (some ⟨q, 0, none⟩) 1 cap) w8 (exec_append (.tmp 26) (.tmp 28) 91 rfl (.slice none 0 0) (.slice (some ⟨w5.heap.size, 0, none⟩) 1 1) rfl rfl _ hr8) ⟨hS8, ?_⟩)
    simp only [Act.put, List.getElem_toArray, List.getElem_cons_succ, List.getElem_cons_zero, List.setIfInBounds_toArray, List.set_cons_succ, List.set_cons_zero]
    refine held_one (i := 8) (by kernel_rfl) (wpOp_val rfl rfl (.pointer (some ⟨a, 0, none⟩)) w8 rfl ⟨hS8, ?_⟩)
    simp only [Act.put, List.getElem_toArray, List.getElem_cons_succ, List.getElem_cons_zero, List.setIfInBounds_toArray, List.set_cons_succ, List.set_cons_zero]
    refine held_one (i := 9) (by kernel_rfl) (wpOp_val rfl rfl (.pointer (some ⟨a, 1, none⟩)) w8 rfl ⟨hS8, ?_⟩)
    simp only [Act.put, List.getElem_toArray, List.getElem_cons_succ, List.getElem_cons_zero, List.setIfInBounds_toArray, List.set_cons_succ, List.set_cons_zero]
    have hd9 := setCellAt (i := 1) (.slice (some ⟨q, 0, none⟩) 1 cap) hd8
    have hk9 : Kept [a] w8 (w8.setCell ⟨a, 1, none⟩ (.slice (some ⟨q, 0, none⟩) 1 cap)) := (Kept.refl _ _).setCell (Or.inl (by simp)) _
    refine held_one (i := 10) (by kernel_rfl) (wpOp_skip rfl rfl _ (exec_store 91 (.tmp 31) (.tmp 29) rfl ⟨a, 1, none⟩ rfl (.slice (some ⟨q, 0, none⟩) 1 cap) rfl (run_store1 swrites rfl hd8 (by simp [dcells]))) ⟨hk9.get hS8 (by simp; omega), ?_⟩)
    simp only [Act.put, List.getElem_toArray, List.getElem_cons_succ, List.getElem_cons_zero]
    refine wpAnyH_done (by kernel_rfl) ?_ _
    have hq9 := hk9.get hcur (by simp; omega)
    have hk19 : Kept [a] w (w8.setCell ⟨a, 1, none⟩ (.slice (some ⟨q, 0, none⟩) 1 cap)) := by
      refine Kept.trans ?_ hk9
      refine Kept.trans2 ?_ hk8 (by simp)
      refine Kept.alloc (Kept.drew ?_) _
      refine Kept.trans2 ?_ hk5 (by intro x hx; simp at hx; subst hx; exact Or.inr hk1.size)
      refine Kept.trans2 ?_ hk4 (by intro x hx; simp at hx; subst hx; exact Or.inr hk1.size)
      exact hk1.trans2 hk3 (by simp)
    generalize w8.setCell ⟨a, 1, none⟩ (.slice (some ⟨q, 0, none⟩) 1 cap) = w9 at *
    clear hk9 hd8 hS8 hr8 hcur hk8 hgr8
    have hd9' : w9.heap[a]? = some (.cells (dcells (.slice (some ⟨g, 0, none⟩) n n) (.slice (some ⟨q, 0, none⟩) 1 cap) (wrap64 (c + 1)) wr t) 93 (0, 0)) := hd9
    clear hd9
    have e3 : w9.cell? ⟨a, 3, none⟩ = some (.int .i64 wr) := cellAt hd9' rfl
    have f3 : w9.frozen? ⟨a, 3, none⟩ = false := frozen_of_row _ _ _ _ _ hd9'
    have hd10 := setCellAt (i := 3) (.int .i64 (wrap64 (wr + 1))) hd9'
    have hk10 : Kept [a] w9 (w9.setCell ⟨a, 3, none⟩ (.int .i64 (wrap64 (wr + 1)))) := (Kept.refl _ _).setCell (Or.inl (by simp)) _
    have H : Hid ((w9.setCell ⟨a, 3, none⟩ (.int .i64 (wrap64 (wr + 1)))).heap[a]? = some (.cells (dcells (.slice (some ⟨g, 0, none⟩) n n) (.slice (some ⟨q, 0, none⟩) 1 cap) (wrap64 (c + 1)) (wrap64 (wr + 1)) t) 93 (0, 0))) := hd10
    have H2 : Hid ((w9.setCell ⟨a, 3, none⟩ (.int .i64 (wrap64 (wr + 1)))).heap[q]? = some (.cells cur 111 (0, 0))) := hk10.get hq9 (by simp; omega)
    clear hd10
    have hwl : (wcells i (u8s B)).length = 129 := by simp [wcells, length_u8s, hB]
    have hcur' : cur = (wcells i (u8s B) ++ cur.toList.drop 129).toArray := by
      have := List.take_append_drop 129 cur.toList
      rw [htk] at this
      rw [this]
    have H3 : Hid (cur = (wcells i (u8s B) ++ cur.toList.drop 129).toArray) := hcur'
    clear hcur' htk hl8 hcs hq9 hd9' hwl
    go_wp2
    go_ret
    refine ⟨rfl, q, cap, _, _, H.out, ⟨cur.toList.drop 129, ?_⟩, by omega, hk19.trans hk10⟩
    rw [← H3.out]; exact H2.out
  · refine wpOp_val rfl rfl (.slice (some ⟨w5.heap.size, 0, none⟩) 1 1) (w5.drew.alloc (.cells (wcells i (u8s B)).toArray 111)) (exec_buildSlice 91 1 (.tmp 27) rfl (.agg (wcells i (u8s B)).toArray) rfl _ hbs) ⟨hS6, ?_⟩
    simp only [Act.put, List.getElem_toArray, List.getElem_cons_succ, List.getElem_cons_zero, List.setIfInBounds_toArray, List.set_cons_succ, List.set_cons_zero]
    refine held_one (i := 4) (by kernel_rfl) (wpOp_val rfl rfl (.slice none 0 0) _ (exec_load 91 (.tmp 25) rfl ⟨a, 1, none⟩ rfl _ (run_load1 Tryz.underlying91 rfl e6)) ⟨hS6, ?_⟩)
    simp only [Act.put, List.getElem_toArray, List.getElem_cons_succ, List.getElem_cons_zero, List.setIfInBounds_toArray, List.set_cons_succ, List.set_cons_zero]
    obtain ⟨v', w8, hr8, hown8, hgr8, hnil8⟩ := run_append_own (P := Tryz.prog) (w5.drew.alloc (.cells (wcells i (u8s B)).toArray 111)) (w2.heap.size + 1) 91 91 111 ie _ 129 136 Tryz.underlying91 hie hz1 hz2 hz3 (by simp [Value.cells, wcells, zl]) (by omega) (.slice none 0 0) 0 [] (World.ownsRow_nil _ _ _ _) ⟨w5.heap.size, 0, none⟩ 1 1 (wcells i (u8s B)) (by simp [wcells, length_u8s, hB]) (row_src (heap_alloc_new _ _)) (one_wcells _ _ (one_u8s _)) (by unfold maxLen; omega) (by omega) (by simp; omega)
    have hk8 : Kept [] (w5.drew.alloc (.cells (wcells i (u8s B)).toArray 111)) w8 := ⟨hgr8.os, hgr8.tape, hgr8.output, hgr8.size, fun k hk _ => hgr8.block k hk (by simp [Value.ownBlock])⟩
    obtain ⟨hl8, hv8⟩ := hown8
    rcases hv8 with ⟨-, hbad⟩ | ⟨q, cap, cur, rfl, hq, hcur, hcap, -, hcs, htk⟩
    · omega
    simp only [List.nil_append, Nat.zero_add, Nat.one_mul] at htk hq
    have hS8 := hk8.get hS6 (by simp)
    have hd8 := hk8.get hd6 (by simp)
    refine held_one (i := 7) (by kernel_rfl) (wpOp_val rfl rfl (.slice (some ⟨q, 0, none⟩) 1 cap) w8 (exec_append (.tmp 26) (.tmp 28) 91 rfl (.slice none 0 0) (.slice (some ⟨w5.heap.size, 0, none⟩) 1 1) rfl rfl _ hr8) ⟨hS8, ?_⟩)
    simp only [Act.put, List.getElem_toArray, List.getElem_cons_succ, List.getElem_cons_zero, List.setIfInBounds_toArray, List.set_cons_succ, List.set_cons_zero]
    refine held_one (i := 8) (by kernel_rfl) (wpOp_val rfl rfl (.pointer (some ⟨a, 0, none⟩)) w8 rfl ⟨hS8, ?_⟩)
    simp only [Act.put, List.getElem_toArray, List.getElem_cons_succ, List.getElem_cons_zero, List.setIfInBounds_toArray, List.set_cons_succ, List.set_cons_zero]
    refine held_one (i := 9) (by kernel_rfl) (wpOp_val rfl rfl (.pointer (some ⟨a, 1, none⟩)) w8 rfl ⟨hS8, ?_⟩)
    simp only [Act.put, List.getElem_toArray, List.getElem_cons_succ, List.getElem_cons_zero, List.setIfInBounds_toArray, List.set_cons_succ, List.set_cons_zero]
    have hd9 := setCellAt (i := 1) (.slice (some ⟨q, 0, none⟩) 1 cap) hd8
    have hk9 : Kept [a] w8 (w8.setCell ⟨a, 1, none⟩ (.slice (some ⟨q, 0, none⟩) 1 cap)) := (Kept.refl _ _).setCell (Or.inl (by simp)) _
    refine held_one (i := 10) (by kernel_rfl) (wpOp_skip rfl rfl _ (exec_store 91 (.tmp 31) (.tmp 29) rfl ⟨a, 1, none⟩ rfl (.slice (some ⟨q, 0, none⟩) 1 cap) rfl (run_store1 swrites rfl hd8 (by simp [dcells]))) ⟨hk9.get hS8 (by simp; omega), ?_⟩)
    simp only [Act.put, List.getElem_toArray, List.getElem_cons_succ, List.getElem_cons_zero]
    refine wpAnyH_done (by kernel_rfl) ?_ _
    have hq9 := hk9.get hcur (by simp; omega)
    have hk19 : Kept [a] w (w8.setCell ⟨a, 1, none⟩ (.slice (some ⟨q, 0, none⟩) 1 cap)) := by
      refine Kept.trans ?_ hk9
      refine Kept.trans2 ?_ hk8 (by simp)
      refine Kept.alloc (Kept.drew ?_) _
      refine Kept.trans2 ?_ hk5 (by intro x hx; simp at hx; subst hx; exact Or.inr hk1.size)
      refine Kept.trans2 ?_ hk4 (by intro x hx; simp at hx; subst hx; exact Or.inr hk1.size)
      exact hk1.trans2 hk3 (by simp)
    generalize w8.setCell ⟨a, 1, none⟩ (.slice (some ⟨q, 0, none⟩) 1 cap) = w9 at *
    clear hk9 hd8 hS8 hr8 hcur hk8 hgr8
    have hd9' : w9.heap[a]? = some (.cells (dcells (.slice (some ⟨g, 0, none⟩) n n) (.slice (some ⟨q, 0, none⟩) 1 cap) (wrap64 (c + 1)) wr t) 93 (0, 0)) := hd9
    clear hd9
    have e3 : w9.cell? ⟨a, 3, none⟩ = some (.int .i64 wr) := cellAt hd9' rfl
    have f3 : w9.frozen? ⟨a, 3, none⟩ = false := frozen_of_row _ _ _ _ _ hd9'
    have hd10 := setCellAt (i := 3) (.int .i64 (wrap64 (wr + 1))) hd9'
    have hk10 : Kept [a] w9 (w9.setCell ⟨a, 3, none⟩ (.int .i64 (wrap64 (wr + 1)))) := (Kept.refl _ _).setCell (Or.inl (by simp)) _
    have H : Hid ((w9.setCell ⟨a, 3, none⟩ (.int .i64 (wrap64 (wr + 1)))).heap[a]? = some (.cells (dcells (.slice (some ⟨g, 0, none⟩) n n) (.slice (some ⟨q, 0, none⟩) 1 cap) (wrap64 (c + 1)) (wrap64 (wr + 1)) t) 93 (0, 0))) := hd10
    have H2 : Hid ((w9.setCell ⟨a, 3, none⟩ (.int .i64 (wrap64 (wr + 1)))).heap[q]? = some (.cells cur 111 (0, 0))) := hk10.get hq9 (by simp; omega)
    clear hd10
    have hwl : (wcells i (u8s B)).length = 129 := by simp [wcells, length_u8s, hB]
    have hcur' : cur = (wcells i (u8s B) ++ cur.toList.drop 129).toArray := by
      have := List.take_append_drop 129 cur.toList
      rw [htk] at this
      rw [this]
    have H3 : Hid (cur = (wcells i (u8s B) ++ cur.toList.drop 129).toArray) := hcur'
    clear hcur' htk hl8 hcs hq9 hd9' hwl
    go_wp2
    go_ret
    refine ⟨rfl, q, cap, _, _, H.out, ⟨cur.toList.drop 129, ?_⟩, by omega, hk19.trans hk10⟩
    rw [← H3.out]; exact H2.out

end Go.Proofs.YtnofaofjgjgkgaaGreatDoor
