import Derived.Test.YtnofaofjgjgkgaaGreatDoorApiC
namespace Go.Proofs.YtnofaofjgjgkgaaGreatDoor
open Go.RowKit

def setBlock (L : List UInt8) (i : Nat) (B : List UInt8) : List UInt8 := splice L (i * 128) B
theorem u8s_splice (L : List UInt8) (o : Nat) (B : List UInt8) : splice (u8s L) o (u8s B) = u8s (splice L o B) := by
  simp [splice, u8s, List.map_take, List.map_drop]
theorem sblk : (Tryz.prog.info? 94).map (·.size) = some 128 := by kernel_rfl
theorem tl_get (i : Int) (B sp : List Value) : ∀ j v, B[j]? = some v → (wcells i B ++ sp)[1 + j]? = some v := by
  intro j v hv
  have hj : j < B.length := (List.getElem?_eq_some_iff.1 hv).1
  rw [List.getElem?_append_left (by simp [wcells]; omega), Nat.add_comm]
  simpa [wcells] using hv

/-- what a Flush leaves -/
def Flushed (a g n : Nat) (L : List UInt8) (t : Int) (w w' : World) : Prop := ∃ c' wr', Dev w' a g n L c' wr' t ∧ Kept [a, g] w w'

set_option maxRecDepth 100000 in
set_option maxHeartbeats 400000 in
theorem Flush_any (a g n q cap i : Nat) (L B : List UInt8) (sp : List Value) (c wr t : Int) (w : World)
    (hd : w.heap[a]? = some (.cells (dcells (.slice (some ⟨g, 0, none⟩) n n) (.slice (some ⟨q, 0, none⟩) 1 cap) c wr t) 93 (0, 0)))
    (hq : w.heap[q]? = some (.cells (wcells i (u8s B) ++ sp).toArray 111 (0, 0))) (hb : w.heap[g]? = some (.cells (u8s L).toArray 94 (0, 0))) (hL : L.length = n * 128) (hB : B.length = 128) (hi : i < n) (_hn : n ≤ 1000) :
    Calls Tryz.prog 130 #[.pointer (some ⟨a, 0, none⟩)] w fun e w' => e = .returned .nilIface ∧ Flushed a g n (setBlock L i B) t w w' := by
  have hwl : (wcells i (u8s B)).length = 129 := by simp [wcells, length_u8s, hB]
  have nag : a ≠ g := ne_tag hd hb (by decide)
  have naq : a ≠ q := ne_tag hd hq (by decide)
  have ngq : g ≠ q := ne_tag hb hq (by decide)
  go_enter Tryz.func130, Tryz.ntmps130
  go_wp2_with fail
  refine (fails_any a _ _ c wr t w hd).mono ?_
  rintro e w1 ⟨rfl, hd1, hk1, -⟩
  have hq1 := hk1.get hq (by simpa using naq.symm)
  have hb1 := hk1.get hb (by simpa using nag.symm)
  have c1 : w1.cell? ⟨a, 1, none⟩ = some (.slice (some ⟨q, 0, none⟩) 1 cap) := cellAt hd1 rfl
  go_wp2
  refine wp_loop_rounds 2 ?_
  rw [rounds_succ]
  have hla := lt_heap hd1
  have hlg := lt_heap hb1
  have hlq := lt_heap hq1
  have hld := run_loadVar_seg (P := Tryz.prog) w1 q 0 111 111 (wcells i (u8s B) ++ sp) (wcells i (u8s B)) (0, 0) _ hq1 Tryz.underlying111 rfl (by rw [swrite, hwl]) (by intro j v hv; rw [Nat.zero_add, List.getElem?_append_left (List.getElem?_eq_some_iff.1 hv).1]; exact hv)
  go_wp2_with (first
    | (refine wpList_load_seg rfl 111 (.tmp 15) rfl ⟨q, 0, none⟩ rfl (.agg (wcells i (u8s B)).toArray) hld ?_)
    | (refine wpList_alloc_k rfl 111 rfl _ (zwrite _) ?_; intro w3 hn3 hk3 _)
    | (refine wpList_store_k rfl 111 (.tmp 4) (.tmp 16) rfl w1.heap.size (wcells i (u8s B)).toArray rfl rfl 111 _ hn3 (by rw [swrite]; simp [wcells, length_u8s, hB]) (by simp [wcells, zl, length_u8s, hB]) (all_of (one_wcells _ _ (one_u8s _))) ?_; intro w4 hn4 hk4))
  have hd4 := hk4.get (hk3.get hd1 (by simp)) (by simp; omega)
  have hb4 := hk4.get (hk3.get hb1 (by simp)) (by simp; omega)
  have hz3 := hk3.size
  have hz4 := hk4.size
  have hS : (fun W : World => W.heap[a]? = some (.cells (dcells (.slice (some ⟨g, 0, none⟩) n n) (.slice (some ⟨q, 0, none⟩) 1 cap) (wrap64 (c + 1)) wr t) 93 (0, 0)) ∧ W.heap[w1.heap.size]? = some (.cells (wcells i (u8s B)).toArray 111 (0, 0))) w4.drew := ⟨hd4, hn4⟩
  refine wp_region_held (S := fun W => W.heap[a]? = some (.cells (dcells (.slice (some ⟨g, 0, none⟩) n n) (.slice (some ⟨q, 0, none⟩) 1 cap) (wrap64 (c + 1)) wr t) 93 (0, 0)) ∧ W.heap[w1.heap.size]? = some (.cells (wcells i (u8s B)).toArray 111 (0, 0))) (by kernel_rfl) ?_
  refine wpAnyH_take (i := 0) (v := .pointer (some ⟨a, 0, none⟩)) rfl (by kernel_rfl) (by kernel_rfl) (by kernel_rfl) (fun _ _ _ h => h) (Or.inl ⟨by rfl, fun W hW => by rfl⟩) hS ?_
  simp only [Act.put, List.getElem_toArray, List.getElem_cons_zero, List.setIfInBounds_toArray, List.set_cons_succ, List.set_cons_zero]
  refine wpAnyH_take (i := 1) (v := .pointer (some ⟨a, 0, none⟩)) rfl (by kernel_rfl) (by kernel_rfl) (by kernel_rfl) (fun _ _ _ h => h) (Or.inl ⟨by rfl, fun W hW => by rfl⟩) hS ?_
  simp only [Act.put, List.getElem_toArray, List.getElem_cons_succ, List.getElem_cons_zero, List.setIfInBounds_toArray, List.set_cons_succ, List.set_cons_zero]
  refine wpAnyH_take (i := 2) (v := .pointer (some ⟨a, 0, none⟩)) rfl (by kernel_rfl) (by kernel_rfl) (by kernel_rfl) (fun _ _ _ h => h) (Or.inl ⟨by rfl, fun W hW => by rfl⟩) hS ?_
  simp only [Act.put, List.getElem_toArray, List.getElem_cons_succ, List.getElem_cons_zero, List.setIfInBounds_toArray, List.set_cons_succ, List.set_cons_zero]
  refine wpAnyH_take (i := 4) (v := .pointer (some ⟨w1.heap.size, 0, none⟩)) rfl (by kernel_rfl) (by kernel_rfl) (by kernel_rfl) (fun _ _ _ h => h) (Or.inl ⟨by rfl, fun W hW => by rfl⟩) hS ?_
  simp only [Act.put, List.getElem_toArray, List.getElem_cons_succ, List.getElem_cons_zero, List.setIfInBounds_toArray, List.set_cons_succ, List.set_cons_zero]
  refine wpAnyH_take (i := 6) (v := .pointer (some ⟨w1.heap.size, 1, none⟩)) rfl (by kernel_rfl) (by kernel_rfl) (by kernel_rfl) (fun _ _ _ h => h) (Or.inl ⟨by rfl, fun W hW => by rfl⟩) hS ?_
  simp only [Act.put, List.getElem_toArray, List.getElem_cons_succ, List.getElem_cons_zero, List.setIfInBounds_toArray, List.set_cons_succ, List.set_cons_zero]
  refine wpAnyH_take (i := 3) (v := .slice (some ⟨g, 0, none⟩) n n) rfl (by kernel_rfl) (by kernel_rfl) (by kernel_rfl) (fun _ _ _ h => h) (Or.inl ⟨by rfl, fun W hW => exec_load 90 (.tmp 19) rfl ⟨a, 0, none⟩ rfl _ (run_load1 Tryz.underlying90 rfl (cellAt hW.1 rfl))⟩) hS ?_
  simp only [Act.put, List.getElem_toArray, List.getElem_cons_succ, List.getElem_cons_zero, List.setIfInBounds_toArray, List.set_cons_succ, List.set_cons_zero]
  refine wpAnyH_take (i := 5) (v := .int .i64 i) rfl (by kernel_rfl) (by kernel_rfl) (by kernel_rfl) (fun _ _ _ h => h) (Or.inl ⟨by rfl, fun W hW => exec_load 3 (.tmp 21) rfl ⟨w1.heap.size, 0, none⟩ rfl _ (run_load1 Tryz.underlying3 rfl (cellAt hW.2 rfl))⟩) hS ?_
  simp only [Act.put, List.getElem_toArray, List.getElem_cons_succ, List.getElem_cons_zero, List.setIfInBounds_toArray, List.set_cons_succ, List.set_cons_zero]
  refine wpAnyH_take (i := 7) (v := .agg (u8s B).toArray) rfl (by kernel_rfl) (by kernel_rfl) (by kernel_rfl) (fun _ _ _ h => h) (Or.inl ⟨by rfl, fun W hW => exec_load 94 (.tmp 23) rfl ⟨w1.heap.size, 1, none⟩ rfl _ (run_loadVar_seg W _ 1 _ _ (wcells i (u8s B)) (u8s B) _ _ hW.2 Tryz.underlying94 rfl (by rw [sblk, length_u8s, hB]) (by intro j v hv; have := tl_get i (u8s B) [] j v hv; rwa [List.append_nil] at this))⟩) hS ?_
  simp only [Act.put, List.getElem_toArray, List.getElem_cons_succ, List.getElem_cons_zero, List.setIfInBounds_toArray, List.set_cons_succ, List.set_cons_zero]
  refine wpAnyH_take (i := 8) (v := .pointer (some ⟨g, i * 128, none⟩)) rfl (by kernel_rfl) (by kernel_rfl) (by kernel_rfl) (fun _ _ _ h => h) (Or.inl ⟨by rfl, fun W _ => exec_index 90 (.tmp 20) (.tmp 22) rfl g 0 n n i 128 rfl rfl 94 Tryz.underlying90 sblk hi _ (by simp)⟩) hS ?_
  simp only [Act.put, List.getElem_toArray, List.getElem_cons_succ, List.getElem_cons_zero, List.setIfInBounds_toArray, List.set_cons_succ, List.set_cons_zero]
  have hfit : i * 128 + (u8s B).length ≤ (u8s L).length := by rw [length_u8s, length_u8s, hB, hL]; omega
  have hst := run_storeVar_seg (P := Tryz.prog) w4.drew g (i * 128) 94 94 (u8s L) (u8s B) hb4 (by rw [sblk, length_u8s, hB]) hfit (one_u8s _)
  have hk5 : Kept [g] w4 (w4.drew.setRow g (splice (u8s L) (i * 128) (u8s B)).toArray) := (Kept.refl _ _).drew.setRow (Or.inl (by simp)) _
  have hb5 : (w4.drew.setRow g (splice (u8s L) (i * 128) (u8s B)).toArray).heap[g]? = some (.cells (u8s (setBlock L i B)).toArray 94 (0, 0)) := by
    rw [setRow_heap w4.drew g _ _ 94 _ hb4, u8s_splice]; rfl
  have hd5 := hk5.get hd4 (by simpa using nag)
  have hn5 := hk5.get hn4 (by simp; omega)
  refine held_one (i := 9) (by kernel_rfl) (wpOp_skip rfl rfl _ (exec_store 94 (.tmp 25) (.tmp 24) rfl ⟨g, i * 128, none⟩ rfl (.agg (u8s B).toArray) rfl hst) ⟨⟨hd5, hn5⟩, ?_⟩)
  simp only [Act.put, List.getElem_toArray, List.getElem_cons_succ, List.getElem_cons_zero]
  refine wpAnyH_done (by kernel_rfl) ?_ _
  generalize w4.drew.setRow g (splice (u8s L) (i * 128) (u8s B)).toArray = w5 at *
  have hk15 : Kept [a, g] w w5 := by
    refine Kept.trans2 (Kept.trans2 (Kept.trans2 (hk1.mono (by simp)) hk3 (by simp)) hk4 ?_) hk5 (by simp)
    intro x hx; simp at hx; subst hx; exact Or.inr hk1.size
  clear hst hfit hS hld hn5 hn4 hb4 hd4 hk5 hk4 hk3 hn3 hq1 hb1 c1 hd1
  go_wp2
  rw [rounds_succ]
  have f1 : w5.frozen? ⟨a, 1, none⟩ = false := frozen_of_row _ _ _ _ _ hd5
  have e1 : w5.cell? ⟨a, 1, none⟩ = some (.slice (some ⟨q, 0, none⟩) 1 cap) := cellAt hd5 rfl
  have hd6 := setCellAt (i := 1) (.slice none 0 0) hd5
  have hk6 : Kept [a] w5 (w5.setCell ⟨a, 1, none⟩ (.slice none 0 0)) := (Kept.refl _ _).setCell (Or.inl (by simp)) _
  have H : Hid ((w5.setCell ⟨a, 1, none⟩ (.slice none 0 0)).heap[a]? = some (.cells (dcells (.slice (some ⟨g, 0, none⟩) n n) (.slice none 0 0) (wrap64 (c + 1)) wr t) 93 (0, 0))) := hd6
  have H2 := hk6.get hb5 (by simpa using nag.symm)
  have H3 : Hid ((w5.setCell ⟨a, 1, none⟩ (.slice none 0 0)).heap[g]? = some (.cells (u8s (setBlock L i B)).toArray 94 (0, 0))) := H2
  clear hd6 H2 hd5 hb5
  go_wp2
  go_ret
  refine ⟨rfl, _, _, ⟨H.out, H3.out, ?_⟩, hk15.trans2 hk6 (by simp)⟩
  rw [setBlock, length_splice _ _ _ (by rw [hB, hL]; omega), hL]

end Go.Proofs.YtnofaofjgjgkgaaGreatDoor
