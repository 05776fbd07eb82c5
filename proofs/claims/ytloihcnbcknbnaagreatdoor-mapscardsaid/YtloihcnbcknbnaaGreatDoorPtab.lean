import Derived.Test.YtloihcnbcknbnaaGreatDoorPtaa
import Derived.Laws.IdiomStrings
namespace Go.Proofs.YtloihcnbcknbnaaGreatDoor
open Go.RowKit

/-- the cells of an api.Disk whose power is on and that tells no errors -/
def dcells (bs cache : Value) (c wr t : Int) : Array Value :=
  #[bs, cache, .int .i64 c, .int .i64 wr, .int .i64 t, .int .i64 (-1), .int .i64 0, .int .i64 0]

set_option maxHeartbeats 400000 in
theorem fails_any (a : Nat) (bs cache : Value) (c wr t : Int) (w : World)
    (h : w.heap[a]? = some (.cells (dcells bs cache c wr t) 83 (0, 0))) :
    Calls Tryz.prog 188 #[.pointer (some ⟨a, 0, none⟩)] w fun e w' => e = .returned (.bool false) ∧
      w'.heap[a]? = some (.cells (dcells bs cache (wrap64 (c + 1)) wr t) 83 (0, 0)) ∧ Kept [a] w w' ∧ w'.heap.size = w.heap.size := by
  have c2 : w.cell? ⟨a, 2, none⟩ = some (.int .i64 c) := cellAt h rfl
  have c5 : w.cell? ⟨a, 5, none⟩ = some (.int .i64 (-1)) := cellAt h rfl
  have c6 : w.cell? ⟨a, 6, none⟩ = some (.int .i64 0) := cellAt h rfl
  have c7 : w.cell? ⟨a, 7, none⟩ = some (.int .i64 0) := cellAt h rfl
  have f2 : w.frozen? ⟨a, 2, none⟩ = false := frozen_of_row _ _ _ _ _ h
  have hh := setCellAt (i := 2) (.int .i64 (wrap64 (c + 1))) h
  have H : Hid ((w.setCell ⟨a, 2, none⟩ (.int .i64 (wrap64 (c + 1)))).heap[a]? = some (.cells (dcells bs cache (wrap64 (c + 1)) wr t) 83 (0, 0))) := hh
  clear h hh
  by_cases hc : c < 0
  · go_enter Tryz.func188, Tryz.ntmps188
    go_wp2
    go_ret
    exact ⟨rfl, H.out, (Kept.refl _ _).setCell (Or.inl (by simp)) _, by simp⟩
  · have hd : decide (c < 0) = false := by simpa using hc
    go_enter Tryz.func188, Tryz.ntmps188
    go_wp2
    go_ret
    exact ⟨by simp, H.out, (Kept.refl _ _).setCell (Or.inl (by simp)) _, by simp⟩

set_option maxHeartbeats 400000 in
theorem none_any (a : Nat) (ao : Option Addr) (n cap : Nat) (cache : Value) (c wr t i : Int) (w : World)
    (h : w.heap[a]? = some (.cells (dcells (.slice ao n cap) cache c wr t) 83 (0, 0))) (h0 : 0 ≤ i) (h1 : i < n) :
    Calls Tryz.prog 189 #[.pointer (some ⟨a, 0, none⟩), .int .i64 i] w fun e w' => e = .returned (.bool false) ∧ w' = w := by
  have c0 : w.cell? ⟨a, 0, none⟩ = some (.slice ao n cap) := cellAt h rfl
  have g0 : ¬ i < 0 := by omega
  clear h
  go_enter Tryz.func189, Tryz.ntmps189
  go_wp2
  all_goals
    go_ret
    exact ⟨rfl, rfl⟩

set_option maxHeartbeats 400000 in
theorem Blocks_any (a : Nat) (ao : Option Addr) (n cap : Nat) (cache : Value) (c wr t : Int) (w : World)
    (h : w.heap[a]? = some (.cells (dcells (.slice ao n cap) cache c wr t) 83 (0, 0))) :
    Calls Tryz.prog 184 #[.pointer (some ⟨a, 0, none⟩)] w fun e w' => e = .returned (.int .i64 n) ∧ w' = w := by
  have c0 : w.cell? ⟨a, 0, none⟩ = some (.slice ao n cap) := cellAt h rfl
  clear h
  go_enter Tryz.func184, Tryz.ntmps184
  go_wp2
  go_ret
  exact ⟨rfl, rfl⟩

set_option maxHeartbeats 400000 in
theorem DTold_any (a : Nat) (bs cache : Value) (c wr t : Int) (w : World)
    (h : w.heap[a]? = some (.cells (dcells bs cache c wr t) 83 (0, 0))) :
    Calls Tryz.prog 105 #[.pointer (some ⟨a, 0, none⟩)] w fun e w' => e = .returned (.int .i64 t) ∧ w' = w := by
  have c0 : w.cell? ⟨a, 4, none⟩ = some (.int .i64 t) := cellAt h rfl
  clear h
  go_enter Tryz.func105, Tryz.ntmps105
  go_wp2
  go_ret
  exact ⟨rfl, rfl⟩

set_option maxHeartbeats 400000 in
theorem DWrites_any (a : Nat) (bs cache : Value) (c wr t : Int) (w : World)
    (h : w.heap[a]? = some (.cells (dcells bs cache c wr t) 83 (0, 0))) :
    Calls Tryz.prog 26 #[.pointer (some ⟨a, 0, none⟩)] w fun e w' => e = .returned (.int .i64 wr) ∧ w' = w := by
  have c0 : w.cell? ⟨a, 3, none⟩ = some (.int .i64 wr) := cellAt h rfl
  clear h
  go_enter Tryz.func26, Tryz.ntmps26
  go_wp2
  go_ret
  exact ⟨rfl, rfl⟩

set_option maxHeartbeats 400000 in
theorem DPending_any (a : Nat) (bs : Value) (ao : Option Addr) (n cap : Nat) (c wr t : Int) (w : World)
    (h : w.heap[a]? = some (.cells (dcells bs (.slice ao n cap) c wr t) 83 (0, 0))) :
    Calls Tryz.prog 28 #[.pointer (some ⟨a, 0, none⟩)] w fun e w' => e = .returned (.int .i64 n) ∧ w' = w := by
  have c0 : w.cell? ⟨a, 1, none⟩ = some (.slice ao n cap) := cellAt h rfl
  clear h
  go_enter Tryz.func28, Tryz.ntmps28
  go_wp2
  go_ret
  exact ⟨rfl, rfl⟩

end Go.Proofs.YtloihcnbcknbnaaGreatDoor

namespace Go.Proofs.YtloihcnbcknbnaaGreatDoor
open Go.RowKit

def zl (n : Nat) : List Value := List.replicate n (.int .u8 0)
theorem length_zl (n : Nat) : (zl n).length = n := by simp [zl]
theorem mk128 (w : World) : (Instr.makeSlice 58 (.int .i64 128) (.int .i64 128)).run Tryz.prog w = .ok (.slice (some ⟨w.heap.size, 0, none⟩) 128 128) (w.alloc (.cells (zl 128).toArray 5)) := by kernel_rfl
theorem su8 : (Tryz.prog.info? 5).map (·.size) = some 1 := by kernel_rfl

structure Dev (w : World) (a g n : Nat) (L : List UInt8) (c wr t : Int) : Prop where
  d : w.heap[a]? = some (.cells (dcells (.slice (some ⟨g, 0, none⟩) n n) (.slice none 0 0) c wr t) 83 (0, 0))
  b : w.heap[g]? = some (.cells (u8s L).toArray 84 (0, 0))
  l : L.length = n * 128

theorem Dev.ne {w : World} {a g n : Nat} {L : List UInt8} {c wr t : Int} (h : Dev w a g n L c wr t) : a ≠ g := ne_tag h.d h.b (by decide)
theorem Dev.kept {S : List Nat} {w w' : World} {a g n : Nat} {L : List UInt8} {c wr t : Int} (h : Dev w a g n L c wr t) (k : Kept S w w') (ha : a ∉ S) (hg : g ∉ S) : Dev w' a g n L c wr t :=
  ⟨k.get h.d ha, k.get h.b hg, h.l⟩

def blockOf (L : List UInt8) (i : Nat) : List UInt8 := (L.drop (i * 128)).take 128
theorem length_blockOf (L : List UInt8) (n i : Nat) (h : L.length = n * 128) (hi : i < n) : (blockOf L i).length = 128 := by
  simp [blockOf, h]; omega

theorem block_src {w : World} {g : Nat} {L : List UInt8} (i : Nat) (hb : w.heap[g]? = some (.cells (u8s L).toArray 84 (0, 0))) :
    ∀ j v, (u8s (blockOf L i))[j]? = some v → w.cell? ((⟨g, i * 128, none⟩ : Addr).add j) = some v := by
  intro j v hv
  have : (⟨g, i * 128, none⟩ : Addr).add j = ⟨g, i * 128 + j, none⟩ := by simp [Addr.add]
  rw [this, cell_of_row _ _ _ _ _ _ hb]
  rw [u8s_get] at hv
  simp only [blockOf, List.getElem?_take] at hv
  by_cases hj : j < 128
  · simp only [hj, if_true, List.getElem?_drop] at hv
    simp [u8s_get, hv]
  · simp [hj] at hv

set_option maxRecDepth 100000 in
set_option maxHeartbeats 400000 in
theorem Read_any (a g n : Nat) (L : List UInt8) (c wr t : Int) (i : Nat) (w : World) (h : Dev w a g n L c wr t) (hi : i < n) (_hn : n ≤ 1000) :
    Calls Tryz.prog 186 #[.pointer (some ⟨a, 0, none⟩), .int .i64 i] w fun e w' => ∃ r, e = .returned (.tuple #[.slice (some ⟨r, 0, none⟩) 128 128, .nilIface]) ∧
      w'.heap[r]? = some (.cells (u8s (blockOf L i)).toArray 5 (0, 0)) ∧ w.heap.size ≤ r ∧ (∃ c', Dev w' a g n L c' wr t) ∧ Kept [a] w w' := by
  have mk := mk128
  go_enter Tryz.func186, Tryz.ntmps186
  go_wp2_with fail
  refine (fails_any a _ _ c wr t w h.d).mono ?_
  rintro e w1 ⟨rfl, hd1, hk1, -⟩
  go_wp2_with fail
  refine (none_any a _ n n _ _ wr t i w1 hd1 (by omega) (by omega)).mono ?_
  rintro e w2 ⟨rfl, rfl⟩
  have c0 : w2.cell? ⟨a, 0, none⟩ = some (.slice (some ⟨g, 0, none⟩) n n) := cellAt hd1 rfl
  have hb2 := hk1.get h.b (by simpa using h.ne.symm)
  have hlb := length_blockOf L n i h.l hi
  have hsz := lt_heap hd1
  have hsg := lt_heap hb2
  go_wp2_with (first
    | (at_make; refine wpList_make_k rfl _ _ _ rfl _ _ rfl rfl _ _ (mk128 w2) ?_; intro w3 hn3 hk3 _; have hd3 := hk3.get hd1 (by simp);  have hb3 := hk3.get hb2 (by simp); have c03 : w3.cell? ⟨a, 0, none⟩ = some (.slice (some ⟨g, 0, none⟩) n n) := cellAt hd3 rfl)
    | (refine upon_copy_k 58 58 5 Tryz.underlying58 su8 w2.heap.size 0 128 128 ⟨g, i * 128, none⟩ 128 128 (zl 128) 5 hn3 (u8s (blockOf L i)) (by rw [length_u8s, hlb]; exact (Nat.min_self 128).symm) (block_src i hb3) (by rw [length_u8s, length_zl, hlb]; omega) (one_u8s _) ?_; intro w4 hg4 hk4; have hd4 := hk4.get hd3 (by simp; omega); have c04 : w4.cell? ⟨a, 1, none⟩ = some (.slice none 0 0) := cellAt hd4 rfl))
  refine wp_loop_rounds 1 ?_
  rw [rounds_succ]
  go_wp2
  go_ret2
  refine ⟨w2.heap.size, rfl, ?_, hk1.size, ⟨_, hd4, hk4.get hb3 (by simp; omega), h.l⟩, (hk1.trans2 hk3 (by simp)).trans2 hk4 ?_⟩
  · rw [splice_whole _ _ (by rw [length_zl, length_u8s, hlb])] at hg4; exact hg4
  · intro x hx; simp at hx; subst hx; exact Or.inr hk1.size

end Go.Proofs.YtloihcnbcknbnaaGreatDoor

namespace Go.Proofs.YtloihcnbcknbnaaGreatDoor
open Go.RowKit

/-- the cells of an api.write -/
def wcells (i : Int) (B : List Value) : List Value := .int .i64 i :: B
theorem zc_write : Tryz.zeroCells86 = (wcells 0 (zl 128)).toArray := by kernel_rfl
theorem zc_write' (i : Int) : Tryz.zeroCells86.setIfInBounds 0 (.int .i64 i) = (wcells i (zl 128)).toArray := by rw [zc_write]; simp [wcells]
theorem one_wcells (i : Int) (l : List Value) (h : ∀ v ∈ l, v.oneCell' = true) : ∀ v ∈ wcells i l, v.oneCell' = true := by
  intro v hv; rcases List.mem_cons.1 hv with rfl | hv; rfl; exact h v hv
theorem all_of {l : List Value} (h : ∀ v ∈ l, v.oneCell' = true) : l.toArray.all (·.oneCell') = true := by
  rw [Array.all_eq_true_iff_forall_mem]; intro v hv; exact h v (by simpa using hv)
theorem swrite : (Tryz.prog.info? 86).map (·.size) = some 129 := by kernel_rfl
theorem zwrite (w : World) : (Instr.alloc 86 true (.tuple #[])).run Tryz.prog w = .ok (.pointer (some ⟨w.heap.size, 0, none⟩)) (w.alloc (.cells (wcells 0 (zl 128)).toArray 86)) := by kernel_rfl
theorem one_zl (n : Nat) : ∀ v ∈ zl n, v.oneCell' = true := by
  intro v hv; rw [List.eq_of_mem_replicate hv]; rfl

theorem iwrite : (Tryz.prog.info? 86).map (fun i => (i.zero, i.size, i.bytes)) = some (some (.agg (wcells 0 (zl 128)).toArray), 129, 136) := by kernel_rfl
theorem swrites : (Tryz.prog.info? 81).map (·.size) = some 1 := by kernel_rfl

theorem splice_wcells (i : Int) (B : List UInt8) (h : B.length = 128) : splice (wcells i (zl 128)) 1 (u8s B) = wcells i (u8s B) := by
  simp [splice, wcells, length_u8s, h, zl]
theorem row_src {w : World} {s : Nat} {l : List Value} {t : TypeId} {fr : Nat × Nat} (h : w.heap[s]? = some (.cells l.toArray t fr)) : ∀ j v, l[j]? = some v → w.cell? ((⟨s, 0, none⟩ : Addr).add j) = some v := by
  intro j v hv
  have : (⟨s, 0, none⟩ : Addr).add j = ⟨s, j, none⟩ := by unfold Addr.add; split <;> simp_all
  rw [this, cell_of_row _ _ _ _ _ _ h]; simpa using hv

/-- what a Write leaves: one write in the cache -/
def Wrote (a g n i : Nat) (B : List UInt8) (t : Int) (w w' : World) : Prop :=
  ∃ q cap c' wr', w'.heap[a]? = some (.cells (dcells (.slice (some ⟨g, 0, none⟩) n n) (.slice (some ⟨q, 0, none⟩) 1 cap) c' wr' t) 83 (0, 0)) ∧
    (∃ sp, w'.heap[q]? = some (.cells (wcells i (u8s B) ++ sp).toArray 86 (0, 0))) ∧ w.heap.size ≤ q ∧ Kept [a] w w'

set_option maxRecDepth 100000 in
set_option maxHeartbeats 400000 in
theorem Write_any (a g n s : Nat) (L B : List UInt8) (t' : TypeId) (c wr t : Int) (i : Nat) (w : World) (h : Dev w a g n L c wr t) (hi : i < n) (hB : B.length = 128)
    (hs : w.heap[s]? = some (.cells (u8s B).toArray t' (0, 0))) (hsa : s ≠ a) :
    Calls Tryz.prog 187 #[.pointer (some ⟨a, 0, none⟩), .int .i64 i, .slice (some ⟨s, 0, none⟩) 128 128] w fun e w' => e = .returned .nilIface ∧
      Wrote a g n i B t w w' := by
  go_enter Tryz.func187, Tryz.ntmps187
  go_wp2_with fail
  refine (fails_any a _ _ c wr t w h.d).mono ?_
  rintro e w1 ⟨rfl, hd1, hk1, -⟩
  go_wp2_with fail
  refine (none_any a _ n n _ _ wr t i w1 hd1 (by omega) (by omega)).mono ?_
  rintro e w2 ⟨rfl, rfl⟩
  have hb2 := hk1.get h.b (by simpa using h.ne.symm)
  have hs2 := hk1.get hs (by simpa using hsa)
  have hla := lt_heap hd1
  have hls := lt_heap hs2
  go_wp2_with (first
    | (refine wpList_alloc_k rfl 86 rfl _ (zwrite _) ?_; intro w3 hn3 hk3 _; have hd3 := hk3.get hd1 (by simp); have hs3 := hk3.get hs2 (by simp))
    | (refine wpList_store_k rfl 86 (.tmp 7) (.tmp 17) rfl w2.heap.size (wcells i (zl 128)).toArray rfl (by simp only [Act.eval]; exact congrArg Value.agg (zc_write' i)) 86 _ hn3 (by rw [swrite]; simp [wcells, zl]) (by simp [wcells, zl]) (all_of (one_wcells _ _ (one_zl _))) ?_; intro w4 hn4 hk4; have hd4 := hk4.get hd3 (by simp; omega); have hs4 := hk4.get hs3 (by simp; omega))
    | (refine upon_copy_k 58 58 5 Tryz.underlying58 su8 w2.heap.size 1 128 128 ⟨s, 0, none⟩ 128 128 (wcells i (zl 128)) 86 hn4 (u8s B) (by rw [length_u8s, hB]; exact (Nat.min_self 128).symm) (row_src hs4) (by simp [wcells, zl, length_u8s, hB]) (one_u8s _) ?_; intro w5 hg5 hk5; have hd5 := hk5.get hd4 (by simp; omega)))
  have hg5' : w5.heap[w2.heap.size]? = some (.cells (wcells i (u8s B)).toArray 86 (0, 0)) := by rw [splice_wcells _ _ (by rw [hB])] at hg5; exact hg5
  clear hg5
  refine wp_region_held (S := fun W => W.heap[w2.heap.size]? = some (.cells (wcells i (u8s B)).toArray 86 (0, 0))) (by kernel_rfl) ?_
  refine wpAnyH_take (i := 0) (v := _) rfl (by kernel_rfl) (by kernel_rfl) (by kernel_rfl) (fun _ _ _ h => h) (Or.inl ⟨by rfl, fun w _ => by rfl⟩) hg5' ?_
  simp only [Act.put, List.getElem_toArray, List.getElem_cons_zero, List.setIfInBounds_toArray, List.set_cons_succ, List.set_cons_zero]
  refine wpAnyH_take (i := 1) (v := _) rfl (by kernel_rfl) (by kernel_rfl) (by kernel_rfl) (fun _ _ _ h => h) (Or.inl ⟨by rfl, fun w _ => by rfl⟩) hg5' ?_
  simp only [Act.put, List.getElem_toArray, List.getElem_cons_succ, List.getElem_cons_zero, List.setIfInBounds_toArray, List.set_cons_succ, List.set_cons_zero]
  refine wpAnyH_take (i := 2) (v := .pointer (some ⟨a, 0, none⟩)) rfl (by kernel_rfl) (by kernel_rfl) (by kernel_rfl) (fun _ _ _ h => h) (Or.inl ⟨by rfl, fun w _ => by rfl⟩) hg5' ?_
  simp only [Act.put, List.getElem_toArray, List.getElem_cons_succ, List.getElem_cons_zero, List.setIfInBounds_toArray, List.set_cons_succ, List.set_cons_zero]
  refine wpAnyH_take (i := 3) (v := .pointer (some ⟨a, 1, none⟩)) rfl (by kernel_rfl) (by kernel_rfl) (by kernel_rfl) (fun _ _ _ h => h) (Or.inl ⟨by rfl, fun w _ => by rfl⟩) hg5' ?_
  simp only [Act.put, List.getElem_toArray, List.getElem_cons_succ, List.getElem_cons_zero, List.setIfInBounds_toArray, List.set_cons_succ, List.set_cons_zero]
  refine wpAnyH_take (i := 5) (v := .agg (wcells i (u8s B)).toArray) rfl (by kernel_rfl) (by kernel_rfl) (by kernel_rfl) (fun _ _ _ h => h) (Or.inl ⟨by rfl, fun W hW => exec_load 86 (.tmp 7) rfl _ rfl _ (run_loadVar_row W _ _ _ _ _ _ hW Tryz.underlying86 rfl (by rw [swrite]; simp [wcells, length_u8s, hB]))⟩) hg5' ?_
  simp only [Act.put, List.getElem_toArray, List.getElem_cons_succ, List.getElem_cons_zero, List.setIfInBounds_toArray, List.set_cons_succ, List.set_cons_zero]
  obtain ⟨ie, hie, hz1, hz2, hz3⟩ := info_parts iwrite
  have e1 : w5.drew.cell? ⟨a, 1, none⟩ = some (.slice none 0 0) := cellAt (w := w5.drew) hd5 rfl
  have hbs := run_build1 (P := Tryz.prog) w5.drew 81 86 (wcells i (u8s B)).toArray ie _ Tryz.underlying81 hie hz1 (by rw [hz2]; simp [wcells, length_u8s, hB]) (by simp [wcells]) (by simp [wcells, length_u8s, hB])
  have hkd : Kept [] w5.drew (w5.drew.alloc (.cells (wcells i (u8s B)).toArray 86)) := (Kept.refl _ _).alloc _
  have hS6 := hkd.get (w := w5.drew) hg5' (by simp)
  have hd6 := hkd.get (w := w5.drew) hd5 (by simp)
  have e6 : (w5.drew.alloc (.cells (wcells i (u8s B)).toArray 86)).cell? ⟨a, 1, none⟩ = some (.slice none 0 0) := cellAt hd6 rfl
  have hsz1 := hk1.size
  have hsz3 := hk3.size
  have hsz4 := hk4.size
  have hsz5 := hk5.size
  refine held_two (i := 4) (j := 6) (by kernel_rfl) ?_ ?_
  · refine wpOp_val rfl rfl (.slice none 0 0) _ (exec_load 81 (.tmp 25) rfl ⟨a, 1, none⟩ rfl _ (run_load1 Tryz.underlying81 rfl e1)) ⟨hg5', ?_⟩
    simp only [Act.put, List.getElem_toArray, List.getElem_cons_succ, List.getElem_cons_zero, List.setIfInBounds_toArray, List.set_cons_succ, List.set_cons_zero]
    refine held_one (i := 6) (by kernel_rfl) (wpOp_val rfl rfl (.slice (some ⟨w5.heap.size, 0, none⟩) 1 1) (w5.drew.alloc (.cells (wcells i (u8s B)).toArray 86)) (exec_buildSlice 81 1 (.tmp 27) rfl (.agg (wcells i (u8s B)).toArray) rfl _ hbs) ⟨hS6, ?_⟩)
    simp only [Act.put, List.getElem_toArray, List.getElem_cons_succ, List.getElem_cons_zero, List.setIfInBounds_toArray, List.set_cons_succ, List.set_cons_zero]
    obtain ⟨v', w8, hr8, hown8, hgr8, hnil8⟩ := run_append_own (P := Tryz.prog) (w5.drew.alloc (.cells (wcells i (u8s B)).toArray 86)) (w2.heap.size + 1) 81 81 86 ie _ 129 136 Tryz.underlying81 hie hz1 hz2 hz3 (by simp [Value.cells, wcells, zl]) (by omega) (.slice none 0 0) 0 [] (World.ownsRow_nil _ _ _ _) ⟨w5.heap.size, 0, none⟩ 1 1 (wcells i (u8s B)) (by simp [wcells, length_u8s, hB]) (row_src (heap_alloc_new _ _)) (one_wcells _ _ (one_u8s _)) (by unfold maxLen; omega) (by omega) (by simp; omega)
    have hk8 : Kept [] (w5.drew.alloc (.cells (wcells i (u8s B)).toArray 86)) w8 := ⟨hgr8.os, hgr8.tape, hgr8.output, hgr8.size, fun k hk _ => hgr8.block k hk (by simp [Value.ownBlock])⟩
    obtain ⟨hl8, hv8⟩ := hown8
    rcases hv8 with ⟨-, hbad⟩ | ⟨q, cap, cur, rfl, hq, hcur, hcap, -, hcs, htk⟩
    · omega
    simp only [List.nil_append, Nat.zero_add, Nat.one_mul] at htk hq
    have hS8 := hk8.get hS6 (by simp)
    have hd8 := hk8.get hd6 (by simp)
    refine held_one (i := 7) (by kernel_rfl) (wpOp_val rfl rfl (.slice (some ⟨q, 0, none⟩) 1 cap) w8 (exec_append (.tmp 26) (.tmp 28) 81 rfl (.slice none 0 0) (.slice (some ⟨w5.heap.size, 0, none⟩) 1 1) rfl rfl _ hr8) ⟨hS8, ?_⟩)
    simp only [Act.put, List.getElem_toArray, List.getElem_cons_succ, List.getElem_cons_zero, List.setIfInBounds_toArray, List.set_cons_succ, List.set_cons_zero]
    refine held_one (i := 8) (by kernel_rfl) (wpOp_val rfl rfl (.pointer (some ⟨a, 0, none⟩)) w8 rfl ⟨hS8, ?_⟩)
    simp only [Act.put, List.getElem_toArray, List.getElem_cons_succ, List.getElem_cons_zero, List.setIfInBounds_toArray, List.set_cons_succ, List.set_cons_zero]
    refine held_one (i := 9) (by kernel_rfl) (wpOp_val rfl rfl (.pointer (some ⟨a, 1, none⟩)) w8 rfl ⟨hS8, ?_⟩)
    simp only [Act.put, List.getElem_toArray, List.getElem_cons_succ, List.getElem_cons_zero, List.setIfInBounds_toArray, List.set_cons_succ, List.set_cons_zero]
    have hd9 := setCellAt (i := 1) (.slice (some ⟨q, 0, none⟩) 1 cap) hd8
    have hk9 : Kept [a] w8 (w8.setCell ⟨a, 1, none⟩ (.slice (some ⟨q, 0, none⟩) 1 cap)) := (Kept.refl _ _).setCell (Or.inl (by simp)) _
    refine held_one (i := 10) (by kernel_rfl) (wpOp_skip rfl rfl _ (exec_store 81 (.tmp 31) (.tmp 29) rfl ⟨a, 1, none⟩ rfl (.slice (some ⟨q, 0, none⟩) 1 cap) rfl (run_store1 swrites rfl hd8 (by simp [dcells]))) ⟨hk9.get hS8 (by simp; omega), ?_⟩)
    simp only [Act.put, List.getElem_toArray, List.getElem_cons_succ, List.getElem_cons_zero]
    refine wpAnyH_done (by kernel_rfl) ?_ _
    have hq9 := hk9.get hcur (by simp; omega)
    have hk19 : Kept [a] w (w8.setCell ⟨a, 1, none⟩ (.slice (some ⟨q, 0, none⟩) 1 cap)) := by
      refine Kept.trans ?_ hk9
      refine Kept.trans2 ?_ hk8 (by simp)
      refine Kept.alloc (Kept.drew ?_) _
      refine Kept.trans2 ?_ hk5 (by intro x hx; simp at hx; subst hx; exact Or.inr hk1.size)
      refine Kept.trans2 ?_ hk4 (by intro x hx; simp at hx; subst hx; exact Or.inr hk1.size)
      exact hk1.trans2 hk3 (by simp)
    generalize w8.setCell ⟨a, 1, none⟩ (.slice (some ⟨q, 0, none⟩) 1 cap) = w9 at *
    clear hk9 hd8 hS8 hr8 hcur hk8 hgr8
    have hd9' : w9.heap[a]? = some (.cells (dcells (.slice (some ⟨g, 0, none⟩) n n) (.slice (some ⟨q, 0, none⟩) 1 cap) (wrap64 (c + 1)) wr t) 83 (0, 0)) := hd9
    clear hd9
    have e3 : w9.cell? ⟨a, 3, none⟩ = some (.int .i64 wr) := cellAt hd9' rfl
    have f3 : w9.frozen? ⟨a, 3, none⟩ = false := frozen_of_row _ _ _ _ _ hd9'
    have hd10 := setCellAt (i := 3) (.int .i64 (wrap64 (wr + 1))) hd9'
    have hk10 : Kept [a] w9 (w9.setCell ⟨a, 3, none⟩ (.int .i64 (wrap64 (wr + 1)))) := (Kept.refl _ _).setCell (Or.inl (by simp)) _
    have H : Hid ((w9.setCell ⟨a, 3, none⟩ (.int .i64 (wrap64 (wr + 1)))).heap[a]? = some (.cells (dcells (.slice (some ⟨g, 0, none⟩) n n) (.slice (some ⟨q, 0, none⟩) 1 cap) (wrap64 (c + 1)) (wrap64 (wr + 1)) t) 83 (0, 0))) := hd10
    have H2 : Hid ((w9.setCell ⟨a, 3, none⟩ (.int .i64 (wrap64 (wr + 1)))).heap[q]? = some (.cells cur 86 (0, 0))) := hk10.get hq9 (by simp; omega)
    clear hd10
    have hwl : (wcells i (u8s B)).length = 129 := by simp [wcells, length_u8s, hB]
    have hcur' : cur = (wcells i (u8s B) ++ cur.toList.drop 129).toArray := by
      have := List.take_append_drop 129 cur.toList
      rw [htk] at this
      rw [this]
    have H3 : Hid (cur = (wcells i (u8s B) ++ cur.toList.drop 129).toArray) := hcur'
    clear hcur' htk hl8 hcs hq9 hd9' hwl
    go_wp2
    go_ret
    refine ⟨rfl, q, cap, _, _, H.out, ⟨cur.toList.drop 129, ?_⟩, by omega, hk19.trans hk10⟩
    rw [← H3.out]; exact H2.out
  · refine wpOp_val rfl rfl (.slice (some ⟨w5.heap.size, 0, none⟩) 1 1) (w5.drew.alloc (.cells (wcells i (u8s B)).toArray 86)) (exec_buildSlice 81 1 (.tmp 27) rfl (.agg (wcells i (u8s B)).toArray) rfl _ hbs) ⟨hS6, ?_⟩
    simp only [Act.put, List.getElem_toArray, List.getElem_cons_succ, List.getElem_cons_zero, List.setIfInBounds_toArray, List.set_cons_succ, List.set_cons_zero]
    refine held_one (i := 4) (by kernel_rfl) (wpOp_val rfl rfl (.slice none 0 0) _ (exec_load 81 (.tmp 25) rfl ⟨a, 1, none⟩ rfl _ (run_load1 Tryz.underlying81 rfl e6)) ⟨hS6, ?_⟩)
    simp only [Act.put, List.getElem_toArray, List.getElem_cons_succ, List.getElem_cons_zero, List.setIfInBounds_toArray, List.set_cons_succ, List.set_cons_zero]
    obtain ⟨v', w8, hr8, hown8, hgr8, hnil8⟩ := run_append_own (P := Tryz.prog) (w5.drew.alloc (.cells (wcells i (u8s B)).toArray 86)) (w2.heap.size + 1) 81 81 86 ie _ 129 136 Tryz.underlying81 hie hz1 hz2 hz3 (by simp [Value.cells, wcells, zl]) (by omega) (.slice none 0 0) 0 [] (World.ownsRow_nil _ _ _ _) ⟨w5.heap.size, 0, none⟩ 1 1 (wcells i (u8s B)) (by simp [wcells, length_u8s, hB]) (row_src (heap_alloc_new _ _)) (one_wcells _ _ (one_u8s _)) (by unfold maxLen; omega) (by omega) (by simp; omega)
    have hk8 : Kept [] (w5.drew.alloc (.cells (wcells i (u8s B)).toArray 86)) w8 := ⟨hgr8.os, hgr8.tape, hgr8.output, hgr8.size, fun k hk _ => hgr8.block k hk (by simp [Value.ownBlock])⟩
    obtain ⟨hl8, hv8⟩ := hown8
    rcases hv8 with ⟨-, hbad⟩ | ⟨q, cap, cur, rfl, hq, hcur, hcap, -, hcs, htk⟩
    · omega
    simp only [List.nil_append, Nat.zero_add, Nat.one_mul] at htk hq
    have hS8 := hk8.get hS6 (by simp)
    have hd8 := hk8.get hd6 (by simp)
    refine held_one (i := 7) (by kernel_rfl) (wpOp_val rfl rfl (.slice (some ⟨q, 0, none⟩) 1 cap) w8 (exec_append (.tmp 26) (.tmp 28) 81 rfl (.slice none 0 0) (.slice (some ⟨w5.heap.size, 0, none⟩) 1 1) rfl rfl _ hr8) ⟨hS8, ?_⟩)
    simp only [Act.put, List.getElem_toArray, List.getElem_cons_succ, List.getElem_cons_zero, List.setIfInBounds_toArray, List.set_cons_succ, List.set_cons_zero]
    refine held_one (i := 8) (by kernel_rfl) (wpOp_val rfl rfl (.pointer (some ⟨a, 0, none⟩)) w8 rfl ⟨hS8, ?_⟩)
    simp only [Act.put, List.getElem_toArray, List.getElem_cons_succ, List.getElem_cons_zero, List.setIfInBounds_toArray, List.set_cons_succ, List.set_cons_zero]
    refine held_one (i := 9) (by kernel_rfl) (wpOp_val rfl rfl (.pointer (some ⟨a, 1, none⟩)) w8 rfl ⟨hS8, ?_⟩)
    simp only [Act.put, List.getElem_toArray, List.getElem_cons_succ, List.getElem_cons_zero, List.setIfInBounds_toArray, List.set_cons_succ, List.set_cons_zero]
    have hd9 := setCellAt (i := 1) (.slice (some ⟨q, 0, none⟩) 1 cap) hd8
    have hk9 : Kept [a] w8 (w8.setCell ⟨a, 1, none⟩ (.slice (some ⟨q, 0, none⟩) 1 cap)) := (Kept.refl _ _).setCell (Or.inl (by simp)) _
    refine held_one (i := 10) (by kernel_rfl) (wpOp_skip rfl rfl _ (exec_store 81 (.tmp 31) (.tmp 29) rfl ⟨a, 1, none⟩ rfl (.slice (some ⟨q, 0, none⟩) 1 cap) rfl (run_store1 swrites rfl hd8 (by simp [dcells]))) ⟨hk9.get hS8 (by simp; omega), ?_⟩)
    simp only [Act.put, List.getElem_toArray, List.getElem_cons_succ, List.getElem_cons_zero]
    refine wpAnyH_done (by kernel_rfl) ?_ _
    have hq9 := hk9.get hcur (by simp; omega)
    have hk19 : Kept [a] w (w8.setCell ⟨a, 1, none⟩ (.slice (some ⟨q, 0, none⟩) 1 cap)) := by
      refine Kept.trans ?_ hk9
      refine Kept.trans2 ?_ hk8 (by simp)
      refine Kept.alloc (Kept.drew ?_) _
      refine Kept.trans2 ?_ hk5 (by intro x hx; simp at hx; subst hx; exact Or.inr hk1.size)
      refine Kept.trans2 ?_ hk4 (by intro x hx; simp at hx; subst hx; exact Or.inr hk1.size)
      exact hk1.trans2 hk3 (by simp)
    generalize w8.setCell ⟨a, 1, none⟩ (.slice (some ⟨q, 0, none⟩) 1 cap) = w9 at *
    clear hk9 hd8 hS8 hr8 hcur hk8 hgr8
    have hd9' : w9.heap[a]? = some (.cells (dcells (.slice (some ⟨g, 0, none⟩) n n) (.slice (some ⟨q, 0, none⟩) 1 cap) (wrap64 (c + 1)) wr t) 83 (0, 0)) := hd9
    clear hd9
    have e3 : w9.cell? ⟨a, 3, none⟩ = some (.int .i64 wr) := cellAt hd9' rfl
    have f3 : w9.frozen? ⟨a, 3, none⟩ = false := frozen_of_row _ _ _ _ _ hd9'
    have hd10 := setCellAt (i := 3) (.int .i64 (wrap64 (wr + 1))) hd9'
    have hk10 : Kept [a] w9 (w9.setCell ⟨a, 3, none⟩ (.int .i64 (wrap64 (wr + 1)))) := (Kept.refl _ _).setCell (Or.inl (by simp)) _
    have H : Hid ((w9.setCell ⟨a, 3, none⟩ (.int .i64 (wrap64 (wr + 1)))).heap[a]? = some (.cells (dcells (.slice (some ⟨g, 0, none⟩) n n) (.slice (some ⟨q, 0, none⟩) 1 cap) (wrap64 (c + 1)) (wrap64 (wr + 1)) t) 83 (0, 0))) := hd10
    have H2 : Hid ((w9.setCell ⟨a, 3, none⟩ (.int .i64 (wrap64 (wr + 1)))).heap[q]? = some (.cells cur 86 (0, 0))) := hk10.get hq9 (by simp; omega)
    clear hd10
    have hwl : (wcells i (u8s B)).length = 129 := by simp [wcells, length_u8s, hB]
    have hcur' : cur = (wcells i (u8s B) ++ cur.toList.drop 129).toArray := by
      have := List.take_append_drop 129 cur.toList
      rw [htk] at this
      rw [this]
    have H3 : Hid (cur = (wcells i (u8s B) ++ cur.toList.drop 129).toArray) := hcur'
    clear hcur' htk hl8 hcs hq9 hd9' hwl
    go_wp2
    go_ret
    refine ⟨rfl, q, cap, _, _, H.out, ⟨cur.toList.drop 129, ?_⟩, by omega, hk19.trans hk10⟩
    rw [← H3.out]; exact H2.out

end Go.Proofs.YtloihcnbcknbnaaGreatDoor

namespace Go.Proofs.YtloihcnbcknbnaaGreatDoor
open Go.RowKit

def setBlock (L : List UInt8) (i : Nat) (B : List UInt8) : List UInt8 := splice L (i * 128) B
theorem u8s_splice (L : List UInt8) (o : Nat) (B : List UInt8) : splice (u8s L) o (u8s B) = u8s (splice L o B) := by
  simp [splice, u8s, List.map_take, List.map_drop]
theorem sblk : (Tryz.prog.info? 84).map (·.size) = some 128 := by kernel_rfl
theorem tl_get (i : Int) (B sp : List Value) : ∀ j v, B[j]? = some v → (wcells i B ++ sp)[1 + j]? = some v := by
  intro j v hv
  have hj : j < B.length := (List.getElem?_eq_some_iff.1 hv).1
  rw [List.getElem?_append_left (by simp [wcells]; omega), Nat.add_comm]
  simpa [wcells] using hv

/-- what a Flush leaves -/
def Flushed (a g n : Nat) (L : List UInt8) (t : Int) (w w' : World) : Prop := ∃ c' wr', Dev w' a g n L c' wr' t ∧ Kept [a, g] w w'

set_option maxRecDepth 100000 in
set_option maxHeartbeats 400000 in
theorem Flush_any (a g n q cap i : Nat) (L B : List UInt8) (sp : List Value) (c wr t : Int) (w : World)
    (hd : w.heap[a]? = some (.cells (dcells (.slice (some ⟨g, 0, none⟩) n n) (.slice (some ⟨q, 0, none⟩) 1 cap) c wr t) 83 (0, 0)))
    (hq : w.heap[q]? = some (.cells (wcells i (u8s B) ++ sp).toArray 86 (0, 0))) (hb : w.heap[g]? = some (.cells (u8s L).toArray 84 (0, 0))) (hL : L.length = n * 128) (hB : B.length = 128) (hi : i < n) (_hn : n ≤ 1000) :
    Calls Tryz.prog 185 #[.pointer (some ⟨a, 0, none⟩)] w fun e w' => e = .returned .nilIface ∧ Flushed a g n (setBlock L i B) t w w' := by
  have hwl : (wcells i (u8s B)).length = 129 := by simp [wcells, length_u8s, hB]
  have nag : a ≠ g := ne_tag hd hb (by decide)
  have naq : a ≠ q := ne_tag hd hq (by decide)
  have ngq : g ≠ q := ne_tag hb hq (by decide)
  go_enter Tryz.func185, Tryz.ntmps185
  go_wp2_with fail
  refine (fails_any a _ _ c wr t w hd).mono ?_
  rintro e w1 ⟨rfl, hd1, hk1, -⟩
  have hq1 := hk1.get hq (by simpa using naq.symm)
  have hb1 := hk1.get hb (by simpa using nag.symm)
  have c1 : w1.cell? ⟨a, 1, none⟩ = some (.slice (some ⟨q, 0, none⟩) 1 cap) := cellAt hd1 rfl
  go_wp2
  refine wp_loop_rounds 2 ?_
  rw [rounds_succ]
  have hla := lt_heap hd1
  have hlg := lt_heap hb1
  have hlq := lt_heap hq1
  have hld := run_loadVar_seg (P := Tryz.prog) w1 q 0 86 86 (wcells i (u8s B) ++ sp) (wcells i (u8s B)) (0, 0) _ hq1 Tryz.underlying86 rfl (by rw [swrite, hwl]) (by intro j v hv; rw [Nat.zero_add, List.getElem?_append_left (List.getElem?_eq_some_iff.1 hv).1]; exact hv)
  go_wp2_with (first
    | (refine wpList_load_seg rfl 86 (.tmp 15) rfl ⟨q, 0, none⟩ rfl (.agg (wcells i (u8s B)).toArray) hld ?_)
    | (refine wpList_alloc_k rfl 86 rfl _ (zwrite _) ?_; intro w3 hn3 hk3 _)
    | (refine wpList_store_k rfl 86 (.tmp 4) (.tmp 16) rfl w1.heap.size (wcells i (u8s B)).toArray rfl rfl 86 _ hn3 (by rw [swrite]; simp [wcells, length_u8s, hB]) (by simp [wcells, zl, length_u8s, hB]) (all_of (one_wcells _ _ (one_u8s _))) ?_; intro w4 hn4 hk4))
  have hd4 := hk4.get (hk3.get hd1 (by simp)) (by simp; omega)
  have hb4 := hk4.get (hk3.get hb1 (by simp)) (by simp; omega)
  have hz3 := hk3.size
  have hz4 := hk4.size
  have hS : (fun W : World => W.heap[a]? = some (.cells (dcells (.slice (some ⟨g, 0, none⟩) n n) (.slice (some ⟨q, 0, none⟩) 1 cap) (wrap64 (c + 1)) wr t) 83 (0, 0)) ∧ W.heap[w1.heap.size]? = some (.cells (wcells i (u8s B)).toArray 86 (0, 0))) w4.drew := ⟨hd4, hn4⟩
  refine wp_region_held (S := fun W => W.heap[a]? = some (.cells (dcells (.slice (some ⟨g, 0, none⟩) n n) (.slice (some ⟨q, 0, none⟩) 1 cap) (wrap64 (c + 1)) wr t) 83 (0, 0)) ∧ W.heap[w1.heap.size]? = some (.cells (wcells i (u8s B)).toArray 86 (0, 0))) (by kernel_rfl) ?_
  refine wpAnyH_take (i := 0) (v := .pointer (some ⟨a, 0, none⟩)) rfl (by kernel_rfl) (by kernel_rfl) (by kernel_rfl) (fun _ _ _ h => h) (Or.inl ⟨by rfl, fun W hW => by rfl⟩) hS ?_
  simp only [Act.put, List.getElem_toArray, List.getElem_cons_zero, List.setIfInBounds_toArray, List.set_cons_succ, List.set_cons_zero]
  refine wpAnyH_take (i := 1) (v := .pointer (some ⟨a, 0, none⟩)) rfl (by kernel_rfl) (by kernel_rfl) (by kernel_rfl) (fun _ _ _ h => h) (Or.inl ⟨by rfl, fun W hW => by rfl⟩) hS ?_
  simp only [Act.put, List.getElem_toArray, List.getElem_cons_succ, List.getElem_cons_zero, List.setIfInBounds_toArray, List.set_cons_succ, List.set_cons_zero]
  refine wpAnyH_take (i := 2) (v := .pointer (some ⟨a, 0, none⟩)) rfl (by kernel_rfl) (by kernel_rfl) (by kernel_rfl) (fun _ _ _ h => h) (Or.inl ⟨by rfl, fun W hW => by rfl⟩) hS ?_
  simp only [Act.put, List.getElem_toArray, List.getElem_cons_succ, List.getElem_cons_zero, List.setIfInBounds_toArray, List.set_cons_succ, List.set_cons_zero]
  refine wpAnyH_take (i := 4) (v := .pointer (some ⟨w1.heap.size, 0, none⟩)) rfl (by kernel_rfl) (by kernel_rfl) (by kernel_rfl) (fun _ _ _ h => h) (Or.inl ⟨by rfl, fun W hW => by rfl⟩) hS ?_
  simp only [Act.put, List.getElem_toArray, List.getElem_cons_succ, List.getElem_cons_zero, List.setIfInBounds_toArray, List.set_cons_succ, List.set_cons_zero]
  refine wpAnyH_take (i := 6) (v := .pointer (some ⟨w1.heap.size, 1, none⟩)) rfl (by kernel_rfl) (by kernel_rfl) (by kernel_rfl) (fun _ _ _ h => h) (Or.inl ⟨by rfl, fun W hW => by rfl⟩) hS ?_
  simp only [Act.put, List.getElem_toArray, List.getElem_cons_succ, List.getElem_cons_zero, List.setIfInBounds_toArray, List.set_cons_succ, List.set_cons_zero]
  refine wpAnyH_take (i := 3) (v := .slice (some ⟨g, 0, none⟩) n n) rfl (by kernel_rfl) (by kernel_rfl) (by kernel_rfl) (fun _ _ _ h => h) (Or.inl ⟨by rfl, fun W hW => exec_load 80 (.tmp 19) rfl ⟨a, 0, none⟩ rfl _ (run_load1 Tryz.underlying80 rfl (cellAt hW.1 rfl))⟩) hS ?_
  simp only [Act.put, List.getElem_toArray, List.getElem_cons_succ, List.getElem_cons_zero, List.setIfInBounds_toArray, List.set_cons_succ, List.set_cons_zero]
  refine wpAnyH_take (i := 5) (v := .int .i64 i) rfl (by kernel_rfl) (by kernel_rfl) (by kernel_rfl) (fun _ _ _ h => h) (Or.inl ⟨by rfl, fun W hW => exec_load 3 (.tmp 21) rfl ⟨w1.heap.size, 0, none⟩ rfl _ (run_load1 Tryz.underlying3 rfl (cellAt hW.2 rfl))⟩) hS ?_
  simp only [Act.put, List.getElem_toArray, List.getElem_cons_succ, List.getElem_cons_zero, List.setIfInBounds_toArray, List.set_cons_succ, List.set_cons_zero]
  refine wpAnyH_take (i := 7) (v := .agg (u8s B).toArray) rfl (by kernel_rfl) (by kernel_rfl) (by kernel_rfl) (fun _ _ _ h => h) (Or.inl ⟨by rfl, fun W hW => exec_load 84 (.tmp 23) rfl ⟨w1.heap.size, 1, none⟩ rfl _ (run_loadVar_seg W _ 1 _ _ (wcells i (u8s B)) (u8s B) _ _ hW.2 Tryz.underlying84 rfl (by rw [sblk, length_u8s, hB]) (by intro j v hv; have := tl_get i (u8s B) [] j v hv; rwa [List.append_nil] at this))⟩) hS ?_
  simp only [Act.put, List.getElem_toArray, List.getElem_cons_succ, List.getElem_cons_zero, List.setIfInBounds_toArray, List.set_cons_succ, List.set_cons_zero]
  refine wpAnyH_take (i := 8) (v := .pointer (some ⟨g, i * 128, none⟩)) rfl (by kernel_rfl) (by kernel_rfl) (by kernel_rfl) (fun _ _ _ h => h) (Or.inl ⟨by rfl, fun W _ => exec_index 80 (.tmp 20) (.tmp 22) rfl g 0 n n i 128 rfl rfl 84 Tryz.underlying80 sblk hi _ (by simp)⟩) hS ?_
  simp only [Act.put, List.getElem_toArray, List.getElem_cons_succ, List.getElem_cons_zero, List.setIfInBounds_toArray, List.set_cons_succ, List.set_cons_zero]
  have hfit : i * 128 + (u8s B).length ≤ (u8s L).length := by rw [length_u8s, length_u8s, hB, hL]; omega
  have hst := run_storeVar_seg (P := Tryz.prog) w4.drew g (i * 128) 84 84 (u8s L) (u8s B) hb4 (by rw [sblk, length_u8s, hB]) hfit (one_u8s _)
  have hk5 : Kept [g] w4 (w4.drew.setRow g (splice (u8s L) (i * 128) (u8s B)).toArray) := (Kept.refl _ _).drew.setRow (Or.inl (by simp)) _
  have hb5 : (w4.drew.setRow g (splice (u8s L) (i * 128) (u8s B)).toArray).heap[g]? = some (.cells (u8s (setBlock L i B)).toArray 84 (0, 0)) := by
    rw [setRow_heap w4.drew g _ _ 84 _ hb4, u8s_splice]; rfl
  have hd5 := hk5.get hd4 (by simpa using nag)
  have hn5 := hk5.get hn4 (by simp; omega)
  refine held_one (i := 9) (by kernel_rfl) (wpOp_skip rfl rfl _ (exec_store 84 (.tmp 25) (.tmp 24) rfl ⟨g, i * 128, none⟩ rfl (.agg (u8s B).toArray) rfl hst) ⟨⟨hd5, hn5⟩, ?_⟩)
  simp only [Act.put, List.getElem_toArray, List.getElem_cons_succ, List.getElem_cons_zero]
  refine wpAnyH_done (by kernel_rfl) ?_ _
  generalize w4.drew.setRow g (splice (u8s L) (i * 128) (u8s B)).toArray = w5 at *
  have hk15 : Kept [a, g] w w5 := by
    refine Kept.trans2 (Kept.trans2 (Kept.trans2 (hk1.mono (by simp)) hk3 (by simp)) hk4 ?_) hk5 (by simp)
    intro x hx; simp at hx; subst hx; exact Or.inr hk1.size
  clear hst hfit hS hld hn5 hn4 hb4 hd4 hk5 hk4 hk3 hn3 hq1 hb1 c1 hd1
  go_wp2
  rw [rounds_succ]
  have f1 : w5.frozen? ⟨a, 1, none⟩ = false := frozen_of_row _ _ _ _ _ hd5
  have e1 : w5.cell? ⟨a, 1, none⟩ = some (.slice (some ⟨q, 0, none⟩) 1 cap) := cellAt hd5 rfl
  have hd6 := setCellAt (i := 1) (.slice none 0 0) hd5
  have hk6 : Kept [a] w5 (w5.setCell ⟨a, 1, none⟩ (.slice none 0 0)) := (Kept.refl _ _).setCell (Or.inl (by simp)) _
  have H : Hid ((w5.setCell ⟨a, 1, none⟩ (.slice none 0 0)).heap[a]? = some (.cells (dcells (.slice (some ⟨g, 0, none⟩) n n) (.slice none 0 0) (wrap64 (c + 1)) wr t) 83 (0, 0))) := hd6
  have H2 := hk6.get hb5 (by simpa using nag.symm)
  have H3 : Hid ((w5.setCell ⟨a, 1, none⟩ (.slice none 0 0)).heap[g]? = some (.cells (u8s (setBlock L i B)).toArray 84 (0, 0))) := H2
  clear hd6 H2 hd5 hb5
  go_wp2
  go_ret
  refine ⟨rfl, _, _, ⟨H.out, H3.out, ?_⟩, hk15.trans2 hk6 (by simp)⟩
  rw [setBlock, length_splice _ _ _ (by rw [hB, hL]; omega), hL]

end Go.Proofs.YtloihcnbcknbnaaGreatDoor

namespace Go.Proofs.YtloihcnbcknbnaaGreatDoor
open Go.RowKit

/-- how many blocks NewDisk makes of a number -/
def nb (x : Int) : Nat := if x < 0 then 0 else (x % 1000).toNat
theorem nb_lt (x : Int) : nb x < 1000 := by unfold nb; split <;> omega

theorem iblk : (Tryz.prog.info? 84).map (fun i => (i.zero, i.size, i.bytes)) = some (some (.agg (zl 128).toArray), 128, 128) := by kernel_rfl
theorem zl_get (n j : Nat) (h : j < (zl n).length) : (zl n)[j] = .int .u8 0 := by simp [zl]
theorem made_zl (n : Nat) : madeCells (zl 128).toArray n = (u8s (List.replicate n 0)).toArray := by
  apply Array.ext'
  apply List.ext_getElem?
  intro j
  by_cases hj : j < n
  · have h128 : j % 128 < (zl 128).length := by rw [length_zl]; omega
    simp only [madeCells, u8s, List.size_toArray, length_zl, Array.toList_map, Array.toList_range, List.getElem?_map, List.getElem?_range hj, Option.map_some, List.getElem?_replicate, if_pos hj]
    rw [List.getElem!_toArray, List.getElem!_eq_getElem?_getD, List.getElem?_eq_getElem h128, zl_get]
    rfl
  · simp [madeCells, u8s, hj]

theorem mkblocks (m : Nat) (hm : m < 1000) (w : World) : (Instr.makeSlice 80 (.int .i64 m) (.int .i64 m)).run Tryz.prog w = .ok (.slice (some ⟨w.heap.size, 0, none⟩) m m) (w.alloc (.cells (u8s (List.replicate (m * 128) 0)).toArray 84)) := by
  obtain ⟨ie, hie, hz1, hz2, hz3⟩ := info_parts iblk
  have := run_make (P := Tryz.prog) w 80 84 ie _ Tryz.underlying80 hie hz1 .i64 .i64 m m (by omega) (by omega) (by rw [hz3]; omega) (by omega)
  rw [this, hz2]
  simp only [Int.toNat_natCast, Value.cells, made_zl]

/-- a new device of noughts -/
def NewDev (a g n : Nat) (w w' : World) : Prop := Dev w' a g n (List.replicate (n * 128) 0) 0 0 0 ∧ w.heap.size ≤ a ∧ w.heap.size ≤ g ∧ Kept [] w w'

def RetDev (n : Nat) (w : World) (e : Ending) (w' : World) : Prop := ∃ a g, e = .returned (.pointer (some ⟨a, 0, none⟩)) ∧ NewDev a g n w w'

theorem newDev_of {w w3 : World} {m : Nat} (hn3 : w3.heap[w.heap.size]? = some (.cells (u8s (List.replicate (m * 128) 0)).toArray 84 (0, 0))) (hk3 : Kept [] w w3) (hs : w3.heap.size = w.heap.size + 1) :
    NewDev (w.heap.size + 1) w.heap.size m w (w3.alloc (.cells #[.slice (some ⟨w.heap.size, 0, none⟩) m m, .slice none 0 0, .int .i64 0, .int .i64 0, .int .i64 0, .int .i64 (-1), .int .i64 0, .int .i64 0] 83)) := by
  have hk := (Kept.refl [] w3).alloc (.cells #[.slice (some ⟨w.heap.size, 0, none⟩) m m, .slice none 0 0, .int .i64 0, .int .i64 0, .int .i64 0, .int .i64 (-1), .int .i64 0, .int .i64 0] 83)
  refine ⟨⟨?_, hk.get hn3 (by simp), by simp⟩, by omega, by omega, hk3.trans hk⟩
  rw [← hs]; exact heap_alloc_new _ _

set_option maxRecDepth 100000 in
set_option maxHeartbeats 400000 in
theorem NewDisk_any (x : Int) (w : World) : Calls Tryz.prog 29 #[.int .i64 x] w (RetDev (nb x) w) := by
  by_cases hx : x < 0
  · have hnb : nb x = 0 := by unfold nb; rw [if_pos hx]
    rw [hnb]
    go_enter Tryz.func29, Tryz.ntmps29
    go_wp2_with (first
      | (at_make; refine wpList_make_k rfl _ _ _ rfl _ _ rfl rfl _ _ (mkblocks 0 (by omega) w) ?_; intro w3 hn3 hk3 hs3; have HS : Hid (w3.heap.size = w.heap.size + 1) := hs3))
    go_ret
    exact ⟨_, _, rfl, newDev_of hn3 hk3 HS.out⟩
  · have hlt := nb_lt x
    have Hm : Hid (x % 1000 = nb x) := by show _ = _; unfold nb; rw [if_neg hx]; omega
    generalize nb x = m at *
    go_enter Tryz.func29, Tryz.ntmps29
    go_wp2_with (first
      | (at_make; rw [Hm.out]; refine wpList_make_k rfl _ _ _ rfl _ _ rfl rfl _ _ (mkblocks m hlt w) ?_; intro w3 hn3 hk3 hs3; have HS : Hid (w3.heap.size = w.heap.size + 1) := hs3))
    go_ret
    exact ⟨_, _, rfl, newDev_of hn3 hk3 HS.out⟩

theorem ret_int {k : IntKind} {a b : Int} (h : a = b) : Ending.returned (.int k a) = .returned (.int k b) := by rw [h]

/-- which of n things a raw number speaks of -/
def pk (c : Int) (n : Nat) : Nat := if c < 0 then ((-(c + 1)) % n).toNat else (c % n).toNat
theorem pk_lt (c : Int) (n : Nat) (hn : 0 < n) : pk c n < n := by
  unfold pk
  split
  · have := Int.emod_lt_of_pos (-(c + 1)) (show (0 : Int) < n by omega); have := Int.emod_nonneg (-(c + 1)) (show (n : Int) ≠ 0 by omega); omega
  · have := Int.emod_lt_of_pos c (show (0 : Int) < n by omega); have := Int.emod_nonneg c (show (n : Int) ≠ 0 by omega); omega

set_option maxHeartbeats 400000 in
theorem pick_any (c : Int) (n : Nat) (w : World) (hn : 0 < n) (hb : (n : Int) ≤ 1000000) (h1 : -9223372036854775808 ≤ c) (h2 : c ≤ 9223372036854775807) :
    Calls Tryz.prog 78 #[.int .i64 c, .int .i64 n] w fun e w' => e = .returned (.int .i64 (pk c n)) ∧ w' = w := by
  by_cases hc : c < 0
  · have hp : (pk c n : Int) = (-(c + 1)) % n := by unfold pk; rw [if_pos hc]; have := Int.emod_nonneg (-(c + 1)) (show (n : Int) ≠ 0 by omega); omega
    have H : Hid (-((c + 1).tmod n) = (pk c n : Int)) := by show _ = _; rw [hp, ← Int.neg_tmod, Int.tmod_eq_emod_of_nonneg (by omega)]
    clear hp
    have hnz : ¬ (n : Int) = 0 := by omega
    go_enter Tryz.func78, Tryz.ntmps78
    go_wp2
    go_ret
    exact ⟨ret_int H.out, rfl⟩
  · have hp : (pk c n : Int) = c % n := by unfold pk; rw [if_neg hc]; have := Int.emod_nonneg c (show (n : Int) ≠ 0 by omega); omega
    have H : Hid ((pk c n : Int) = c % n) := hp
    clear hp
    have hnz : ¬ (n : Int) = 0 := by omega
    go_enter Tryz.func78, Tryz.ntmps78
    go_wp2
    go_ret
    exact ⟨ret_int H.out.symm, rfl⟩

set_option maxHeartbeats 400000 in
theorem near_any (c : Int) (w : World) (h1 : -9223372036854775808 ≤ c) (h2 : c ≤ 9223372036854775807) :
    Calls Tryz.prog 134 #[.int .i64 c] w fun e w' => e = .returned (.int .i64 (pk c 600)) ∧ w' = w := by
  go_enter Tryz.func134, Tryz.ntmps134
  go_wp2_with fail
  refine (pick_any c 600 w (by omega) (by omega) h1 h2).mono ?_
  rintro e w' ⟨rfl, rfl⟩
  go_wp2
  go_ret
  exact ⟨rfl, rfl⟩

set_option maxHeartbeats 400000 in
theorem blocks_any (x : Int) (w : World) :
    Calls Tryz.prog 102 #[.int .i64 x] w fun e w' => e = .returned (.int .i64 (nb x)) ∧ w' = w := by
  by_cases hx : x < 0
  · have hp : nb x = 0 := by unfold nb; rw [if_pos hx]
    rw [hp]
    go_enter Tryz.func102, Tryz.ntmps102
    go_wp2
    go_ret
    exact ⟨rfl, rfl⟩
  · have H : Hid (x % 1000 = nb x) := by show _ = _; unfold nb; rw [if_neg hx]; omega
    generalize nb x = m at *
    go_enter Tryz.func102, Tryz.ntmps102
    go_wp2
    go_ret
    exact ⟨ret_int H.out, rfl⟩

end Go.Proofs.YtloihcnbcknbnaaGreatDoor

namespace Go.Proofs.YtloihcnbcknbnaaGreatDoor
open Go.RowKit

theorem iu8 : (Tryz.prog.info? 5).map (fun i => (i.zero, i.size, i.bytes)) = some (some (.int .u8 0), 1, 1) := by kernel_rfl

theorem grown_kept {w w' : World} {row : Option Nat} (h : w.grownBy w' row) (S : List Nat) (hr : ∀ k, row = some k → k ∈ S) : Kept S w w' :=
  ⟨h.os, h.tape, h.output, h.size, fun k hk hn => h.block k hk fun e => hn (hr k e.symm)⟩

theorem take_block (L : List UInt8) (k : Nat) : L.take (k * 128) ++ blockOf L k = L.take ((k + 1) * 128) := by
  rw [blockOf, Nat.add_mul, Nat.one_mul, List.take_add]

theorem convert_owned {w : World} {base : Nat} {v : Value} {l : List UInt8} (h : w.ownsRow base 5 1 v l.length (u8s l)) : (convert 58 9 v).run Tryz.prog w = .ok (.string ⟨l.toArray⟩) w := by
  obtain ⟨hl, ⟨rfl, h0⟩ | ⟨g, cap, cur, rfl, hg, hh, h1, h2, h3, h4⟩⟩ := h
  · have : l = [] := List.eq_nil_of_length_eq_zero h0
    subst this
    rw [run_convert_bytes_string w 58 9 5 none 0 0 Tryz.underlying58 Tryz.underlying5 Tryz.underlying9]
    simp [Conv.bytesToString]; rfl
  · refine run_convert_bytes_back (P := Tryz.prog) w 58 9 5 ⟨g, 0, none⟩ cap l Tryz.underlying58 Tryz.underlying5 Tryz.underlying9 ?_
    intro j hj
    rw [add_lit, cell_of_row _ _ _ _ _ _ hh]
    have := congrArg (fun x => x[j]?) h4
    simp only [List.getElem?_take, Nat.mul_one, hj, if_true, u8s_get, List.getElem?_eq_getElem hj, Option.map_some] at this
    simpa using this

set_option maxRecDepth 100000 in
set_option maxHeartbeats 400000 in
theorem Bytes_any (a g n : Nat) (L : List UInt8) (c nw t : Int) (w : World) (h : Dev w a g n L c nw t) (hn : n < 1000) :
    Calls Tryz.prog 25 #[.pointer (some ⟨a, 0, none⟩)] w fun e w' => e = .returned (.string ⟨L.toArray⟩) ∧ Kept [] w w' := by
  have c0 : w.cell? ⟨a, 0, none⟩ = some (.slice (some ⟨g, 0, none⟩) n n) := cellAt h.d rfl
  have hla := lt_heap h.d
  have hlg := lt_heap h.b
  obtain ⟨ie, hie, hz1, hz2, hz3⟩ := info_parts iu8
  go_enter Tryz.func25, Tryz.ntmps25
  go_wp2_with (first
    | (at_make; refine wpList_make_own _ rfl _ _ 58 rfl w.heap.size 5 ie (.int .u8 0) 1 Tryz.underlying58 hie hz1 hz2 .i64 .i64 _ (n * 128) rfl rfl (by omega) (by rw [hz3]; omega) (by unfold maxLen; omega) (Nat.le_refl _) ?_; intro w1 hown1 hgr1; have hk1 := grown_kept hgr1 [] (by simp); have c01 : w1.cell? ⟨a, 0, none⟩ = some (.slice (some ⟨g, 0, none⟩) n n) := cellAt (hk1.get h.d (by simp)) rfl))
  clear c0 c01
  go_loopw [3, 17] (fun v i wr => ∃ k : Nat, k ≤ n ∧ i = .int .i64 k ∧ wr.ownsRow w.heap.size 5 1 v (L.take (k * 128)).length (u8s (L.take (k * 128))) ∧ Kept [] w wr) (fun _ i _ => n - (intOf i).toNat)
  case atStart => exact ⟨0, Nat.zero_le _, rfl, by simpa [u8s] using hown1, hk1⟩
  case round =>
    obtain ⟨k, hk, rfl, hown, hkr⟩ := hrel
    have hl := h.l
    by_cases hlt : k < n
    · have hlen : (L.take (k * 128)).length = k * 128 := by rw [List.length_take, hl]; omega
      have c0 : wr.cell? ⟨a, 0, none⟩ = some (.slice (some ⟨g, 0, none⟩) n n) := cellAt (hkr.get h.d (by simp)) rfl
      have hb := hkr.get h.b (by simp)
      have hlb := length_blockOf L n k hl hlt
      rw [hlen] at hown
      go_wp2_with (first
        | (at_builtin; refine wpList_append_own _ rfl (.tmp 20) (.tmp 27) 58 rfl w.heap.size 5 ie (.int .u8 0) 1 1 Tryz.underlying58 hie hz1 hz2 hz3 rfl (by decide) u3 (k * 128) _ rfl hown ⟨g, k * 128, none⟩ 128 128 (u8s (blockOf L k)) rfl (by rw [length_u8s, hlb]) (block_src k hb) (one_u8s _) (by unfold maxLen; omega) (by omega) hkr.size ?_; intro v2 w2 hown2 hgr2 _))
      have hk2 : Kept [] w w2 := by
        refine hkr.trans2 (grown_kept hgr2 u3.ownBlock.toList (by intro x hx; rw [hx]; simp)) ?_
        intro x hx
        have hx' : u3.ownBlock = some x := by cases hu : u3.ownBlock with | none => rw [hu] at hx; cases hx | some y => rw [hu] at hx; simp at hx; rw [hx]
        exact Or.inr (hown.lt x hx').1
      have hown3 : w2.ownsRow w.heap.size 5 1 v2 (L.take ((k + 1) * 128)).length (u8s (L.take ((k + 1) * 128))) := by
        have e : u8s (L.take (k * 128)) ++ u8s (blockOf L k) = u8s (L.take ((k + 1) * 128)) := by rw [← take_block]; simp [u8s]
        rw [e] at hown2
        have : (L.take ((k + 1) * 128)).length = k * 128 + 128 := by rw [List.length_take, hl]; omega
        rw [this]; exact hown2
      clear hown2 hgr2 hown c0
      go_roundw
      case rel => exact ⟨k + 1, by omega, by go_num, hown3, hk2⟩
      case measure => simp [intOf]; omega
    · have hkn : k = n := by omega
      subst hkn
      have hLl : L.take (k * 128) = L := List.take_of_length_le (by omega)
      rw [hLl] at hown
      have hcv := convert_owned hown
      clear hLl hl
      go_wp2
      go_ret
      exact ⟨rfl, hkr⟩

end Go.Proofs.YtloihcnbcknbnaaGreatDoor
