import Derived.Test.YtnofaofjgjgkgaaGreatDoorApiA
namespace Go.Proofs.YtnofaofjgjgkgaaGreatDoor
open Go.RowKit

def zl (n : Nat) : List Value := List.replicate n (.int .u8 0)
theorem length_zl (n : Nat) : (zl n).length = n := by simp [zl]
theorem mk128 (w : World) : (Instr.makeSlice 109 (.int .i64 128) (.int .i64 128)).run Tryz.prog w = .ok (.slice (some ⟨w.heap.size, 0, none⟩) 128 128) (w.alloc (.cells (zl 128).toArray 5)) := by kernel_rfl
theorem su8 : (Tryz.prog.info? 5).map (·.size) = some 1 := by kernel_rfl

structure Dev (w : World) (a g n : Nat) (L : List UInt8) (c wr t : Int) : Prop where
  d : w.heap[a]? = some (.cells (dcells (.slice (some ⟨g, 0, none⟩) n n) (.slice none 0 0) c wr t) 93 (0, 0))
  b : w.heap[g]? = some (.cells (u8s L).toArray 94 (0, 0))
  l : L.length = n * 128

theorem Dev.ne {w : World} {a g n : Nat} {L : List UInt8} {c wr t : Int} (h : Dev w a g n L c wr t) : a ≠ g := ne_tag h.d h.b (by decide)
theorem Dev.kept {S : List Nat} {w w' : World} {a g n : Nat} {L : List UInt8} {c wr t : Int} (h : Dev w a g n L c wr t) (k : Kept S w w') (ha : a ∉ S) (hg : g ∉ S) : Dev w' a g n L c wr t :=
  ⟨k.get h.d ha, k.get h.b hg, h.l⟩

def blockOf (L : List UInt8) (i : Nat) : List UInt8 := (L.drop (i * 128)).take 128
theorem length_blockOf (L : List UInt8) (n i : Nat) (h : L.length = n * 128) (hi : i < n) : (blockOf L i).length = 128 := by
  simp [blockOf, h]; omega

theorem block_src {w : World} {g : Nat} {L : List UInt8} (i : Nat) (hb : w.heap[g]? = some (.cells (u8s L).toArray 94 (0, 0))) :
    ∀ j v, (u8s (blockOf L i))[j]? = some v → w.cell? ((⟨g, i * 128, none⟩ : Addr).add j) = some v := by
  intro j v hv
  have : (⟨g, i * 128, none⟩ : Addr).add j = ⟨g, i * 128 + j, none⟩ := by simp [Addr.add]
  rw [this, cell_of_row _ _ _ _ _ _ hb]
  rw [u8s_get] at hv
  simp only [blockOf, List.getElem?_take] at hv
  by_cases hj : j < 128
  · simp only [hj, if_true, List.getElem?_drop] at hv
    simp [u8s_get, hv]
  · simp [hj] at hv

set_option maxRecDepth 100000 in
set_option maxHeartbeats 400000 in
theorem Read_any (a g n : Nat) (L : List UInt8) (c wr t : Int) (i : Nat) (w : World) (h : Dev w a g n L c wr t) (hi : i < n) (_hn : n ≤ 1000) :
    Calls Tryz.prog 131 #[.pointer (some ⟨a, 0, none⟩), .int .i64 i] w fun e w' => ∃ r, e = .returned (.tuple #[.slice (some ⟨r, 0, none⟩) 128 128, .nilIface]) ∧
      w'.heap[r]? = some (.cells (u8s (blockOf L i)).toArray 5 (0, 0)) ∧ w.heap.size ≤ r ∧ (∃ c', Dev w' a g n L c' wr t) ∧ Kept [a] w w' := by
  have mk := mk128
  go_enter Tryz.func131, Tryz.ntmps131
  go_wp2_with fail
  refine (fails_any a _ _ c wr t w h.d).mono ?_
  rintro e w1 ⟨rfl, hd1, hk1, -⟩
  go_wp2_with fail
  refine (none_any a _ n n _ _ wr t i w1 hd1 (by omega) (by omega)).mono ?_
  rintro e w2 ⟨rfl, rfl⟩
  have c0 : w2.cell? ⟨a, 0, none⟩ = some (.slice (some ⟨g, 0, none⟩) n n) := cellAt hd1 rfl
  have hb2 := hk1.get h.b (by simpa using h.ne.symm)
  have hlb := length_blockOf L n i h.l hi
  have hsz := lt_heap hd1
  have hsg := lt_heap hb2
  go_wp2_with (first
    | (at_make; refine wpList_make_k rfl _ _ _ rfl _ _ rfl rfl _ _ (mk128 w2) ?_; intro w3 hn3 hk3 _; have hd3 := hk3.get hd1 (by simp);  have hb3 := hk3.get hb2 (by simp); have c03 : w3.cell? ⟨a, 0, none⟩ = some (.slice (some ⟨g, 0, none⟩) n n) := cellAt hd3 rfl)
    | (refine upon_copy_k 109 109 5 Tryz.underlying109 su8 w2.heap.size 0 128 128 ⟨g, i * 128, none⟩ 128 128 (zl 128) 5 hn3 (u8s (blockOf L i)) (by rw [length_u8s, hlb]; exact (Nat.min_self 128).symm) (block_src i hb3) (by rw [length_u8s, length_zl, hlb]; omega) (one_u8s _) ?_; intro w4 hg4 hk4; have hd4 := hk4.get hd3 (by simp; omega); have c04 : w4.cell? ⟨a, 1, none⟩ = some (.slice none 0 0) := cellAt hd4 rfl))
  refine wp_loop_rounds 1 ?_
  rw [rounds_succ]
  go_wp2
  go_ret2
  refine ⟨w2.heap.size, rfl, ?_, hk1.size, ⟨_, hd4, hk4.get hb3 (by simp; omega), h.l⟩, (hk1.trans2 hk3 (by simp)).trans2 hk4 ?_⟩
  · rw [splice_whole _ _ (by rw [length_zl, length_u8s, hlb])] at hg4; exact hg4
  · intro x hx; simp at hx; subst hx; exact Or.inr hk1.size

end Go.Proofs.YtnofaofjgjgkgaaGreatDoor
