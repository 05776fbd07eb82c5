import Derived.Test.YtnofaofjgjgkgaaGreatDoorHeadC
namespace Go.Proofs.YtnofaofjgjgkgaaGreatDoor
open Go.RowKit

theorem mRead (a : Addr) (w : World) : (Go.method 316 37 (.pointer (some a)) "Read").run Tryz.prog w = .ok (131, .pointer (some a)) w := by kernel_rfl
theorem mWrite (a : Addr) (w : World) : (Go.method 316 37 (.pointer (some a)) "Write").run Tryz.prog w = .ok (132, .pointer (some a)) w := by kernel_rfl
theorem mFlush (a : Addr) (w : World) : (Go.method 316 37 (.pointer (some a)) "Flush").run Tryz.prog w = .ok (130, .pointer (some a)) w := by kernel_rfl
theorem mBlocks (a : Addr) (w : World) : (Go.method 316 37 (.pointer (some a)) "Blocks").run Tryz.prog w = .ok (129, .pointer (some a)) w := by kernel_rfl
theorem zblk (w : World) : (Instr.alloc 94 true (.tuple #[])).run Tryz.prog w = .ok (.pointer (some ⟨w.heap.size, 0, none⟩)) (w.alloc (.cells (u8s (List.replicate 128 0)).toArray 94)) := by kernel_rfl

/-- a volume on a device -/
def Vol (w : World) (v a : Nat) : Prop := w.heap[v]? = some (.cells #[.iface 37 (.pointer (some ⟨a, 0, none⟩))] 147 (0, 0))
/-- a device that has only been read -/
def DevK (a g n : Nat) (L : List UInt8) (wr t : Int) (w w' : World) : Prop := (∃ c', Dev w' a g n L c' wr t) ∧ Kept [a] w w'

set_option maxRecDepth 100000 in
set_option maxHeartbeats 1000000 in
theorem VBlock_any (v a g n : Nat) (L : List UInt8) (c wr t : Int) (i : Nat) (w : World) (hv : Vol w v a) (h : Dev w a g n L c wr t) (hi : i < n) (hn : n ≤ 1000) :
    Calls Tryz.prog 94 #[.pointer (some ⟨v, 0, none⟩), .int .i64 i] w fun e w' => e = .returned (.agg (u8s (blockOf L i)).toArray) ∧ DevK a g n L wr t w w' := by
  have m1 := mRead
  have nva : v ≠ a := ne_tag hv h.d (by decide)
  have hlv := lt_heap hv
  have hla := lt_heap h.d
  have hlb := length_blockOf L n i h.l hi
  go_enter Tryz.func94, Tryz.ntmps94
  go_wp2_with (first
    | (refine wpList_alloc_d rfl 4 rfl 94 rfl _ (zblk _) ?_; intro w1 hn1 hk1 hs1; have HS1 : Hid _ := hs1; clear hs1; have c1 : w1.cell? ⟨v, 0, none⟩ = some (.iface 37 (.pointer (some ⟨a, 0, none⟩))) := cellAt (hk1.get hv (by simp)) rfl)
    | (go_at_call 131; refine (Read_any a g n L c wr t i w1 (h.kept hk1 (by simp) (by simp)) hi hn).mono ?_; rintro e w2 ⟨r, rfl, hr2, hrs2, hd2, hk2⟩)
    | (refine wpList_alloc_d rfl 7 rfl 94 rfl _ (zblk _) ?_; intro w3 hn3 hk3 hs3; have HS3 : Hid _ := hs3; clear hs3; have hr3 := hk3.get hr2 (by simp))
    | (refine upon_copy_k 109 109 5 Tryz.underlying109 su8 w2.heap.size 0 128 128 ⟨r, 0, none⟩ 128 128 (u8s (List.replicate 128 0)) 94 hn3 (u8s (blockOf L i)) (by rw [length_u8s, hlb]; exact (Nat.min_self 128).symm) (row_src hr3) (by rw [length_u8s, length_u8s, hlb, List.length_replicate]; omega) (one_u8s _) ?_; intro w4 hg4 hk4; rw [splice_whole _ _ (by rw [length_u8s, length_u8s, hlb, List.length_replicate])] at hg4)
    | (refine wpList_load_row rfl 94 (.tmp 7) rfl w2.heap.size rfl 94 (u8s (blockOf L i)).toArray (0, 0) _ hg4 Tryz.underlying94 rfl (by rw [sblk]; simp [length_u8s, hlb]) ?_)
    | (refine wpList_store_k rfl 94 (.tmp 4) (.tmp 26) rfl w.heap.size (u8s (blockOf L i)).toArray rfl rfl 94 _ (hk4.get (hk3.get (hk2.get hn1 (by simp; omega)) (by simp)) (by have := hk2.size; have := lt_heap hn1; simp; omega)) (by rw [sblk]; simp [length_u8s, hlb]) (by simp [length_u8s, hlb]) (all_of (one_u8s _)) ?_; intro w5 hg5 hk5))
  refine bodyPost_ret (results_cell_row rfl _ w5 w.heap.size 94 _ (0, 0) _ rfl hg5 Tryz.underlying94 rfl (by rw [sblk]; simp [length_u8s, hlb])) rfl ?_
  obtain ⟨c', hd2⟩ := hd2
  have hlg := lt_heap h.b
  have hz1 := HS1.out
  have hz2 := hk2.size
  refine ⟨rfl, ⟨c', ((hd2.kept hk3 (by simp) (by simp)).kept hk4 (by simp; omega) (by simp; omega)).kept hk5 (by simp; omega) (by simp; omega)⟩, ?_⟩
  refine Kept.trans2 (Kept.trans2 (Kept.trans2 (Kept.trans2 (hk1.mono (by simp)) hk2 (by simp)) hk3 (by simp)) hk4 ?_) hk5 ?_
  · intro x hx; simp at hx; subst hx; exact Or.inr (by omega)
  · intro x hx; simp at hx; subst hx; exact Or.inr (Nat.le_refl _)

end Go.Proofs.YtnofaofjgjgkgaaGreatDoor
