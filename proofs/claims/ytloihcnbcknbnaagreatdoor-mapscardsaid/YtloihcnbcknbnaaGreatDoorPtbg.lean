import Derived.Test.YtloihcnbcknbnaaGreatDoorPtbf
namespace Go.Proofs.YtloihcnbcknbnaaGreatDoor
open Go.RowKit

theorem mRead (a : Addr) (w : World) : (Go.method 395 26 (.pointer (some a)) "Read").run Tryz.prog w = .ok (186, .pointer (some a)) w := by kernel_rfl
theorem mWrite (a : Addr) (w : World) : (Go.method 395 26 (.pointer (some a)) "Write").run Tryz.prog w = .ok (187, .pointer (some a)) w := by kernel_rfl
theorem mFlush (a : Addr) (w : World) : (Go.method 395 26 (.pointer (some a)) "Flush").run Tryz.prog w = .ok (185, .pointer (some a)) w := by kernel_rfl
theorem mBlocks (a : Addr) (w : World) : (Go.method 395 26 (.pointer (some a)) "Blocks").run Tryz.prog w = .ok (184, .pointer (some a)) w := by kernel_rfl
theorem zblk (w : World) : (Instr.alloc 84 true (.tuple #[])).run Tryz.prog w = .ok (.pointer (some ⟨w.heap.size, 0, none⟩)) (w.alloc (.cells (u8s (List.replicate 128 0)).toArray 84)) := by kernel_rfl

/-- a volume on a device -/
def Vol (w : World) (v a n : Nat) : Prop := w.heap[v]? = some (.cells #[.iface 26 (.pointer (some ⟨a, 0, none⟩)), .int .i64 n] 157 (0, 0))
/-- a device that has only been read -/
def DevK (a g n : Nat) (L : List UInt8) (wr t : Int) (w w' : World) : Prop := (∃ c', Dev w' a g n L c' wr t) ∧ Kept [a] w w'

set_option maxRecDepth 100000 in
set_option maxHeartbeats 1000000 in
theorem VBlock_any (v a g n : Nat) (L : List UInt8) (c wr t : Int) (i : Nat) (w : World) (hv : Vol w v a n) (h : Dev w a g n L c wr t) (hi : i < n) (hn : n ≤ 1000) :
    Calls Tryz.prog 125 #[.pointer (some ⟨v, 0, none⟩), .int .i64 i] w fun e w' => e = .returned (.agg (u8s (blockOf L i)).toArray) ∧ DevK a g n L wr t w w' := by
  have m1 := mRead
  have nva : v ≠ a := ne_tag hv h.d (by decide)
  have hlv := lt_heap hv
  have hla := lt_heap h.d
  have hlb := length_blockOf L n i h.l hi
  go_enter Tryz.func125, Tryz.ntmps125
  go_wp2_with (first
    | (refine wpList_alloc_d rfl 4 rfl 84 rfl _ (zblk _) ?_; intro w1 hn1 hk1 hs1; have HS1 : Hid _ := hs1; clear hs1; have c1 : w1.cell? ⟨v, 0, none⟩ = some (.iface 26 (.pointer (some ⟨a, 0, none⟩))) := cellAt (hk1.get hv (by simp)) rfl)
    | (go_at_call 186; refine (Read_any a g n L c wr t i w1 (h.kept hk1 (by simp) (by simp)) hi hn).mono ?_; rintro e w2 ⟨r, rfl, hr2, hrs2, hd2, hk2⟩)
    | (refine wpList_alloc_d rfl 7 rfl 84 rfl _ (zblk _) ?_; intro w3 hn3 hk3 hs3; have HS3 : Hid _ := hs3; clear hs3; have hr3 := hk3.get hr2 (by simp))
    | (refine upon_copy_k 58 58 5 Tryz.underlying58 su8 w2.heap.size 0 128 128 ⟨r, 0, none⟩ 128 128 (u8s (List.replicate 128 0)) 84 hn3 (u8s (blockOf L i)) (by rw [length_u8s, hlb]; exact (Nat.min_self 128).symm) (row_src hr3) (by rw [length_u8s, length_u8s, hlb, List.length_replicate]; omega) (one_u8s _) ?_; intro w4 hg4 hk4; rw [splice_whole _ _ (by rw [length_u8s, length_u8s, hlb, List.length_replicate])] at hg4)
    | (refine wpList_load_row rfl 84 (.tmp 7) rfl w2.heap.size rfl 84 (u8s (blockOf L i)).toArray (0, 0) _ hg4 Tryz.underlying84 rfl (by rw [sblk]; simp [length_u8s, hlb]) ?_)
    | (refine wpList_store_k rfl 84 (.tmp 4) (.tmp 26) rfl w.heap.size (u8s (blockOf L i)).toArray rfl rfl 84 _ (hk4.get (hk3.get (hk2.get hn1 (by simp; omega)) (by simp)) (by have := hk2.size; have := lt_heap hn1; simp; omega)) (by rw [sblk]; simp [length_u8s, hlb]) (by simp [length_u8s, hlb]) (all_of (one_u8s _)) ?_; intro w5 hg5 hk5))
  refine bodyPost_ret (results_cell_row rfl _ w5 w.heap.size 84 _ (0, 0) _ rfl hg5 Tryz.underlying84 rfl (by rw [sblk]; simp [length_u8s, hlb])) rfl ?_
  obtain ⟨c', hd2⟩ := hd2
  have hlg := lt_heap h.b
  have hz1 := HS1.out
  have hz2 := hk2.size
  refine ⟨rfl, ⟨c', ((hd2.kept hk3 (by simp) (by simp)).kept hk4 (by simp; omega) (by simp; omega)).kept hk5 (by simp; omega) (by simp; omega)⟩, ?_⟩
  refine Kept.trans2 (Kept.trans2 (Kept.trans2 (Kept.trans2 (hk1.mono (by simp)) hk2 (by simp)) hk3 (by simp)) hk4 ?_) hk5 ?_
  · intro x hx; simp at hx; subst hx; exact Or.inr (by omega)
  · intro x hx; simp at hx; subst hx; exact Or.inr (Nat.le_refl _)

end Go.Proofs.YtloihcnbcknbnaaGreatDoor

namespace Go.Proofs.YtloihcnbcknbnaaGreatDoor
open Go.RowKit

theorem Wrote.mono {a g n i : Nat} {B : List UInt8} {t : Int} {w w0 w' : World} (h : Wrote a g n i B t w0 w') (k : Kept [] w w0) : Wrote a g n i B t w w' := by
  obtain ⟨q, cap, c', wr', h1, h2, h3, h4⟩ := h
  exact ⟨q, cap, c', wr', h1, h2, Nat.le_trans k.size h3, (k.mono (by simp)).trans h4⟩

set_option maxRecDepth 100000 in
set_option maxHeartbeats 1000000 in
theorem VLay_any (v a g n : Nat) (L B : List UInt8) (c wr t : Int) (i : Nat) (w : World) (hv : Vol w v a n) (h : Dev w a g n L c wr t) (hi : i < n) (hB : B.length = 128) :
    Calls Tryz.prog 98 #[.pointer (some ⟨v, 0, none⟩), .int .i64 i, .agg (u8s B).toArray] w fun e w' => e = .returned (.tuple #[]) ∧ Wrote a g n i B t w w' := by
  have m1 := mWrite
  have hla := lt_heap h.d
  have k1 := (Kept.refl [] w).alloc (.cells (u8s B).toArray 84)
  have c1 : (w.alloc (.cells (u8s B).toArray 84)).cell? ⟨v, 0, none⟩ = some (.iface 26 (.pointer (some ⟨a, 0, none⟩))) := cellAt (k1.get hv (by simp)) rfl
  have h1 := h.kept k1 (by simp) (by simp)
  have hb := heap_alloc_new w (.cells (u8s B).toArray 84)
  generalize hw1 : w.alloc (.cells (u8s B).toArray 84) = w1 at *
  have HW : Hid (w.alloc (.cells (u8s B).toArray 84) = w1) := hw1
  clear hw1
  go_enter Tryz.func98, Tryz.ntmps98
  go_wp2
  rw [HW.out]
  go_region_with (go_at_call 187; refine (Write_any a g n w.heap.size L B 84 c wr t i _ (by exact ⟨h1.d, h1.b, h1.l⟩) hi hB (by exact hb) (by omega)).mono ?_; rintro e w2 ⟨rfl, hw2⟩)
  have hw2' := (hw2.mono (Kept.refl [] w1).drew).mono k1
  clear hw2
  go_wp2
  go_end0
  exact ⟨rfl, hw2'⟩

set_option maxRecDepth 100000 in
set_option maxHeartbeats 1000000 in
theorem Settle_any (v a g n i : Nat) (L B : List UInt8) (t : Int) (w0 w : World) (hv : Vol w v a n) (hw : Wrote a g n i B t w0 w) (hb : w.heap[g]? = some (.cells (u8s L).toArray 84 (0, 0))) (hL : L.length = n * 128) (hB : B.length = 128) (hi : i < n) (hn : n ≤ 1000) :
    Calls Tryz.prog 100 #[.pointer (some ⟨v, 0, none⟩)] w fun e w' => e = .returned (.tuple #[]) ∧ Flushed a g n (setBlock L i B) t w w' := by
  obtain ⟨q, cap, c', wr', h1, ⟨sp, h2⟩, h3, h4⟩ := hw
  have m1 := mFlush
  have c1 : w.cell? ⟨v, 0, none⟩ = some (.iface 26 (.pointer (some ⟨a, 0, none⟩))) := cellAt hv rfl
  go_enter Tryz.func100, Tryz.ntmps100
  go_wp2_with (go_at_call 185; refine (Flush_any a g n q cap i L B sp c' wr' t w h1 h2 hb hL hB hi hn).mono ?_; rintro e w2 ⟨rfl, hw2⟩)
  go_end0
  exact ⟨rfl, hw2⟩

end Go.Proofs.YtloihcnbcknbnaaGreatDoor
