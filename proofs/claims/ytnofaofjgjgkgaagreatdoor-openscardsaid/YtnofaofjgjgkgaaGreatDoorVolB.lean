import Derived.Test.YtnofaofjgjgkgaaGreatDoorVolA
namespace Go.Proofs.YtnofaofjgjgkgaaGreatDoor
open Go.RowKit

theorem Wrote.mono {a g n i : Nat} {B : List UInt8} {t : Int} {w w0 w' : World} (h : Wrote a g n i B t w0 w') (k : Kept [] w w0) : Wrote a g n i B t w w' := by
  obtain ⟨q, cap, c', wr', h1, h2, h3, h4⟩ := h
  exact ⟨q, cap, c', wr', h1, h2, Nat.le_trans k.size h3, (k.mono (by simp)).trans h4⟩

set_option maxRecDepth 100000 in
set_option maxHeartbeats 1000000 in
theorem VLay_any (v a g n : Nat) (L B : List UInt8) (c wr t : Int) (i : Nat) (w : World) (hv : Vol w v a) (h : Dev w a g n L c wr t) (hi : i < n) (hB : B.length = 128) :
    Calls Tryz.prog 87 #[.pointer (some ⟨v, 0, none⟩), .int .i64 i, .agg (u8s B).toArray] w fun e w' => e = .returned (.tuple #[]) ∧ Wrote a g n i B t w w' := by
  have m1 := mWrite
  have hla := lt_heap h.d
  have k1 := (Kept.refl [] w).alloc (.cells (u8s B).toArray 94)
  have c1 : (w.alloc (.cells (u8s B).toArray 94)).cell? ⟨v, 0, none⟩ = some (.iface 37 (.pointer (some ⟨a, 0, none⟩))) := cellAt (k1.get hv (by simp)) rfl
  have h1 := h.kept k1 (by simp) (by simp)
  have hb := heap_alloc_new w (.cells (u8s B).toArray 94)
  generalize hw1 : w.alloc (.cells (u8s B).toArray 94) = w1 at *
  have HW : Hid (w.alloc (.cells (u8s B).toArray 94) = w1) := hw1
  clear hw1
  go_enter Tryz.func87, Tryz.ntmps87
  go_wp2
  rw [HW.out]
  go_region_with (go_at_call 132; refine (Write_any a g n w.heap.size L B 94 c wr t i _ (by exact ⟨h1.d, h1.b, h1.l⟩) hi hB (by exact hb) (by omega)).mono ?_; rintro e w2 ⟨rfl, hw2⟩)
  have hw2' := (hw2.mono (Kept.refl [] w1).drew).mono k1
  clear hw2
  go_wp2
  go_end0
  exact ⟨rfl, hw2'⟩

set_option maxRecDepth 100000 in
set_option maxHeartbeats 1000000 in
theorem Settle_any (v a g n i : Nat) (L B : List UInt8) (t : Int) (w0 w : World) (hv : Vol w v a) (hw : Wrote a g n i B t w0 w) (hb : w.heap[g]? = some (.cells (u8s L).toArray 94 (0, 0))) (hL : L.length = n * 128) (hB : B.length = 128) (hi : i < n) (hn : n ≤ 1000) :
    Calls Tryz.prog 89 #[.pointer (some ⟨v, 0, none⟩)] w fun e w' => e = .returned (.tuple #[]) ∧ Flushed a g n (setBlock L i B) t w w' := by
  obtain ⟨q, cap, c', wr', h1, ⟨sp, h2⟩, h3, h4⟩ := hw
  have m1 := mFlush
  have c1 : w.cell? ⟨v, 0, none⟩ = some (.iface 37 (.pointer (some ⟨a, 0, none⟩))) := cellAt hv rfl
  go_enter Tryz.func89, Tryz.ntmps89
  go_wp2_with (go_at_call 130; refine (Flush_any a g n q cap i L B sp c' wr' t w h1 h2 hb hL hB hi hn).mono ?_; rintro e w2 ⟨rfl, hw2⟩)
  go_end0
  exact ⟨rfl, hw2⟩

end Go.Proofs.YtnofaofjgjgkgaaGreatDoor
