import Derived.Test.YtcklgafpgdhnaabGreatDoorPtbe
import Derived.Test.YtcklgafpgdhnaabGreatDoorPtap
import Derived.Test.YtcklgafpgdhnaabGreatDoorPtaq
import Derived.Test.YtcklgafpgdhnaabGreatDoorPtak
set_option maxRecDepth 100000
set_option maxHeartbeats 4000000
open List renaming getElem_toArray → zA, getElem_cons_succ → zB, getElem_cons_zero → zC, setIfInBounds_toArray → zD, set_cons_succ → zE, set_cons_zero → zF
namespace Go.Proofs.YtcklgafpgdhnaabGreatDoor
open Go.RowKit

theorem Use_ok (n b : Nat) (us : List Nat) (i : Nat) (w : World) (h : SpM w b us) (hi : i < 70000) (hl : us.length < 70000) (h1 : i < n) (h2 : i ∉ us) :
  Calls Tryz.prog 60 #[.agg #[.int .i64 n, .map (some b)], .int .i64 i] w fun e w' => e = .returned (.tuple #[]) ∧ SpM w' b (i :: us) ∧ Kept [b] w w' := by
 have k1 := (Kept.refl [] w).alloc (.cells #[.int .i64 n, .map (some b)] 108)
 have n1 := heap_alloc_new w (.cells #[.int .i64 n, .map (some b)] 108)
 have hs1 := h.kept k1 (by simp)
 have g0 : ¬ (i : Int) < 0 := by omega
 have g1 : ¬ (n : Int) ≤ i := by omega
 have HI : Hid (Calls _ _ _ _ _) := inUse_any n b us i _ hs1 hi
 have hd : decide (i ∈ us) = false := by simpa using h2
 rw [hd] at HI
 go_enter Tryz.func60, Tryz.ntmps60
 go_wp2_with (go_at_call 92; refine HI.out.mono ?_; rintro e w2 ⟨rfl, hk2⟩; obtain ⟨w3, hput, hs3, hk3⟩ := (hs1.kept hk2 (by simp)).put i hi hl; have c2 : w2.cell? ⟨w.heap.size, 1, none⟩ = some (.map (some b)) := cellAt (hk2.get n1 (by simp)) rfl)
 go_end0
 exact ⟨rfl, hs3, ((k1.trans hk2).mono (by simp)).trans hk3⟩

theorem Use_bad (n b : Nat) (us : List Nat) (i : Nat) (w : World) (h : SpM w b us) (hi : i < 70000) (h1 : ¬ (i < n ∧ i ∉ us)) (hT : Tab w) :
  Calls Tryz.prog 60 #[.agg #[.int .i64 n, .map (some b)], .int .i64 i] w fun e w' => Thr 7 e w' ∧ Kept [] w w' := by
 have k1 := (Kept.refl [] w).alloc (.cells #[.int .i64 n, .map (some b)] 108)
 have n1 := heap_alloc_new w (.cells #[.int .i64 n, .map (some b)] 108)
 have hs1 := h.kept k1 (by simp)
 have g0 : ¬ (i : Int) < 0 := by omega
 have HI : Hid (Calls _ _ _ _ _) := inUse_any n b us i _ hs1 hi
 have hT1 := hT.k k1
 by_cases hn : i < n
 ·have g1 : ¬ (n : Int) ≤ i := by omega
  have hd : decide (i ∈ us) = true := by
   by_cases hm : i ∈ us
   ·simpa using hm
   ·exact absurd ⟨hn, hm⟩ h1
  rw [hd] at HI
  go_enter Tryz.func60, Tryz.ntmps60
  go_wp2_with (first
   | (go_at_call 92; refine HI.out.mono ?_; rintro e w2 ⟨rfl, hk2⟩; have hT2 := hT1.k hk2)
   | (go_at_call 93; refine (Itoa_any hT2 i hi).mono ?_; rintro e w3 ⟨s3, rfl, hs3, hk3⟩; have hs3' : ¬ 9223372036854775807 < 13 + s3.size := (by omega))
   | (go_at_call 46; refine (Throw_v _ _ _).mono ?_; rintro e w4 ⟨ht, hk4⟩; obtain ⟨f, o, rfl, hf⟩ := ht.ex))
  exact ⟨rfl, ht, ((k1.trans hk2).trans hk3).trans hk4⟩
 ·have g1 : (n : Int) ≤ i := by omega
  go_enter Tryz.func60, Tryz.ntmps60
  go_wp2_with (first
   | (go_at_call 93; refine (Itoa_any hT1 i hi).mono ?_; rintro e w3 ⟨s3, rfl, hs3, hk3⟩; have hs3' : ¬ 9223372036854775807 < 13 + s3.size := (by omega))
   | (go_at_call 46; refine (Throw_v _ _ _).mono ?_; rintro e w4 ⟨ht, hk4⟩; obtain ⟨f, o, rfl, hf⟩ := ht.ex))
  exact ⟨rfl, ht, (k1.trans hk3).trans hk4⟩

def OfR (n : Nat) (w : World) (e : Ending) (w' : World) : Prop := ∃ b, e = .returned (.agg #[.int .i64 n, .map (some b)]) ∧ SpM w' b [1, 0] ∧ w.heap.size ≤ b ∧ Kept [] w w'

theorem mkmap (w : World) : (Instr.makeMap 106 none).run Tryz.prog w = .ok (.map (some w.heap.size)) (w.alloc (.map #[] 0)) := by kernel_rfl

theorem Of_any (n : Nat) (w : World) (hn : 8 ≤ n) : Calls Tryz.prog 57 #[.int .i64 n, .int .i64 2] w (OfR n w) := by
 have hmk := mkmap
 have k1 := (Kept.refl [] w).alloc (.cells #[.int .i64 0, .map none] 108)
 have n1 := heap_alloc_new w (.cells #[.int .i64 0, .map none] 108)
 have k2 := (Kept.refl [] (w.alloc (.cells #[.int .i64 0, .map none] 108))).alloc (.map #[] 0)
 have s2 := SpM.made (w.alloc (.cells #[.int .i64 0, .map none] 108))
 have hz1 : (w.alloc (.cells #[.int .i64 0, .map none] 108)).heap.size = w.heap.size + 1 := World.size_alloc _ _
 rw [hz1] at s2
 have k3 := (Kept.refl [] ((w.alloc (.cells #[.int .i64 0, .map none] 108)).alloc (.map #[] 0))).alloc (.cells #[.int .i64 n, .map (some (w.heap.size + 1))] 108)
 have n3 := heap_alloc_new ((w.alloc (.cells #[.int .i64 0, .map none] 108)).alloc (.map #[] 0)) (.cells #[.int .i64 n, .map (some (w.heap.size + 1))] 108)
 have hz2 : ((w.alloc (.cells #[.int .i64 0, .map none] 108)).alloc (.map #[] 0)).heap.size = w.heap.size + 1 + 1 := by rw [World.size_alloc, hz1]
 rw [hz2] at n3
 have s3 := s2.kept k3 (by simp)
 have m3 := k3.get (k2.get n1 (by simp)) (by simp)
 have hk3 := (k1.trans k2).trans k3
 have hz3 := hk3.size
 generalize hW3 : ((w.alloc (.cells #[.int .i64 0, .map none] 108)).alloc (.map #[] 0)).alloc (.cells #[.int .i64 n, .map (some (w.heap.size + 1))] 108) = w3 at *
 have HW3 : Hid _ := hW3
 have U0 : Hid (Calls _ _ _ _ _) := Use_ok n (w.heap.size + 1) [] 0 w3 s3 (by omega) (by simp) (by omega) (by simp)
 have U1 : Hid (∀ W, SpM W (w.heap.size + 1) [0] → Calls Tryz.prog 60 #[.agg #[.int .i64 n, .map (some (w.heap.size + 1))], .int .i64 1] W fun e w' => e = .returned (.tuple #[]) ∧ SpM w' (w.heap.size + 1) [1, 0] ∧ Kept [w.heap.size + 1] W w') := fun W hs => Use_ok n (w.heap.size + 1) [0] 1 W hs (by omega) (by simp) (by omega) (by simp)
 have c0 : w3.cell? ⟨w.heap.size + 1 + 1, 0, none⟩ = some (.int .i64 n) := cellAt n3 rfl
 have c1 : w3.cell? ⟨w.heap.size + 1 + 1, 1, none⟩ = some (.map (some (w.heap.size + 1))) := cellAt n3 rfl
 clear hW3 k1 n1 k2 s2 k3 hz1 hz2
 go_enter Tryz.func57, Tryz.ntmps57
 go_wp2_with fail
 rw [HW3.out]
 go_wp2_with fail
 refine wp_loop_rounds 3 ?_
 rw [rounds_succ]
 go_wp2_with fail
 refine U0.out.mono ?_
 rintro e w4 ⟨rfl, s4, k4⟩
 have n4 := k4.get n3 (by simp)
 have m4 := k4.get m3 (by simp)
 have c40 : w4.cell? ⟨w.heap.size + 1 + 1, 0, none⟩ = some (.int .i64 n) := cellAt n4 rfl
 have c41 : w4.cell? ⟨w.heap.size + 1 + 1, 1, none⟩ = some (.map (some (w.heap.size + 1))) := cellAt n4 rfl
 go_wp2_with fail
 rw [rounds_succ]
 go_wp2_with fail
 refine (U1.out _ s4).mono ?_
 rintro e w5 ⟨rfl, s5, k5⟩
 have n5 := k5.get n4 (by simp)
 have m5 := k5.get m4 (by simp)
 have c50 : w5.cell? ⟨w.heap.size + 1 + 1, 0, none⟩ = some (.int .i64 n) := cellAt n5 rfl
 have c51 : w5.cell? ⟨w.heap.size + 1 + 1, 1, none⟩ = some (.map (some (w.heap.size + 1))) := cellAt n5 rfl
 have d50 : w5.cell? ⟨w.heap.size, 0, none⟩ = some (.int .i64 0) := cellAt m5 rfl
 have d51 : w5.cell? ⟨w.heap.size, 1, none⟩ = some (.map none) := cellAt m5 rfl
 have f50 : w5.frozen? ⟨w.heap.size, 0, none⟩ = false := frozen_of_row _ _ _ _ _ m5
 have f51 : w5.frozen? ⟨w.heap.size, 1, none⟩ = false := frozen_of_row _ _ _ _ _ m5
 go_wp2_with fail
 rw [rounds_succ]
 go_wp2
 have k6 : Kept [w.heap.size] w5 ((w5.setCell ⟨w.heap.size, 0, none⟩ (.int .i64 n)).setCell ⟨w.heap.size, 1, none⟩ (.map (some (w.heap.size + 1)))) := ((Kept.refl [w.heap.size] w5).setCell (p := ⟨w.heap.size, 0, none⟩) (Or.inl (by simp)) _).setCell (p := ⟨w.heap.size, 1, none⟩) (Or.inl (by simp)) _
 refine bodyPost_ret (results_cell_row rfl _ _ w.heap.size 108 #[.int .i64 n, .map (some (w.heap.size + 1))] (0, 0) _ rfl (setCellAt (i := 1) (.map (some (w.heap.size + 1))) (setCellAt (i := 0) (.int .i64 (n : Int)) m5)) Tryz.underlying108 rfl sspace) rfl ?_
 refine ⟨w.heap.size + 1, rfl, s5.kept k6 (by simp), by omega, ((hk3.trans2 k4 ?_).trans2 k5 ?_).trans2 k6 ?_⟩
 ·intro x hx; simp at hx; subst hx; exact Or.inr (by omega)
 ·intro x hx; simp at hx; subst hx; exact Or.inr (by omega)
 ·intro x hx; simp at hx; subst hx; exact Or.inr (Nat.le_refl _)

end Go.Proofs.YtcklgafpgdhnaabGreatDoor

namespace Go.Proofs.YtcklgafpgdhnaabGreatDoor
open Go.RowKit

theorem nodup_len : ∀ (n : Nat) (us : List Nat), us.Nodup → (∀ u ∈ us, u < n) → us.length ≤ n
 | 0, us, _, h => by
  cases us with
  | nil => simp
  | cons a r => have := h a (by simp); omega
 | n + 1, us, hn, h => by
  have h1 := nodup_len n (us.erase n) (hn.erase n) (fun u hu => by
   have h2 := h u (List.mem_of_mem_erase hu)
   have h3 : u ≠ n := fun e => by subst e; exact (hn.not_mem_erase) hu
   omega)
  by_cases hm : n ∈ us
  ·have := List.length_erase_of_mem hm
   omega
  ·rw [List.erase_of_not_mem hm] at h1; omega

theorem DQ.ka {w w' : World} {a : Nat} {bv : Value} {n : Nat} {cv : Value} {D : Dv} (h : DQ w a bv n cv D) (k : Kept (dfoot a bv cv) w w') : KA Tru w w' := ⟨k.size, fun _ _ _ _ _ ht hy => k.get hy (h.no hy ht)⟩
theorem SpM.ka {w w' : World} {b : Nat} {us : List Nat} (h : SpM w b us) (k : Kept [b] w w') : KA Tru w w' := ⟨k.size, fun y _ _ _ _ _ hy => k.get hy (by simp; exact h.ne hy)⟩
theorem owns_rowS {w : World} {base e size n : Nat} {v : Value} {xs : List Value} (h : w.ownsRow base e size v n xs) {y : Nat} (hy : v.ownBlock = some y) : ∃ cs t fr, w.heap[y]? = some (.cells cs t fr) := by
 obtain ⟨_, ⟨rfl, _⟩ | ⟨g, cap, cur, rfl, _, hg, _⟩⟩ := h
 ·cases hy
 ·cases hy
  exact ⟨_, _, _, hg⟩
theorem DQ.rowOf {w : World} {a : Nat} {bv : Value} {n : Nat} {cv : Value} {D : Dv} (h : DQ w a bv n cv D) : ∀ y ∈ dfoot a bv cv, ∃ cs t fr, w.heap[y]? = some (.cells cs t fr) := by
 intro y hy
 unfold dfoot at hy
 rcases List.mem_cons.1 hy with rfl | hy
 ·exact ⟨_, _, _, h.d⟩
 ·rcases List.mem_append.1 hy with hy | hy
  ·exact owns_rowS h.b (by simpa using hy)
  ·exact owns_rowS h.o (by simpa using hy)
theorem SpM.nd {w : World} {a : Nat} {bv : Value} {n : Nat} {cv : Value} {D : Dv} {b : Nat} {us : List Nat} (h : SpM w b us) (hd : DQ w a bv n cv D) : b ∉ dfoot a bv cv := by
 intro hm
 obtain ⟨cs, t, fr, hy⟩ := hd.rowOf b hm
 exact h.ne hy rfl

theorem Tab.rowOf {w : World} (h : Tab w) : ∃ cs t fr, w.heap[2]? = some (.cells cs t fr) := by
 obtain ⟨cs, fr, hy⟩ := h.row
 exact ⟨cs, _, fr, hy⟩
theorem Tab.ka {w w' : World} (h : Tab w) (k : KA Tru w w') : Tab w' := by
 obtain ⟨cs, fr, hy⟩ := h.row
 have hy' := k.row _ _ _ _ trivial (by decide) hy
 exact ⟨⟨cs, fr, hy'⟩, fun W hW => h.ito W (by rw [hW, hy', hy])⟩
theorem DQ.drew {w : World} {a : Nat} {bv : Value} {n : Nat} {cv : Value} {D : Dv} (h : DQ w a bv n cv D) : DQ w.drew a bv n cv D := h.k0 (Kept.refl [] w).drew
theorem ld_blk {w : World} {g : Nat} {B : List UInt8} (h : w.heap[g]? = some (.cells (u8s B).toArray 80 (0, 0))) (hB : B.length = 128) : (loadVar 80 ⟨g, 0, none⟩).run Tryz.prog w = .ok (.agg (u8s B).toArray) w := run_loadVar_row w g 80 80 _ (0, 0) _ h Tryz.underlying80 rfl (by rw [sblk]; simp [length_u8s, hB])
theorem wpList_cell_k {P : Program} {ops : Array Oper} {rest : List Oper} {o : Oper} {a : Act} {w : World} {Q : Exit → Act → World → Prop} (hgd : o.guard = none) (ty : TypeId) (x y : Operand) (ho : o.op = .store ty x y) (g j : Nat) (hx : a.eval x = .pointer (some ⟨g, j, none⟩)) (v : Value) (hy : a.eval y = v)
  (t : TypeId) (cs : Array Value) (hg : w.heap[g]? = some (.cells cs t (0, 0))) (hi : (P.info? ty).map (·.size) = some 1) (hv : v.oneCell' = true) (hj : j < cs.size)
  (h : ∀ w', w'.heap[g]? = some (.cells (cs.setIfInBounds j v) t (0, 0)) → Kept [g] w w' → wpList P ops Q rest (a.put o.dst undef) w') : wpList P ops Q (o :: rest) a w :=
 wpList_skip hgd _ (exec_store ty x y ho ⟨g, j, none⟩ hx v hy (run_store1 hi hv hg hj)) (h _ (setCellAt v hg) ((Kept.refl _ _).setCell (Or.inl (by simp)) _))

end Go.Proofs.YtcklgafpgdhnaabGreatDoor

namespace Go.Proofs.YtcklgafpgdhnaabGreatDoor
open Go.RowKit

theorem need_yes (w : World) : Calls Tryz.prog 141 #[.bool true] w fun e w' => e = .returned (.tuple #[]) ∧ w' = w := by
 go_enter Tryz.func141, Tryz.ntmps141
 go_wp2
 go_end0
 exact ⟨rfl, rfl⟩
theorem need_no (w : World) : Calls Tryz.prog 141 #[.bool false] w fun e w' => Thr 7 e w' ∧ Kept [] w w' := by
 go_enter Tryz.func141, Tryz.ntmps141
 go_wp2_with (go_at_call 46; refine (Throw_v _ _ _).mono ?_; rintro e w4 ⟨ht, hk4⟩; obtain ⟨f, o, rfl, hf⟩ := ht.ex)
 exact ⟨rfl, ht, hk4⟩

structure Rst (w : World) (q g : Nat) (B R : List UInt8) : Prop where
 v : w.heap[q]? = some (.cells #[.slice (some ⟨g, 124 - R.length, none⟩) R.length (R.length + 4)] 217 (0, 0))
 b : w.heap[g]? = some (.cells (u8s B).toArray 80 (0, 0))
 l : B.length = 128
 r : R.length ≤ 122
 e : R = (B.drop (124 - R.length)).take R.length
theorem Rst.k {w w' : World} {q g : Nat} {B R : List UInt8} (h : Rst w q g B R) (k : Kept [] w w') : Rst w' q g B R := ⟨k.get h.v (by simp), k.get h.b (by simp), h.l, h.r, h.e⟩
theorem Rst.ne {w : World} {q g : Nat} {B R : List UInt8} (h : Rst w q g B R) : g ≠ q := ne_tag h.b h.v (by decide)
theorem srest : (Tryz.prog.info? 217).map (·.size) = some 1 := by kernel_rfl
theorem Rst.part {w : World} {q g : Nat} {B R : List UInt8} (h : Rst w q g B R) (n : Nat) (hn : n ≤ R.length) : (B.drop (124 - R.length)).take n = R.take n := by
 conv => rhs; rw [h.e]
 rw [List.take_take, Nat.min_eq_left hn]
theorem Rst.next {w w' : World} {q g : Nat} {B R : List UInt8} (h : Rst w q g B R) (n : Nat) (hn : n ≤ R.length) (k : Kept [q] w w') (hv : w'.heap[q]? = some (.cells #[.slice (some ⟨g, 124 - R.length + n, none⟩) (R.length - n) (R.length + 4 - n)] 217 (0, 0))) : Rst w' q g B (R.drop n) := by
 have hr := h.r
 have hl : (R.drop n).length = R.length - n := List.length_drop ..
 refine ⟨?_, k.get h.b (by simp; exact h.ne), h.l, by omega, ?_⟩
 ·rw [hl, show 124 - (R.length - n) = 124 - R.length + n by omega, show R.length - n + 4 = R.length + 4 - n by omega]
  exact hv
 ·rw [hl, show 124 - (R.length - n) = 124 - R.length + n by omega, ← List.drop_drop, ← List.drop_take, ← h.e]

theorem bytes_ok (q g : Nat) (B R : List UInt8) (n : Nat) (w : World) (h : Rst w q g B R) (hn : n ≤ R.length) :
  Calls Tryz.prog 149 #[.pointer (some ⟨q, 0, none⟩), .int .i64 (n : Nat)] w fun e w' => e = .returned (.slice (some ⟨g, 124 - R.length, none⟩) n (R.length + 4)) ∧ Rst w' q g B (R.drop n) ∧ Kept [q] w w' := by
 have c0 : w.cell? ⟨q, 0, none⟩ = some (.slice (some ⟨g, 124 - R.length, none⟩) R.length (R.length + 4)) := cellAt h.v rfl
 have hle : (n : Int) ≤ (R.length : Int) := by omega
 have hr := h.r
 have hs1 : ∀ W : World, (Instr.sliceAt 217 (.slice (some ⟨g, 124 - R.length, none⟩) R.length (R.length + 4)) none (some (.int .i64 (n : Nat))) none).run Tryz.prog W = .ok (.slice (some ⟨g, 124 - R.length, none⟩) n (R.length + 4)) W := fun W => run_slice_hi W 217 5 1 g (124 - R.length) R.length (R.length + 4) Tryz.underlying217 su8 n (by omega)
 have hs2 : ∀ W : World, (Instr.sliceAt 217 (.slice (some ⟨g, 124 - R.length, none⟩) R.length (R.length + 4)) (some (.int .i64 (n : Nat))) none none).run Tryz.prog W = .ok (.slice (some ⟨g, 124 - R.length + n, none⟩) (R.length - n) (R.length + 4 - n)) W := fun W => by
  rw [run_slice_lo W 217 5 1 g (124 - R.length) R.length (R.length + 4) Tryz.underlying217 su8 n hn]
  unfold cutA
  rw [if_neg (by omega), Nat.mul_one]
 have HN : Hid (Calls _ _ _ _ _) := need_yes w
 have hv := h.v
 have HR : Hid (Rst w q g B R) := h
 clear h hr
 go_enter Tryz.func149, Tryz.ntmps149
 go_wp2_with (first
  | (go_at_call 141; refine HN.out.mono ?_; rintro e w1 ⟨rfl, ew⟩; rw [ew]; clear ew w1)
  | (refine wpList_val rfl _ _ (exec_slice 217 (.tmp 15) none (some (.tmp 16)) none rfl _ none (some (.int .i64 (n : Nat))) none rfl rfl (by rfl) rfl _ (hs1 _)) ?_)
  | (refine wpList_val rfl _ _ (exec_slice 217 (.tmp 21) (some (.tmp 22)) none none rfl _ (some (.int .i64 (n : Nat))) none none rfl (by rfl) rfl rfl _ (hs2 _)) ?_)
  | (refine wpList_cell_k rfl 217 (.tmp 24) (.tmp 23) rfl q 0 rfl (.slice (some ⟨g, 124 - R.length + n, none⟩) (R.length - n) (R.length + 4 - n)) rfl 217 _ hv srest rfl (by simp) ?_; intro w2 n2 k2))
 go_ret
 exact ⟨rfl, HR.out.next n hn k2 n2, k2⟩
theorem bytes_no (q g : Nat) (B R : List UInt8) (n : Nat) (w : World) (h : Rst w q g B R) (hn : R.length < n) :
  Calls Tryz.prog 149 #[.pointer (some ⟨q, 0, none⟩), .int .i64 (n : Nat)] w fun e w' => Thr 7 e w' ∧ Kept [] w w' := by
 have c0 : w.cell? ⟨q, 0, none⟩ = some (.slice (some ⟨g, 124 - R.length, none⟩) R.length (R.length + 4)) := cellAt h.v rfl
 have hle : ¬ (n : Int) ≤ (R.length : Int) := by omega
 have HN : Hid (Calls _ _ _ _ _) := need_no w
 go_enter Tryz.func149, Tryz.ntmps149
 go_wp2_with (go_at_call 141; refine HN.out.mono ?_; rintro e w1 ⟨ht, hk⟩; obtain ⟨f, o, rfl, hf⟩ := ht.ex)
 exact ⟨rfl, ht, hk⟩

theorem number_ok (q g : Nat) (B R : List UInt8) (n : Nat) (w : World) (h : Rst w q g B R) (hn : n ≤ R.length) (h2 : n ≤ 2) :
  Calls Tryz.prog 150 #[.pointer (some ⟨q, 0, none⟩), .int .i64 (n : Nat)] w fun e w' => e = .returned (.int .i64 (leNum (R.take n) : Nat)) ∧ Rst w' q g B (R.drop n) ∧ Kept [q] w w' := by
 have HB : Hid (Calls _ _ _ _ _) := bytes_ok q g B R n w h hn
 have HM : Hid (∀ W, Rst W q g B (R.drop n) → Calls Tryz.prog 120 #[.slice (some ⟨g, 124 - R.length, none⟩) n (R.length + 4)] W fun e w' => e = .returned (.int .u64 (leNum (R.take n) : Nat)) ∧ w' = W) := by
  intro W hW
  have := number_n g (124 - R.length) (R.length + 4) n n B 80 (0, 0) W hW.b (by rw [h.part n hn, List.length_take]; omega) (by omega)
  rw [h.part n hn] at this
  exact this
 have hlt : leNum (R.take n) < 65536 := by
  have h1 := leNum_lt (R.take n)
  have h3 : (R.take n).length ≤ 2 := by rw [List.length_take]; omega
  have : 2 ^ (8 * (R.take n).length) ≤ 2 ^ 16 := Nat.pow_le_pow_right (by omega) (by omega)
  omega
 generalize leNum (R.take n) = m at *
 clear h
 go_enter Tryz.func150, Tryz.ntmps150
 go_wp2_with (first
  | (go_at_call 149; refine HB.out.mono ?_; rintro e w1 ⟨rfl, hr1, hk1⟩)
  | (go_at_call 120; refine (HM.out _ hr1).mono ?_; rintro e w2 ⟨rfl, ew⟩; rw [ew]; clear ew w2))
 go_ret
 exact ⟨rfl, hr1, hk1⟩
theorem number_no (q g : Nat) (B R : List UInt8) (n : Nat) (w : World) (h : Rst w q g B R) (hn : R.length < n) :
  Calls Tryz.prog 150 #[.pointer (some ⟨q, 0, none⟩), .int .i64 (n : Nat)] w fun e w' => Thr 7 e w' ∧ Kept [] w w' := by
 have HB : Hid (Calls _ _ _ _ _) := bytes_no q g B R n w h hn
 clear h
 go_enter Tryz.func150, Tryz.ntmps150
 go_wp2_with (go_at_call 149; refine HB.out.mono ?_; rintro e w1 ⟨ht, hk⟩; obtain ⟨f, o, rfl, hf⟩ := ht.ex)
 exact ⟨rfl, ht, hk⟩

def TkE (q g : Nat) (B : List UInt8) {α : Type} (enc : α → Value) (o : Option (α × List UInt8)) (w : World) (e : Ending) (w' : World) : Prop :=
 (match o with
  | some (x, R') => e = .returned (enc x) ∧ Rst w' q g B R'
  | none => Thr 7 e w') ∧ Kept [q] w w'
theorem leNum_one (c : UInt8) (r : List UInt8) : leNum ((c :: r).take 1) = c.toNat := by
 simp [leNum]
theorem text_any (q g : Nat) (B R : List UInt8) (m : Nat) (w : World) (h : Rst w q g B R) :
  Calls Tryz.prog 148 #[.pointer (some ⟨q, 0, none⟩), .int .i64 (m : Nat)] w (TkE q g B Value.string (tText m R) w) := by
 cases R with
 | nil =>
  have HB : Hid (Calls _ _ _ _ _) := number_no q g B [] 1 w h (by simp)
  clear h
  go_enter Tryz.func148, Tryz.ntmps148
  go_wp2_with (go_at_call 150; refine HB.out.mono ?_; rintro e w1 ⟨ht, hk⟩; obtain ⟨f, o, rfl, hf⟩ := ht.ex)
  exact ⟨rfl, ht, hk.mono (by simp)⟩
 | cons c r =>
  have HB := number_ok q g B (c :: r) 1 w h (by simp) (by omega)
  rw [leNum_one] at HB
  have HB' : Hid (Calls _ _ _ _ _) := HB
  have hc := c.toNat_lt
  clear HB
  by_cases h1 : c.toNat ≤ m
  ·have h1' : (c.toNat : Int) ≤ (m : Int) := by omega
   by_cases h2 : c.toNat ≤ r.length
   ·have HY : Hid (∀ W, Rst W q g B r → Calls Tryz.prog 149 #[.pointer (some ⟨q, 0, none⟩), .int .i64 (c.toNat : Nat)] W fun e w' => e = .returned (.slice (some ⟨g, 124 - r.length, none⟩) c.toNat (r.length + 4)) ∧ Rst w' q g B (r.drop c.toNat) ∧ Kept [q] W w') := fun W hW => bytes_ok q g B r c.toNat W hW h2
    have hcv : ∀ W, Rst W q g B (r.drop c.toNat) → (convert 83 9 (.slice (some ⟨g, 124 - r.length, none⟩) c.toNat (r.length + 4))).run Tryz.prog W = .ok (.string ⟨(r.take c.toNat).toArray⟩) W := by
     intro W hW
     have hl : (r.take c.toNat).length = c.toNat := by rw [List.length_take]; omega
     have hpart : (B.drop (124 - r.length)).take c.toNat = r.take c.toNat := by
      have he := h.e
      have hr := h.r
      simp only [List.length_cons] at he hr
      have e1 : r = (B.drop (124 - r.length)).take r.length := by
       have e2 := congrArg (List.drop 1) he
       rw [List.drop_succ_cons, List.drop_zero, List.drop_take, List.drop_drop] at e2
       rw [show 124 - (r.length + 1) + 1 = 124 - r.length by omega, Nat.add_sub_cancel] at e2
       exact e2
      conv => rhs; rw [e1]
      rw [List.take_take, Nat.min_eq_left h2]
     have := run_convert_bytes_back (P := Tryz.prog) W 83 9 5 ⟨g, 124 - r.length, none⟩ (r.length + 4) (r.take c.toNat) Tryz.underlying83 Tryz.underlying5 Tryz.underlying9 (by
      intro j hj
      rw [add_lit, cell_of_row _ _ _ _ _ _ hW.b]
      have h3 := u8cells B (124 - r.length) c.toNat j (by rw [hpart]; exact hj)
      simp only [hpart] at h3
      exact h3)
     rw [hl] at this
     exact this
    have HCv : Hid _ := hcv
    have HT : Hid (tText m (c :: r) = some (⟨(r.take c.toNat).toArray⟩, r.drop c.toNat)) := by show _ = _; simp only [tText]; rw [if_pos ⟨h1, h2⟩]
    clear hcv h
    go_enter Tryz.func148, Tryz.ntmps148
    go_wp2_with (first
     | (go_at_call 150; refine HB'.out.mono ?_; rintro e w1 ⟨rfl, hr1, hk1⟩)
     | (go_at_call 141; refine (need_yes _).mono ?_; rintro e w2 ⟨rfl, ew⟩; rw [ew]; clear ew w2)
     | (go_at_call 149; refine (HY.out _ hr1).mono ?_; rintro e w3 ⟨rfl, hr3, hk3⟩; have hcv3 := HCv.out w3 hr3))
    go_ret
    rw [HT.out]
    exact ⟨⟨rfl, hr3⟩, hk1.trans hk3⟩
   ·have HY : Hid (∀ W, Rst W q g B r → Calls Tryz.prog 149 #[.pointer (some ⟨q, 0, none⟩), .int .i64 (c.toNat : Nat)] W fun e w' => Thr 7 e w' ∧ Kept [] W w') := fun W hW => bytes_no q g B r c.toNat W hW (by omega)
    have HT : Hid (tText m (c :: r) = none) := by show _ = _; simp only [tText]; rw [if_neg (by omega)]
    clear h
    go_enter Tryz.func148, Tryz.ntmps148
    go_wp2_with (first
     | (go_at_call 150; refine HB'.out.mono ?_; rintro e w1 ⟨rfl, hr1, hk1⟩)
     | (go_at_call 141; refine (need_yes _).mono ?_; rintro e w2 ⟨rfl, ew⟩; rw [ew]; clear ew w2)
     | (go_at_call 149; refine (HY.out _ hr1).mono ?_; rintro e w3 ⟨ht, hk3⟩; obtain ⟨f, o, rfl, hf⟩ := ht.ex))
    refine ⟨rfl, ?_⟩
    rw [HT.out]
    exact ⟨ht, hk1.trans2 hk3 (by simp)⟩
  ·have h1' : ¬ (c.toNat : Int) ≤ (m : Int) := by omega
   have HT : Hid (tText m (c :: r) = none) := by show _ = _; simp only [tText]; rw [if_neg (by omega)]
   clear h
   go_enter Tryz.func148, Tryz.ntmps148
   go_wp2_with (first
    | (go_at_call 150; refine HB'.out.mono ?_; rintro e w1 ⟨rfl, hr1, hk1⟩)
    | (go_at_call 141; refine (need_no _).mono ?_; rintro e w3 ⟨ht, hk3⟩; obtain ⟨f, o, rfl, hf⟩ := ht.ex))
   refine ⟨rfl, ?_⟩
   rw [HT.out]
   exact ⟨ht, hk1.trans2 hk3 (by simp)⟩

end Go.Proofs.YtcklgafpgdhnaabGreatDoor
