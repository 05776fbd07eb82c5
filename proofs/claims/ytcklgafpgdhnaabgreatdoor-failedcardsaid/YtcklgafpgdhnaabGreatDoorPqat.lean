import Derived.Test.YtcklgafpgdhnaabGreatDoorPqas
import Derived.Test.YtcklgafpgdhnaabGreatDoorPqab
set_option maxRecDepth 100000
set_option maxHeartbeats 4000000
open Go.Proofs.Tryz
open Go.Act renaming put → zP
open List renaming getElem_toArray → zA, getElem_cons_succ → zB, getElem_cons_zero → zC, setIfInBounds_toArray → zD, set_cons_succ → zE, set_cons_zero → zF
namespace Go.Proofs.YtcklgafpgdhnaabGreatDoor
open Go.RowKit
theorem Q6D (v a : Nat) (bv : Value) (n : Nat) (cv : Value) (D : Dv) (i : Nat) (w : World) (hv : Vol w v a n) (h : DQ w a bv n cv D) (hi : i < n) (hn : n <= 1000) (hq : D.q.length <= 1000000) (hb : D.bad = true) (hT : Tab w) :
  Calls prog 98 #[.pointer (some ⟨v, 0, none⟩), .int .i64 i] w fun e w' => Thr 6 e w' /\ DQ w' a bv n cv D.tick /\ y5 [a] w w' := by
 have k0 := (y5.refl [] w).alloc (.cells #[.int .u64 0, .int .i64 0] 71)
 have HB : Hid (Calls _ _ _ _ _) := Q1p v a bv n cv D i _ (k0.get hv (by simp)) (h.k0 k0) hi hn hq hb (hT.k k0)
 go_enter func98, ntmps98
 go_wp2_with (go_at_call 102; refine HB.out.mono ?_; rintro e w1 ⟨ht, hd1, hk1⟩; obtain ⟨f, o, rfl, hf⟩ := ht.ex)
 exact ⟨rfl, ht, hd1, (k0.mono (by simp)).trans hk1⟩
def nwst (o0 o1 : Option (Nat × Nat)) : (Nat × Nat) × Bool := match o0, o1 with
 | some e, some o => if nwr o.1 e.1 then (o, true) else (e, true)
 | some e, none => (e, false)
 | none, some o => (o, false)
 | none, none => ((0, 0), false)
def nwV (x : (Nat × Nat) × Bool) : Value := .tuple #[.agg #[.int .u64 x.1.1, .int .i64 x.1.2], .bool x.2]
theorem Q6E (v a : Nat) (bv : Value) (n : Nat) (cv : Value) (D : Dv) (t0 r0 t1 r1 : Nat) (w : World) (hv : Vol w v a n) (h : DQ w a bv n cv D) (hn8 : 8 <= n) (hn : n <= 1000) (hq : D.q.length <= 1000000) (hb : D.bad = false) (hb2 : D.tick.bad = false)
  (h0 : rdH 0 (D.view 0) = some (t0, r0)) (h1 : rdH 1 (D.view 1) = some (t1, r1)) (hN : nwr t1 t0 = true) :
  Calls prog 70 #[.pointer (some ⟨v, 0, none⟩)] w (HrR a bv n cv D.tick.tick (nwV ((t1, r1), true)) w) := by
 have nva : v ∉ [a] := by simpa using yP hv h.d (by decide)
 have hnf := h.ge (Nat.le_refl _)
 have hna : w.heap.size ∉ [a] := by have := hnf; simp only [ym, List.mem_cons, not_or] at this; simpa using this.1
 have R0 : Hid (∀ W, Vol W v a n -> DQ W a bv n cv D -> Calls prog 98 #[.pointer (some ⟨v, 0, none⟩), .int .i64 0] W (HrR a bv n cv D.tick (hdV (some (t0, r0))) W)) := by
  intro W hV hD
  rw [<- h0]
  exact gC v a bv n cv D 0 W hV hD (by omega) hn hq hb
 have R1 : Hid (∀ W, Vol W v a n -> DQ W a bv n cv D.tick -> Calls prog 98 #[.pointer (some ⟨v, 0, none⟩), .int .i64 1] W (HrR a bv n cv D.tick.tick (hdV (some (t1, r1))) W)) := by
  intro W hV hD
  rw [<- h1]
  exact gC v a bv n cv D.tick 1 W hV hD (by omega) hn hq hb2
 clear h0 h1
 have k0 := (y5.refl [] w).alloc (.cells #[.int .u64 0, .int .i64 0] 71)
 have n0 := heap_alloc_new w (.cells #[.int .u64 0, .int .i64 0] 71)
 go_enter func70, ntmps70
 go_wp2_with fail
 refine (R0.out _ (k0.get hv (by simp)) (h.k0 k0)).mono ?_
 rintro e w1 ⟨rfl, hd1, hk1⟩
 have n1 := hk1.get n0 hna
 have hv1 : Vol w1 v a n := hk1.get (k0.get hv (by simp)) nva
 have k2 := (y5.refl [] w1).alloc (.cells #[.int .u64 (t0 : Int), .int .i64 (r0 : Int)] 71)
 have m2 := heap_alloc_new w1 (.cells #[.int .u64 (t0 : Int), .int .i64 (r0 : Int)] 71)
 have n2 := k2.get n1 (by simp)
 have hl1 := yt n1
 simp only [hdV]
 go_wp2_with fail
 refine (R1.out _ (k2.get hv1 (by simp)) (hd1.k0 k2)).mono ?_
 rintro e w3 ⟨rfl, hd3, hk3⟩
 have n3 := hk3.get n2 hna
 have m3 := hk3.get m2 (by have := hd1.ge (Nat.le_refl _); simp only [ym, List.mem_cons, not_or] at this; simpa using this.1)
 have hz3 : w1.heap.size + 1 <= w3.heap.size := by have := hk3.size; rwa [World.size_alloc] at this
 have k4 := (y5.refl [] w3).alloc (.cells #[.int .u64 (t1 : Int), .int .i64 (r1 : Int)] 71)
 have n4 := k4.get n3 (by simp)
 have m4 := k4.get m3 (by simp)
 have hd4 := hd3.k0 k4
 have hk04 : y5 [a] w (w3.alloc (.cells #[.int .u64 (t1 : Int), .int .i64 (r1 : Int)] 71)) := (((k0.mono (by simp)).trans hk1).trans2 k2 (by simp)).trans hk3 |>.trans2 k4 (by simp)
 simp only [hdV]
 have a0 : (w3.alloc (.cells #[.int .u64 (t1 : Int), .int .i64 (r1 : Int)] 71)).cell? ⟨w1.heap.size, 0, none⟩ = some (.int .u64 (t0 : Int)) := y6 m4 rfl
 have a1 : (w3.alloc (.cells #[.int .u64 (t1 : Int), .int .i64 (r1 : Int)] 71)).cell? ⟨w1.heap.size, 1, none⟩ = some (.int .i64 (r0 : Int)) := y6 m4 rfl
 have b0 : (w3.alloc (.cells #[.int .u64 (t1 : Int), .int .i64 (r1 : Int)] 71)).cell? ⟨w.heap.size, 0, none⟩ = some (.int .u64 0) := y6 n4 rfl
 have b1 : (w3.alloc (.cells #[.int .u64 (t1 : Int), .int .i64 (r1 : Int)] 71)).cell? ⟨w.heap.size, 1, none⟩ = some (.int .i64 0) := y6 n4 rfl
 have f0 : (w3.alloc (.cells #[.int .u64 (t1 : Int), .int .i64 (r1 : Int)] 71)).frozen? ⟨w.heap.size, 0, none⟩ = false := frozen_of_row _ _ _ _ _ n4
 have f1 : (w3.alloc (.cells #[.int .u64 (t1 : Int), .int .i64 (r1 : Int)] 71)).frozen? ⟨w.heap.size, 1, none⟩ = false := frozen_of_row _ _ _ _ _ n4
 clear hl1 hz3
 go_wp2_with fail
 refine (Q1b t1 r1 t0 r0 _).mono ?_
 rintro e w5 ⟨rfl, hk5⟩
 rw [hN]
 have p5 := hk5.get (heap_alloc_new w3 (.cells #[.int .u64 (t1 : Int), .int .i64 (r1 : Int)] 71)) (by simp)
 have n5 := hk5.get n4 (by simp)
 have m5 := hk5.get m4 (by simp)
 have hd5 := hd4.k0 hk5
 have hk05 := hk04.trans2 hk5 (by simp)
 have a50 : w5.cell? ⟨w1.heap.size, 0, none⟩ = some (.int .u64 (t0 : Int)) := y6 m5 rfl
 have a51 : w5.cell? ⟨w1.heap.size, 1, none⟩ = some (.int .i64 (r0 : Int)) := y6 m5 rfl
 have b50 : w5.cell? ⟨w.heap.size, 0, none⟩ = some (.int .u64 0) := y6 n5 rfl
 have b51 : w5.cell? ⟨w.heap.size, 1, none⟩ = some (.int .i64 0) := y6 n5 rfl
 have d50 : w5.cell? ⟨w3.heap.size, 0, none⟩ = some (.int .u64 (t1 : Int)) := y6 p5 rfl
 have d51 : w5.cell? ⟨w3.heap.size, 1, none⟩ = some (.int .i64 (r1 : Int)) := y6 p5 rfl
 have f50 : w5.frozen? ⟨w.heap.size, 0, none⟩ = false := frozen_of_row _ _ _ _ _ n5
 have f51 : w5.frozen? ⟨w.heap.size, 1, none⟩ = false := frozen_of_row _ _ _ _ _ n5
 go_wp2
 have k6 : y5 [w.heap.size] w5 ((w5.setCell ⟨w.heap.size, 0, none⟩ (.int .u64 (t1 : Int))).setCell ⟨w.heap.size, 1, none⟩ (.int .i64 (r1 : Int))) := ((y5.refl [w.heap.size] w5).setCell (p := ⟨w.heap.size, 0, none⟩) (Or.inl (by simp)) _).setCell (p := ⟨w.heap.size, 1, none⟩) (Or.inl (by simp)) _
 refine bodyPost_ret (res2 rfl _ _ w.heap.size 71 #[.int .u64 (t1 : Int), .int .i64 (r1 : Int)] (0, 0) _ _ rfl rfl (yg (i := 1) (.int .i64 (r1 : Int)) (yg (i := 0) (.int .u64 (t1 : Int)) n5)) underlying71 rfl QT) rfl ?_
 exact ⟨rfl, hd5.k1 k6 hnf, hk05.trans2 k6 (by intro x hx; simp at hx; subst hx; exact Or.inr (Nat.le_refl _))⟩
theorem Q6F (v a : Nat) (bv : Value) (n : Nat) (cv : Value) (D : Dv) (t0 r0 t1 r1 : Nat) (w : World) (hv : Vol w v a n) (h : DQ w a bv n cv D) (hn8 : 8 <= n) (hn : n <= 1000) (hq : D.q.length <= 1000000) (hb : D.bad = false) (hb2 : D.tick.bad = false)
  (h0 : rdH 0 (D.view 0) = some (t0, r0)) (h1 : rdH 1 (D.view 1) = some (t1, r1)) (hN : nwr t1 t0 = false) :
  Calls prog 70 #[.pointer (some ⟨v, 0, none⟩)] w (HrR a bv n cv D.tick.tick (nwV ((t0, r0), true)) w) := by
 have nva : v ∉ [a] := by simpa using yP hv h.d (by decide)
 have hnf := h.ge (Nat.le_refl _)
 have hna : w.heap.size ∉ [a] := by have := hnf; simp only [ym, List.mem_cons, not_or] at this; simpa using this.1
 have R0 : Hid (∀ W, Vol W v a n -> DQ W a bv n cv D -> Calls prog 98 #[.pointer (some ⟨v, 0, none⟩), .int .i64 0] W (HrR a bv n cv D.tick (hdV (some (t0, r0))) W)) := by
  intro W hV hD
  rw [<- h0]
  exact gC v a bv n cv D 0 W hV hD (by omega) hn hq hb
 have R1 : Hid (∀ W, Vol W v a n -> DQ W a bv n cv D.tick -> Calls prog 98 #[.pointer (some ⟨v, 0, none⟩), .int .i64 1] W (HrR a bv n cv D.tick.tick (hdV (some (t1, r1))) W)) := by
  intro W hV hD
  rw [<- h1]
  exact gC v a bv n cv D.tick 1 W hV hD (by omega) hn hq hb2
 clear h0 h1
 have k0 := (y5.refl [] w).alloc (.cells #[.int .u64 0, .int .i64 0] 71)
 have n0 := heap_alloc_new w (.cells #[.int .u64 0, .int .i64 0] 71)
 go_enter func70, ntmps70
 go_wp2_with fail
 refine (R0.out _ (k0.get hv (by simp)) (h.k0 k0)).mono ?_
 rintro e w1 ⟨rfl, hd1, hk1⟩
 have n1 := hk1.get n0 hna
 have hv1 : Vol w1 v a n := hk1.get (k0.get hv (by simp)) nva
 have k2 := (y5.refl [] w1).alloc (.cells #[.int .u64 (t0 : Int), .int .i64 (r0 : Int)] 71)
 have m2 := heap_alloc_new w1 (.cells #[.int .u64 (t0 : Int), .int .i64 (r0 : Int)] 71)
 have n2 := k2.get n1 (by simp)
 have hl1 := yt n1
 simp only [hdV]
 go_wp2_with fail
 refine (R1.out _ (k2.get hv1 (by simp)) (hd1.k0 k2)).mono ?_
 rintro e w3 ⟨rfl, hd3, hk3⟩
 have n3 := hk3.get n2 hna
 have m3 := hk3.get m2 (by have := hd1.ge (Nat.le_refl _); simp only [ym, List.mem_cons, not_or] at this; simpa using this.1)
 have hz3 : w1.heap.size + 1 <= w3.heap.size := by have := hk3.size; rwa [World.size_alloc] at this
 have k4 := (y5.refl [] w3).alloc (.cells #[.int .u64 (t1 : Int), .int .i64 (r1 : Int)] 71)
 have n4 := k4.get n3 (by simp)
 have m4 := k4.get m3 (by simp)
 have hd4 := hd3.k0 k4
 have hk04 : y5 [a] w (w3.alloc (.cells #[.int .u64 (t1 : Int), .int .i64 (r1 : Int)] 71)) := (((k0.mono (by simp)).trans hk1).trans2 k2 (by simp)).trans hk3 |>.trans2 k4 (by simp)
 simp only [hdV]
 have a0 : (w3.alloc (.cells #[.int .u64 (t1 : Int), .int .i64 (r1 : Int)] 71)).cell? ⟨w1.heap.size, 0, none⟩ = some (.int .u64 (t0 : Int)) := y6 m4 rfl
 have a1 : (w3.alloc (.cells #[.int .u64 (t1 : Int), .int .i64 (r1 : Int)] 71)).cell? ⟨w1.heap.size, 1, none⟩ = some (.int .i64 (r0 : Int)) := y6 m4 rfl
 have b0 : (w3.alloc (.cells #[.int .u64 (t1 : Int), .int .i64 (r1 : Int)] 71)).cell? ⟨w.heap.size, 0, none⟩ = some (.int .u64 0) := y6 n4 rfl
 have b1 : (w3.alloc (.cells #[.int .u64 (t1 : Int), .int .i64 (r1 : Int)] 71)).cell? ⟨w.heap.size, 1, none⟩ = some (.int .i64 0) := y6 n4 rfl
 have f0 : (w3.alloc (.cells #[.int .u64 (t1 : Int), .int .i64 (r1 : Int)] 71)).frozen? ⟨w.heap.size, 0, none⟩ = false := frozen_of_row _ _ _ _ _ n4
 have f1 : (w3.alloc (.cells #[.int .u64 (t1 : Int), .int .i64 (r1 : Int)] 71)).frozen? ⟨w.heap.size, 1, none⟩ = false := frozen_of_row _ _ _ _ _ n4
 clear hl1 hz3
 go_wp2_with fail
 refine (Q1b t1 r1 t0 r0 _).mono ?_
 rintro e w5 ⟨rfl, hk5⟩
 rw [hN]
 have p5 := hk5.get (heap_alloc_new w3 (.cells #[.int .u64 (t1 : Int), .int .i64 (r1 : Int)] 71)) (by simp)
 have n5 := hk5.get n4 (by simp)
 have m5 := hk5.get m4 (by simp)
 have hd5 := hd4.k0 hk5
 have hk05 := hk04.trans2 hk5 (by simp)
 have a50 : w5.cell? ⟨w1.heap.size, 0, none⟩ = some (.int .u64 (t0 : Int)) := y6 m5 rfl
 have a51 : w5.cell? ⟨w1.heap.size, 1, none⟩ = some (.int .i64 (r0 : Int)) := y6 m5 rfl
 have b50 : w5.cell? ⟨w.heap.size, 0, none⟩ = some (.int .u64 0) := y6 n5 rfl
 have b51 : w5.cell? ⟨w.heap.size, 1, none⟩ = some (.int .i64 0) := y6 n5 rfl
 have d50 : w5.cell? ⟨w3.heap.size, 0, none⟩ = some (.int .u64 (t1 : Int)) := y6 p5 rfl
 have d51 : w5.cell? ⟨w3.heap.size, 1, none⟩ = some (.int .i64 (r1 : Int)) := y6 p5 rfl
 have f50 : w5.frozen? ⟨w.heap.size, 0, none⟩ = false := frozen_of_row _ _ _ _ _ n5
 have f51 : w5.frozen? ⟨w.heap.size, 1, none⟩ = false := frozen_of_row _ _ _ _ _ n5
 go_wp2
 have k6 : y5 [w.heap.size] w5 ((w5.setCell ⟨w.heap.size, 0, none⟩ (.int .u64 (t0 : Int))).setCell ⟨w.heap.size, 1, none⟩ (.int .i64 (r0 : Int))) := ((y5.refl [w.heap.size] w5).setCell (p := ⟨w.heap.size, 0, none⟩) (Or.inl (by simp)) _).setCell (p := ⟨w.heap.size, 1, none⟩) (Or.inl (by simp)) _
 refine bodyPost_ret (res2 rfl _ _ w.heap.size 71 #[.int .u64 (t0 : Int), .int .i64 (r0 : Int)] (0, 0) _ _ rfl rfl (yg (i := 1) (.int .i64 (r0 : Int)) (yg (i := 0) (.int .u64 (t0 : Int)) n5)) underlying71 rfl QT) rfl ?_
 exact ⟨rfl, hd5.k1 k6 hnf, hk05.trans2 k6 (by intro x hx; simp at hx; subst hx; exact Or.inr (Nat.le_refl _))⟩
theorem Q6G (v a : Nat) (bv : Value) (n : Nat) (cv : Value) (D : Dv) (t0 r0 : Nat) (w : World) (hv : Vol w v a n) (h : DQ w a bv n cv D) (hn8 : 8 <= n) (hn : n <= 1000) (hq : D.q.length <= 1000000) (hb : D.bad = false) (hb2 : D.tick.bad = false)
  (h0 : rdH 0 (D.view 0) = some (t0, r0)) (h1 : rdH 1 (D.view 1) = none) :
  Calls prog 70 #[.pointer (some ⟨v, 0, none⟩)] w (HrR a bv n cv D.tick.tick (nwV ((t0, r0), false)) w) := by
 have nva : v ∉ [a] := by simpa using yP hv h.d (by decide)
 have hnf := h.ge (Nat.le_refl _)
 have hna : w.heap.size ∉ [a] := by have := hnf; simp only [ym, List.mem_cons, not_or] at this; simpa using this.1
 have R0 : Hid (∀ W, Vol W v a n -> DQ W a bv n cv D -> Calls prog 98 #[.pointer (some ⟨v, 0, none⟩), .int .i64 0] W (HrR a bv n cv D.tick (hdV (some (t0, r0))) W)) := by
  intro W hV hD
  rw [<- h0]
  exact gC v a bv n cv D 0 W hV hD (by omega) hn hq hb
 have R1 : Hid (∀ W, Vol W v a n -> DQ W a bv n cv D.tick -> Calls prog 98 #[.pointer (some ⟨v, 0, none⟩), .int .i64 1] W (HrR a bv n cv D.tick.tick (hdV (none)) W)) := by
  intro W hV hD
  rw [<- h1]
  exact gC v a bv n cv D.tick 1 W hV hD (by omega) hn hq hb2
 clear h0 h1
 have k0 := (y5.refl [] w).alloc (.cells #[.int .u64 0, .int .i64 0] 71)
 have n0 := heap_alloc_new w (.cells #[.int .u64 0, .int .i64 0] 71)
 go_enter func70, ntmps70
 go_wp2_with fail
 refine (R0.out _ (k0.get hv (by simp)) (h.k0 k0)).mono ?_
 rintro e w1 ⟨rfl, hd1, hk1⟩
 have n1 := hk1.get n0 hna
 have hv1 : Vol w1 v a n := hk1.get (k0.get hv (by simp)) nva
 have k2 := (y5.refl [] w1).alloc (.cells #[.int .u64 (t0 : Int), .int .i64 (r0 : Int)] 71)
 have m2 := heap_alloc_new w1 (.cells #[.int .u64 (t0 : Int), .int .i64 (r0 : Int)] 71)
 have n2 := k2.get n1 (by simp)
 have hl1 := yt n1
 simp only [hdV]
 go_wp2_with fail
 refine (R1.out _ (k2.get hv1 (by simp)) (hd1.k0 k2)).mono ?_
 rintro e w3 ⟨rfl, hd3, hk3⟩
 have n3 := hk3.get n2 hna
 have m3 := hk3.get m2 (by have := hd1.ge (Nat.le_refl _); simp only [ym, List.mem_cons, not_or] at this; simpa using this.1)
 have hz3 : w1.heap.size + 1 <= w3.heap.size := by have := hk3.size; rwa [World.size_alloc] at this
 have k4 := (y5.refl [] w3).alloc (.cells #[.int .u64 0, .int .i64 0] 71)
 have n4 := k4.get n3 (by simp)
 have m4 := k4.get m3 (by simp)
 have hd4 := hd3.k0 k4
 have hk04 : y5 [a] w (w3.alloc (.cells #[.int .u64 0, .int .i64 0] 71)) := (((k0.mono (by simp)).trans hk1).trans2 k2 (by simp)).trans hk3 |>.trans2 k4 (by simp)
 simp only [hdV]
 have a0 : (w3.alloc (.cells #[.int .u64 0, .int .i64 0] 71)).cell? ⟨w1.heap.size, 0, none⟩ = some (.int .u64 (t0 : Int)) := y6 m4 rfl
 have a1 : (w3.alloc (.cells #[.int .u64 0, .int .i64 0] 71)).cell? ⟨w1.heap.size, 1, none⟩ = some (.int .i64 (r0 : Int)) := y6 m4 rfl
 have b0 : (w3.alloc (.cells #[.int .u64 0, .int .i64 0] 71)).cell? ⟨w.heap.size, 0, none⟩ = some (.int .u64 0) := y6 n4 rfl
 have b1 : (w3.alloc (.cells #[.int .u64 0, .int .i64 0] 71)).cell? ⟨w.heap.size, 1, none⟩ = some (.int .i64 0) := y6 n4 rfl
 have f0 : (w3.alloc (.cells #[.int .u64 0, .int .i64 0] 71)).frozen? ⟨w.heap.size, 0, none⟩ = false := frozen_of_row _ _ _ _ _ n4
 have f1 : (w3.alloc (.cells #[.int .u64 0, .int .i64 0] 71)).frozen? ⟨w.heap.size, 1, none⟩ = false := frozen_of_row _ _ _ _ _ n4
 clear hl1 hz3
 have N6 : Hid (((((w3.alloc (.cells #[.int .u64 0, .int .i64 0] 71)).setCell ⟨w.heap.size, 0, none⟩ (.int .u64 (t0 : Int))).setCell ⟨w.heap.size, 1, none⟩ (.int .i64 (r0 : Int)))).heap[w.heap.size]? = some (.cells #[.int .u64 (t0 : Int), .int .i64 (r0 : Int)] 71 (0, 0))) := yg (i := 1) (.int .i64 (r0 : Int)) (yg (i := 0) (.int .u64 (t0 : Int)) n4)
 have K6 : Hid (y5 [w.heap.size] (w3.alloc (.cells #[.int .u64 0, .int .i64 0] 71)) ((((w3.alloc (.cells #[.int .u64 0, .int .i64 0] 71)).setCell ⟨w.heap.size, 0, none⟩ (.int .u64 (t0 : Int))).setCell ⟨w.heap.size, 1, none⟩ (.int .i64 (r0 : Int))))) := ((y5.refl [w.heap.size] _).setCell (p := ⟨w.heap.size, 0, none⟩) (Or.inl (by simp)) _).setCell (p := ⟨w.heap.size, 1, none⟩) (Or.inl (by simp)) _
 have HD4 : Hid _ := hd4
 have HK4 : Hid _ := hk04
 clear hd4 hk04 k4 n4 m4
 go_wp2
 refine bodyPost_ret (res2 rfl _ _ w.heap.size 71 #[.int .u64 (t0 : Int), .int .i64 (r0 : Int)] (0, 0) _ _ rfl rfl N6.out underlying71 rfl QT) rfl ?_
 exact ⟨rfl, HD4.out.k1 K6.out hnf, HK4.out.trans2 K6.out (by intro x hx; simp at hx; subst hx; exact Or.inr (Nat.le_refl _))⟩
theorem Q6H (v a : Nat) (bv : Value) (n : Nat) (cv : Value) (D : Dv) (t1 r1 : Nat) (w : World) (hv : Vol w v a n) (h : DQ w a bv n cv D) (hn8 : 8 <= n) (hn : n <= 1000) (hq : D.q.length <= 1000000) (hb : D.bad = false) (hb2 : D.tick.bad = false)
  (h0 : rdH 0 (D.view 0) = none) (h1 : rdH 1 (D.view 1) = some (t1, r1)) :
  Calls prog 70 #[.pointer (some ⟨v, 0, none⟩)] w (HrR a bv n cv D.tick.tick (nwV ((t1, r1), false)) w) := by
 have nva : v ∉ [a] := by simpa using yP hv h.d (by decide)
 have hnf := h.ge (Nat.le_refl _)
 have hna : w.heap.size ∉ [a] := by have := hnf; simp only [ym, List.mem_cons, not_or] at this; simpa using this.1
 have R0 : Hid (∀ W, Vol W v a n -> DQ W a bv n cv D -> Calls prog 98 #[.pointer (some ⟨v, 0, none⟩), .int .i64 0] W (HrR a bv n cv D.tick (hdV (none)) W)) := by
  intro W hV hD
  rw [<- h0]
  exact gC v a bv n cv D 0 W hV hD (by omega) hn hq hb
 have R1 : Hid (∀ W, Vol W v a n -> DQ W a bv n cv D.tick -> Calls prog 98 #[.pointer (some ⟨v, 0, none⟩), .int .i64 1] W (HrR a bv n cv D.tick.tick (hdV (some (t1, r1))) W)) := by
  intro W hV hD
  rw [<- h1]
  exact gC v a bv n cv D.tick 1 W hV hD (by omega) hn hq hb2
 clear h0 h1
 have k0 := (y5.refl [] w).alloc (.cells #[.int .u64 0, .int .i64 0] 71)
 have n0 := heap_alloc_new w (.cells #[.int .u64 0, .int .i64 0] 71)
 go_enter func70, ntmps70
 go_wp2_with fail
 refine (R0.out _ (k0.get hv (by simp)) (h.k0 k0)).mono ?_
 rintro e w1 ⟨rfl, hd1, hk1⟩
 have n1 := hk1.get n0 hna
 have hv1 : Vol w1 v a n := hk1.get (k0.get hv (by simp)) nva
 have k2 := (y5.refl [] w1).alloc (.cells #[.int .u64 0, .int .i64 0] 71)
 have m2 := heap_alloc_new w1 (.cells #[.int .u64 0, .int .i64 0] 71)
 have n2 := k2.get n1 (by simp)
 have hl1 := yt n1
 simp only [hdV]
 go_wp2_with fail
 refine (R1.out _ (k2.get hv1 (by simp)) (hd1.k0 k2)).mono ?_
 rintro e w3 ⟨rfl, hd3, hk3⟩
 have n3 := hk3.get n2 hna
 have m3 := hk3.get m2 (by have := hd1.ge (Nat.le_refl _); simp only [ym, List.mem_cons, not_or] at this; simpa using this.1)
 have hz3 : w1.heap.size + 1 <= w3.heap.size := by have := hk3.size; rwa [World.size_alloc] at this
 have k4 := (y5.refl [] w3).alloc (.cells #[.int .u64 (t1 : Int), .int .i64 (r1 : Int)] 71)
 have n4 := k4.get n3 (by simp)
 have m4 := k4.get m3 (by simp)
 have hd4 := hd3.k0 k4
 have hk04 : y5 [a] w (w3.alloc (.cells #[.int .u64 (t1 : Int), .int .i64 (r1 : Int)] 71)) := (((k0.mono (by simp)).trans hk1).trans2 k2 (by simp)).trans hk3 |>.trans2 k4 (by simp)
 simp only [hdV]
 have a0 : (w3.alloc (.cells #[.int .u64 (t1 : Int), .int .i64 (r1 : Int)] 71)).cell? ⟨w1.heap.size, 0, none⟩ = some (.int .u64 0) := y6 m4 rfl
 have a1 : (w3.alloc (.cells #[.int .u64 (t1 : Int), .int .i64 (r1 : Int)] 71)).cell? ⟨w1.heap.size, 1, none⟩ = some (.int .i64 0) := y6 m4 rfl
 have b0 : (w3.alloc (.cells #[.int .u64 (t1 : Int), .int .i64 (r1 : Int)] 71)).cell? ⟨w.heap.size, 0, none⟩ = some (.int .u64 0) := y6 n4 rfl
 have b1 : (w3.alloc (.cells #[.int .u64 (t1 : Int), .int .i64 (r1 : Int)] 71)).cell? ⟨w.heap.size, 1, none⟩ = some (.int .i64 0) := y6 n4 rfl
 have f0 : (w3.alloc (.cells #[.int .u64 (t1 : Int), .int .i64 (r1 : Int)] 71)).frozen? ⟨w.heap.size, 0, none⟩ = false := frozen_of_row _ _ _ _ _ n4
 have f1 : (w3.alloc (.cells #[.int .u64 (t1 : Int), .int .i64 (r1 : Int)] 71)).frozen? ⟨w.heap.size, 1, none⟩ = false := frozen_of_row _ _ _ _ _ n4
 clear hl1 hz3
 have N6 : Hid (((((w3.alloc (.cells #[.int .u64 (t1 : Int), .int .i64 (r1 : Int)] 71)).setCell ⟨w.heap.size, 0, none⟩ (.int .u64 (t1 : Int))).setCell ⟨w.heap.size, 1, none⟩ (.int .i64 (r1 : Int)))).heap[w.heap.size]? = some (.cells #[.int .u64 (t1 : Int), .int .i64 (r1 : Int)] 71 (0, 0))) := yg (i := 1) (.int .i64 (r1 : Int)) (yg (i := 0) (.int .u64 (t1 : Int)) n4)
 have K6 : Hid (y5 [w.heap.size] (w3.alloc (.cells #[.int .u64 (t1 : Int), .int .i64 (r1 : Int)] 71)) ((((w3.alloc (.cells #[.int .u64 (t1 : Int), .int .i64 (r1 : Int)] 71)).setCell ⟨w.heap.size, 0, none⟩ (.int .u64 (t1 : Int))).setCell ⟨w.heap.size, 1, none⟩ (.int .i64 (r1 : Int))))) := ((y5.refl [w.heap.size] _).setCell (p := ⟨w.heap.size, 0, none⟩) (Or.inl (by simp)) _).setCell (p := ⟨w.heap.size, 1, none⟩) (Or.inl (by simp)) _
 have HD4 : Hid _ := hd4
 have HK4 : Hid _ := hk04
 clear hd4 hk04 k4 n4 m4
 go_wp2
 refine bodyPost_ret (res2 rfl _ _ w.heap.size 71 #[.int .u64 (t1 : Int), .int .i64 (r1 : Int)] (0, 0) _ _ rfl rfl N6.out underlying71 rfl QT) rfl ?_
 exact ⟨rfl, HD4.out.k1 K6.out hnf, HK4.out.trans2 K6.out (by intro x hx; simp at hx; subst hx; exact Or.inr (Nat.le_refl _))⟩
theorem Q6I (v a : Nat) (bv : Value) (n : Nat) (cv : Value) (D : Dv) (w : World) (hv : Vol w v a n) (h : DQ w a bv n cv D) (hn8 : 8 <= n) (hn : n <= 1000) (hq : D.q.length <= 1000000) (hb : D.bad = false) (hb2 : D.tick.bad = false)
  (h0 : rdH 0 (D.view 0) = none) (h1 : rdH 1 (D.view 1) = none) :
  Calls prog 70 #[.pointer (some ⟨v, 0, none⟩)] w (HrR a bv n cv D.tick.tick (nwV ((0, 0), false)) w) := by
 have nva : v ∉ [a] := by simpa using yP hv h.d (by decide)
 have hnf := h.ge (Nat.le_refl _)
 have hna : w.heap.size ∉ [a] := by have := hnf; simp only [ym, List.mem_cons, not_or] at this; simpa using this.1
 have R0 : Hid (∀ W, Vol W v a n -> DQ W a bv n cv D -> Calls prog 98 #[.pointer (some ⟨v, 0, none⟩), .int .i64 0] W (HrR a bv n cv D.tick (hdV (none)) W)) := by
  intro W hV hD
  rw [<- h0]
  exact gC v a bv n cv D 0 W hV hD (by omega) hn hq hb
 have R1 : Hid (∀ W, Vol W v a n -> DQ W a bv n cv D.tick -> Calls prog 98 #[.pointer (some ⟨v, 0, none⟩), .int .i64 1] W (HrR a bv n cv D.tick.tick (hdV (none)) W)) := by
  intro W hV hD
  rw [<- h1]
  exact gC v a bv n cv D.tick 1 W hV hD (by omega) hn hq hb2
 clear h0 h1
 have k0 := (y5.refl [] w).alloc (.cells #[.int .u64 0, .int .i64 0] 71)
 have n0 := heap_alloc_new w (.cells #[.int .u64 0, .int .i64 0] 71)
 go_enter func70, ntmps70
 go_wp2_with fail
 refine (R0.out _ (k0.get hv (by simp)) (h.k0 k0)).mono ?_
 rintro e w1 ⟨rfl, hd1, hk1⟩
 have n1 := hk1.get n0 hna
 have hv1 : Vol w1 v a n := hk1.get (k0.get hv (by simp)) nva
 have k2 := (y5.refl [] w1).alloc (.cells #[.int .u64 0, .int .i64 0] 71)
 have m2 := heap_alloc_new w1 (.cells #[.int .u64 0, .int .i64 0] 71)
 have n2 := k2.get n1 (by simp)
 have hl1 := yt n1
 simp only [hdV]
 go_wp2_with fail
 refine (R1.out _ (k2.get hv1 (by simp)) (hd1.k0 k2)).mono ?_
 rintro e w3 ⟨rfl, hd3, hk3⟩
 have n3 := hk3.get n2 hna
 have m3 := hk3.get m2 (by have := hd1.ge (Nat.le_refl _); simp only [ym, List.mem_cons, not_or] at this; simpa using this.1)
 have hz3 : w1.heap.size + 1 <= w3.heap.size := by have := hk3.size; rwa [World.size_alloc] at this
 have k4 := (y5.refl [] w3).alloc (.cells #[.int .u64 0, .int .i64 0] 71)
 have n4 := k4.get n3 (by simp)
 have m4 := k4.get m3 (by simp)
 have hd4 := hd3.k0 k4
 have hk04 : y5 [a] w (w3.alloc (.cells #[.int .u64 0, .int .i64 0] 71)) := (((k0.mono (by simp)).trans hk1).trans2 k2 (by simp)).trans hk3 |>.trans2 k4 (by simp)
 simp only [hdV]
 have a0 : (w3.alloc (.cells #[.int .u64 0, .int .i64 0] 71)).cell? ⟨w1.heap.size, 0, none⟩ = some (.int .u64 0) := y6 m4 rfl
 have a1 : (w3.alloc (.cells #[.int .u64 0, .int .i64 0] 71)).cell? ⟨w1.heap.size, 1, none⟩ = some (.int .i64 0) := y6 m4 rfl
 have b0 : (w3.alloc (.cells #[.int .u64 0, .int .i64 0] 71)).cell? ⟨w.heap.size, 0, none⟩ = some (.int .u64 0) := y6 n4 rfl
 have b1 : (w3.alloc (.cells #[.int .u64 0, .int .i64 0] 71)).cell? ⟨w.heap.size, 1, none⟩ = some (.int .i64 0) := y6 n4 rfl
 have f0 : (w3.alloc (.cells #[.int .u64 0, .int .i64 0] 71)).frozen? ⟨w.heap.size, 0, none⟩ = false := frozen_of_row _ _ _ _ _ n4
 have f1 : (w3.alloc (.cells #[.int .u64 0, .int .i64 0] 71)).frozen? ⟨w.heap.size, 1, none⟩ = false := frozen_of_row _ _ _ _ _ n4
 clear hl1 hz3
 have N6 : Hid (((((w3.alloc (.cells #[.int .u64 0, .int .i64 0] 71)).setCell ⟨w.heap.size, 0, none⟩ (.int .u64 0)).setCell ⟨w.heap.size, 1, none⟩ (.int .i64 0))).heap[w.heap.size]? = some (.cells #[.int .u64 0, .int .i64 0] 71 (0, 0))) := yg (i := 1) (.int .i64 0) (yg (i := 0) (.int .u64 0) n4)
 have K6 : Hid (y5 [w.heap.size] (w3.alloc (.cells #[.int .u64 0, .int .i64 0] 71)) ((((w3.alloc (.cells #[.int .u64 0, .int .i64 0] 71)).setCell ⟨w.heap.size, 0, none⟩ (.int .u64 0)).setCell ⟨w.heap.size, 1, none⟩ (.int .i64 0)))) := ((y5.refl [w.heap.size] _).setCell (p := ⟨w.heap.size, 0, none⟩) (Or.inl (by simp)) _).setCell (p := ⟨w.heap.size, 1, none⟩) (Or.inl (by simp)) _
 have HD4 : Hid _ := hd4
 have HK4 : Hid _ := hk04
 clear hd4 hk04 k4 n4 m4
 go_wp2
 refine bodyPost_ret (res2 rfl _ _ w.heap.size 71 #[.int .u64 0, .int .i64 0] (0, 0) _ _ rfl rfl N6.out underlying71 rfl QT) rfl ?_
 exact ⟨rfl, HD4.out.k1 K6.out hnf, HK4.out.trans2 K6.out (by intro x hx; simp at hx; subst hx; exact Or.inr (Nat.le_refl _))⟩
theorem Q6J (v a : Nat) (bv : Value) (n : Nat) (cv : Value) (D : Dv) (w : World) (hv : Vol w v a n) (h : DQ w a bv n cv D) (hn8 : 8 <= n) (hn : n <= 1000) (hq : D.q.length <= 1000000) (hb : D.bad = true) (hT : Tab w) :
  Calls prog 70 #[.pointer (some ⟨v, 0, none⟩)] w fun e w' => Thr 6 e w' /\ DQ w' a bv n cv D.tick /\ y5 [a] w w' := by
 have k0 := (y5.refl [] w).alloc (.cells #[.int .u64 0, .int .i64 0] 71)
 have HB : Hid (Calls _ _ _ _ _) := Q6D v a bv n cv D 0 _ (k0.get hv (by simp)) (h.k0 k0) (by omega) hn hq hb (hT.k k0)
 go_enter func70, ntmps70
 go_wp2_with fail
 refine HB.out.mono ?_
 rintro e w1 ⟨ht, hd1, hk1⟩
 obtain ⟨f, o, rfl, hf⟩ := ht.ex
 exact ⟨rfl, ht, hd1, (k0.mono (by simp)).trans hk1⟩
theorem Q6K (v a : Nat) (bv : Value) (n : Nat) (cv : Value) (D : Dv) (w : World) (hv : Vol w v a n) (h : DQ w a bv n cv D) (hn8 : 8 <= n) (hn : n <= 1000) (hq : D.q.length <= 1000000) (hb : D.bad = false) (hb2 : D.tick.bad = true) (hT : Tab w) :
  Calls prog 70 #[.pointer (some ⟨v, 0, none⟩)] w fun e w' => Thr 6 e w' /\ DQ w' a bv n cv D.tick.tick /\ y5 [a] w w' := by
 have nva : v ∉ [a] := by simpa using yP hv h.d (by decide)
 have k0 := (y5.refl [] w).alloc (.cells #[.int .u64 0, .int .i64 0] 71)
 have HA : Hid (Calls _ _ _ _ _) := gC v a bv n cv D 0 _ (k0.get hv (by simp)) (h.k0 k0) (by omega) hn hq hb
 have HB : Hid (∀ W, Vol W v a n -> DQ W a bv n cv D.tick -> Tab W -> Calls prog 98 #[.pointer (some ⟨v, 0, none⟩), .int .i64 1] W fun e w' => Thr 6 e w' /\ DQ w' a bv n cv D.tick.tick /\ y5 [a] W w') := fun W hV hD hT => Q6D v a bv n cv D.tick 1 W hV hD (by omega) hn hq hb2 hT
 have H0 : Hid (∃ t r b, hdV (rdH 0 (D.view 0)) = .tuple #[.agg #[.int .u64 (t : Nat), .int .i64 (r : Nat)], .bool b]) := by
  show _
  cases rdH 0 (D.view 0) with
  | none => exact ⟨0, 0, false, rfl⟩
  | some x => exact ⟨x.1, x.2, true, rfl⟩
 obtain ⟨t0, r0, b0, e0⟩ := H0.out
 rw [e0] at HA
 go_enter func70, ntmps70
 go_wp2_with fail
 refine HA.out.mono ?_
 rintro e w1 ⟨rfl, hd1, hk1⟩
 have hT1 : Tab w1 := (hT.k k0).kept hk1 ((hT.k k0).dqa (h.k0 k0))
 have hv1 : Vol w1 v a n := hk1.get (k0.get hv (by simp)) nva
 have k2 := (y5.refl [] w1).alloc (.cells #[.int .u64 (t0 : Int), .int .i64 (r0 : Int)] 71)
 go_wp2_with fail
 refine (HB.out _ (k2.get hv1 (by simp)) (hd1.k0 k2) (hT1.k k2)).mono ?_
 rintro e w3 ⟨ht, hd3, hk3⟩
 obtain ⟨f, o, rfl, hf⟩ := ht.ex
 exact ⟨rfl, ht, hd3, (((k0.mono (by simp)).trans hk1).trans2 k2 (by simp)).trans hk3⟩
theorem Q6L (v a : Nat) (bv : Value) (n : Nat) (cv : Value) (D : Dv) (w : World) (hv : Vol w v a n) (h : DQ w a bv n cv D) (hn8 : 8 <= n) (hn : n <= 1000) (hq : D.q.length <= 1000000) (hT : qc D \/ Tab w) :
  Calls prog 70 #[.pointer (some ⟨v, 0, none⟩)] w (RdR a bv n cv D (fun e _ => e = .returned (nwV (nwst (rdH 0 (D.view 0)) (rdH 1 (D.view 1))))) w) := by
 have ok : ∀ (x : (Nat × Nat) × Bool), D.bad = false -> D.tick.bad = false -> nwst (rdH 0 (D.view 0)) (rdH 1 (D.view 1)) = x -> Calls prog 70 #[.pointer (some ⟨v, 0, none⟩)] w (HrR a bv n cv D.tick.tick (nwV x) w) ->
   Calls prog 70 #[.pointer (some ⟨v, 0, none⟩)] w (RdR a bv n cv D (fun e _ => e = .returned (nwV (nwst (rdH 0 (D.view 0)) (rdH 1 (D.view 1))))) w) := by
  intro x hb hb2 hx hc
  refine hc.mono ?_
  rintro e w' ⟨h1, h2, h3⟩
  exact ⟨_, h2, h3, Or.inl ⟨(Qt.tick hb).trans (Qt.tick hb2), by rw [hx]; exact h1⟩⟩
 have tb : D.bad = true \/ D.tick.bad = true -> Tab w := by
  intro hbb
  rcases hT with hg | hT
  ·rcases hbb with hbb | hbb
   ·rw [hg.bad] at hbb; cases hbb
   ·have : qc D.tick := hg
    rw [this.bad] at hbb; cases hbb
  ·exact hT
 cases hb : D.bad with
 | true => exact (Q6J v a bv n cv D w hv h hn8 hn hq hb (tb (Or.inl hb))).mono fun e w' ⟨h1, h2, h3⟩ => ⟨_, h2, h3, Or.inr ⟨Er.tick hb, h1⟩⟩
 | false =>
  cases hb2 : D.tick.bad with
  | true => exact (Q6K v a bv n cv D w hv h hn8 hn hq hb hb2 (tb (Or.inr hb2))).mono fun e w' ⟨h1, h2, h3⟩ => ⟨_, h2, h3, Or.inr ⟨(Qt.tick hb).er (Er.tick hb2), h1⟩⟩
  | false =>
   cases h0 : rdH 0 (D.view 0) with
   | none =>
    cases h1 : rdH 1 (D.view 1) with
    | none => have G := ok _ hb hb2 (by rw [h0, h1]; rfl) (Q6I v a bv n cv D w hv h hn8 hn hq hb hb2 h0 h1); rw [h0, h1] at G; exact G
    | some y => obtain ⟨t1, r1⟩ := y; have G := ok _ hb hb2 (by rw [h0, h1]; rfl) (Q6H v a bv n cv D t1 r1 w hv h hn8 hn hq hb hb2 h0 h1); rw [h0, h1] at G; exact G
   | some x =>
    obtain ⟨t0, r0⟩ := x
    cases h1 : rdH 1 (D.view 1) with
    | none => have G := ok _ hb hb2 (by rw [h0, h1]; rfl) (Q6G v a bv n cv D t0 r0 w hv h hn8 hn hq hb hb2 h0 h1); rw [h0, h1] at G; exact G
    | some y =>
     obtain ⟨t1, r1⟩ := y
     cases hN : nwr t1 t0 with
     | true => have G := ok _ hb hb2 (by rw [h0, h1]; simp [nwst, hN]) (Q6E v a bv n cv D t0 r0 t1 r1 w hv h hn8 hn hq hb hb2 h0 h1 hN); rw [h0, h1] at G; exact G
     | false => have G := ok _ hb hb2 (by rw [h0, h1]; simp [nwst, hN]) (Q6F v a bv n cv D t0 r0 t1 r1 w hv h hn8 hn hq hb hb2 h0 h1 hN); rw [h0, h1] at G; exact G
def blk (t r : Nat) : List UInt8 := splice (List.replicate 128 0) 0 (sec t r)
theorem qT (t r : Nat) : (blk t r).length = 128 := by rw [blk, length_splice _ _ _ (by rw [qG, List.length_replicate]; omega), List.length_replicate]
def Q6M (D : Dv) (i : Nat) (B : List UInt8) (D' : Dv) (e : Ending) (w' : World) : Prop :=
 (∃ D1, Wn D i B D1 /\ Fl D1 D' /\ e = .returned (.tuple #[])) \/ (Thr 6 e w' /\ (Er D D' \/ ∃ D1, Wn D i B D1 /\ Er D1 D'))
structure HlS (w : World) (T r : Nat) (W : World) : Prop where
 n : W.heap[w.heap.size]? = some (.cells #[.int .u64 T, .int .i64 r] 71 (0, 0))
 b : W.heap[w.heap.size + 1]? = some (.cells (u8s (blk T r)).toArray 80 (0, 0))
theorem Q6N (v a : Nat) (bv : Value) (n : Nat) (cv : Value) (D : Dv) (T r : Nat) (w : World) (hv : Vol w v a n) (h : DQ w a bv n cv D) (hn8 : 8 <= n) (hn : n <= 1000) (hq : D.q.length < 1000000) (hT2 : (T : Int) < 18446744073709551616) (hr2 : (r : Int) < 65536) (hT : qc D \/ Tab w) :
  Calls prog 67 #[.pointer (some ⟨v, 0, none⟩), .agg #[.int .u64 T, .int .i64 r]] w (WrR a bv n cv (Q6M D (T % 2) (blk T r)) w) := by
 have nva : v ∉ ym a bv cv := h.no hv (by decide)
 have hnf : ∀ y, w.heap.size <= y -> y ∉ ym a bv cv := fun y hy => h.ge hy
 have k0 := (y5.refl [] w).alloc (.cells #[.int .u64 T, .int .i64 r] 71)
 have n0 := heap_alloc_new w (.cells #[.int .u64 T, .int .i64 r] 71)
 go_enter func67, ntmps67
 go_wp2_with (first
  | (refine yc rfl 4 rfl 80 rfl _ (zblk _) ?_; intro w1 hn1 hk1 hs1; have HS1 : Hid _ := hs1; clear hs1; have n1 := hk1.get n0 (by simp); have c1 : w1.cell? ⟨w.heap.size, 0, none⟩ = some (.int .u64 T) := y6 n1 rfl; have c1' : w1.cell? ⟨w.heap.size, 1, none⟩ = some (.int .i64 r) := y6 n1 rfl)
  | (go_at_call 95; refine (Q6y T r w1 hT2 (by omega)).mono ?_; rintro e w2 ⟨rfl, hk2⟩; have n2 := hk2.get n1 (by simp); have b2 := hk2.get hn1 (by simp))
  | (refine yc rfl 5 rfl 157 rfl _ (zsec _) ?_; intro w3 hn3 hk3 hs3; clear hs3; have n3 := hk3.get n2 (by simp); have b3 := hk3.get b2 (by simp))
  | (refine yb rfl 157 (.tmp 5) (.tmp 7) rfl w2.heap.size (u8s (sec T r)).toArray rfl rfl 157 _ hn3 (by rw [ssec]; simp [yd, qG]) (by simp [yd, qG]) (yU (qv _)) ?_; intro w4 hn4 hk4))
 have hz1 : w1.heap.size = w.heap.size + 1 + 1 := by have := HS1.out; simpa using this
 have hz2 := hk2.size
 have hz3 := hk3.size
 have hz4 := hk4.size
 rw [World.size_alloc] at hn1 b2 b3
 have n4 := hk4.get n3 (by simp; omega)
 have b4 := hk4.get b3 (by simp; omega)
 have hk04 : y5 [] w w4 := by
  refine y5.trans2 (y5.trans (y5.trans (y5.trans k0 hk1) hk2) hk3) hk4 ?_
  intro x hx; simp at hx; subst hx; exact Or.inr (by omega)
 have HZ : Hid (w1.heap.size = w.heap.size + 1 + 1) := hz1
 clear hz1 HS1 hn1 b2 b3 n3 n2 n1 c1 c1' k0 n0 hk1 hk2 hk3 hk4 hn3
 refine wp_region_held (S := fun _ => True) (by kernel_rfl) ?_
 refine hu 0 (.slice (some ⟨w.heap.size + 1, 0, none⟩) 128 128) rfl (fun W hW => by rfl) trivial ?_
 simp only [zP, zA, zC, zD, zE, zF]
 refine hu 1 (.slice (some ⟨w2.heap.size, 0, none⟩) 32 32) rfl (fun W hW => by rfl) trivial ?_
 simp only [zP, zA, zB, zC, zD, zE, zF]
 have hcp := run_copy_row (P := prog) w4.drew 83 83 3 5 (w.heap.size + 1) 0 128 128 ⟨w2.heap.size, 0, none⟩ 32 32 (u8s (List.replicate 128 0)).toArray 80 (u8s (sec T r)) underlying83 su8 b4 (by rw [yd, qG]; rfl) (Zj (w := w4.drew) hn4) (by simp [yd, qG]) (qv _)
 refine yf (i := 2) (by kernel_rfl) (j0 rfl rfl _ _ (yT (.tmp 8) (.tmp 9) 83 83 rfl (.slice (some ⟨w.heap.size + 1, 0, none⟩) 128 128) (.slice (some ⟨w2.heap.size, 0, none⟩) 32 32) rfl rfl _ hcp) ⟨trivial, ?_⟩)
 simp only [zP, zA, zB, zC, zD, zE, zF]
 refine wpAnyH_done (by kernel_rfl) ?_ _
 have k5 : y5 [w.heap.size + 1] w4 (w4.drew.setRow (w.heap.size + 1) ((u8s (List.replicate 128 0)).toArray.toList.take 0 ++ u8s (sec T r) ++ (u8s (List.replicate 128 0)).toArray.toList.drop (0 + (u8s (sec T r)).length)).toArray) := (y5.refl _ _).drew.setRow (Or.inl (by simp)) _
 have b5 : (w4.drew.setRow (w.heap.size + 1) ((u8s (List.replicate 128 0)).toArray.toList.take 0 ++ u8s (sec T r) ++ (u8s (List.replicate 128 0)).toArray.toList.drop (0 + (u8s (sec T r)).length)).toArray).heap[w.heap.size + 1]? = some (.cells (u8s (blk T r)).toArray 80 (0, 0)) := by
  rw [setRow_heap w4.drew (w.heap.size + 1) _ _ 80 _ b4, blk, <- je]
  simp [splice]
 generalize w4.drew.setRow (w.heap.size + 1) ((u8s (List.replicate 128 0)).toArray.toList.take 0 ++ u8s (sec T r) ++ (u8s (List.replicate 128 0)).toArray.toList.drop (0 + (u8s (sec T r)).length)).toArray = w5 at *
 have n5 := k5.get n4 (by simp)
 have hk05 : y5 [] w w5 := hk04.trans2 k5 (by intro x hx; simp at hx; subst hx; exact Or.inr (by omega))
 clear hcp hn4 n4 b4 hk04 k5
 go_wp2
 have hS : HlS w T r w5.drew := ⟨n5, b5⟩
 refine wp_region_held (S := HlS w T r) (by kernel_rfl) ?_
 refine hu 0 (.pointer (some ⟨v, 0, none⟩)) rfl (fun W hW => by rfl) hS ?_
 simp only [zP, zA, zC, zD, zE, zF]
 refine hu 1 (.agg #[.int .u64 T, .int .i64 r]) rfl (fun W hW => y9 71 (.tmp 3) rfl ⟨w.heap.size, 0, none⟩ rfl _ (run_loadVar_row W _ _ _ _ _ _ hW.n underlying71 rfl QT)) hS ?_
 simp only [zP, zA, zB, zC, zD, zE, zF]
 refine hu 3 (.agg (u8s (blk T r)).toArray) rfl (fun W hW => y9 80 (.tmp 4) rfl ⟨w.heap.size + 1, 0, none⟩ rfl _ (run_loadVar_row W _ _ _ _ _ _ hW.b underlying80 rfl (by rw [jF]; simp [yd, qT]))) hS ?_
 simp only [zP, zA, zB, zC, zD, zE, zF]
 refine yf (i := 2) (by kernel_rfl) (yo rfl (by rfl) 96 #[.agg #[.int .u64 T, .int .i64 r]] (yk _ _ _ rfl _ (by simp [Act.eval]) (ZH _ _)) _ (Q18 T r _) ?_)
 rintro e w6 ⟨rfl, k6⟩
 have n6 := k6.get (w := w5.drew) n5 (by simp)
 have b6 := k6.get (w := w5.drew) b5 (by simp)
 refine ⟨_, rfl, ⟨n6, b6⟩, ?_⟩
 simp only [zP, zA, zB, zC, zD, zE, zF]
 have hk06 : y5 [] w w6 := hk05.drew.trans k6
 have hV6 : Vol w6 v a n := hk06.get hv (by simp)
 have hD6 := h.k0 hk06
 refine yf (i := 4) (by kernel_rfl) (gM rfl (by rfl) 64 #[.pointer (some ⟨v, 0, none⟩), .int .i64 (T % 2 : Nat), .agg (u8s (blk T r)).toArray] (yk _ _ _ rfl _ (by simp [Act.eval]) (Q6A _ _)) _ (Q1u v a bv n cv D (blk T r) (T % 2) w6 hV6 hD6 (by omega) hn (qT T r) (by omega) (hT.imp id fun hT => hT.k hk06)) ?_)
 rintro e w7 ⟨cv7, D7, hd7, hk7, hf7, ⟨hw7, rfl⟩ | ⟨he7, ht7⟩⟩
 ·refine Or.inl ⟨_, rfl, ⟨hk7.get n6 (hnf _ (Nat.le_refl _)), hk7.get b6 (hnf _ (by omega))⟩, ?_⟩
  simp only [zP, zA, zB, zC, zD, zE, zF]
  refine wpAnyH_done (by kernel_rfl) ?_ _
  have hV7 : Vol w7 v a n := hk7.get hV6 nva
  have hk07 : y5 (ym a bv cv) w w7 := (hk06.mono (by simp)).trans hk7
  have hz6 := hk06.size
  have hT7 : qc D7 \/ Tab w7 := hT.imp hw7.good.2 fun hT => (hT.k hk06).kept hk7 ((hT.k hk06).dq hD6)
  have hq7 : D7.q.length <= 1000000 := by rw [hw7.q, List.length_append]; simp; omega
  clear hS n5 b5 n6 b6 k6 hk05
  go_wp2_with fail
  refine (ZN v a bv n cv7 D7 w7 hV7 hd7 hn hq7).mono ?_
  have hsub : ∀ y ∈ ym a bv cv7, y ∈ ym a bv cv \/ w.heap.size <= y := by
   intro y hy
   rcases List.mem_cons.1 hy with rfl | hy
   ·exact Or.inl List.mem_cons_self
   rcases List.mem_append.1 hy with hy | hy
   ·exact Or.inl (List.mem_cons_of_mem _ (List.mem_append_left _ hy))
   ·rcases hf7 y (by simpa using hy) with e | e
    ·exact Or.inl (List.mem_cons_of_mem _ (List.mem_append_right _ (by simpa using e)))
    ·exact Or.inr (by omega)
  have hfr : ∀ (cv8 : Value) (w8 : World), (∀ y, cv8.ownBlock = some y -> cv7.ownBlock = some y \/ w7.heap.size <= y) -> ∀ y, cv8.ownBlock = some y -> cv.ownBlock = some y \/ w.heap.size <= y := by
   intro cv8 w8 hf8 y hy
   have hz7 := hk07.size
   rcases hf8 y hy with e | e
   ·rcases hf7 y e with e | e
    ·exact Or.inl e
    ·exact Or.inr (by omega)
   ·exact Or.inr (by omega)
  rintro e w8 ⟨cv8, D8, hd8, hk8, hf8, ⟨hw8, rfl⟩ | ⟨he8, ht8⟩⟩
  ·go_wp2
   go_end0
   exact ⟨cv8, D8, hd8, hk07.trans2 hk8 hsub, hfr cv8 w8 hf8, Or.inl ⟨D7, hw7, hw8, rfl⟩⟩
  ·obtain ⟨f, o, rfl, hf⟩ := ht8.ex
   exact ⟨rfl, cv8, D8, hd8, hk07.trans2 hk8 hsub, hfr cv8 w8 hf8, Or.inr ⟨ht8, Or.inr ⟨D7, hw7, he8⟩⟩⟩
 ·obtain ⟨f, o, rfl, hf⟩ := ht7.ex
  refine Or.inr ⟨_, rfl, ?_⟩
  have hz6 := hk06.size
  exact ⟨rfl, cv7, D7, hd7, (hk06.mono (by simp)).trans hk7, fun y hy => (hf7 y hy).imp id (fun h => by omega), Or.inr ⟨ht7, Or.inl he7⟩⟩
end Go.Proofs.YtcklgafpgdhnaabGreatDoor
