import Derived.Test.YtcklgafpgdhnaabGreatDoorPqat
import Derived.Test.YtcklgafpgdhnaabGreatDoorPqaf
import Derived.LoopN
import Derived.Test.YtcklgafpgdhnaabGreatDoorPqap
set_option maxRecDepth 100000
set_option maxHeartbeats 4000000
open Go.Proofs.Tryz
namespace Go.Proofs.YtcklgafpgdhnaabGreatDoor
open Go.RowKit
theorem Q6O {a : Nat} {bv cv cv1 : Value} {B : Nat} (hf : ∀ y, cv1.ownBlock = some y -> cv.ownBlock = some y \/ B <= y) : ∀ y ∈ ym a bv cv1, y ∈ ym a bv cv \/ B <= y := by
 intro y hy
 rcases List.mem_cons.1 hy with rfl | hy
 ·exact Or.inl List.mem_cons_self
 rcases List.mem_append.1 hy with hy | hy
 ·exact Or.inl (List.mem_cons_of_mem _ (List.mem_append_left _ hy))
 ·rcases hf y (by simpa using hy) with e | e
  ·exact Or.inl (List.mem_cons_of_mem _ (List.mem_append_right _ (by simpa using e)))
  ·exact Or.inr e
theorem Q6P {cv cv1 cv2 : Value} {B C : Nat} (hf : ∀ y, cv1.ownBlock = some y -> cv.ownBlock = some y \/ B <= y) (hg : ∀ y, cv2.ownBlock = some y -> cv1.ownBlock = some y \/ C <= y) (h : B <= C) : ∀ y, cv2.ownBlock = some y -> cv.ownBlock = some y \/ B <= y := by
 intro y hy
 rcases hg y hy with e | e
 ·exact hf y e
 ·exact Or.inr (Nat.le_trans h e)
def yn (D : Dv) : (Nat × Nat) × Bool := nwst (rdH 0 (D.view 0)) (rdH 1 (D.view 1))
theorem Qt.newest {D E : Dv} (h : Qt D E) : yn E = yn D := by unfold yn; rw [h.view, h.view]
theorem Q6Q (t : Nat) : (nxt t : Int) < 18446744073709551616 := by unfold nxt; omega
def Lh (D : Dv) (t r : Nat) (D' : Dv) : Prop := ∃ D1, Wn D (t % 2) (blk t r) D1 /\ Fl D1 D'
def Lf (D : Dv) (t r : Nat) (D' : Dv) : Prop := Er D D' \/ ∃ D1, Wn D (t % 2) (blk t r) D1 /\ Er D1 D'
theorem Qt.lh {D E F : Dv} {t r : Nat} (h : Qt D E) (g : Lh E t r F) : Lh D t r F := by
 obtain ⟨D1, g1, g2⟩ := g
 exact ⟨D1, h.wn g1, g2⟩
theorem Qt.lf {D E F : Dv} {t r : Nat} (h : Qt D E) (g : Lf E t r F) : Lf D t r F := by
 rcases g with g | ⟨D1, g1, g2⟩
 ·exact Or.inl (h.er g)
 ·exact Or.inr ⟨D1, h.wn g1, g2⟩
theorem Lh.good {D D' : Dv} {t r : Nat} (h : Lh D t r D') : qc D' ↔ qc D := by
 obtain ⟨D1, g1, g2⟩ := h
 exact g2.good.trans g1.good
theorem Lh.q {D D' : Dv} {t r : Nat} (h : Lh D t r D') : D'.q = [] := by
 obtain ⟨D1, _, g2⟩ := h
 exact g2.q
def FmtP (D D' : Dv) (o : Option Int) : Prop :=
 (o = none /\ ∃ D1, Lh D (nxt (yn D).1.1) 0 D1 /\ Lh D1 (nxt (nxt (yn D).1.1)) 0 D') \/
 (o = some 6 /\ (Lf D (nxt (yn D).1.1) 0 D' \/ ∃ D1, Lh D (nxt (yn D).1.1) 0 D1 /\ Lf D1 (nxt (nxt (yn D).1.1)) 0 D'))
def DEnd (a : Nat) (bv : Value) (n : Nat) (cv : Value) (B : Nat) (P : Dv -> Option Int -> Prop) (o : Option Int) (W : World) : Prop :=
 ∃ cv' D', DQ W a bv n cv' D' /\ (∀ y, cv'.ownBlock = some y -> cv.ownBlock = some y \/ B <= y) /\ P D' o
theorem DEnd.err {a : Nat} {bv : Value} {n : Nat} {cv : Value} {B : Nat} {P : Dv -> Option Int -> Prop} {o : Option Int} {W W' : World} {T : List Nat} (h : DEnd a bv n cv B P o W) (k : y5 T W W') (hT : ∀ x ∈ T, ∃ cs fr, W.heap[x]? = some (.cells cs 35 fr)) : DEnd a bv n cv B P o W' := by
 obtain ⟨cv', D', h1, h2, h3⟩ := h
 refine ⟨cv', D', h1.kept k ?_, h2, h3⟩
 intro y hy hm
 obtain ⟨cs, fr, hh⟩ := hT y hm
 exact h1.no hh (by decide) hy
theorem Q6R (p a : Nat) (bv : Value) (n : Nat) (cv : Value) (D : Dv) (B : Nat) (w : World) (hB : B <= w.heap.size) (hp : w.heap[p]? = some (.cells #[.iface 23 (.pointer (some ⟨a, 0, none⟩))] 103 (0, 0))) (h : DQ w a bv n cv D) (hn8 : 8 <= n) (hn : n <= 400) (hq : D.q.length < 1000000) (hT : qc D \/ Tab w) :
  Calls prog 88 #[.pointer (some ⟨p, 0, none⟩)] w (Q28 (ym a bv cv) (DEnd a bv n cv B (FmtP D)) w) := by
 have c0 : w.cell? ⟨p, 0, none⟩ = some (.iface 23 (.pointer (some ⟨a, 0, none⟩))) := y6 hp rfl
 obtain ⟨bp, bc, rfl⟩ := qF h.b
 have HX : Hid (yn D = yn D) := rfl
 have HN : Hid (∀ v W, Vol W v a n -> DQ W a (.slice bp n bc) n cv D -> (qc D \/ Tab W) -> Calls prog 70 #[.pointer (some ⟨v, 0, none⟩)] W (RdR a (.slice bp n bc) n cv D (fun e _ => e = .returned (nwV (yn D))) W)) := fun v W hV hD hT => Q6L v a _ n cv D W hV hD hn8 (by omega) (by omega) hT
 have HP : Hid (∀ D' o, FmtP D D' o ↔ (o = none /\ ∃ D1, Lh D (nxt (yn D).1.1) 0 D1 /\ Lh D1 (nxt (nxt (yn D).1.1)) 0 D') \/ (o = some 6 /\ (Lf D (nxt (yn D).1.1) 0 D' \/ ∃ D1, Lh D (nxt (yn D).1.1) 0 D1 /\ Lf D1 (nxt (nxt (yn D).1.1)) 0 D'))) := fun _ _ => Iff.rfl
 obtain ⟨⟨⟨t0, r0⟩, b0⟩, hx⟩ : ∃ x, x = yn D := ⟨_, rfl⟩
 rw [<- hx] at HN HP
 clear hx HX
 have l1 := Q6Q t0
 have l2 := Q6Q (nxt t0)
 have X1 : Hid (∀ W, Calls prog 66 #[.agg #[.int .u64 t0, .int .i64 r0], .int .i64 0] W fun e w' => e = .returned (.agg #[.int .u64 (nxt t0), .int .i64 0]) /\ y5 [] W w') := fun W => Q1a t0 r0 0 W
 have X2 : Hid (∀ W, Calls prog 66 #[.agg #[.int .u64 (nxt t0), .int .i64 0], .int .i64 0] W fun e w' => e = .returned (.agg #[.int .u64 (nxt (nxt t0)), .int .i64 0]) /\ y5 [] W w') := fun W => Q1a (nxt t0) 0 0 W
 generalize nxt (nxt t0) = t2 at *
 generalize nxt t0 = t1 at *
 go_enter func88, ntmps88
 go_wp2_with fail
 refine (Q1z a n bc bp cv D w h.d hn8 hn).mono ?_
 rintro e w1 ⟨v, rfl, hv1, hvl, hk1⟩
 have h1 := h.k0 hk1
 have hT1 : qc D \/ Tab w1 := hT.imp id fun hT => hT.k hk1
 have nv : v ∉ ym a (.slice bp n bc) cv := h1.no hv1 (by decide)
 go_wp2_with fail
 refine (HN.out v w1 hv1 h1 hT1).mono ?_
 rintro e w2 ⟨D2, hd2, hk2, ⟨hq2, rfl⟩ | ⟨he2, ht2⟩⟩
 rotate_left
 ·obtain ⟨f, o, rfl, hf⟩ := ht2.ex
  exact ⟨rfl, some 6, ht2, ⟨cv, D2, hd2, fun y hy => Or.inl hy, (HP.out _ _).2 (Or.inr ⟨rfl, Or.inl (Or.inl he2)⟩)⟩, (hk1.mono (by simp)).trans (hk2.mono (by intro y hy; simp at hy; subst hy; simp [ym]))⟩
 have sub1 : ∀ y ∈ [a], y ∈ ym a (.slice bp n bc) cv := by intro y hy; simp at hy; subst hy; simp [ym]
 have hv2 : Vol w2 v a n := hk2.get hv1 (fun hm => nv (sub1 _ hm))
 have hT2 : qc D2 \/ Tab w2 := hT1.imp hq2.good.2 fun hT => hT.kept hk2 (hT.dqa h1)
 have hk02 : y5 (ym a (.slice bp n bc) cv) w w2 := (hk1.mono (by simp)).trans (hk2.mono sub1)
 have k3 := (y5.refl [] w2).alloc (.cells #[.int .u64 (t0 : Int), .int .i64 (r0 : Int)] 71)
 have n3 := heap_alloc_new w2 (.cells #[.int .u64 (t0 : Int), .int .i64 (r0 : Int)] 71)
 have hd3 := hd2.k0 k3
 have hv3 : Vol (w2.alloc (.cells #[.int .u64 (t0 : Int), .int .i64 (r0 : Int)] 71)) v a n := k3.get hv2 (by simp)
 have hk03 := hk02.trans2 k3 (by simp)
 have hlv2 := yt hv2
 have hz2 := hk02.size
 have nf2 := hd2.ge (Nat.le_refl _)
 have hT3 : qc D2 \/ Tab (w2.alloc (.cells #[.int .u64 (t0 : Int), .int .i64 (r0 : Int)] 71)) := hT2.imp id fun hT => hT.k k3
 clear h1 hk1 hT1
 simp only [nwV]
 go_wp2_with fail
 refine wp_loop_rounds 3 ?_
 rw [rounds_succ]
 go_wp2_with fail
 refine (X1.out _).mono ?_
 rintro e w4 ⟨rfl, hk4⟩
 have n4 := hk4.get n3 (by simp)
 have c40 : w4.cell? ⟨w2.heap.size, 0, none⟩ = some (.int .u64 t0) := y6 n4 rfl
 have c41 : w4.cell? ⟨w2.heap.size, 1, none⟩ = some (.int .i64 r0) := y6 n4 rfl
 have f40 : w4.frozen? ⟨w2.heap.size, 0, none⟩ = false := frozen_of_row _ _ _ _ _ n4
 have f41 : w4.frozen? ⟨w2.heap.size, 1, none⟩ = false := frozen_of_row _ _ _ _ _ n4
 have k5 : y5 [w2.heap.size] w4 ((w4.setCell ⟨w2.heap.size, 0, none⟩ (.int .u64 t1)).setCell ⟨w2.heap.size, 1, none⟩ (.int .i64 0)) := ((y5.refl [w2.heap.size] w4).setCell (p := ⟨w2.heap.size, 0, none⟩) (Or.inl (by simp)) _).setCell (p := ⟨w2.heap.size, 1, none⟩) (Or.inl (by simp)) _
 have n5 := yg (i := 1) (.int .i64 0) (yg (i := 0) (.int .u64 (t1 : Int)) n4)
 have hd5 := (hd3.k0 hk4).k1 k5 nf2
 have hv5 : Vol ((w4.setCell ⟨w2.heap.size, 0, none⟩ (.int .u64 t1)).setCell ⟨w2.heap.size, 1, none⟩ (.int .i64 0)) v a n := k5.get (hk4.get hv3 (by simp)) (by simp; omega)
 have hk05 : y5 (ym a (.slice bp n bc) cv) w ((w4.setCell ⟨w2.heap.size, 0, none⟩ (.int .u64 t1)).setCell ⟨w2.heap.size, 1, none⟩ (.int .i64 0)) := (hk03.trans2 hk4 (by simp)).trans2 k5 (by intro x hx; simp at hx; subst hx; exact Or.inr (by omega))
 have hT5 : qc D2 \/ Tab ((w4.setCell ⟨w2.heap.size, 0, none⟩ (.int .u64 t1)).setCell ⟨w2.heap.size, 1, none⟩ (.int .i64 0)) := hT3.imp id fun hT => (hT.k hk4).kept k5 (by have := (hT.k hk4).ne n4 (by decide); simpa using this)
 generalize hW5 : (w4.setCell ⟨w2.heap.size, 0, none⟩ (.int .u64 t1)).setCell ⟨w2.heap.size, 1, none⟩ (.int .i64 0) = w5 at *
 have HW5 : Hid _ := hW5
 clear hW5
 have c50 : w5.cell? ⟨w2.heap.size, 0, none⟩ = some (.int .u64 t1) := y6 n5 rfl
 have c51 : w5.cell? ⟨w2.heap.size, 1, none⟩ = some (.int .i64 0) := y6 n5 rfl
 go_wp2_with fail
 rw [HW5.out]
 go_wp2_with fail
 refine (Q6N v a (.slice bp n bc) n cv D2 t1 0 w5 hv5 hd5 hn8 (by omega) (by rw [hq2.q]; omega) l1 (by omega) hT5).mono ?_
 rintro e w6 ⟨cv6, D6, hd6, hk6, hf6, ⟨D1, hw6, hl6, rfl⟩ | ⟨ht6, he6⟩⟩
 rotate_left
 ·obtain ⟨f, o, rfl, hf⟩ := ht6.ex
  exact ⟨rfl, some 6, ht6, ⟨cv6, D6, hd6, fun y hy => (hf6 y hy).imp id fun h => by have := hk05.size; omega, (HP.out _ _).2 (Or.inr ⟨rfl, Or.inl (hq2.lf he6)⟩)⟩, hk05.trans hk6⟩
 have hL6 : Lh D t1 0 D6 := hq2.lh ⟨D1, hw6, hl6⟩
 have hz5 := hk05.size
 have hf6' : ∀ y, cv6.ownBlock = some y -> cv.ownBlock = some y \/ w.heap.size <= y := fun y hy => (hf6 y hy).imp id fun h => by omega
 have n6 := hk6.get n5 nf2
 have hv6 : Vol w6 v a n := hk6.get hv5 nv
 have hk06 := hk05.trans hk6
 have hT6 : qc D6 \/ Tab w6 := hT5.imp (fun hg => hL6.good.2 (hq2.good.1 hg)) fun hT => hT.kept hk6 (hT.dq hd5)
 have c60 : w6.cell? ⟨w2.heap.size, 0, none⟩ = some (.int .u64 t1) := y6 n6 rfl
 have c61 : w6.cell? ⟨w2.heap.size, 1, none⟩ = some (.int .i64 0) := y6 n6 rfl
 clear n5 hd5 hT5 c50 c51 hv5 k5 n4 n3
 go_wp2_with fail
 rw [rounds_succ]
 go_wp2_with fail
 refine (X2.out _).mono ?_
 rintro e w7 ⟨rfl, hk7⟩
 have n7 := hk7.get n6 (by simp)
 have c70 : w7.cell? ⟨w2.heap.size, 0, none⟩ = some (.int .u64 t1) := y6 n7 rfl
 have c71 : w7.cell? ⟨w2.heap.size, 1, none⟩ = some (.int .i64 0) := y6 n7 rfl
 have f70 : w7.frozen? ⟨w2.heap.size, 0, none⟩ = false := frozen_of_row _ _ _ _ _ n7
 have f71 : w7.frozen? ⟨w2.heap.size, 1, none⟩ = false := frozen_of_row _ _ _ _ _ n7
 have k8 : y5 [w2.heap.size] w7 ((w7.setCell ⟨w2.heap.size, 0, none⟩ (.int .u64 t2)).setCell ⟨w2.heap.size, 1, none⟩ (.int .i64 0)) := ((y5.refl [w2.heap.size] w7).setCell (p := ⟨w2.heap.size, 0, none⟩) (Or.inl (by simp)) _).setCell (p := ⟨w2.heap.size, 1, none⟩) (Or.inl (by simp)) _
 have n8 := yg (i := 1) (.int .i64 0) (yg (i := 0) (.int .u64 (t2 : Int)) n7)
 have nf6 : w2.heap.size ∉ ym a (.slice bp n bc) cv6 := (hd6.no n6 (by decide))
 have hd8 := (hd6.k0 hk7).k1 k8 nf6
 have hv8 : Vol ((w7.setCell ⟨w2.heap.size, 0, none⟩ (.int .u64 t2)).setCell ⟨w2.heap.size, 1, none⟩ (.int .i64 0)) v a n := k8.get (hk7.get hv6 (by simp)) (by simp; omega)
 have hk08 : y5 (ym a (.slice bp n bc) cv) w ((w7.setCell ⟨w2.heap.size, 0, none⟩ (.int .u64 t2)).setCell ⟨w2.heap.size, 1, none⟩ (.int .i64 0)) := (hk06.trans2 hk7 (by simp)).trans2 k8 (by intro x hx; simp at hx; subst hx; exact Or.inr (by omega))
 have hT8 : qc D6 \/ Tab ((w7.setCell ⟨w2.heap.size, 0, none⟩ (.int .u64 t2)).setCell ⟨w2.heap.size, 1, none⟩ (.int .i64 0)) := hT6.imp id fun hT => (hT.k hk7).kept k8 (by have := (hT.k hk7).ne n7 (by decide); simpa using this)
 generalize hW8 : (w7.setCell ⟨w2.heap.size, 0, none⟩ (.int .u64 t2)).setCell ⟨w2.heap.size, 1, none⟩ (.int .i64 0) = w8 at *
 have HW8 : Hid _ := hW8
 clear hW8
 have c80 : w8.cell? ⟨w2.heap.size, 0, none⟩ = some (.int .u64 t2) := y6 n8 rfl
 have c81 : w8.cell? ⟨w2.heap.size, 1, none⟩ = some (.int .i64 0) := y6 n8 rfl
 go_wp2_with fail
 rw [HW8.out]
 go_wp2_with fail
 refine (Q6N v a (.slice bp n bc) n cv6 D6 t2 0 w8 hv8 hd8 hn8 (by omega) (by rw [hL6.q]; simp) l2 (by omega) hT8).mono ?_
 have hz8 := hk08.size
 rintro e w9 ⟨cv9, D9, hd9, hk9, hf9, ⟨E1, hw9, hl9, rfl⟩ | ⟨ht9, he9⟩⟩
 ·go_wp2_with fail
  rw [rounds_succ]
  go_wp2
  go_end0
  exact ⟨none, rfl, ⟨cv9, D9, hd9, fun y hy => (Q6P hf6' hf9 hz8 y hy).imp id fun h => by omega, (HP.out _ _).2 (Or.inl ⟨rfl, D6, hL6, E1, hw9, hl9⟩)⟩, hk08.trans2 hk9 (Q6O hf6')⟩
 ·obtain ⟨f, o, rfl, hf⟩ := ht9.ex
  exact ⟨rfl, some 6, ht9, ⟨cv9, D9, hd9, fun y hy => (Q6P hf6' hf9 hz8 y hy).imp id fun h => by omega, (HP.out _ _).2 (Or.inr ⟨rfl, Or.inr ⟨D6, hL6, he9⟩⟩)⟩, hk08.trans2 hk9 (Q6O hf6')⟩
def Q6S (_ : World) : Prop := True
theorem Q6T (a : Nat) (bv : Value) (n : Nat) (cv : Value) (D : Dv) (w : World) (h : DQ w a bv n cv D) (hn8 : 8 <= n) (hn : n <= 400) (hq : D.q.length < 1000000) (hT : qc D \/ Tab w) :
  Calls prog 52 #[.iface 23 (.pointer (some ⟨a, 0, none⟩))] w (Z1 (ym a bv cv) (DEnd a bv n cv w.heap.size (FmtP D)) w) := by
 have hmf := jb
 have k1 := (y5.refl [] w).alloc (.cells #[.iface 23 (.pointer (some ⟨a, 0, none⟩))] 103)
 have n1 := heap_alloc_new w (.cells #[.iface 23 (.pointer (some ⟨a, 0, none⟩))] 103)
 have h1 := h.k0 k1
 have HC : Hid (∀ b, Calls prog 32 #[.string b, .func (.func 88) #[] #[.pointer (some ⟨w.heap.size, 0, none⟩)]] (w.alloc (.cells #[.iface 23 (.pointer (some ⟨a, 0, none⟩))] 103)) (Z1 (ym a bv cv) (DEnd a bv n cv w.heap.size (FmtP D)) (w.alloc (.cells #[.iface 23 (.pointer (some ⟨a, 0, none⟩))] 103)))) := by
  intro b
  refine Q29 b 88 _ (fun _ _ => by kernel_rfl) _ _ _ (fun x hx => h1.lt x hx) (fun o W W' T hR hK hT => hR.err hK fun x hx => (hT x hx).2.2) ?_
  intro W hW _
  exact Q6R w.heap.size a bv n cv D w.heap.size W (Nat.le_trans k1.size hW.size) (hW.get n1 (by simp)) (h1.k0 hW) hn8 hn hq (hT.imp id fun hT => (hT.k k1).k hW)
 clear h1 n1
 go_enter func52, ntmps52
 go_wp2_with (go_at_call 32; refine (HC.out _).mono ?_; rintro e w2 ⟨o, err, rfl, hc2, hr2, hk2⟩)
 go_ret
 exact ⟨o, err, rfl, hc2, hr2, (k1.mono (by simp)).trans hk2⟩
theorem Q6U (a : Nat) (w : World) (S : List Nat) (R : Option Int -> World -> Prop) (hR : Calls prog 52 #[.iface 23 (.pointer (some ⟨a, 0, none⟩))] w (Z1 S R w)) :
  Calls prog 27 #[.pointer (some ⟨a, 0, none⟩)] w (Z1 S R w) := by
 have HR : Hid (Calls _ _ _ _ _) := hR
 clear hR
 go_enter func27, ntmps27
 go_wp2_with (go_at_call 52; refine HR.out.mono ?_; rintro e w2 ⟨o, err, rfl, h2⟩)
 go_ret
 exact ⟨o, err, rfl, h2⟩
def TV (w : World) (A : Nat -> Prop) (t : Tr) (r : Value) : Prop := (r = .nilIface /\ t = ⟨0, ([] : List Pr), 0⟩) \/ (ND w A t.h t.n r /\ qO t.h t.n = false)
theorem TV.kept {S : List Nat} {w w' : World} {A A' : Nat -> Prop} {t : Tr} {r : Value} (h : TV w A t r) (k : y5 S w w') (hS : ∀ y ∈ S, ¬ A y) (hA : ∀ y, A y -> A' y) : TV w' A' t r := h.imp id fun h => ⟨ND.kept k hS hA h.1, h.2⟩
theorem TV.k {w W : World} {A : Nat -> Prop} {t : Tr} {r : Value} (hx : TV w A t r) (k : y5 [] w W) : TV W A t r := TV.kept hx k (by simp) (fun _ h => h)
theorem TV.shape {w : World} {A : Nat -> Prop} {t : Tr} {r : Value} (h : TV w A t r) : r = .nilIface \/ ∃ t v, r = .iface t v := by
 rcases h with ⟨rfl, _⟩ | h
 ·exact Or.inl rfl
 ·exact Or.inr h.1.iface
theorem TV.one {w : World} {A : Nat -> Prop} {t : Tr} {r : Value} (h : TV w A t r) : r.oneCell' = true := by
 rcases h.shape with rfl | ⟨_, _, rfl⟩ <;> rfl
theorem QN {w : World} {A : Nat -> Prop} {t : Tr} {r : Value} (h : TV w A t r) : Calls prog 82 #[.agg #[.string ⟨#[]⟩, .int .i64 t.pl, r]] w fun e w' => ∃ x, e = .returned x /\ ND w' A t.h t.n x /\ y5 [] w w' := by
 rcases h with ⟨rfl, rfl⟩ | ⟨h, _⟩
 ·go_enter func82, ntmps82
  go_wp2
  go_ret
  exact ⟨_, rfl, ⟨_, rfl, Or.inl ⟨rfl, rfl⟩, fun y hy => by cases hy⟩, (y5.refl _ _).alloc _⟩
 ·obtain ⟨ty, v, rfl⟩ := h.iface
  have HN : Hid _ := h
  clear h
  go_enter func82, ntmps82
  go_wp2
  go_ret
  exact ⟨_, rfl, ND.k HN.out ((y5.refl _ _).alloc _), (y5.refl _ _).alloc _⟩
def qU (t : Tr) : List Nat := if qO t.h t.n then [] else t.pl :: gB t.h t.n
theorem Q6V (t : Tr) : (qU t).length = qH t := by
 unfold qU qH
 split
 ·rfl
 ·rw [List.length_cons, Q5H]
theorem Q6W {fid : FuncId} {c : Value} {S : List Nat} {I : List Nat -> World -> Prop} {Ok : List Nat -> Prop} {A : Nat -> Prop} {w : World} (hv : Vis fid c S I Ok A w) {t : Tr} {r : Value} (h : TV w A t r) (hAb : ∀ z, A z -> z < w.heap.size) (hcnt : qH t <= 1000000) (seen : List Nat) (W : World) (hok : Ok (seen ++ qU t)) (hI : I seen W) :
  Calls prog 80 #[.agg #[.string ⟨#[]⟩, .int .i64 t.pl, r], .func (.func fid) #[] #[c]] W (Q5L S I (seen ++ qU t) W) := by
 rcases h with ⟨rfl, rfl⟩ | ⟨h, hn⟩
 ·have HI : Hid (I (seen ++ qU ⟨0, ([] : List Pr), 0⟩) (W.alloc (.cells #[.string ⟨#[]⟩, .int .i64 0, .nilIface] 77))) := by
   show I _ _
   have : seen ++ qU ⟨0, ([] : List Pr), 0⟩ = seen := by simp [qU, qO]
   rw [this]
   exact hv.fresh _ _ _ hI ((y5.refl _ _).alloc _)
  clear hI hv hok
  go_enter func80, ntmps80
  go_wp2
  go_end0
  exact ⟨rfl, HI.out, (y5.refl S W).alloc _⟩
 ·obtain ⟨ty, v, rfl⟩ := h.iface
  have k1 := (y5.refl [] W).alloc (.cells #[.string ⟨#[]⟩, .int .i64 (t.pl : Int), .iface ty v] 77)
  have hc : gm t.h t.n <= 1000000 := by unfold qH at hcnt; rw [hn] at hcnt; simpa using hcnt
  have he : seen ++ (t.pl :: gB t.h t.n) = seen ++ qU t := by simp [qU, hn]
  have HW : Hid (Calls _ _ _ _ _) := Q5Q hv t.h seen ⟨#[]⟩ t.pl t.n (.iface ty v) _ h hAb hc (by rw [he]; exact hok) (hv.fresh _ _ _ hI k1)
  rw [he] at HW
  clear hI hv h hc he hcnt hn hok
  go_enter func80, ntmps80
  go_wp2_with (go_at_call 109; refine HW.out.mono ?_; rintro e w3 ⟨rfl, hI3, hk3⟩)
  go_end0
  exact ⟨rfl, hI3, (k1.mono (by simp)).trans hk3⟩
def NdI (w : World) (b : Nat) (seen : List Nat) (W : World) : Prop := W.heap[b]? = some (.cells #[.int .i64 (wrap64 (seen.length : Int))] 3 (0, 0)) /\ y5 [b] w W
theorem Q6X (w : World) (b : Nat) (seen : List Nat) (W : World) (f : ByteArray) (p : Nat) (x : Value) (h : NdI w b seen W) : Calls prog 81 #[.agg #[.string f, .int .i64 p, x], .pointer (some ⟨b, 0, none⟩)] W fun e W' => e = .returned (.tuple #[]) /\ NdI w b (seen ++ [p]) W' /\ y5 [b] W W' := by
 have k1 := (y5.refl [] W).alloc (.cells #[.string f, .int .i64 p, x] 75)
 have n1 := k1.get h.1 (by simp)
 have hlt := yt h.1
 have hw64 : wrap64 (wrap64 (seen.length : Int) + 1) = wrap64 ((seen ++ [p]).length : Int) := by
  rw [List.length_append]
  simp only [wrap64, List.length_cons, List.length_nil]
  omega
 obtain ⟨m, hm⟩ : ∃ m, m = wrap64 (seen.length : Int) := ⟨_, rfl⟩
 rw [<- hm] at n1 hw64
 have h1 := h.1
 rw [<- hm] at h1
 have c0 : (W.alloc (.cells #[.string f, .int .i64 p, x] 75)).cell? ⟨b, 0, none⟩ = some (.int .i64 m) := y6 n1 rfl
 have f0 : (W.alloc (.cells #[.string f, .int .i64 p, x] 75)).frozen? ⟨b, 0, none⟩ = false := frozen_of_row _ _ _ _ _ n1
 have k2 : y5 [b] W ((W.setCell ⟨b, 0, none⟩ (.int .i64 (wrap64 (m + 1)))).alloc (.cells #[.string f, .int .i64 p, x] 75)) := ((y5.refl [b] W).setCell (p := ⟨b, 0, none⟩) (Or.inl (by simp)) _).alloc _
 have n2 : ((W.setCell ⟨b, 0, none⟩ (.int .i64 (wrap64 (m + 1)))).alloc (.cells #[.string f, .int .i64 p, x] 75)).heap[b]? = some (.cells #[.int .i64 (wrap64 (m + 1))] 3 (0, 0)) := ((y5.refl [] _).alloc _).get (yg (i := 0) (.int .i64 (wrap64 (m + 1))) h1) (by simp)
 have HR : Hid (NdI w b (seen ++ [p]) ((W.setCell ⟨b, 0, none⟩ (.int .i64 (wrap64 (m + 1)))).alloc (.cells #[.string f, .int .i64 p, x] 75)) /\ y5 [b] W ((W.setCell ⟨b, 0, none⟩ (.int .i64 (wrap64 (m + 1)))).alloc (.cells #[.string f, .int .i64 p, x] 75))) :=
  ⟨⟨by rw [n2, hw64], h.2.trans k2⟩, k2⟩
 clear h n1 k1 k2 n2 hm h1 hw64
 go_enter func81, ntmps81
 go_wp2
 go_end0
 exact ⟨rfl, HR.out.1, HR.out.2⟩
theorem Q6Y (fn : Fn) (first cap : Array Value) (w : World) : (Instr.makeFunc fn first cap).run prog w = .ok (.func fn first cap) w := rfl
theorem Q6Z {w : World} {A : Nat -> Prop} {t : Tr} {r : Value} (h : TV w A t r) (hAb : ∀ z, A z -> z < w.heap.size) (hc : qH t <= 1000000) : Calls prog 44 #[.agg #[.string ⟨#[]⟩, .int .i64 t.pl, r]] w fun e w' => e = .returned (.int .i64 (qH t : Nat)) /\ y5 [] w w' := by
 have hmf := Q6Y
 have k1 := ((y5.refl [] w).alloc (.cells #[.string ⟨#[]⟩, .int .i64 (t.pl : Int), r] 77)).alloc (.cells #[.int .i64 0] 3)
 have n1 : ((w.alloc (.cells #[.string ⟨#[]⟩, .int .i64 (t.pl : Int), r] 77)).alloc (.cells #[.int .i64 0] 3)).heap[w.heap.size + 1]? = some (.cells #[.int .i64 0] 3 (0, 0)) := by
  have := heap_alloc_new (w.alloc (.cells #[.string ⟨#[]⟩, .int .i64 (t.pl : Int), r] 77)) (.cells #[.int .i64 0] 3)
  rwa [World.size_alloc] at this
 have n0 := ((y5.refl [] (w.alloc (.cells #[.string ⟨#[]⟩, .int .i64 (t.pl : Int), r] 77))).alloc (.cells #[.int .i64 0] 3)).get (heap_alloc_new w (.cells #[.string ⟨#[]⟩, .int .i64 (t.pl : Int), r] 77)) (by simp)
 have hsz : ((w.alloc (.cells #[.string ⟨#[]⟩, .int .i64 (t.pl : Int), r] 77)).alloc (.cells #[.int .i64 0] 3)).heap.size = w.heap.size + 2 := by simp
 generalize hW1 : (w.alloc (.cells #[.string ⟨#[]⟩, .int .i64 (t.pl : Int), r] 77)).alloc (.cells #[.int .i64 0] 3) = w1 at *
 have HW1 : Hid _ := hW1
 clear hW1
 have hv : Vis 81 (.pointer (some ⟨w.heap.size + 1, 0, none⟩)) [w.heap.size + 1] (NdI w1 (w.heap.size + 1)) (fun _ => True) A w1 :=
  ⟨fun _ _ => by kernel_rfl, fun seen W f p x _ hI => Q6X w1 _ seen W f p x hI, fun seen W W' hI k => ⟨k.get hI.1 (by simp), hI.2.trans2 k (by simp)⟩, fun _ _ hI => hI.2, by intro y hy; simp at hy; omega, by intro y hy hA; simp at hy; have := hAb y hA; omega, fun _ _ _ => trivial⟩
 have HW : Hid (Calls _ _ _ _ _) := Q6W hv (h.k k1) (fun z hz => by have := hAb z hz; omega) hc [] w1 trivial ⟨by rw [n1]; simp [wrap64], y5.refl _ _⟩
 have HL : Hid (wrap64 ((([] : List Nat) ++ qU t).length : Int) = ((qH t : Nat) : Int)) := by
  show _ = _
  rw [List.nil_append, Q6V]
  simp only [wrap64]
  omega
 obtain ⟨ls, hls⟩ : ∃ ls, ls = ([] : List Nat) ++ qU t := ⟨_, rfl⟩
 rw [<- hls] at HW HL
 have hr := h.one
 have c00 : w1.cell? ⟨w.heap.size, 0, none⟩ = some (.string ⟨#[]⟩) := y6 n0 rfl
 have c01 : w1.cell? ⟨w.heap.size, 1, none⟩ = some (.int .i64 t.pl) := y6 n0 rfl
 have c02 : w1.cell? ⟨w.heap.size, 2, none⟩ = some r := y6 n0 rfl
 clear h hv hls
 go_enter func44, ntmps44
 go_wp2_with fail
 rw [HW1.out]
 refine HW.out.mono ?_
 rintro e w2 ⟨rfl, hI2, hk2⟩
 have n2 := hI2.1
 rw [HL.out] at n2
 have c2 : w2.cell? ⟨w.heap.size + 1, 0, none⟩ = some (.int .i64 (qH t : Nat)) := y6 n2 rfl
 clear n2 hI2
 go_wp2
 go_ret
 exact ⟨rfl, k1.trans2 hk2 (by intro x hx; simp at hx; subst hx; exact Or.inr (by omega))⟩
theorem Q70 (k : ByteArray) (h : Nat) (IH : ∀ (f : ByteArray) (n : Nd h), WFN h f n -> q7 h n -> yl h n <= 1000 -> (qV k h n).length <= 1000) (ks : List (Kid h)) (hk : KW h ks) (hf : ∀ a ∈ ks, Rt h a.2 /\ q7 h a.2) (hlt : qs ks k < ks.length) : (qV k (h + 1) ks).length <= 1000 := by
 obtain ⟨q, hq⟩ : ∃ q, ks[qs ks k]? = some q := ⟨_, List.getElem?_eq_getElem hlt⟩
 have hm := List.mem_of_getElem? hq
 rw [QJ k h ks q hq]
 exact IH q.1 q.2 (hk.all q hm) (hf q hm).2 (by have := (hf q hm).1.2; omega)
theorem Q71 (k : ByteArray) : ∀ (h : Nat) (f : ByteArray) (n : Nd h), WFN h f n -> q7 h n -> yl h n <= 1000 -> (qV k h n).length <= 1000
 | 0, _, _, hw, _, hs => (Sm.of hw hs).2
 | h + 1, f, ks, hw, hf, _ => by
  have hlt := Q57 k hw
  exact Q70 k h (Q71 k h) ks ((yF h f ks).1 hw).2 ((yM h ks).1 hf) hlt
theorem Q72 {w : World} {A : Nat -> Prop} {t : Tr} {r : Value} (h : TV w A t r) (ht : TW t) (k : ByteArray) : Calls prog 49 #[.agg #[.string ⟨#[]⟩, .int .i64 t.pl, r], .string k] w fun e w' => e = .returned (.tuple #[.string ((qC k (y7 t)).getD ⟨#[]⟩), .bool (qC k (y7 t)).isSome]) /\ y5 [] w w' := by
 have HT : Hid (∀ W, y5 [] w W -> Calls prog 82 #[.agg #[.string ⟨#[]⟩, .int .i64 t.pl, r]] W _) := fun W kW => QN (h.k kW)
 have HC : Hid (∀ W x, ND W A t.h t.n x -> _) := fun W x hx => Q5b k t.h W A yp t.n x hx ht.wf ht.full (by have := ht.hi; omega)
 obtain ⟨hsrt, hget⟩ := Q4r k t.h yp t.n ht.wf (gH k)
 have hget' : qC k (qV k t.h t.n) = qC k (y7 t) := hget
 rw [<- hget']
 have hlen : (qV k t.h t.n).length <= 1000 := Q71 k t.h yp t.n ht.wf ht.full (by have := ht.hi; omega)
 generalize qV k t.h t.n = l at *
 have hpos := Q4t (j6 hsrt) k
 have hres := Q4q hsrt hpos (Q4s (l.map (·.1)) k)
 have hbi := Q4s (l.map (·.1)) k
 have HF : Hid (∀ W v, LF W v l -> Calls prog 83 #[v, .string k] W _) := fun W v hl => (Zo v (l.map pe) (l.map (·.1)) k W hl (Q55 l) (j6 hsrt) (by simp; omega)).mono fun _ _ h => Z9 h
 have hib := hpos.1
 rw [List.length_map] at hib
 generalize pK (l.map (·.1)) k = i at *
 generalize bK (l.map (·.1)) k = b at *
 clear hpos hget hget' hsrt h ht
 cases b with
 | false =>
  have HR : Hid (qC k l = none) := hres
  clear hres hbi
  go_enter func49, ntmps49
  go_wp2_with (first
   | (go_at_call 82; refine (HT.out _ ((y5.refl _ _).alloc _)).mono ?_; rintro e w1 ⟨x, rfl, hx, hk1⟩; obtain ⟨f, v, ⟨ty, ex, hm, he⟩, hcall⟩ := HC.out w1 x hx; have HCall : Hid (∀ W, y5 [] w1 W -> _) := hcall; clear hcall hx; subst ex)
   | (go_at_fn f; refine (HCall.out _ (y5.refl _ _)).mono ?_; rintro e w2 ⟨v2, rfl, hl2, hk2⟩; have HL2 : Hid _ := HF.out w2 v2 hl2; obtain ⟨p2, c2, ev2⟩ := SL.shape hl2; rw [List.length_map] at ev2; subst ev2)
   | (go_at_call 83; refine (HF.out _ _ hl2).mono ?_; rintro e w3 ⟨rfl, hk3⟩))
  go_ret2
  exact ⟨by rw [HR.out]; rfl, (((((y5.refl _ _).alloc _).trans hk1).trans hk2).trans hk3)⟩
 | true =>
  have hil : i < l.length := by
   have := (List.getElem?_eq_some_iff.1 (hbi.1 rfl)).1
   rwa [List.length_map] at this
  obtain ⟨q, hq⟩ : ∃ q, l[i]? = some q := ⟨_, List.getElem?_eq_getElem hil⟩
  rw [hq] at hres
  have HR : Hid (qC k l = some q.2) := hres
  have HCell : Hid (∀ W v, LF W v l -> ∃ g off cap, v = .slice (some ⟨g, off, none⟩) l.length cap /\ ∀ W', y5 [] W W' -> W'.cell? ⟨g, off + i * 2 + 1, none⟩ = some (.string q.2)) := by
   intro W v hl
   obtain ⟨g, off, cap, cur, ev, hg, hc1, hc2, hc3, hcur⟩ := SL.at_ hl (by simp; omega)
   rw [List.length_map] at ev
   refine ⟨g, off, cap, ev, fun W' kW => ?_⟩
   have := (hcur i (pe q) (by rw [List.getElem?_map, hq]; rfl)).2
   rw [cell_of_row _ _ _ _ _ _ (kW.get hg (by simp))]
   exact this 1 _ rfl
  clear hres hbi hq
  go_enter func49, ntmps49
  go_wp2_with (first
   | (go_at_call 82; refine (HT.out _ ((y5.refl _ _).alloc _)).mono ?_; rintro e w1 ⟨x, rfl, hx, hk1⟩; obtain ⟨f, v, ⟨ty, ex, hm, he⟩, hcall⟩ := HC.out w1 x hx; have HCall : Hid (∀ W, y5 [] w1 W -> _) := hcall; clear hcall hx; subst ex)
   | (go_at_fn f; refine (HCall.out _ (y5.refl _ _)).mono ?_; rintro e w2 ⟨v2, rfl, hl2, hk2⟩; obtain ⟨g, off, cp, ev2, hcell⟩ := HCell.out w2 v2 hl2; have HC2 : Hid _ := hcell; clear hcell; subst ev2)
   | (go_at_call 83; refine (HF.out _ _ hl2).mono ?_; rintro e w3 ⟨rfl, hk3⟩; have c3 := HC2.out w3 hk3)
   | (refine y8 rfl _ _ (ya 135 (.tmp 20) (.tmp 21) rfl g off l.length cp i 2 rfl rfl 138 underlying135 stp hil (off + i * 2) rfl) ?_))
  go_ret2
  exact ⟨by rw [HR.out]; rfl, (((((y5.refl _ _).alloc _).trans hk1).trans hk2).trans hk3)⟩
end Go.Proofs.YtcklgafpgdhnaabGreatDoor
