import Derived.Test.YtcklgafpgdhnaaaGreatDoorPtaw
import Derived.Test.YtcklgafpgdhnaaaGreatDoorPtag
import Derived.LoopN
set_option maxRecDepth 100000
set_option maxHeartbeats 4000000
open List renaming getElem_toArray → zA, getElem_cons_succ → zB, getElem_cons_zero → zC, setIfInBounds_toArray → zD, set_cons_succ → zE, set_cons_zero → zF
namespace Go.Proofs.YtcklgafpgdhnaaaGreatDoor
open Go.RowKit

theorem foot_step {a : Nat} {bv cv cv1 : Value} {B : Nat} (hf : ∀ y, cv1.ownBlock = some y → cv.ownBlock = some y ∨ B ≤ y) : ∀ y ∈ dfoot a bv cv1, y ∈ dfoot a bv cv ∨ B ≤ y := by
 intro y hy
 rcases List.mem_cons.1 hy with rfl | hy
 ·exact Or.inl List.mem_cons_self
 rcases List.mem_append.1 hy with hy | hy
 ·exact Or.inl (List.mem_cons_of_mem _ (List.mem_append_left _ hy))
 ·rcases hf y (by simpa using hy) with e | e
  ·exact Or.inl (List.mem_cons_of_mem _ (List.mem_append_right _ (by simpa using e)))
  ·exact Or.inr e
theorem fresh_step {cv cv1 cv2 : Value} {B C : Nat} (hf : ∀ y, cv1.ownBlock = some y → cv.ownBlock = some y ∨ B ≤ y) (hg : ∀ y, cv2.ownBlock = some y → cv1.ownBlock = some y ∨ C ≤ y) (h : B ≤ C) : ∀ y, cv2.ownBlock = some y → cv.ownBlock = some y ∨ B ≤ y := by
 intro y hy
 rcases hg y hy with e | e
 ·exact hf y e
 ·exact Or.inr (Nat.le_trans h e)

def newestD (D : Dv) : (Nat × Nat) × Bool := nwst (rdH 0 (D.view 0)) (rdH 1 (D.view 1))
theorem Qt.newest {D E : Dv} (h : Qt D E) : newestD E = newestD D := by unfold newestD; rw [h.view, h.view]
theorem nxt_lt (t : Nat) : (nxt t : Int) < 18446744073709551616 := by unfold nxt; omega

def Lh (D : Dv) (t r : Nat) (D' : Dv) : Prop := ∃ D1, Wn D (t % 2) (blk t r) D1 ∧ Fl D1 D'
def Lf (D : Dv) (t r : Nat) (D' : Dv) : Prop := Er D D' ∨ ∃ D1, Wn D (t % 2) (blk t r) D1 ∧ Er D1 D'
theorem Qt.lh {D E F : Dv} {t r : Nat} (h : Qt D E) (g : Lh E t r F) : Lh D t r F := by
 obtain ⟨D1, g1, g2⟩ := g
 exact ⟨D1, h.wn g1, g2⟩
theorem Qt.lf {D E F : Dv} {t r : Nat} (h : Qt D E) (g : Lf E t r F) : Lf D t r F := by
 rcases g with g | ⟨D1, g1, g2⟩
 ·exact Or.inl (h.er g)
 ·exact Or.inr ⟨D1, h.wn g1, g2⟩
theorem Lh.good {D D' : Dv} {t r : Nat} (h : Lh D t r D') : Good D' ↔ Good D := by
 obtain ⟨D1, g1, g2⟩ := h
 exact g2.good.trans g1.good
theorem Lh.q {D D' : Dv} {t r : Nat} (h : Lh D t r D') : D'.q = [] := by
 obtain ⟨D1, _, g2⟩ := h
 exact g2.q
def FmtP (D D' : Dv) (o : Option Int) : Prop :=
 (o = none ∧ ∃ D1, Lh D (nxt (newestD D).1.1) 0 D1 ∧ Lh D1 (nxt (nxt (newestD D).1.1)) 0 D') ∨
 (o = some 6 ∧ (Lf D (nxt (newestD D).1.1) 0 D' ∨ ∃ D1, Lh D (nxt (newestD D).1.1) 0 D1 ∧ Lf D1 (nxt (nxt (newestD D).1.1)) 0 D'))
def DEnd (a : Nat) (bv : Value) (n : Nat) (cv : Value) (B : Nat) (P : Dv → Option Int → Prop) (o : Option Int) (W : World) : Prop :=
 ∃ cv' D', DQ W a bv n cv' D' ∧ (∀ y, cv'.ownBlock = some y → cv.ownBlock = some y ∨ B ≤ y) ∧ P D' o
theorem DEnd.err {a : Nat} {bv : Value} {n : Nat} {cv : Value} {B : Nat} {P : Dv → Option Int → Prop} {o : Option Int} {W W' : World} {T : List Nat} (h : DEnd a bv n cv B P o W) (k : Kept T W W') (hT : ∀ x ∈ T, ∃ cs fr, W.heap[x]? = some (.cells cs 35 fr)) : DEnd a bv n cv B P o W' := by
 obtain ⟨cv', D', h1, h2, h3⟩ := h
 refine ⟨cv', D', h1.kept k ?_, h2, h3⟩
 intro y hy hm
 obtain ⟨cs, fr, hh⟩ := hT y hm
 exact h1.no hh (by decide) hy

theorem Format1_fits (p a : Nat) (bv : Value) (n : Nat) (cv : Value) (D : Dv) (B : Nat) (w : World) (hB : B ≤ w.heap.size) (hp : w.heap[p]? = some (.cells #[.iface 26 (.pointer (some ⟨a, 0, none⟩))] 126 (0, 0))) (h : DQ w a bv n cv D) (hn8 : 8 ≤ n) (hn : n ≤ 400) (hq : D.q.length < 1000000) (hT : Good D ∨ Tab w) :
  Calls Tryz.prog 86 #[.pointer (some ⟨p, 0, none⟩)] w (WorkR (dfoot a bv cv) (DEnd a bv n cv B (FmtP D)) w) := by
 have c0 : w.cell? ⟨p, 0, none⟩ = some (.iface 26 (.pointer (some ⟨a, 0, none⟩))) := cellAt hp rfl
 obtain ⟨bp, bc, rfl⟩ := owns_slice h.b
 have HX : Hid (newestD D = newestD D) := rfl
 have HN : Hid (∀ v W, Vol W v a n → DQ W a (.slice bp n bc) n cv D → (Good D ∨ Tab W) → Calls Tryz.prog 88 #[.pointer (some ⟨v, 0, none⟩)] W (RdR a (.slice bp n bc) n cv D (fun e _ => e = .returned (nwV (newestD D))) W)) := fun v W hV hD hT => Newest_any v a _ n cv D W hV hD hn8 (by omega) (by omega) hT
 have HP : Hid (∀ D' o, FmtP D D' o ↔ (o = none ∧ ∃ D1, Lh D (nxt (newestD D).1.1) 0 D1 ∧ Lh D1 (nxt (nxt (newestD D).1.1)) 0 D') ∨ (o = some 6 ∧ (Lf D (nxt (newestD D).1.1) 0 D' ∨ ∃ D1, Lh D (nxt (newestD D).1.1) 0 D1 ∧ Lf D1 (nxt (nxt (newestD D).1.1)) 0 D'))) := fun _ _ => Iff.rfl
 obtain ⟨⟨⟨t0, r0⟩, b0⟩, hx⟩ : ∃ x, x = newestD D := ⟨_, rfl⟩
 rw [← hx] at HN HP
 clear hx HX
 have l1 := nxt_lt t0
 have l2 := nxt_lt (nxt t0)
 have X1 : Hid (∀ W, Calls Tryz.prog 84 #[.agg #[.int .u64 t0, .int .i64 r0], .int .i64 0] W fun e w' => e = .returned (.agg #[.int .u64 (nxt t0), .int .i64 0]) ∧ Kept [] W w') := fun W => Next_any t0 r0 0 W
 have X2 : Hid (∀ W, Calls Tryz.prog 84 #[.agg #[.int .u64 (nxt t0), .int .i64 0], .int .i64 0] W fun e w' => e = .returned (.agg #[.int .u64 (nxt (nxt t0)), .int .i64 0]) ∧ Kept [] W w') := fun W => Next_any (nxt t0) 0 0 W
 generalize nxt (nxt t0) = t2 at *
 generalize nxt t0 = t1 at *
 go_enter Tryz.func86, Tryz.ntmps86
 go_wp2_with fail
 refine (On_fits a n bc bp cv D w h.d hn8 hn).mono ?_
 rintro e w1 ⟨v, rfl, hv1, hvl, hk1⟩
 have h1 := h.k0 hk1
 have hT1 : Good D ∨ Tab w1 := hT.imp id fun hT => hT.k hk1
 have nv : v ∉ dfoot a (.slice bp n bc) cv := h1.no hv1 (by decide)
 go_wp2_with fail
 refine (HN.out v w1 hv1 h1 hT1).mono ?_
 rintro e w2 ⟨D2, hd2, hk2, ⟨hq2, rfl⟩ | ⟨he2, ht2⟩⟩
 rotate_left
 ·obtain ⟨f, o, rfl, hf⟩ := ht2.ex
  exact ⟨rfl, some 6, ht2, ⟨cv, D2, hd2, fun y hy => Or.inl hy, (HP.out _ _).2 (Or.inr ⟨rfl, Or.inl (Or.inl he2)⟩)⟩, (hk1.mono (by simp)).trans (hk2.mono (by intro y hy; simp at hy; subst hy; simp [dfoot]))⟩
 have sub1 : ∀ y ∈ [a], y ∈ dfoot a (.slice bp n bc) cv := by intro y hy; simp at hy; subst hy; simp [dfoot]
 have hv2 : Vol w2 v a n := hk2.get hv1 (fun hm => nv (sub1 _ hm))
 have hT2 : Good D2 ∨ Tab w2 := hT1.imp hq2.good.2 fun hT => hT.kept hk2 (hT.dqa h1)
 have hk02 : Kept (dfoot a (.slice bp n bc) cv) w w2 := (hk1.mono (by simp)).trans (hk2.mono sub1)
 have k3 := (Kept.refl [] w2).alloc (.cells #[.int .u64 (t0 : Int), .int .i64 (r0 : Int)] 76)
 have n3 := heap_alloc_new w2 (.cells #[.int .u64 (t0 : Int), .int .i64 (r0 : Int)] 76)
 have hd3 := hd2.k0 k3
 have hv3 : Vol (w2.alloc (.cells #[.int .u64 (t0 : Int), .int .i64 (r0 : Int)] 76)) v a n := k3.get hv2 (by simp)
 have hk03 := hk02.trans2 k3 (by simp)
 have hlv2 := lt_heap hv2
 have hz2 := hk02.size
 have nf2 := hd2.ge (Nat.le_refl _)
 have hT3 : Good D2 ∨ Tab (w2.alloc (.cells #[.int .u64 (t0 : Int), .int .i64 (r0 : Int)] 76)) := hT2.imp id fun hT => hT.k k3
 clear h1 hk1 hT1
 simp only [nwV]
 go_wp2_with fail
 refine wp_loop_rounds 3 ?_
 rw [rounds_succ]
 go_wp2_with fail
 refine (X1.out _).mono ?_
 rintro e w4 ⟨rfl, hk4⟩
 have n4 := hk4.get n3 (by simp)
 have c40 : w4.cell? ⟨w2.heap.size, 0, none⟩ = some (.int .u64 t0) := cellAt n4 rfl
 have c41 : w4.cell? ⟨w2.heap.size, 1, none⟩ = some (.int .i64 r0) := cellAt n4 rfl
 have f40 : w4.frozen? ⟨w2.heap.size, 0, none⟩ = false := frozen_of_row _ _ _ _ _ n4
 have f41 : w4.frozen? ⟨w2.heap.size, 1, none⟩ = false := frozen_of_row _ _ _ _ _ n4
 have k5 : Kept [w2.heap.size] w4 ((w4.setCell ⟨w2.heap.size, 0, none⟩ (.int .u64 t1)).setCell ⟨w2.heap.size, 1, none⟩ (.int .i64 0)) := ((Kept.refl [w2.heap.size] w4).setCell (p := ⟨w2.heap.size, 0, none⟩) (Or.inl (by simp)) _).setCell (p := ⟨w2.heap.size, 1, none⟩) (Or.inl (by simp)) _
 have n5 := setCellAt (i := 1) (.int .i64 0) (setCellAt (i := 0) (.int .u64 (t1 : Int)) n4)
 have hd5 := (hd3.k0 hk4).k1 k5 nf2
 have hv5 : Vol ((w4.setCell ⟨w2.heap.size, 0, none⟩ (.int .u64 t1)).setCell ⟨w2.heap.size, 1, none⟩ (.int .i64 0)) v a n := k5.get (hk4.get hv3 (by simp)) (by simp; omega)
 have hk05 : Kept (dfoot a (.slice bp n bc) cv) w ((w4.setCell ⟨w2.heap.size, 0, none⟩ (.int .u64 t1)).setCell ⟨w2.heap.size, 1, none⟩ (.int .i64 0)) := (hk03.trans2 hk4 (by simp)).trans2 k5 (by intro x hx; simp at hx; subst hx; exact Or.inr (by omega))
 have hT5 : Good D2 ∨ Tab ((w4.setCell ⟨w2.heap.size, 0, none⟩ (.int .u64 t1)).setCell ⟨w2.heap.size, 1, none⟩ (.int .i64 0)) := hT3.imp id fun hT => (hT.k hk4).kept k5 (by have := (hT.k hk4).ne n4 (by decide); simpa using this)
 generalize hW5 : (w4.setCell ⟨w2.heap.size, 0, none⟩ (.int .u64 t1)).setCell ⟨w2.heap.size, 1, none⟩ (.int .i64 0) = w5 at *
 have HW5 : Hid _ := hW5
 clear hW5
 have c50 : w5.cell? ⟨w2.heap.size, 0, none⟩ = some (.int .u64 t1) := cellAt n5 rfl
 have c51 : w5.cell? ⟨w2.heap.size, 1, none⟩ = some (.int .i64 0) := cellAt n5 rfl
 go_wp2_with fail
 rw [HW5.out]
 go_wp2_with fail
 refine (HLay_any v a (.slice bp n bc) n cv D2 t1 0 w5 hv5 hd5 hn8 (by omega) (by rw [hq2.q]; omega) l1 (by omega) hT5).mono ?_
 rintro e w6 ⟨cv6, D6, hd6, hk6, hf6, ⟨D1, hw6, hl6, rfl⟩ | ⟨ht6, he6⟩⟩
 rotate_left
 ·obtain ⟨f, o, rfl, hf⟩ := ht6.ex
  exact ⟨rfl, some 6, ht6, ⟨cv6, D6, hd6, fun y hy => (hf6 y hy).imp id fun h => by have := hk05.size; omega, (HP.out _ _).2 (Or.inr ⟨rfl, Or.inl (hq2.lf he6)⟩)⟩, hk05.trans hk6⟩
 have hL6 : Lh D t1 0 D6 := hq2.lh ⟨D1, hw6, hl6⟩
 have hz5 := hk05.size
 have hf6' : ∀ y, cv6.ownBlock = some y → cv.ownBlock = some y ∨ w.heap.size ≤ y := fun y hy => (hf6 y hy).imp id fun h => by omega
 have n6 := hk6.get n5 nf2
 have hv6 : Vol w6 v a n := hk6.get hv5 nv
 have hk06 := hk05.trans hk6
 have hT6 : Good D6 ∨ Tab w6 := hT5.imp (fun hg => hL6.good.2 (hq2.good.1 hg)) fun hT => hT.kept hk6 (hT.dq hd5)
 have c60 : w6.cell? ⟨w2.heap.size, 0, none⟩ = some (.int .u64 t1) := cellAt n6 rfl
 have c61 : w6.cell? ⟨w2.heap.size, 1, none⟩ = some (.int .i64 0) := cellAt n6 rfl
 clear n5 hd5 hT5 c50 c51 hv5 k5 n4 n3
 go_wp2_with fail
 rw [rounds_succ]
 go_wp2_with fail
 refine (X2.out _).mono ?_
 rintro e w7 ⟨rfl, hk7⟩
 have n7 := hk7.get n6 (by simp)
 have c70 : w7.cell? ⟨w2.heap.size, 0, none⟩ = some (.int .u64 t1) := cellAt n7 rfl
 have c71 : w7.cell? ⟨w2.heap.size, 1, none⟩ = some (.int .i64 0) := cellAt n7 rfl
 have f70 : w7.frozen? ⟨w2.heap.size, 0, none⟩ = false := frozen_of_row _ _ _ _ _ n7
 have f71 : w7.frozen? ⟨w2.heap.size, 1, none⟩ = false := frozen_of_row _ _ _ _ _ n7
 have k8 : Kept [w2.heap.size] w7 ((w7.setCell ⟨w2.heap.size, 0, none⟩ (.int .u64 t2)).setCell ⟨w2.heap.size, 1, none⟩ (.int .i64 0)) := ((Kept.refl [w2.heap.size] w7).setCell (p := ⟨w2.heap.size, 0, none⟩) (Or.inl (by simp)) _).setCell (p := ⟨w2.heap.size, 1, none⟩) (Or.inl (by simp)) _
 have n8 := setCellAt (i := 1) (.int .i64 0) (setCellAt (i := 0) (.int .u64 (t2 : Int)) n7)
 have nf6 : w2.heap.size ∉ dfoot a (.slice bp n bc) cv6 := (hd6.no n6 (by decide))
 have hd8 := (hd6.k0 hk7).k1 k8 nf6
 have hv8 : Vol ((w7.setCell ⟨w2.heap.size, 0, none⟩ (.int .u64 t2)).setCell ⟨w2.heap.size, 1, none⟩ (.int .i64 0)) v a n := k8.get (hk7.get hv6 (by simp)) (by simp; omega)
 have hk08 : Kept (dfoot a (.slice bp n bc) cv) w ((w7.setCell ⟨w2.heap.size, 0, none⟩ (.int .u64 t2)).setCell ⟨w2.heap.size, 1, none⟩ (.int .i64 0)) := (hk06.trans2 hk7 (by simp)).trans2 k8 (by intro x hx; simp at hx; subst hx; exact Or.inr (by omega))
 have hT8 : Good D6 ∨ Tab ((w7.setCell ⟨w2.heap.size, 0, none⟩ (.int .u64 t2)).setCell ⟨w2.heap.size, 1, none⟩ (.int .i64 0)) := hT6.imp id fun hT => (hT.k hk7).kept k8 (by have := (hT.k hk7).ne n7 (by decide); simpa using this)
 generalize hW8 : (w7.setCell ⟨w2.heap.size, 0, none⟩ (.int .u64 t2)).setCell ⟨w2.heap.size, 1, none⟩ (.int .i64 0) = w8 at *
 have HW8 : Hid _ := hW8
 clear hW8
 have c80 : w8.cell? ⟨w2.heap.size, 0, none⟩ = some (.int .u64 t2) := cellAt n8 rfl
 have c81 : w8.cell? ⟨w2.heap.size, 1, none⟩ = some (.int .i64 0) := cellAt n8 rfl
 go_wp2_with fail
 rw [HW8.out]
 go_wp2_with fail
 refine (HLay_any v a (.slice bp n bc) n cv6 D6 t2 0 w8 hv8 hd8 hn8 (by omega) (by rw [hL6.q]; simp) l2 (by omega) hT8).mono ?_
 have hz8 := hk08.size
 rintro e w9 ⟨cv9, D9, hd9, hk9, hf9, ⟨E1, hw9, hl9, rfl⟩ | ⟨ht9, he9⟩⟩
 ·go_wp2_with fail
  rw [rounds_succ]
  go_wp2
  go_end0
  exact ⟨none, rfl, ⟨cv9, D9, hd9, fun y hy => (fresh_step hf6' hf9 hz8 y hy).imp id fun h => by omega, (HP.out _ _).2 (Or.inl ⟨rfl, D6, hL6, E1, hw9, hl9⟩)⟩, hk08.trans2 hk9 (foot_step hf6')⟩
 ·obtain ⟨f, o, rfl, hf⟩ := ht9.ex
  exact ⟨rfl, some 6, ht9, ⟨cv9, D9, hd9, fun y hy => (fresh_step hf6' hf9 hz8 y hy).imp id fun h => by omega, (HP.out _ _).2 (Or.inr ⟨rfl, Or.inr ⟨D6, hL6, he9⟩⟩)⟩, hk08.trans2 hk9 (foot_step hf6')⟩

end Go.Proofs.YtcklgafpgdhnaaaGreatDoor

namespace Go.Proofs.YtcklgafpgdhnaaaGreatDoor
open Go.RowKit

def Always (_ : World) : Prop := True

theorem Format_fits (a : Nat) (bv : Value) (n : Nat) (cv : Value) (D : Dv) (w : World) (h : DQ w a bv n cv D) (hn8 : 8 ≤ n) (hn : n ≤ 400) (hq : D.q.length < 1000000) (hT : Good D ∨ Tab w) :
  Calls Tryz.prog 54 #[.iface 26 (.pointer (some ⟨a, 0, none⟩))] w (CatchR (dfoot a bv cv) (DEnd a bv n cv w.heap.size (FmtP D)) w) := by
 have hmf := makes
 have k1 := (Kept.refl [] w).alloc (.cells #[.iface 26 (.pointer (some ⟨a, 0, none⟩))] 126)
 have n1 := heap_alloc_new w (.cells #[.iface 26 (.pointer (some ⟨a, 0, none⟩))] 126)
 have h1 := h.k0 k1
 have HC : Hid (∀ b, Calls Tryz.prog 42 #[.string b, .func (.func 86) #[] #[.pointer (some ⟨w.heap.size, 0, none⟩)]] (w.alloc (.cells #[.iface 26 (.pointer (some ⟨a, 0, none⟩))] 126)) (CatchR (dfoot a bv cv) (DEnd a bv n cv w.heap.size (FmtP D)) (w.alloc (.cells #[.iface 26 (.pointer (some ⟨a, 0, none⟩))] 126)))) := by
  intro b
  refine Catch_any b 86 _ (fun _ _ => by kernel_rfl) _ _ _ (fun x hx => h1.lt x hx) (fun o W W' T hR hK hT => hR.err hK fun x hx => (hT x hx).2.2) ?_
  intro W hW _
  exact Format1_fits w.heap.size a bv n cv D w.heap.size W (Nat.le_trans k1.size hW.size) (hW.get n1 (by simp)) (h1.k0 hW) hn8 hn hq (hT.imp id fun hT => (hT.k k1).k hW)
 clear h1 n1
 go_enter Tryz.func54, Tryz.ntmps54
 go_wp2_with (go_at_call 42; refine (HC.out _).mono ?_; rintro e w2 ⟨o, err, rfl, hc2, hr2, hk2⟩)
 go_ret
 exact ⟨o, err, rfl, hc2, hr2, (k1.mono (by simp)).trans hk2⟩

theorem PFormat_of (a : Nat) (w : World) (S : List Nat) (R : Option Int → World → Prop) (hR : Calls Tryz.prog 54 #[.iface 26 (.pointer (some ⟨a, 0, none⟩))] w (CatchR S R w)) :
  Calls Tryz.prog 33 #[.pointer (some ⟨a, 0, none⟩)] w (CatchR S R w) := by
 have HR : Hid (Calls _ _ _ _ _) := hR
 clear hR
 go_enter Tryz.func33, Tryz.ntmps33
 go_wp2_with (go_at_call 54; refine HR.out.mono ?_; rintro e w2 ⟨o, err, rfl, h2⟩)
 go_ret
 exact ⟨o, err, rfl, h2⟩

end Go.Proofs.YtcklgafpgdhnaaaGreatDoor
