import Derived.Test.YtcklgafpgdhnaaaGreatDoorPtba
import Derived.Test.YtcklgafpgdhnaaaGreatDoorPtag
import Derived.Test.YtcklgafpgdhnaaaGreatDoorPtad
import Derived.Test.YtcklgafpgdhnaaaGreatDoorPtbj
set_option maxRecDepth 100000
set_option maxHeartbeats 4000000
open List renaming getElem_toArray → zA, getElem_cons_succ → zB, getElem_cons_zero → zC, setIfInBounds_toArray → zD, set_cons_succ → zE, set_cons_zero → zF
namespace Go.Proofs.YtcklgafpgdhnaaaGreatDoor
open Go.RowKit

def TrdR (a : Nat) (bv : Value) (n : Nat) (cv : Value) (D : Dv) (rt : Option Tr) (w : World) (e : Ending) (w' : World) : Prop :=
 ∃ D', DQ w' a bv n cv D' ∧ Kept [a] w w' ∧ ((Qt D D' ∧ ∃ t r, rt = some t ∧ e = .returned (.agg #[.string ⟨#[]⟩, .int .i64 (t.pl : Nat), r]) ∧ TV w' Tru t r) ∨ (Qt D D' ∧ rt = none ∧ Thr 7 e w') ∨ (Er D D' ∧ Thr 6 e w'))
def SNil (sv : Nat) (W : World) : Prop := W.heap[sv]? = some (.cells #[.pointer none] 27 (0, 0))
def OpE (sv a : Nat) (bv : Value) (n : Nat) (cv : Value) (D : Dv) (h : (Nat × Nat) × Bool) (rt : Option Tr) (B : Nat) (o : Option Int) (W : World) : Prop :=
 ∃ D', DQ W a bv n cv D' ∧ ((o = some 6 ∧ Er D D' ∧ SNil sv W) ∨ (o = some 7 ∧ Qt D D' ∧ SNil sv W ∧ (h.2 = false ∨ rt = none)) ∨
  (o = none ∧ Qt D D' ∧ h.2 = true ∧ ∃ t r x v, rt = some t ∧ W.heap[sv]? = some (.cells #[.pointer (some ⟨x, 0, none⟩)] 27 (0, 0)) ∧ Rec x v a n ⟨1, h.1.1, h.1.2, t, r⟩ r t W ∧ B ≤ x ∧ B ≤ v))
theorem OpE.err {sv a : Nat} {bv : Value} {n : Nat} {cv : Value} {D : Dv} {h : (Nat × Nat) × Bool} {rt : Option Tr} {B : Nat} {o : Option Int} {W W' : World} {T : List Nat} (g : OpE sv a bv n cv D h rt B o W) (k : Kept T W W') (hT : ∀ x ∈ T, Tg W x 35) : OpE sv a bv n cv D h rt B o W' := by
 obtain ⟨D', hd, hr⟩ := g
 have hn : ∀ {y : Nat} {t : TypeId}, Tg W y t → t ≠ 35 → y ∉ T := fun hy hne hm => hne (hy.ne (hT _ hm))
 refine ⟨D', hd.kept k ?_, ?_⟩
 ·intro y hy hm
  obtain ⟨cs, fr, hh⟩ := hT y hm
  exact hd.no hh (by decide) hy
 ·rcases hr with ⟨h1, h2, h3⟩ | ⟨h1, h2, h3, h4⟩ | ⟨h1, h2, h3, t, r, x, v, h4, h5, h6, h7⟩
  ·exact Or.inl ⟨h1, h2, k.get h3 (hn ⟨_, _, h3⟩ (by decide))⟩
  ·exact Or.inr (Or.inl ⟨h1, h2, k.get h3 (hn ⟨_, _, h3⟩ (by decide)), h4⟩)
  ·exact Or.inr (Or.inr ⟨h1, h2, h3, t, r, x, v, h4, k.get h5 (hn ⟨_, _, h5⟩ (by decide)), h6.err k hT, h7⟩)

theorem szp : (Tryz.prog.info? 27).map (·.size) = some 1 := by kernel_rfl
theorem stHd : (Tryz.prog.info? 76).map (·.size) = some 2 := by kernel_rfl
theorem Open1_any (p sv a : Nat) (bv : Value) (n : Nat) (cv : Value) (D : Dv) (rt : Option Tr) (w : World) (hp : w.heap[p]? = some (.cells #[.iface 26 (.pointer (some ⟨a, 0, none⟩))] 126 (0, 0))) (hsv : SNil sv w) (h : DQ w a bv n cv D) (hn8 : 8 ≤ n) (hn : n ≤ 400) (hq : D.q.length < 1000000) (hT : Good D ∨ Tab w)
  (hR : ∀ v W D1, Vol W v a n → DQ W a bv n cv D1 → Qt D D1 → (Good D1 ∨ Tab W) → (Tab w → Tab W) → Calls Tryz.prog 90 #[.pointer (some ⟨v, 0, none⟩), .int .i64 ((newestD D).1.2 : Nat)] W (TrdR a bv n cv D1 rt W)) :
  Calls Tryz.prog 89 #[.pointer (some ⟨p, 0, none⟩), .pointer (some ⟨sv, 0, none⟩)] w (WorkR [a, sv] (OpE sv a bv n cv D (newestD D) rt w.heap.size) w) := by
 have c0 : w.cell? ⟨p, 0, none⟩ = some (.iface 26 (.pointer (some ⟨a, 0, none⟩))) := cellAt hp rfl
 obtain ⟨bp, bc, rfl⟩ := owns_slice h.b
 have HN : Hid (∀ v W, Vol W v a n → DQ W a (.slice bp n bc) n cv D → (Good D ∨ Tab W) → Calls Tryz.prog 88 #[.pointer (some ⟨v, 0, none⟩)] W (RdR a (.slice bp n bc) n cv D (fun e _ => e = .returned (nwV (newestD D))) W)) := fun v W hV hD hT => Newest_any v a _ n cv D W hV hD hn8 (by omega) (by omega) hT
 have HR : Hid (∀ v W D1, Vol W v a n → DQ W a (.slice bp n bc) n cv D1 → Qt D D1 → (Good D1 ∨ Tab W) → (Tab w → Tab W) → Calls Tryz.prog 90 #[.pointer (some ⟨v, 0, none⟩), .int .i64 ((newestD D).1.2 : Nat)] W (TrdR a (.slice bp n bc) n cv D1 rt W)) := hR
 clear hR
 obtain ⟨⟨⟨t0, r0⟩, b0⟩, hx⟩ : ∃ x, x = newestD D := ⟨_, rfl⟩
 rw [← hx] at HN HR ⊢
 clear hx
 have hsl := lt_heap hsv
 go_enter Tryz.func89, Tryz.ntmps89
 go_wp2_with fail
 refine (On_fits a n bc bp cv D w h.d hn8 hn).mono ?_
 rintro e w1 ⟨v, rfl, hv1, hvl, hk1⟩
 have h1 := h.k0 hk1
 have hT1 : Good D ∨ Tab w1 := hT.imp id fun hT => hT.k hk1
 have nv : v ∉ dfoot a (.slice bp n bc) cv := h1.no hv1 (by decide)
 have sub1 : ∀ y ∈ [a], y ∈ dfoot a (.slice bp n bc) cv := by intro y hy; simp at hy; subst hy; simp [dfoot]
 have nsv : sv ∉ dfoot a (.slice bp n bc) cv := h.no hsv (by decide)
 go_wp2_with fail
 refine (HN.out v w1 hv1 h1 hT1).mono ?_
 rintro e w2 ⟨D2, hd2, hk2, ⟨hq2, rfl⟩ | ⟨he2, ht2⟩⟩
 rotate_left
 ·obtain ⟨f, o, rfl, hf⟩ := ht2.ex
  exact ⟨rfl, some 6, ht2, ⟨D2, hd2, Or.inl ⟨rfl, he2, hk2.get (hk1.get hsv (by simp)) fun hm => nsv (sub1 _ hm)⟩⟩, (hk1.mono (by simp)).trans (hk2.mono (by simp))⟩
 have hv2 : Vol w2 v a n := hk2.get hv1 (fun hm => nv (sub1 _ hm))
 have hs2 : SNil sv w2 := hk2.get (hk1.get hsv (by simp)) fun hm => nsv (sub1 _ hm)
 have hT2 : Good D2 ∨ Tab w2 := hT1.imp hq2.good.2 fun hT => hT.kept hk2 (hT.dqa h1)
 have HTT : Hid (Tab w → Tab w2) := fun hT => (hT.k hk1).kept hk2 ((hT.k hk1).dqa h1)
 have hk02 : Kept [a] w w2 := (hk1.mono (by simp)).trans hk2
 have k3 := (Kept.refl [] w2).alloc (.cells #[.int .u64 (t0 : Int), .int .i64 (r0 : Int)] 76)
 have n3 := heap_alloc_new w2 (.cells #[.int .u64 (t0 : Int), .int .i64 (r0 : Int)] 76)
 have HK3 : Hid (Kept [] w2 _) := k3
 have hd3 := hd2.k0 k3
 have hv3 : Vol (w2.alloc (.cells #[.int .u64 (t0 : Int), .int .i64 (r0 : Int)] 76)) v a n := k3.get hv2 (by simp)
 have hs3 : SNil sv (w2.alloc (.cells #[.int .u64 (t0 : Int), .int .i64 (r0 : Int)] 76)) := k3.get hs2 (by simp)
 have hk03 := hk02.trans2 k3 (by simp)
 have hT3 : Good D2 ∨ Tab (w2.alloc (.cells #[.int .u64 (t0 : Int), .int .i64 (r0 : Int)] 76)) := hT2.imp id fun hT => hT.k k3
 have hz2 := hk02.size
 clear h1 hk1 hT1
 simp only [nwV]
 generalize hW3 : w2.alloc (.cells #[.int .u64 (t0 : Int), .int .i64 (r0 : Int)] 76) = w3 at *
 have HW3 : Hid _ := hW3
 clear hW3
 cases b0 with
 | false =>
  go_wp2_with fail
  rw [HW3.out]
  go_wp2_with (first | (go_at_call 62; refine (Throw_any _ _ _).mono ?_; rintro e w4 ⟨f, o, rfl, hf, hk4⟩))
  exact ⟨rfl, some 7, ⟨f, o, rfl, hf⟩, ⟨D2, hd3.k0 hk4, Or.inr (Or.inl ⟨rfl, hq2, hk4.get hs3 (by simp), Or.inl rfl⟩)⟩, (hk03.mono (by simp)).trans (hk4.mono (by simp))⟩
 | true =>
  have c30 : w3.cell? ⟨w2.heap.size, 0, none⟩ = some (.int .u64 t0) := cellAt n3 rfl
  have c31 : w3.cell? ⟨w2.heap.size, 1, none⟩ = some (.int .i64 r0) := cellAt n3 rfl
  go_wp2_with fail
  rw [HW3.out]
  go_wp2_with (first | (go_at_call 91; refine (HRoot_any t0 r0 _).mono ?_; rintro e w4 ⟨rfl, hk4⟩))
  refine (HR.out v w4 D2 (hk4.get hv3 (by simp)) (hd3.k0 hk4) hq2 (hT3.imp id fun hT => hT.k hk4) (fun hT => ((HTT.out hT).k HK3.out).k hk4)).mono ?_
  rintro e w5 ⟨D5, hd5, hk5, ⟨hq5, t, r, hrt, rfl, htv⟩ | ⟨hq5, hrt, ht5⟩ | ⟨he5, ht5⟩⟩
  rotate_left
  ·obtain ⟨f, o, rfl, hf⟩ := ht5.ex
   exact ⟨rfl, some 7, ht5, ⟨D5, hd5, Or.inr (Or.inl ⟨rfl, hq2.trans hq5, hk5.get (hk4.get hs3 (by simp)) fun hm => nsv (sub1 _ hm), Or.inr hrt⟩)⟩, ((hk03.mono (by simp)).trans (hk4.mono (by simp))).trans (hk5.mono (by simp))⟩
  ·obtain ⟨f, o, rfl, hf⟩ := ht5.ex
   exact ⟨rfl, some 6, ht5, ⟨D5, hd5, Or.inl ⟨rfl, hq2.er he5, hk5.get (hk4.get hs3 (by simp)) fun hm => nsv (sub1 _ hm)⟩⟩, ((hk03.mono (by simp)).trans (hk4.mono (by simp))).trans (hk5.mono (by simp))⟩
  have hr1 := htv.one
  have hs5 : SNil sv w5 := hk5.get (hk4.get hs3 (by simp)) fun hm => nsv (sub1 _ hm)
  have hv5 : Vol w5 v a n := hk5.get (hk4.get hv3 (by simp)) fun hm => nv (sub1 _ hm)
  have n5 := hk5.get (hk4.get n3 (by simp)) (fun hm => hd2.ge (Nat.le_refl _) (sub1 _ hm))
  have c50 : w5.cell? ⟨w2.heap.size, 0, none⟩ = some (.int .u64 t0) := cellAt n5 rfl
  have c51 : w5.cell? ⟨w2.heap.size, 1, none⟩ = some (.int .i64 r0) := cellAt n5 rfl
  have cs5 : w5.cell? ⟨sv, 0, none⟩ = some (.pointer none) := cellAt hs5 rfl
  have fs5 : w5.frozen? ⟨sv, 0, none⟩ = false := frozen_of_row _ _ _ _ _ hs5
  have K5 : Kept [a, sv] w w5 := ((hk03.mono (by simp)).trans (hk4.mono (by simp))).trans (hk5.mono (by simp))
  have k6 := (Kept.refl [] w5).alloc (.cells #[.string ⟨#[]⟩, .int .i64 0, .nilIface] 82)
  have z6 := heap_alloc_new w5 (.cells #[.string ⟨#[]⟩, .int .i64 0, .nilIface] 82)
  have hlt2 := lt_heap n5
  have hlt3 := lt_heap hs5
  clear hk03 hk02 hk2 hs2 hs3 hv2 hv3 hd2 hd3 hT2 hT3 n3 k3
  go_wp2_with (first
   | (refine wpList_store_k rfl 82 (.tmp 5) (.tmp 19) rfl w5.heap.size #[.string ⟨#[]⟩, .int .i64 (t.pl : Int), r] rfl rfl 82 _ z6 stT rfl (one3 _ hr1) ?_; intro w6 t6 hk6; have n6 := hk6.get (k6.get n5 (by simp)) (by simp; omega); have s6 := hk6.get (k6.get hs5 (by simp)) (by simp; omega); have K6 : Kept [] w5 w6 := k6.trans2 hk6 (by intro y hy; simp at hy; subst hy; exact Or.inr (Nat.le_refl _)); have k7 := (Kept.refl [] w6).alloc (.cells #[.int .i64 1, .pointer (some ⟨v, 0, none⟩), .int .u64 (t0 : Int), .int .i64 (r0 : Int), .string ⟨#[]⟩, .int .i64 (t.pl : Int), r, .string ⟨#[]⟩, .int .i64 (t.pl : Int), r] 84); have s7 := k7.get s6 (by simp); have x7 := heap_alloc_new w6 (.cells #[.int .i64 1, .pointer (some ⟨v, 0, none⟩), .int .u64 (t0 : Int), .int .i64 (r0 : Int), .string ⟨#[]⟩, .int .i64 (t.pl : Int), r, .string ⟨#[]⟩, .int .i64 (t.pl : Int), r] 84))
   | (refine wpList_skip rfl _ (exec_store 27 (.tmp 1) (.tmp 25) rfl ⟨sv, 0, none⟩ rfl _ rfl (run_store1 szp rfl s7 (by simp))) ?_)
   | (refine wpList_load_row rfl 76 (.tmp 3) rfl w2.heap.size rfl 76 #[.int .u64 (t0 : Int), .int .i64 (r0 : Int)] (0, 0) _ n6 Tryz.underlying76 rfl stHd ?_)
   | (refine wpList_load_row rfl 82 (.tmp 5) rfl w5.heap.size rfl 82 #[.string ⟨#[]⟩, .int .i64 (t.pl : Int), r] (0, 0) _ t6 Tryz.underlying82 rfl stT ?_))
  go_end0
  have kb : Kept [sv] (w6.alloc (.cells (rowS ⟨1, t0, r0, t, r⟩ v t r) 84)) ((w6.alloc (.cells (rowS ⟨1, t0, r0, t, r⟩ v t r) 84)).setCell ⟨sv, 0, none⟩ (.pointer (some ⟨w6.heap.size, 0, none⟩))) := (Kept.refl _ _).setCell (Or.inl (by simp)) _
  have K7 : Kept [] w5 (w6.alloc (.cells (rowS ⟨1, t0, r0, t, r⟩ v t r) 84)) := K6.trans k7
  have tv7 := (htv.k K7).tags
  have nsT : ∀ y ∈ [sv], ¬ TT (w6.alloc (.cells (rowS ⟨1, t0, r0, t, r⟩ v t r) 84)) y := by
   intro y hy
   simp at hy
   subst hy
   rintro (h1 | h1)
   ·have := Tg.ne ⟨_, _, s7⟩ h1
    revert this; decide
   ·have := Tg.ne ⟨_, _, s7⟩ h1
    revert this; decide
  have h56 := K6.size
  refine ⟨none, rfl, ⟨D5, (hd5.k0 K7).k1 kb nsv, Or.inr (Or.inr ⟨rfl, hq2.trans hq5, rfl, t, r, w6.heap.size, v, rfl, setCellAt (i := 0) _ s7, ⟨kb.get x7 (by simp; omega), kb.get (K7.get hv5 (by simp)) (by simp; intro e; subst e; have := Tg.ne ⟨_, _, hs5⟩ ⟨_, _, hv5⟩; revert this; decide), ⟨Nat.le_refl _, by show 1 ≤ 3; decide⟩, TV.kept tv7 kb nsT fun _ _ => trivial, TV.kept tv7 kb nsT fun _ _ => trivial⟩, by have := K5.size; omega, by omega⟩)⟩, (K5.trans (K7.mono (by simp))).trans (kb.mono (by simp))⟩

end Go.Proofs.YtcklgafpgdhnaaaGreatDoor

namespace Go.Proofs.YtcklgafpgdhnaaaGreatDoor
open Go.RowKit

theorem open_vars (w : World) (d : Value) : ((w.alloc (.cells #[d] 126)).alloc (.cells #[.pointer none] 27)).heap[w.heap.size]? = some (.cells #[d] 126 (0, 0)) ∧
  ((w.alloc (.cells #[d] 126)).alloc (.cells #[.pointer none] 27)).heap[w.heap.size + 1]? = some (.cells #[.pointer none] 27 (0, 0)) := by
 constructor
 ·exact ((Kept.refl [] _).alloc _).get (heap_alloc_new _ _) (by simp)
 ·have := heap_alloc_new (w.alloc (.cells #[d] 126)) (.cells #[.pointer none] 27)
  rwa [World.size_alloc] at this
def OpenR (a : Nat) (bv : Value) (n : Nat) (cv : Value) (D : Dv) (h : (Nat × Nat) × Bool) (rt : Option Tr) (w : World) (e : Ending) (w' : World) : Prop :=
 ∃ o pv err D', e = .returned (.tuple #[pv, err]) ∧ CEnd o err w' ∧ DQ w' a bv n cv D' ∧ Kept [a] w w' ∧ ((o = some 6 ∧ Er D D' ∧ pv = .pointer none) ∨ (o = some 7 ∧ Qt D D' ∧ pv = .pointer none ∧ (h.2 = false ∨ rt = none)) ∨
  (o = none ∧ Qt D D' ∧ h.2 = true ∧ ∃ t r x v, rt = some t ∧ pv = .pointer (some ⟨x, 0, none⟩) ∧ Rec x v a n ⟨1, h.1.1, h.1.2, t, r⟩ r t w' ∧ w.heap.size ≤ x))

theorem Open_any (a : Nat) (bv : Value) (n : Nat) (cv : Value) (D : Dv) (rt : Option Tr) (w : World) (h : DQ w a bv n cv D) (hn8 : 8 ≤ n) (hn : n ≤ 400) (hq : D.q.length < 1000000) (hT : Good D ∨ Tab w)
  (hR : ∀ v W D1, Vol W v a n → DQ W a bv n cv D1 → Qt D D1 → (Good D1 ∨ Tab W) → (Tab w → Tab W) → Calls Tryz.prog 90 #[.pointer (some ⟨v, 0, none⟩), .int .i64 ((newestD D).1.2 : Nat)] W (TrdR a bv n cv D1 rt W)) :
  Calls Tryz.prog 55 #[.iface 26 (.pointer (some ⟨a, 0, none⟩))] w (OpenR a bv n cv D (newestD D) rt w) := by
 have hmf := makes
 have hla := lt_heap h.d
 have k1 := ((Kept.refl [] w).alloc (.cells #[.iface 26 (.pointer (some ⟨a, 0, none⟩))] 126)).alloc (.cells #[.pointer none] 27)
 obtain ⟨n1, s1⟩ := open_vars w (.iface 26 (.pointer (some ⟨a, 0, none⟩)))
 have h1 := h.k0 k1
 have hT1 := hT.imp id fun hT : Tab w => hT.k k1
 have hsz : ((w.alloc (.cells #[.iface 26 (.pointer (some ⟨a, 0, none⟩))] 126)).alloc (.cells #[.pointer none] 27)).heap.size = w.heap.size + 2 := by simp
 generalize hw1 : (w.alloc (.cells #[.iface 26 (.pointer (some ⟨a, 0, none⟩))] 126)).alloc (.cells #[.pointer none] 27) = w1 at *
 have HC : Hid (∀ b, Calls Tryz.prog 42 #[.string b, .func (.func 89) #[] #[.pointer (some ⟨w.heap.size, 0, none⟩), .pointer (some ⟨w.heap.size + 1, 0, none⟩)]] w1 (CatchR [a, w.heap.size + 1] (OpE (w.heap.size + 1) a bv n cv D (newestD D) rt w1.heap.size) w1)) := by
  intro b
  refine Catch_any b 89 _ (fun _ _ => by kernel_rfl) _ _ w1 ?_ (fun o W W' T hR hK hT => hR.err hK fun x hx => (hT x hx).2.2) ?_
  ·intro x hx; simp at hx; omega
  ·intro W hW hWs
   refine (Open1_any w.heap.size (w.heap.size + 1) a bv n cv D rt W (hW.get n1 (by simp)) (hW.get s1 (by simp)) (h1.k0 hW) hn8 hn hq (hT1.imp id fun hT => hT.k hW) (fun v W' D1 g1 g2 g3 g4 g5 => hR v W' D1 g1 g2 g3 g4 fun hT => g5 ((hT.k k1).k hW))).mono ?_
   rintro e w' ⟨o, h1, ⟨D', h2, h3⟩, h4⟩
   refine ⟨o, h1, ⟨D', h2, ?_⟩, h4⟩
   rcases h3 with h3 | h3 | ⟨g1, g2, g3, t, r, x, v, g4, g5, g6, g7, g8⟩
   ·exact Or.inl h3
   ·exact Or.inr (Or.inl h3)
   ·exact Or.inr (Or.inr ⟨g1, g2, g3, t, r, x, v, g4, g5, g6, Nat.le_trans hW.size g7, Nat.le_trans hW.size g8⟩)
 have HW : Hid _ := hw1
 clear hw1 h1 n1 s1 hT1 hR
 go_enter Tryz.func55, Tryz.ntmps55
 go_wp2_with (go_at_call 42; rw [HW.out]; refine (HC.out _).mono ?_; rintro e w2 ⟨o, err, rfl, hc2, ⟨D2, hd2, hr2⟩, hk2⟩; obtain ⟨pv, hpv, hs2⟩ : ∃ pv, (∃ q, pv = .pointer q) ∧ w2.heap[w.heap.size + 1]? = some (.cells #[pv] 27 (0, 0)) := (by rcases hr2 with h3 | h3 | ⟨g1, g2, g3, t, r, x, v, g4, g5, g6, g7, g8⟩; exact ⟨_, ⟨_, rfl⟩, h3.2.2⟩; exact ⟨_, ⟨_, rfl⟩, h3.2.2.1⟩; exact ⟨_, ⟨_, rfl⟩, g5⟩); obtain ⟨q, rfl⟩ := hpv; have e2 : w2.cell? ⟨w.heap.size + 1, 0, none⟩ = some (.pointer q) := cellAt hs2 rfl)
 go_ret2
 refine ⟨o, .pointer q, err, D2, rfl, hc2, hd2, (k1.mono (by simp)).trans2 hk2 ?_, ?_⟩
 ·intro y hy
  simp at hy
  rcases hy with rfl | rfl
  ·exact Or.inl (by simp)
  ·exact Or.inr (by omega)
 ·rcases hr2 with ⟨g1, g2, g3⟩ | ⟨g1, g2, g3, g4⟩ | ⟨g1, g2, g3, t, r, x, v, g4, g5, g6, g7, g8⟩
  ·have e := g3.symm.trans hs2
   simp at e
   exact Or.inl ⟨g1, g2, by rw [← e]⟩
  ·have e := g3.symm.trans hs2
   simp at e
   exact Or.inr (Or.inl ⟨g1, g2, by rw [← e], g4⟩)
  ·have e := g5.symm.trans hs2
   simp at e
   exact Or.inr (Or.inr ⟨g1, g2, g3, t, r, x, v, g4, by rw [← e], g6, by omega⟩)

theorem POpen_of (a : Nat) (w : World) (R : Ending → World → Prop) (hR : Calls Tryz.prog 55 #[.iface 26 (.pointer (some ⟨a, 0, none⟩))] w fun e w' => ∃ v u, e = .returned (.tuple #[v, u]) ∧ R e w') :
  Calls Tryz.prog 34 #[.pointer (some ⟨a, 0, none⟩)] w R := by
 have HR : Hid (Calls _ _ _ _ _) := hR
 clear hR
 go_enter Tryz.func34, Tryz.ntmps34
 go_wp2_with (go_at_call 55; refine HR.out.mono ?_; rintro e w2 ⟨v, u, rfl, h2⟩)
 exact h2

theorem TRead_zero (f : Value) (w : World) : Calls Tryz.prog 122 #[.int .i64 0, f] w fun e w' => e = .returned (.agg #[.string ⟨#[]⟩, .int .i64 0, .nilIface]) ∧ Kept [] w w' := by
 have hz : ∀ W : World, (Instr.build 82 #[]).run Tryz.prog W = .ok (.agg #[.string ⟨#[]⟩, .int .i64 0, .nilIface]) W := fun W => by kernel_rfl
 have k1 := (Kept.refl [] w).alloc (.cells #[.string ⟨#[]⟩, .int .i64 0, .nilIface] 82)
 have n1 := heap_alloc_new w (.cells #[.string ⟨#[]⟩, .int .i64 0, .nilIface] 82)
 go_enter Tryz.func122, Tryz.ntmps122
 go_wp2_with (first
  | (refine wpList_store_k rfl 82 (.tmp 4) (.tmp 8) rfl w.heap.size #[.string ⟨#[]⟩, .int .i64 0, .nilIface] rfl rfl 82 _ n1 stT rfl (one3 _ rfl) ?_; intro w2 hg2 hk2))
 refine bodyPost_ret (results_cell_row rfl _ _ w.heap.size 82 _ (0, 0) _ rfl hg2 Tryz.underlying82 rfl stT) rfl ?_
 exact ⟨rfl, k1.trans2 hk2 (by intro y hy; simp at hy; subst hy; exact Or.inr (Nat.le_refl _))⟩

theorem SRead_zero (v a n : Nat) (w : World) (hv : Vol w v a n) (hn : 8 ≤ n) : Calls Tryz.prog 90 #[.pointer (some ⟨v, 0, none⟩), .int .i64 0] w fun e w' => e = .returned (.agg #[.string ⟨#[]⟩, .int .i64 0, .nilIface]) ∧ Kept [] w w' := by
 have hmf := makes
 have k1 := ((Kept.refl [] w).alloc (.cells #[.pointer (some ⟨v, 0, none⟩)] 73)).alloc (.cells #[.string ⟨#[]⟩, .int .i64 0, .nilIface] 82)
 have hs : (w.alloc (.cells #[.pointer (some ⟨v, 0, none⟩)] 73)).heap.size = w.heap.size + 1 := World.size_alloc _ _
 have n1 := heap_alloc_new (w.alloc (.cells #[.pointer (some ⟨v, 0, none⟩)] 73)) (.cells #[.string ⟨#[]⟩, .int .i64 0, .nilIface] 82)
 rw [hs] at n1
 have HS : Hid (∀ W, Kept [] w W → Calls Tryz.prog 76 #[.pointer (some ⟨v, 0, none⟩)] W _) := fun W kW => VSize_any v a n W (kW.get hv (by simp))
 go_enter Tryz.func90, Tryz.ntmps90
 go_wp2_with (first
  | (go_at_call 76; refine (HS.out _ k1).mono ?_; rintro e w2 ⟨rfl, hk2⟩)
  | (go_at_call 75; refine (Of_any n _ hn).mono ?_; rintro e w3 ⟨b, rfl, hsp, hb, hk3⟩)
  | (go_at_call 122; refine (TRead_zero _ _).mono ?_; rintro e w4 ⟨rfl, hk4⟩; have k5 := (Kept.refl [] w3).alloc (.cells #[.int .i64 (n : Int), .map (some b)] 131); have K4 : Kept [] w w4 := (((k1.trans hk2).trans hk3).trans k5).trans hk4; have n4 := (((hk2.trans hk3).trans k5).trans hk4).get n1 (by simp))
  | (refine wpList_store_k rfl 82 (.tmp 4) (.tmp 11) rfl (w.heap.size + 1) #[.string ⟨#[]⟩, .int .i64 0, .nilIface] rfl rfl 82 _ n4 stT rfl (one3 _ rfl) ?_; intro w5 hg5 hk5))
 refine bodyPost_ret (results_cell_row rfl _ _ (w.heap.size + 1) 82 _ (0, 0) _ rfl hg5 Tryz.underlying82 rfl stT) rfl ?_
 exact ⟨rfl, K4.trans2 hk5 (by intro y hy; simp at hy; subst hy; exact Or.inr (by omega))⟩

end Go.Proofs.YtcklgafpgdhnaaaGreatDoor

namespace Go.Proofs.YtcklgafpgdhnaaaGreatDoor
open Go.RowKit

def Dq (L : List UInt8) (c wr t : Int) : Dv := ⟨L, [], c, wr, t, -1, 0, 0⟩
structure Dev (w : World) (a g n : Nat) (L : List UInt8) (c wr t : Int) : Prop where
 d : DC w a (.slice (some ⟨g, 0, none⟩) n n) (.slice none 0 0) (Dq L c wr t)
 b : w.heap[g]? = some (.cells (u8s L).toArray 92 (0, 0))
 l : L.length = n * 128
 m : n ≤ 1000
section
variable {w w' : World} {a g n : Nat} {L : List UInt8} {c wr t : Int}
theorem Dev.ne (h : Dev w a g n L c wr t) : a ≠ g := ne_tag h.d h.b (by decide)
theorem Dev.kept {S : List Nat} (h : Dev w a g n L c wr t) (k : Kept S w w') (ha : a ∉ S) (hg : g ∉ S) : Dev w' a g n L c wr t :=
 ⟨k.get h.d ha, k.get h.b hg, h.l, h.m⟩
theorem Dev.dq (h : Dev w a g n L c wr t) : DQ w a (.slice (some ⟨g, 0, none⟩) n n) n (.slice none 0 0) (Dq L c wr t) :=
 ⟨h.d, owns_put (by rw [length_u8s]; exact h.l) h.b (Nat.zero_le _) (Nat.le_refl _) (by have := h.m; unfold maxLen; omega) (by rw [length_u8s]; exact h.l) (List.take_of_length_le (by rw [length_u8s]; exact Nat.le_of_eq h.l)), World.ownsRow_nil _ _ _ _, by simp [Fit, Dq], fun _ => rfl⟩
theorem Dev.good (L : List UInt8) (c wr t : Int) : Good (Dq L c wr t) := ⟨rfl, rfl, rfl⟩
theorem DQ.dev {cv : Value} {D : Dv} (h : DQ w a (.slice (some ⟨g, 0, none⟩) n n) n cv D) (hq : D.q = []) (hg : Good D) (hn : n ≤ 1000) : Dev w a g n D.L D.c D.wr D.t := by
 obtain rfl := h.z hq
 have e : D = Dq D.L D.c D.wr D.t := by
  obtain ⟨h1, h2, h3⟩ := hg
  obtain ⟨L, q, c, wr, t, o, f, u⟩ := D
  simp only at hq h1 h2 h3
  subst hq h1 h2 h3
  rfl
 refine ⟨by rw [← e]; exact h.d, ?_, h.l, hn⟩
 obtain ⟨hl, h | ⟨g', cap, cur, e, _, hh, h1, h2, h3, h4⟩⟩ := h.b
 ·exact absurd h.1 (by simp)
 ·simp only [Value.slice.injEq, Option.some.injEq, Addr.mk.injEq] at e
  obtain ⟨⟨rfl, -⟩, -, rfl⟩ := e
  rw [hh]
  congr 1
  congr 1
  rw [← h4, List.take_of_length_le (by simpa using Nat.le_of_eq h3)]
end
theorem NewDisk_o (x : Int) (w : World) : Calls Tryz.prog 32 #[.int .i64 x] w fun e w' => ∃ a g, e = .returned (.pointer (some ⟨a, 0, none⟩)) ∧ Dev w' a g (nb x) (List.replicate (nb x * 128) 0) 0 0 0 ∧ w.heap.size ≤ a ∧ w.heap.size ≤ g ∧ Kept [] w w' := by
 refine (NewDisk_any x w).mono ?_
 rintro e w' ⟨a, bv, h1, h2, h3, ⟨g, rfl, h4⟩, h5⟩
 exact ⟨a, g, h1, h2.dev rfl ⟨rfl, rfl, rfl⟩ (Nat.le_of_lt (nb_lt x)), h3, h4, h5⟩
end Go.Proofs.YtcklgafpgdhnaaaGreatDoor

namespace Go.Proofs.YtcklgafpgdhnaaaGreatDoor
open Go.RowKit

def St (k : Nat) (L : List UInt8) : Prop := if k = 0 then rdH 0 (blockOf L 0) = none ∧ rdH 1 (blockOf L 1) = none else rdH 0 (blockOf L 0) = some (2 * k, 0) ∧ rdH 1 (blockOf L 1) = some (2 * k - 1, 0)
theorem newest_q {L : List UInt8} {c wr t : Int} : newestD (Dq L c wr t) = nwst (rdH 0 (blockOf L 0)) (rdH 1 (blockOf L 1)) := rfl
theorem St.newest {k : Nat} {L : List UInt8} (h : St k L) (hk : k ≤ 50000) {c wr t : Int} : newestD (Dq L c wr t) = ((2 * k, 0), decide (0 < k)) := by
 rw [newest_q]
 unfold St at h
 split at h
 ·subst k
  rw [h.1, h.2]
  rfl
 ·rw [h.1, h.2]
  have e : nwr (2 * k - 1) (2 * k) = false := by
   unfold nwr
   have e1 : (((2 * k - 1 : Nat) : Int) - ((2 * k : Nat) : Int)) = -1 := by omega
   rw [e1]
   have e3 : IntKind.u64.wrap (-1) = 18446744073709551615 := by kernel_rfl
   rw [e3]
   exact decide_eq_false (by simp [wrap64])
  have e2 : decide (0 < k) = true := decide_eq_true (by omega)
  simp [nwst, e, e2]
theorem St_zero (N : Nat) (h : 1024 ≤ N) : St 0 (List.replicate N 0) := by
 have key : ∀ i, i ≤ 1 → (blockOf (List.replicate N 0) i).take 8 ≠ markL := by
  intro i hi
  unfold blockOf
  rw [List.drop_replicate, List.take_replicate, List.take_replicate, Nat.min_eq_left (by omega)]
  decide
 unfold St
 rw [if_pos rfl]
 exact ⟨rdH_none (key 0 (by omega)), rdH_none (key 1 (by omega))⟩
theorem Lh.dev {L : List UInt8} {c wr t : Int} {T R : Nat} {D' : Dv} (h : Lh (Dq L c wr t) T R D') : D' = Dq (setBlock L (T % 2) (blk T R)) D'.c D'.wr t := by
 obtain ⟨D1, h1, h2⟩ := h
 have a1 := h2.L
 have a2 := h2.q
 have a3 := h2.t.trans h1.t
 have a4 := h2.off.trans h1.off
 have a5 := h2.fr.trans h1.fr
 have a6 := h2.to.trans h1.to
 rw [h1.L, h1.q] at a1
 obtain ⟨L', q', c', wr', t', o', f', u'⟩ := D'
 simp only [Dq] at *
 subst a1 a2 a3 a4 a5 a6
 rfl
theorem Lf.bad {L : List UInt8} {c wr t : Int} {T R : Nat} {D' : Dv} (h : Lf (Dq L c wr t) T R D') : False := by
 rcases h with h | ⟨D1, h1, h2⟩
 ·exact h.bad ⟨rfl, rfl, rfl⟩
 ·exact h2.bad (h1.good.2 ⟨rfl, rfl, rfl⟩)
theorem St.next {k n : Nat} {L : List UInt8} (hk : k ≤ 50000) (hL : L.length = n * 128) (hn : 8 ≤ n) : St (k + 1) (setBlock (setBlock L ((2 * k + 1) % 2) (blk (2 * k + 1) 0)) ((2 * k + 2) % 2) (blk (2 * k + 2) 0)) := by
 have e1 : (2 * k + 1) % 2 = 1 := by omega
 have e2 : (2 * k + 2) % 2 = 0 := by omega
 have g1 := rdH_blk (t := 2 * k + 1) (r := 0) (by omega) (by omega)
 have g2 := rdH_blk (t := 2 * k + 2) (r := 0) (by omega) (by omega)
 rw [e1] at g1
 rw [e2] at g2
 unfold St
 rw [if_neg (by omega), e1, e2]
 have hl := length_setBlock L (blk (2 * k + 1) 0) n 1 hL (by omega) (length_blk _ _)
 rw [block_set hl (by omega) (length_blk _ _), if_pos rfl, block_set hl (by omega) (length_blk _ _), if_neg (by omega), block_set hL (by omega) (length_blk _ _), if_pos rfl]
 exact ⟨g2, g1⟩

end Go.Proofs.YtcklgafpgdhnaaaGreatDoor
