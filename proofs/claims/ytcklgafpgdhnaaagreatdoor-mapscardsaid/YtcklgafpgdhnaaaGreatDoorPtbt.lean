import Derived.Test.YtcklgafpgdhnaaaGreatDoorPtbk
import Derived.Test.YtcklgafpgdhnaaaGreatDoorPtbh
import Derived.Test.YtcklgafpgdhnaaaGreatDoorPtag
import Derived.Maps.OwnSet
import Derived.LoopN
set_option maxRecDepth 100000
set_option maxHeartbeats 4000000
open List renaming getElem_toArray → zA, getElem_cons_succ → zB, getElem_cons_zero → zC, setIfInBounds_toArray → zD, set_cons_succ → zE, set_cons_zero → zF
namespace Go.Proofs.YtcklgafpgdhnaaaGreatDoor
open Go.RowKit

def TrdR (a : Nat) (bv : Value) (n : Nat) (cv : Value) (D : Dv) (rt : Option Tr) (w : World) (e : Ending) (w' : World) : Prop :=
 ∃ D', DQ w' a bv n cv D' ∧ Kept [a] w w' ∧ ((Qt D D' ∧ ∃ t r, rt = some t ∧ e = .returned (.agg #[.string ⟨#[]⟩, .int .i64 (t.pl : Nat), r]) ∧ TV w' Tru t r) ∨ (Qt D D' ∧ rt = none ∧ Thr 7 e w') ∨ (Er D D' ∧ Thr 6 e w'))
def SNil (sv : Nat) (W : World) : Prop := W.heap[sv]? = some (.cells #[.pointer none] 27 (0, 0))
def OpE (sv a : Nat) (bv : Value) (n : Nat) (cv : Value) (D : Dv) (h : (Nat × Nat) × Bool) (rt : Option Tr) (B : Nat) (o : Option Int) (W : World) : Prop :=
 ∃ D', DQ W a bv n cv D' ∧ ((o = some 6 ∧ Er D D' ∧ SNil sv W) ∨ (o = some 7 ∧ Qt D D' ∧ SNil sv W ∧ (h.2 = false ∨ rt = none)) ∨
  (o = none ∧ Qt D D' ∧ h.2 = true ∧ ∃ t r x v, rt = some t ∧ W.heap[sv]? = some (.cells #[.pointer (some ⟨x, 0, none⟩)] 27 (0, 0)) ∧ Rec x v a n ⟨1, h.1.1, h.1.2, t, r⟩ r t W ∧ B ≤ x ∧ B ≤ v))
theorem OpE.err {sv a : Nat} {bv : Value} {n : Nat} {cv : Value} {D : Dv} {h : (Nat × Nat) × Bool} {rt : Option Tr} {B : Nat} {o : Option Int} {W W' : World} {T : List Nat} (g : OpE sv a bv n cv D h rt B o W) (k : Kept T W W') (hT : ∀ x ∈ T, Tg W x 35) : OpE sv a bv n cv D h rt B o W' := by
 obtain ⟨D', hd, hr⟩ := g
 have hn : ∀ {y : Nat} {t : TypeId}, Tg W y t → t ≠ 35 → y ∉ T := fun hy hne hm => hne (hy.ne (hT _ hm))
 refine ⟨D', hd.kept k ?_, ?_⟩
 ·intro y hy hm
  obtain ⟨cs, fr, hh⟩ := hT y hm
  exact hd.no hh (by decide) hy
 ·rcases hr with ⟨h1, h2, h3⟩ | ⟨h1, h2, h3, h4⟩ | ⟨h1, h2, h3, t, r, x, v, h4, h5, h6, h7⟩
  ·exact Or.inl ⟨h1, h2, k.get h3 (hn ⟨_, _, h3⟩ (by decide))⟩
  ·exact Or.inr (Or.inl ⟨h1, h2, k.get h3 (hn ⟨_, _, h3⟩ (by decide)), h4⟩)
  ·exact Or.inr (Or.inr ⟨h1, h2, h3, t, r, x, v, h4, k.get h5 (hn ⟨_, _, h5⟩ (by decide)), h6.err k hT, h7⟩)

theorem szp : (Tryz.prog.info? 27).map (·.size) = some 1 := by kernel_rfl
theorem stHd : (Tryz.prog.info? 76).map (·.size) = some 2 := by kernel_rfl
theorem Open1_any (p sv a : Nat) (bv : Value) (n : Nat) (cv : Value) (D : Dv) (rt : Option Tr) (w : World) (hp : w.heap[p]? = some (.cells #[.iface 26 (.pointer (some ⟨a, 0, none⟩))] 126 (0, 0))) (hsv : SNil sv w) (h : DQ w a bv n cv D) (hn8 : 8 ≤ n) (hn : n ≤ 400) (hq : D.q.length < 1000000) (hT : Good D ∨ Tab w)
  (hR : ∀ v W D1, Vol W v a n → DQ W a bv n cv D1 → Qt D D1 → (Good D1 ∨ Tab W) → Calls Tryz.prog 90 #[.pointer (some ⟨v, 0, none⟩), .int .i64 ((newestD D).1.2 : Nat)] W (TrdR a bv n cv D1 rt W)) :
  Calls Tryz.prog 89 #[.pointer (some ⟨p, 0, none⟩), .pointer (some ⟨sv, 0, none⟩)] w (WorkR [a, sv] (OpE sv a bv n cv D (newestD D) rt w.heap.size) w) := by
 have c0 : w.cell? ⟨p, 0, none⟩ = some (.iface 26 (.pointer (some ⟨a, 0, none⟩))) := cellAt hp rfl
 obtain ⟨bp, bc, rfl⟩ := owns_slice h.b
 have HN : Hid (∀ v W, Vol W v a n → DQ W a (.slice bp n bc) n cv D → (Good D ∨ Tab W) → Calls Tryz.prog 88 #[.pointer (some ⟨v, 0, none⟩)] W (RdR a (.slice bp n bc) n cv D (fun e _ => e = .returned (nwV (newestD D))) W)) := fun v W hV hD hT => Newest_any v a _ n cv D W hV hD hn8 (by omega) (by omega) hT
 have HR : Hid (∀ v W D1, Vol W v a n → DQ W a (.slice bp n bc) n cv D1 → Qt D D1 → (Good D1 ∨ Tab W) → Calls Tryz.prog 90 #[.pointer (some ⟨v, 0, none⟩), .int .i64 ((newestD D).1.2 : Nat)] W (TrdR a (.slice bp n bc) n cv D1 rt W)) := hR
 clear hR
 obtain ⟨⟨⟨t0, r0⟩, b0⟩, hx⟩ : ∃ x, x = newestD D := ⟨_, rfl⟩
 rw [← hx] at HN HR ⊢
 clear hx
 have hsl := lt_heap hsv
 go_enter Tryz.func89, Tryz.ntmps89
 go_wp2_with fail
 refine (On_fits a n bc bp cv D w h.d hn8 hn).mono ?_
 rintro e w1 ⟨v, rfl, hv1, hvl, hk1⟩
 have h1 := h.k0 hk1
 have hT1 : Good D ∨ Tab w1 := hT.imp id fun hT => hT.k hk1
 have nv : v ∉ dfoot a (.slice bp n bc) cv := h1.no hv1 (by decide)
 have sub1 : ∀ y ∈ [a], y ∈ dfoot a (.slice bp n bc) cv := by intro y hy; simp at hy; subst hy; simp [dfoot]
 have nsv : sv ∉ dfoot a (.slice bp n bc) cv := h.no hsv (by decide)
 go_wp2_with fail
 refine (HN.out v w1 hv1 h1 hT1).mono ?_
 rintro e w2 ⟨D2, hd2, hk2, ⟨hq2, rfl⟩ | ⟨he2, ht2⟩⟩
 rotate_left
 ·obtain ⟨f, o, rfl, hf⟩ := ht2.ex
  exact ⟨rfl, some 6, ht2, ⟨D2, hd2, Or.inl ⟨rfl, he2, hk2.get (hk1.get hsv (by simp)) fun hm => nsv (sub1 _ hm)⟩⟩, (hk1.mono (by simp)).trans (hk2.mono (by simp))⟩
 have hv2 : Vol w2 v a n := hk2.get hv1 (fun hm => nv (sub1 _ hm))
 have hs2 : SNil sv w2 := hk2.get (hk1.get hsv (by simp)) fun hm => nsv (sub1 _ hm)
 have hT2 : Good D2 ∨ Tab w2 := hT1.imp hq2.good.2 fun hT => hT.kept hk2 (hT.dqa h1)
 have hk02 : Kept [a] w w2 := (hk1.mono (by simp)).trans hk2
 have k3 := (Kept.refl [] w2).alloc (.cells #[.int .u64 (t0 : Int), .int .i64 (r0 : Int)] 76)
 have n3 := heap_alloc_new w2 (.cells #[.int .u64 (t0 : Int), .int .i64 (r0 : Int)] 76)
 have hd3 := hd2.k0 k3
 have hv3 : Vol (w2.alloc (.cells #[.int .u64 (t0 : Int), .int .i64 (r0 : Int)] 76)) v a n := k3.get hv2 (by simp)
 have hs3 : SNil sv (w2.alloc (.cells #[.int .u64 (t0 : Int), .int .i64 (r0 : Int)] 76)) := k3.get hs2 (by simp)
 have hk03 := hk02.trans2 k3 (by simp)
 have hT3 : Good D2 ∨ Tab (w2.alloc (.cells #[.int .u64 (t0 : Int), .int .i64 (r0 : Int)] 76)) := hT2.imp id fun hT => hT.k k3
 have hz2 := hk02.size
 clear h1 hk1 hT1
 simp only [nwV]
 generalize hW3 : w2.alloc (.cells #[.int .u64 (t0 : Int), .int .i64 (r0 : Int)] 76) = w3 at *
 have HW3 : Hid _ := hW3
 clear hW3
 cases b0 with
 | false =>
  go_wp2_with fail
  rw [HW3.out]
  go_wp2_with (first | (go_at_call 62; refine (Throw_any _ _ _).mono ?_; rintro e w4 ⟨f, o, rfl, hf, hk4⟩))
  exact ⟨rfl, some 7, ⟨f, o, rfl, hf⟩, ⟨D2, hd3.k0 hk4, Or.inr (Or.inl ⟨rfl, hq2, hk4.get hs3 (by simp), Or.inl rfl⟩)⟩, (hk03.mono (by simp)).trans (hk4.mono (by simp))⟩
 | true =>
  have c30 : w3.cell? ⟨w2.heap.size, 0, none⟩ = some (.int .u64 t0) := cellAt n3 rfl
  have c31 : w3.cell? ⟨w2.heap.size, 1, none⟩ = some (.int .i64 r0) := cellAt n3 rfl
  go_wp2_with fail
  rw [HW3.out]
  go_wp2_with (first | (go_at_call 91; refine (HRoot_any t0 r0 _).mono ?_; rintro e w4 ⟨rfl, hk4⟩))
  refine (HR.out v w4 D2 (hk4.get hv3 (by simp)) (hd3.k0 hk4) hq2 (hT3.imp id fun hT => hT.k hk4)).mono ?_
  rintro e w5 ⟨D5, hd5, hk5, ⟨hq5, t, r, hrt, rfl, htv⟩ | ⟨hq5, hrt, ht5⟩ | ⟨he5, ht5⟩⟩
  rotate_left
  ·obtain ⟨f, o, rfl, hf⟩ := ht5.ex
   exact ⟨rfl, some 7, ht5, ⟨D5, hd5, Or.inr (Or.inl ⟨rfl, hq2.trans hq5, hk5.get (hk4.get hs3 (by simp)) fun hm => nsv (sub1 _ hm), Or.inr hrt⟩)⟩, ((hk03.mono (by simp)).trans (hk4.mono (by simp))).trans (hk5.mono (by simp))⟩
  ·obtain ⟨f, o, rfl, hf⟩ := ht5.ex
   exact ⟨rfl, some 6, ht5, ⟨D5, hd5, Or.inl ⟨rfl, hq2.er he5, hk5.get (hk4.get hs3 (by simp)) fun hm => nsv (sub1 _ hm)⟩⟩, ((hk03.mono (by simp)).trans (hk4.mono (by simp))).trans (hk5.mono (by simp))⟩
  have hr1 := htv.one
  have hs5 : SNil sv w5 := hk5.get (hk4.get hs3 (by simp)) fun hm => nsv (sub1 _ hm)
  have hv5 : Vol w5 v a n := hk5.get (hk4.get hv3 (by simp)) fun hm => nv (sub1 _ hm)
  have n5 := hk5.get (hk4.get n3 (by simp)) (fun hm => hd2.ge (Nat.le_refl _) (sub1 _ hm))
  have c50 : w5.cell? ⟨w2.heap.size, 0, none⟩ = some (.int .u64 t0) := cellAt n5 rfl
  have c51 : w5.cell? ⟨w2.heap.size, 1, none⟩ = some (.int .i64 r0) := cellAt n5 rfl
  have cs5 : w5.cell? ⟨sv, 0, none⟩ = some (.pointer none) := cellAt hs5 rfl
  have fs5 : w5.frozen? ⟨sv, 0, none⟩ = false := frozen_of_row _ _ _ _ _ hs5
  have K5 : Kept [a, sv] w w5 := ((hk03.mono (by simp)).trans (hk4.mono (by simp))).trans (hk5.mono (by simp))
  have k6 := (Kept.refl [] w5).alloc (.cells #[.string ⟨#[]⟩, .int .i64 0, .nilIface] 82)
  have z6 := heap_alloc_new w5 (.cells #[.string ⟨#[]⟩, .int .i64 0, .nilIface] 82)
  have hlt2 := lt_heap n5
  have hlt3 := lt_heap hs5
  clear hk03 hk02 hk2 hs2 hs3 hv2 hv3 hd2 hd3 hT2 hT3 n3 k3
  go_wp2_with (first
   | (refine wpList_store_k rfl 82 (.tmp 5) (.tmp 19) rfl w5.heap.size #[.string ⟨#[]⟩, .int .i64 (t.pl : Int), r] rfl rfl 82 _ z6 stT rfl (one3 _ hr1) ?_; intro w6 t6 hk6; have n6 := hk6.get (k6.get n5 (by simp)) (by simp; omega); have s6 := hk6.get (k6.get hs5 (by simp)) (by simp; omega); have K6 : Kept [] w5 w6 := k6.trans2 hk6 (by intro y hy; simp at hy; subst hy; exact Or.inr (Nat.le_refl _)); have k7 := (Kept.refl [] w6).alloc (.cells #[.int .i64 1, .pointer (some ⟨v, 0, none⟩), .int .u64 (t0 : Int), .int .i64 (r0 : Int), .string ⟨#[]⟩, .int .i64 (t.pl : Int), r, .string ⟨#[]⟩, .int .i64 (t.pl : Int), r] 84); have s7 := k7.get s6 (by simp); have x7 := heap_alloc_new w6 (.cells #[.int .i64 1, .pointer (some ⟨v, 0, none⟩), .int .u64 (t0 : Int), .int .i64 (r0 : Int), .string ⟨#[]⟩, .int .i64 (t.pl : Int), r, .string ⟨#[]⟩, .int .i64 (t.pl : Int), r] 84))
   | (refine wpList_skip rfl _ (exec_store 27 (.tmp 1) (.tmp 25) rfl ⟨sv, 0, none⟩ rfl _ rfl (run_store1 szp rfl s7 (by simp))) ?_)
   | (refine wpList_load_row rfl 76 (.tmp 3) rfl w2.heap.size rfl 76 #[.int .u64 (t0 : Int), .int .i64 (r0 : Int)] (0, 0) _ n6 Tryz.underlying76 rfl stHd ?_)
   | (refine wpList_load_row rfl 82 (.tmp 5) rfl w5.heap.size rfl 82 #[.string ⟨#[]⟩, .int .i64 (t.pl : Int), r] (0, 0) _ t6 Tryz.underlying82 rfl stT ?_))
  go_end0
  have kb : Kept [sv] (w6.alloc (.cells (rowS ⟨1, t0, r0, t, r⟩ v t r) 84)) ((w6.alloc (.cells (rowS ⟨1, t0, r0, t, r⟩ v t r) 84)).setCell ⟨sv, 0, none⟩ (.pointer (some ⟨w6.heap.size, 0, none⟩))) := (Kept.refl _ _).setCell (Or.inl (by simp)) _
  have K7 : Kept [] w5 (w6.alloc (.cells (rowS ⟨1, t0, r0, t, r⟩ v t r) 84)) := K6.trans k7
  have tv7 := (htv.k K7).tags
  have nsT : ∀ y ∈ [sv], ¬ TT (w6.alloc (.cells (rowS ⟨1, t0, r0, t, r⟩ v t r) 84)) y := by
   intro y hy
   simp at hy
   subst hy
   rintro (h1 | h1)
   ·have := Tg.ne ⟨_, _, s7⟩ h1
    revert this; decide
   ·have := Tg.ne ⟨_, _, s7⟩ h1
    revert this; decide
  have h56 := K6.size
  refine ⟨none, rfl, ⟨D5, (hd5.k0 K7).k1 kb nsv, Or.inr (Or.inr ⟨rfl, hq2.trans hq5, rfl, t, r, w6.heap.size, v, rfl, setCellAt (i := 0) _ s7, ⟨kb.get x7 (by simp; omega), kb.get (K7.get hv5 (by simp)) (by simp; intro e; subst e; have := Tg.ne ⟨_, _, hs5⟩ ⟨_, _, hv5⟩; revert this; decide), ⟨Nat.le_refl _, by show 1 ≤ 3; decide⟩, TV.kept tv7 kb nsT fun _ _ => trivial, TV.kept tv7 kb nsT fun _ _ => trivial⟩, by have := K5.size; omega, by omega⟩)⟩, (K5.trans (K7.mono (by simp))).trans (kb.mono (by simp))⟩

end Go.Proofs.YtcklgafpgdhnaaaGreatDoor

namespace Go.Proofs.YtcklgafpgdhnaaaGreatDoor
open Go.RowKit

def SpM (w : World) (b : Nat) (us : List Nat) : Prop :=
 ∃ (m : Nat) (D : DataW Unit), w.ownsMap Tryz.prog 3 unitElem b m D ∧ m ≤ us.length ∧ ∀ i : Nat, Maps.has D (.int .i64 i) = decide (i ∈ us)
theorem SpM.kept {S : List Nat} {w w' : World} {b : Nat} {us : List Nat} (h : SpM w b us) (k : Kept S w w') (hb : b ∉ S) : SpM w' b us := by
 obtain ⟨m, D, h1, h2⟩ := h
 refine ⟨m, D, ?_, h2⟩
 have hlt := h1.lt
 obtain ⟨es, clock, hh, r⟩ := h1
 exact ⟨es, clock, by rw [k.block b hlt hb]; exact hh, r⟩
theorem SpM.lt {w : World} {b : Nat} {us : List Nat} (h : SpM w b us) : b < w.heap.size := by
 obtain ⟨m, D, h1, _⟩ := h
 exact h1.lt
theorem SpM.ne {w : World} {b : Nat} {us : List Nat} (h : SpM w b us) {y : Nat} {cs : Array Value} {t : TypeId} {fr : Nat × Nat} (hy : w.heap[y]? = some (.cells cs t fr)) : y ≠ b := by
 rintro rfl
 obtain ⟨m, D, ⟨es, clock, hh, _⟩, _⟩ := h
 rw [hy] at hh
 cases hh
theorem kl : Maps.Keyed Tryz.prog 3 := Maps.int_keyed Tryz.underlying3
theorem kwf (i : Nat) (hi : i < 70000) : keyOf Tryz.prog 3 (.int .i64 (i : Int)) = some (.int .i64 i) := Maps.keyOf_int_mk Tryz.underlying3 (by simp [Lit.wf, show IntKind.i64.min = -9223372036854775808 from rfl, show IntKind.i64.max = 9223372036854775807 from rfl]; omega)
theorem zunit (w : World) : (zeroValue 172).run Tryz.prog w = .ok (.agg #[]) w := by kernel_rfl
theorem SpM.made (w : World) : SpM (w.alloc (.map #[] 0)) w.heap.size [] :=
 ⟨0, .map [], World.ownsMap_made w _ _ _, Nat.le_refl _, fun i => by simp [Maps.has]⟩
theorem SpM.look {w : World} {b : Nat} {us : List Nat} (h : SpM w b us) (i : Nat) (hi : i < 70000) : (Instr.lookup 129 (.map (some b)) (.int .i64 (i : Int)) true).run Tryz.prog w = .ok (.tuple #[.agg #[], .bool (decide (i ∈ us))]) w := by
 obtain ⟨m, D, h1, h2, h3⟩ := h
 obtain ⟨v, ps, hr, hv⟩ := h1.look_ok kl Tryz.underlying129 (zunit w) unitElem_mk (kwf i hi)
 obtain ⟨rfl, _⟩ := unitElem_inv hv
 rw [← h3 i]
 exact hr
theorem SpM.put {w : World} {b : Nat} {us : List Nat} (h : SpM w b us) (i : Nat) (hi : i < 70000) (hl : us.length < 70000) : ∃ w', (Instr.mapUpdate 129 (.map (some b)) (.int .i64 (i : Int)) (.agg #[])).run Tryz.prog w = .ok () w' ∧ SpM w' b (i :: us) ∧ Kept [b] w w' := by
 obtain ⟨m, D, h1, h2, h3⟩ := h
 obtain ⟨w', hr, ho, ht⟩ := h1.store kl Tryz.underlying129 (by unfold maxLen; omega) (kwf i hi) unitElem_mk
 refine ⟨w', hr, ⟨m + 1, _, ho, by simp; omega, ?_⟩, ?_⟩
 ·intro j
  by_cases e : j = i
  ·subst e
   rw [Maps.has_put_same h1.isMap (by simp [WideAt.IsKeyLit])]
   simp
  ·rw [Maps.has_put_other (by simpa using fun h => e (by omega))]
   rw [h3 j]
   simp [e]
 ·exact grown_kept ht.grown [b] (by intro y hy; cases hy; simp)

theorem sspace : (Tryz.prog.info? 131).map (·.size) = some 2 := by kernel_rfl
def spv (n b : Nat) : Array Value := #[.int .i64 n, .map (some b)]

theorem inUse_any (n b : Nat) (us : List Nat) (i : Nat) (w : World) (h : SpM w b us) (hi : i < 70000) :
  Calls Tryz.prog 114 #[.agg #[.int .i64 n, .map (some b)], .int .i64 i] w fun e w' => e = .returned (.bool (decide (i ∈ us))) ∧ Kept [] w w' := by
 have k1 := (Kept.refl [] w).alloc (.cells #[.int .i64 n, .map (some b)] 131)
 have hl := (h.kept k1 (by simp)).look i hi
 go_enter Tryz.func114, Tryz.ntmps114
 go_wp2
 go_ret
 exact ⟨rfl, ((Kept.refl _ _).alloc _).alloc _⟩

end Go.Proofs.YtcklgafpgdhnaaaGreatDoor

namespace Go.Proofs.YtcklgafpgdhnaaaGreatDoor
open Go.RowKit

theorem Use_ok (n b : Nat) (us : List Nat) (i : Nat) (w : World) (h : SpM w b us) (hi : i < 70000) (hl : us.length < 70000) (h1 : i < n) (h2 : i ∉ us) :
  Calls Tryz.prog 78 #[.agg #[.int .i64 n, .map (some b)], .int .i64 i] w fun e w' => e = .returned (.tuple #[]) ∧ SpM w' b (i :: us) ∧ Kept [b] w w' := by
 have k1 := (Kept.refl [] w).alloc (.cells #[.int .i64 n, .map (some b)] 131)
 have n1 := heap_alloc_new w (.cells #[.int .i64 n, .map (some b)] 131)
 have hs1 := h.kept k1 (by simp)
 have g0 : ¬ (i : Int) < 0 := by omega
 have g1 : ¬ (n : Int) ≤ i := by omega
 have HI : Hid (Calls _ _ _ _ _) := inUse_any n b us i _ hs1 hi
 have hd : decide (i ∈ us) = false := by simpa using h2
 rw [hd] at HI
 go_enter Tryz.func78, Tryz.ntmps78
 go_wp2_with (go_at_call 114; refine HI.out.mono ?_; rintro e w2 ⟨rfl, hk2⟩; obtain ⟨w3, hput, hs3, hk3⟩ := (hs1.kept hk2 (by simp)).put i hi hl; have c2 : w2.cell? ⟨w.heap.size, 1, none⟩ = some (.map (some b)) := cellAt (hk2.get n1 (by simp)) rfl)
 go_end0
 exact ⟨rfl, hs3, ((k1.trans hk2).mono (by simp)).trans hk3⟩

theorem Use_bad (n b : Nat) (us : List Nat) (i : Nat) (w : World) (h : SpM w b us) (hi : i < 70000) (h1 : ¬ (i < n ∧ i ∉ us)) (hT : Tab w) :
  Calls Tryz.prog 78 #[.agg #[.int .i64 n, .map (some b)], .int .i64 i] w fun e w' => Thr 7 e w' ∧ Kept [] w w' := by
 have k1 := (Kept.refl [] w).alloc (.cells #[.int .i64 n, .map (some b)] 131)
 have n1 := heap_alloc_new w (.cells #[.int .i64 n, .map (some b)] 131)
 have hs1 := h.kept k1 (by simp)
 have g0 : ¬ (i : Int) < 0 := by omega
 have HI : Hid (Calls _ _ _ _ _) := inUse_any n b us i _ hs1 hi
 have hT1 := hT.k k1
 by_cases hn : i < n
 ·have g1 : ¬ (n : Int) ≤ i := by omega
  have hd : decide (i ∈ us) = true := by
   by_cases hm : i ∈ us
   ·simpa using hm
   ·exact absurd ⟨hn, hm⟩ h1
  rw [hd] at HI
  go_enter Tryz.func78, Tryz.ntmps78
  go_wp2_with (first
   | (go_at_call 114; refine HI.out.mono ?_; rintro e w2 ⟨rfl, hk2⟩; have hT2 := hT1.k hk2)
   | (go_at_call 115; refine (Itoa_any hT2 i hi).mono ?_; rintro e w3 ⟨s3, rfl, hs3, hk3⟩; have hs3' : ¬ 9223372036854775807 < 13 + s3.size := (by omega))
   | (go_at_call 62; refine (Throw_v _ _ _).mono ?_; rintro e w4 ⟨ht, hk4⟩; obtain ⟨f, o, rfl, hf⟩ := ht.ex))
  exact ⟨rfl, ht, ((k1.trans hk2).trans hk3).trans hk4⟩
 ·have g1 : (n : Int) ≤ i := by omega
  go_enter Tryz.func78, Tryz.ntmps78
  go_wp2_with (first
   | (go_at_call 115; refine (Itoa_any hT1 i hi).mono ?_; rintro e w3 ⟨s3, rfl, hs3, hk3⟩; have hs3' : ¬ 9223372036854775807 < 13 + s3.size := (by omega))
   | (go_at_call 62; refine (Throw_v _ _ _).mono ?_; rintro e w4 ⟨ht, hk4⟩; obtain ⟨f, o, rfl, hf⟩ := ht.ex))
  exact ⟨rfl, ht, (k1.trans hk3).trans hk4⟩

def OfR (n : Nat) (w : World) (e : Ending) (w' : World) : Prop := ∃ b, e = .returned (.agg #[.int .i64 n, .map (some b)]) ∧ SpM w' b [1, 0] ∧ w.heap.size ≤ b ∧ Kept [] w w'

theorem mkmap (w : World) : (Instr.makeMap 129 none).run Tryz.prog w = .ok (.map (some w.heap.size)) (w.alloc (.map #[] 0)) := by kernel_rfl

theorem Of_any (n : Nat) (w : World) (hn : 8 ≤ n) : Calls Tryz.prog 75 #[.int .i64 n, .int .i64 2] w (OfR n w) := by
 have hmk := mkmap
 have k1 := (Kept.refl [] w).alloc (.cells #[.int .i64 0, .map none] 131)
 have n1 := heap_alloc_new w (.cells #[.int .i64 0, .map none] 131)
 have k2 := (Kept.refl [] (w.alloc (.cells #[.int .i64 0, .map none] 131))).alloc (.map #[] 0)
 have s2 := SpM.made (w.alloc (.cells #[.int .i64 0, .map none] 131))
 have hz1 : (w.alloc (.cells #[.int .i64 0, .map none] 131)).heap.size = w.heap.size + 1 := World.size_alloc _ _
 rw [hz1] at s2
 have k3 := (Kept.refl [] ((w.alloc (.cells #[.int .i64 0, .map none] 131)).alloc (.map #[] 0))).alloc (.cells #[.int .i64 n, .map (some (w.heap.size + 1))] 131)
 have n3 := heap_alloc_new ((w.alloc (.cells #[.int .i64 0, .map none] 131)).alloc (.map #[] 0)) (.cells #[.int .i64 n, .map (some (w.heap.size + 1))] 131)
 have hz2 : ((w.alloc (.cells #[.int .i64 0, .map none] 131)).alloc (.map #[] 0)).heap.size = w.heap.size + 1 + 1 := by rw [World.size_alloc, hz1]
 rw [hz2] at n3
 have s3 := s2.kept k3 (by simp)
 have m3 := k3.get (k2.get n1 (by simp)) (by simp)
 have hk3 := (k1.trans k2).trans k3
 have hz3 := hk3.size
 generalize hW3 : ((w.alloc (.cells #[.int .i64 0, .map none] 131)).alloc (.map #[] 0)).alloc (.cells #[.int .i64 n, .map (some (w.heap.size + 1))] 131) = w3 at *
 have HW3 : Hid _ := hW3
 have U0 : Hid (Calls _ _ _ _ _) := Use_ok n (w.heap.size + 1) [] 0 w3 s3 (by omega) (by simp) (by omega) (by simp)
 have U1 : Hid (∀ W, SpM W (w.heap.size + 1) [0] → Calls Tryz.prog 78 #[.agg #[.int .i64 n, .map (some (w.heap.size + 1))], .int .i64 1] W fun e w' => e = .returned (.tuple #[]) ∧ SpM w' (w.heap.size + 1) [1, 0] ∧ Kept [w.heap.size + 1] W w') := fun W hs => Use_ok n (w.heap.size + 1) [0] 1 W hs (by omega) (by simp) (by omega) (by simp)
 have c0 : w3.cell? ⟨w.heap.size + 1 + 1, 0, none⟩ = some (.int .i64 n) := cellAt n3 rfl
 have c1 : w3.cell? ⟨w.heap.size + 1 + 1, 1, none⟩ = some (.map (some (w.heap.size + 1))) := cellAt n3 rfl
 clear hW3 k1 n1 k2 s2 k3 hz1 hz2
 go_enter Tryz.func75, Tryz.ntmps75
 go_wp2_with fail
 rw [HW3.out]
 go_wp2_with fail
 refine wp_loop_rounds 3 ?_
 rw [rounds_succ]
 go_wp2_with fail
 refine U0.out.mono ?_
 rintro e w4 ⟨rfl, s4, k4⟩
 have n4 := k4.get n3 (by simp)
 have m4 := k4.get m3 (by simp)
 have c40 : w4.cell? ⟨w.heap.size + 1 + 1, 0, none⟩ = some (.int .i64 n) := cellAt n4 rfl
 have c41 : w4.cell? ⟨w.heap.size + 1 + 1, 1, none⟩ = some (.map (some (w.heap.size + 1))) := cellAt n4 rfl
 go_wp2_with fail
 rw [rounds_succ]
 go_wp2_with fail
 refine (U1.out _ s4).mono ?_
 rintro e w5 ⟨rfl, s5, k5⟩
 have n5 := k5.get n4 (by simp)
 have m5 := k5.get m4 (by simp)
 have c50 : w5.cell? ⟨w.heap.size + 1 + 1, 0, none⟩ = some (.int .i64 n) := cellAt n5 rfl
 have c51 : w5.cell? ⟨w.heap.size + 1 + 1, 1, none⟩ = some (.map (some (w.heap.size + 1))) := cellAt n5 rfl
 have d50 : w5.cell? ⟨w.heap.size, 0, none⟩ = some (.int .i64 0) := cellAt m5 rfl
 have d51 : w5.cell? ⟨w.heap.size, 1, none⟩ = some (.map none) := cellAt m5 rfl
 have f50 : w5.frozen? ⟨w.heap.size, 0, none⟩ = false := frozen_of_row _ _ _ _ _ m5
 have f51 : w5.frozen? ⟨w.heap.size, 1, none⟩ = false := frozen_of_row _ _ _ _ _ m5
 go_wp2_with fail
 rw [rounds_succ]
 go_wp2
 have k6 : Kept [w.heap.size] w5 ((w5.setCell ⟨w.heap.size, 0, none⟩ (.int .i64 n)).setCell ⟨w.heap.size, 1, none⟩ (.map (some (w.heap.size + 1)))) := ((Kept.refl [w.heap.size] w5).setCell (p := ⟨w.heap.size, 0, none⟩) (Or.inl (by simp)) _).setCell (p := ⟨w.heap.size, 1, none⟩) (Or.inl (by simp)) _
 refine bodyPost_ret (results_cell_row rfl _ _ w.heap.size 131 #[.int .i64 n, .map (some (w.heap.size + 1))] (0, 0) _ rfl (setCellAt (i := 1) (.map (some (w.heap.size + 1))) (setCellAt (i := 0) (.int .i64 (n : Int)) m5)) Tryz.underlying131 rfl sspace) rfl ?_
 refine ⟨w.heap.size + 1, rfl, s5.kept k6 (by simp), by omega, ((hk3.trans2 k4 ?_).trans2 k5 ?_).trans2 k6 ?_⟩
 ·intro x hx; simp at hx; subst hx; exact Or.inr (by omega)
 ·intro x hx; simp at hx; subst hx; exact Or.inr (by omega)
 ·intro x hx; simp at hx; subst hx; exact Or.inr (Nat.le_refl _)

end Go.Proofs.YtcklgafpgdhnaaaGreatDoor

namespace Go.Proofs.YtcklgafpgdhnaaaGreatDoor
open Go.RowKit

theorem open_vars (w : World) (d : Value) : ((w.alloc (.cells #[d] 126)).alloc (.cells #[.pointer none] 27)).heap[w.heap.size]? = some (.cells #[d] 126 (0, 0)) ∧
  ((w.alloc (.cells #[d] 126)).alloc (.cells #[.pointer none] 27)).heap[w.heap.size + 1]? = some (.cells #[.pointer none] 27 (0, 0)) := by
 constructor
 ·exact ((Kept.refl [] _).alloc _).get (heap_alloc_new _ _) (by simp)
 ·have := heap_alloc_new (w.alloc (.cells #[d] 126)) (.cells #[.pointer none] 27)
  rwa [World.size_alloc] at this
def OpenR (a : Nat) (bv : Value) (n : Nat) (cv : Value) (D : Dv) (h : (Nat × Nat) × Bool) (rt : Option Tr) (w : World) (e : Ending) (w' : World) : Prop :=
 ∃ o pv err D', e = .returned (.tuple #[pv, err]) ∧ CEnd o err w' ∧ DQ w' a bv n cv D' ∧ Kept [a] w w' ∧ ((o = some 6 ∧ Er D D' ∧ pv = .pointer none) ∨ (o = some 7 ∧ Qt D D' ∧ pv = .pointer none ∧ (h.2 = false ∨ rt = none)) ∨
  (o = none ∧ Qt D D' ∧ h.2 = true ∧ ∃ t r x v, rt = some t ∧ pv = .pointer (some ⟨x, 0, none⟩) ∧ Rec x v a n ⟨1, h.1.1, h.1.2, t, r⟩ r t w' ∧ w.heap.size ≤ x))

theorem Open_any (a : Nat) (bv : Value) (n : Nat) (cv : Value) (D : Dv) (rt : Option Tr) (w : World) (h : DQ w a bv n cv D) (hn8 : 8 ≤ n) (hn : n ≤ 400) (hq : D.q.length < 1000000) (hT : Good D ∨ Tab w)
  (hR : ∀ v W D1, Vol W v a n → DQ W a bv n cv D1 → Qt D D1 → (Good D1 ∨ Tab W) → Calls Tryz.prog 90 #[.pointer (some ⟨v, 0, none⟩), .int .i64 ((newestD D).1.2 : Nat)] W (TrdR a bv n cv D1 rt W)) :
  Calls Tryz.prog 55 #[.iface 26 (.pointer (some ⟨a, 0, none⟩))] w (OpenR a bv n cv D (newestD D) rt w) := by
 have hmf := makes
 have hla := lt_heap h.d
 have k1 := ((Kept.refl [] w).alloc (.cells #[.iface 26 (.pointer (some ⟨a, 0, none⟩))] 126)).alloc (.cells #[.pointer none] 27)
 obtain ⟨n1, s1⟩ := open_vars w (.iface 26 (.pointer (some ⟨a, 0, none⟩)))
 have h1 := h.k0 k1
 have hT1 := hT.imp id fun hT : Tab w => hT.k k1
 have hsz : ((w.alloc (.cells #[.iface 26 (.pointer (some ⟨a, 0, none⟩))] 126)).alloc (.cells #[.pointer none] 27)).heap.size = w.heap.size + 2 := by simp
 generalize hw1 : (w.alloc (.cells #[.iface 26 (.pointer (some ⟨a, 0, none⟩))] 126)).alloc (.cells #[.pointer none] 27) = w1 at *
 have HC : Hid (∀ b, Calls Tryz.prog 42 #[.string b, .func (.func 89) #[] #[.pointer (some ⟨w.heap.size, 0, none⟩), .pointer (some ⟨w.heap.size + 1, 0, none⟩)]] w1 (CatchR [a, w.heap.size + 1] (OpE (w.heap.size + 1) a bv n cv D (newestD D) rt w1.heap.size) w1)) := by
  intro b
  refine Catch_any b 89 _ (fun _ _ => by kernel_rfl) _ _ w1 ?_ (fun o W W' T hR hK hT => hR.err hK fun x hx => (hT x hx).2.2) ?_
  ·intro x hx; simp at hx; omega
  ·intro W hW hWs
   refine (Open1_any w.heap.size (w.heap.size + 1) a bv n cv D rt W (hW.get n1 (by simp)) (hW.get s1 (by simp)) (h1.k0 hW) hn8 hn hq (hT1.imp id fun hT => hT.k hW) hR).mono ?_
   rintro e w' ⟨o, h1, ⟨D', h2, h3⟩, h4⟩
   refine ⟨o, h1, ⟨D', h2, ?_⟩, h4⟩
   rcases h3 with h3 | h3 | ⟨g1, g2, g3, t, r, x, v, g4, g5, g6, g7, g8⟩
   ·exact Or.inl h3
   ·exact Or.inr (Or.inl h3)
   ·exact Or.inr (Or.inr ⟨g1, g2, g3, t, r, x, v, g4, g5, g6, Nat.le_trans hW.size g7, Nat.le_trans hW.size g8⟩)
 have HW : Hid _ := hw1
 clear hw1 h1 n1 s1 hT1 hR
 go_enter Tryz.func55, Tryz.ntmps55
 go_wp2_with (go_at_call 42; rw [HW.out]; refine (HC.out _).mono ?_; rintro e w2 ⟨o, err, rfl, hc2, ⟨D2, hd2, hr2⟩, hk2⟩; obtain ⟨pv, hpv, hs2⟩ : ∃ pv, (∃ q, pv = .pointer q) ∧ w2.heap[w.heap.size + 1]? = some (.cells #[pv] 27 (0, 0)) := (by rcases hr2 with h3 | h3 | ⟨g1, g2, g3, t, r, x, v, g4, g5, g6, g7, g8⟩; exact ⟨_, ⟨_, rfl⟩, h3.2.2⟩; exact ⟨_, ⟨_, rfl⟩, h3.2.2.1⟩; exact ⟨_, ⟨_, rfl⟩, g5⟩); obtain ⟨q, rfl⟩ := hpv; have e2 : w2.cell? ⟨w.heap.size + 1, 0, none⟩ = some (.pointer q) := cellAt hs2 rfl)
 go_ret2
 refine ⟨o, .pointer q, err, D2, rfl, hc2, hd2, (k1.mono (by simp)).trans2 hk2 ?_, ?_⟩
 ·intro y hy
  simp at hy
  rcases hy with rfl | rfl
  ·exact Or.inl (by simp)
  ·exact Or.inr (by omega)
 ·rcases hr2 with ⟨g1, g2, g3⟩ | ⟨g1, g2, g3, g4⟩ | ⟨g1, g2, g3, t, r, x, v, g4, g5, g6, g7, g8⟩
  ·have e := g3.symm.trans hs2
   simp at e
   exact Or.inl ⟨g1, g2, by rw [← e]⟩
  ·have e := g3.symm.trans hs2
   simp at e
   exact Or.inr (Or.inl ⟨g1, g2, by rw [← e], g4⟩)
  ·have e := g5.symm.trans hs2
   simp at e
   exact Or.inr (Or.inr ⟨g1, g2, g3, t, r, x, v, g4, by rw [← e], g6, by omega⟩)

theorem Open1_no (p a n cap : Nat) (sv : Value) (ao : Option Addr) (cache : Value) (D : Dv) (w : World) (hp : w.heap[p]? = some (.cells #[.iface 26 (.pointer (some ⟨a, 0, none⟩))] 126 (0, 0))) (h : DC w a (.slice ao n cap) cache D) (hn : n < 8 ∨ 400 < n) :
  Calls Tryz.prog 89 #[.pointer (some ⟨p, 0, none⟩), sv] w (WorkR [] (fun o _ => o = some 8) w) := by
 have c0 : w.cell? ⟨p, 0, none⟩ = some (.iface 26 (.pointer (some ⟨a, 0, none⟩))) := cellAt hp rfl
 go_enter Tryz.func89, Tryz.ntmps89
 go_wp2_with fail
 refine (On_no a n cap ao cache D w h hn).mono ?_
 rintro e w1 ⟨f, o, rfl, hf, hk⟩
 exact ⟨rfl, some 8, ⟨f, o, rfl, hf⟩, rfl, hk⟩
theorem Open_no (a n cap : Nat) (ao : Option Addr) (cache : Value) (D : Dv) (w : World) (h : DC w a (.slice ao n cap) cache D) (hn : n < 8 ∨ 400 < n) :
  Calls Tryz.prog 55 #[.iface 26 (.pointer (some ⟨a, 0, none⟩))] w fun e w' => ∃ err, e = .returned (.tuple #[.pointer none, err]) ∧ Chain w' err 8 ∧ Kept [] w w' := by
 have hmf := makes
 have k1 := ((Kept.refl [] w).alloc (.cells #[.iface 26 (.pointer (some ⟨a, 0, none⟩))] 126)).alloc (.cells #[.pointer none] 27)
 obtain ⟨n1, s1⟩ := open_vars w (.iface 26 (.pointer (some ⟨a, 0, none⟩)))
 have h1 : DC _ a (.slice ao n cap) cache D := k1.get h (by simp)
 generalize hw1 : (w.alloc (.cells #[.iface 26 (.pointer (some ⟨a, 0, none⟩))] 126)).alloc (.cells #[.pointer none] 27) = w1 at *
 have HC : Hid (∀ b, Calls Tryz.prog 42 #[.string b, .func (.func 89) #[] #[.pointer (some ⟨w.heap.size, 0, none⟩), .pointer (some ⟨w.heap.size + 1, 0, none⟩)]] w1 (CatchR [] (fun o _ => o = some 8) w1)) := by
  intro b
  refine Catch_any b 89 _ (fun _ _ => by kernel_rfl) _ _ _ (by simp) (fun o W W' T hR hK hT => hR) ?_
  intro W hW _
  exact Open1_no w.heap.size a n cap _ ao cache D W (hW.get n1 (by simp)) (hW.get h1 (by simp)) hn
 have HW : Hid _ := hw1
 clear hw1 h1 n1
 go_enter Tryz.func55, Tryz.ntmps55
 go_wp2_with (go_at_call 42; rw [HW.out]; refine (HC.out _).mono ?_; rintro e w2 ⟨o, err, rfl, hc2, rfl, hk2⟩; have e2 : w2.cell? ⟨w.heap.size + 1, 0, none⟩ = some (.pointer none) := cellAt (hk2.get s1 (by simp)) rfl)
 go_ret2
 exact ⟨err, rfl, hc2, k1.trans hk2⟩

theorem POpen_of (a : Nat) (w : World) (R : Ending → World → Prop) (hR : Calls Tryz.prog 55 #[.iface 26 (.pointer (some ⟨a, 0, none⟩))] w fun e w' => ∃ v u, e = .returned (.tuple #[v, u]) ∧ R e w') :
  Calls Tryz.prog 34 #[.pointer (some ⟨a, 0, none⟩)] w R := by
 have HR : Hid (Calls _ _ _ _ _) := hR
 clear hR
 go_enter Tryz.func34, Tryz.ntmps34
 go_wp2_with (go_at_call 55; refine HR.out.mono ?_; rintro e w2 ⟨v, u, rfl, h2⟩)
 exact h2

theorem TRead_zero (f : Value) (w : World) : Calls Tryz.prog 122 #[.int .i64 0, f] w fun e w' => e = .returned (.agg #[.string ⟨#[]⟩, .int .i64 0, .nilIface]) ∧ Kept [] w w' := by
 have hz : ∀ W : World, (Instr.build 82 #[]).run Tryz.prog W = .ok (.agg #[.string ⟨#[]⟩, .int .i64 0, .nilIface]) W := fun W => by kernel_rfl
 have k1 := (Kept.refl [] w).alloc (.cells #[.string ⟨#[]⟩, .int .i64 0, .nilIface] 82)
 have n1 := heap_alloc_new w (.cells #[.string ⟨#[]⟩, .int .i64 0, .nilIface] 82)
 go_enter Tryz.func122, Tryz.ntmps122
 go_wp2_with (first
  | (refine wpList_store_k rfl 82 (.tmp 4) (.tmp 8) rfl w.heap.size #[.string ⟨#[]⟩, .int .i64 0, .nilIface] rfl rfl 82 _ n1 stT rfl (one3 _ rfl) ?_; intro w2 hg2 hk2))
 refine bodyPost_ret (results_cell_row rfl _ _ w.heap.size 82 _ (0, 0) _ rfl hg2 Tryz.underlying82 rfl stT) rfl ?_
 exact ⟨rfl, k1.trans2 hk2 (by intro y hy; simp at hy; subst hy; exact Or.inr (Nat.le_refl _))⟩

theorem SRead_zero (v a n : Nat) (w : World) (hv : Vol w v a n) (hn : 8 ≤ n) : Calls Tryz.prog 90 #[.pointer (some ⟨v, 0, none⟩), .int .i64 0] w fun e w' => e = .returned (.agg #[.string ⟨#[]⟩, .int .i64 0, .nilIface]) ∧ Kept [] w w' := by
 have hmf := makes
 have k1 := ((Kept.refl [] w).alloc (.cells #[.pointer (some ⟨v, 0, none⟩)] 73)).alloc (.cells #[.string ⟨#[]⟩, .int .i64 0, .nilIface] 82)
 have hs : (w.alloc (.cells #[.pointer (some ⟨v, 0, none⟩)] 73)).heap.size = w.heap.size + 1 := World.size_alloc _ _
 have n1 := heap_alloc_new (w.alloc (.cells #[.pointer (some ⟨v, 0, none⟩)] 73)) (.cells #[.string ⟨#[]⟩, .int .i64 0, .nilIface] 82)
 rw [hs] at n1
 have HS : Hid (∀ W, Kept [] w W → Calls Tryz.prog 76 #[.pointer (some ⟨v, 0, none⟩)] W _) := fun W kW => VSize_any v a n W (kW.get hv (by simp))
 go_enter Tryz.func90, Tryz.ntmps90
 go_wp2_with (first
  | (go_at_call 76; refine (HS.out _ k1).mono ?_; rintro e w2 ⟨rfl, hk2⟩)
  | (go_at_call 75; refine (Of_any n _ hn).mono ?_; rintro e w3 ⟨b, rfl, hsp, hb, hk3⟩)
  | (go_at_call 122; refine (TRead_zero _ _).mono ?_; rintro e w4 ⟨rfl, hk4⟩; have k5 := (Kept.refl [] w3).alloc (.cells #[.int .i64 (n : Int), .map (some b)] 131); have K4 : Kept [] w w4 := (((k1.trans hk2).trans hk3).trans k5).trans hk4; have n4 := (((hk2.trans hk3).trans k5).trans hk4).get n1 (by simp))
  | (refine wpList_store_k rfl 82 (.tmp 4) (.tmp 11) rfl (w.heap.size + 1) #[.string ⟨#[]⟩, .int .i64 0, .nilIface] rfl rfl 82 _ n4 stT rfl (one3 _ rfl) ?_; intro w5 hg5 hk5))
 refine bodyPost_ret (results_cell_row rfl _ _ (w.heap.size + 1) 82 _ (0, 0) _ rfl hg5 Tryz.underlying82 rfl stT) rfl ?_
 exact ⟨rfl, K4.trans2 hk5 (by intro y hy; simp at hy; subst hy; exact Or.inr (by omega))⟩

end Go.Proofs.YtcklgafpgdhnaaaGreatDoor
