import Derived.Test.YtcklgafpgdhnaabGreatDoorPtar
set_option maxRecDepth 100000
set_option maxHeartbeats 4000000
open List renaming getElem_toArray → zA, getElem_cons_succ → zB, getElem_cons_zero → zC, setIfInBounds_toArray → zD, set_cons_succ → zE, set_cons_zero → zF
namespace Go.Proofs.YtcklgafpgdhnaabGreatDoor
open Go.RowKit

theorem hf_list {α : Type} (sz : α → Nat) (b : Nat) (l : List α) (hs : ∀ x ∈ l, sz x ≤ b) (hb : 0 < b) (hb2 : b ≤ 22) (h1 : 122 < (l.map sz).sum) : halfI sz l < l.length ∧ 0 < ((l.drop (halfI sz l)).map sz).sum := by
 obtain ⟨a1, a2⟩ := half_sizes sz b l hs (by omega) hb
 have hsp := sum_split sz l (halfI sz l)
 have hpos : 0 < ((l.drop (halfI sz l)).map sz).sum := by omega
 refine ⟨?_, hpos⟩
 obtain ⟨a, r, e⟩ := nonempty_of_sum sz _ hpos
 have := congrArg List.length e
 rw [List.length_drop, List.length_cons] at this
 omega
theorem hf_kids {h : Nat} (ks : List (Kid h)) (h1 : 122 < 11 * ks.length) : halfI (fun _ : Kid h => 11) ks < ks.length ∧ 0 < 11 * (ks.drop (halfI (fun _ : Kid h => 11) ks)).length := by
 have := hf_list (fun _ : Kid h => 11) 11 ks (by simp) (by omega) (by omega) (by rw [sum11]; exact h1)
 rw [sum11] at this
 exact this
theorem hf_of {h : Nat} {f : ByteArray} {n : Nd h} (hw : WFN h f n) (h1 : 122 < sizeN h n) : Hf h n ∧ 0 < sizeN h (halveN h n).2 := by
 cases h with
 | zero => exact hf_list psz 22 n (fun x hx => psz_le (hw.2 x hx).2) (by omega) (by omega) h1
 | succ h => exact hf_kids n h1

theorem bkid (f : ByteArray) (t : TypeId) (v : Value) (w : World) : (Instr.build 75 #[(0, .string f), (2, .iface t v)]).run Tryz.prog w = .ok (.agg #[.string f, .int .i64 0, .iface t v]) w := by kernel_rfl
theorem bs1K (f : ByteArray) (t : TypeId) (v : Value) (w : World) : (Instr.buildSlice 177 1 #[(0, .agg #[.string f, .int .i64 0, .iface t v])]).run Tryz.prog w = .ok (.slice (some ⟨w.heap.size, 0, none⟩) 1 1) (w.alloc (.cells #[.string f, .int .i64 0, .iface t v] 75)) := by kernel_rfl
theorem bs2K (f f2 : ByteArray) (t t2 : TypeId) (v v2 : Value) (w : World) : (Instr.buildSlice 177 2 #[(0, .agg #[.string f, .int .i64 0, .iface t v]), (1, .agg #[.string f2, .int .i64 0, .iface t2 v2])]).run Tryz.prog w = .ok (.slice (some ⟨w.heap.size, 0, none⟩) 2 2) (w.alloc (.cells #[.string f, .int .i64 0, .iface t v, .string f2, .int .i64 0, .iface t2 v2] 75)) := by kernel_rfl
theorem ke_at (q : KE) (A B : List Value) : ∀ (j : Nat) (u : Value), (ke q)[j]? = some u → ((A ++ ke q ++ B).toArray)[A.length + j]? = some u := by
 intro j u hj
 have hl : j < (ke q).length := (List.getElem?_eq_some_iff.1 hj).1
 rw [List.getElem?_toArray, List.append_assoc, List.getElem?_append_right (by omega), Nat.add_sub_cancel_left, List.getElem?_append_left hl]
 exact hj

def FitR {h : Nat} (A : Nat → Prop) (M : List (Kid h)) (w : World) (e : Ending) (w' : World) : Prop :=
 ∃ gv cv xs, e = .returned (.slice (some ⟨gv, 0, none⟩) xs.length cv) ∧ SL w' 75 3 (.slice (some ⟨gv, 0, none⟩) xs.length cv) (xs.map ke) ∧ F2 (KR w' A h) M xs ∧ w.heap.size ≤ gv ∧ Kept [] w w'

theorem fit_any {w : World} {A : Nat → Prop} {h : Nat} {f : ByteArray} {n : Nd h} {x : Value} (hx : ND w A h n x) (hw : WFN h f n) (h2 : sizeN h n ≤ 161) :
  Calls Tryz.prog 106 #[.string f, x] w (FitR A (fitN h f n) w) := by
 have hs := Sm.of hw (by omega)
 obtain ⟨f1, v1, ⟨t1, e1, hm1, he1⟩, hc1⟩ := size_nd hx hs
 have hx' := hx
 subst e1
 have hb := bkid
 by_cases hsz : sizeN h n ≤ 122
 ·have eM : fitN h f n = [⟨f, n, 0⟩] := by unfold fitN; rw [if_pos hsz]
  have hle : ((sizeN h n : Nat) : Int) ≤ 122 := by omega
  generalize sizeN h n = S at *
  have HC1 : Hid (∀ W, Kept [] w W → _) := hc1
  have HX : Hid _ := hx
  have HM : Hid _ := eM
  clear hc1 eM hw hx hx' hs
  have hbs := bs1K
  go_enter Tryz.func106, Tryz.ntmps106
  go_wp2_with (first
   | (go_at_fn f1; refine (HC1.out _ (Kept.refl _ _)).mono ?_; rintro e w1 ⟨rfl, hk1⟩))
  go_ret
  refine ⟨w1.heap.size, 1, [⟨f, .iface t1 v1, 0⟩], rfl, ?_, ?_, hk1.size, hk1.alloc _⟩
  ·refine Or.inr ⟨w1.heap.size, 0, 1, _, rfl, heap_alloc_new _ _, Nat.le_refl _, by unfold maxLen; omega, by simp, ?_⟩
   intro i e he
   cases i with
   | zero => simp at he; subst he; exact ⟨rfl, fun j u hj => by simpa [ke] using ke_at ⟨f, .iface t1 v1, 0⟩ [] [] j u hj⟩
   | succ i => simp at he
  ·rw [HM.out]
   exact F2.one ⟨⟨rfl, rfl⟩, ND.k HX.out (hk1.alloc _)⟩
 ·obtain ⟨hh0, hr0⟩ := hf_of hw (by omega)
  have eM : fitN h f n = [⟨f, (halveN h n).1, 0⟩, ⟨firstN h (halveN h n).2, (halveN h n).2, 0⟩] := by unfold fitN; rw [if_neg hsz]
  obtain ⟨f2, v2, ⟨t2, e2, hm2, he2⟩, hc2⟩ := halves_nd hx hs hh0
  cases e2
  have hle : ¬ ((sizeN h n : Nat) : Int) ≤ 122 := by omega
  generalize sizeN h n = S at *
  have HC1 : Hid (∀ W, Kept [] w W → _) := hc1
  have HC2 : Hid (∀ W, Kept [] w W → _) := hc2
  have HF : Hid (∀ W x, ND W A h (halveN h n).2 x → _) := fun W x hx => first_nd hx hr0
  have HM : Hid _ := eM
  clear hc1 hc2 eM hw hx hx' hs hr0 hh0
  have hbs := bs2K
  go_enter Tryz.func106, Tryz.ntmps106
  go_wp2_with (first
   | (go_at_fn f1; refine (HC1.out _ (Kept.refl _ _)).mono ?_; rintro e w1 ⟨rfl, hk1⟩)
   | (go_at_fn f2; refine (HC2.out _ hk1).mono ?_; rintro e w2 ⟨a, b, rfl, ha, hb2, hk2⟩; obtain ⟨f3, v3, ⟨t3, e3, hm3, he3⟩, hc3⟩ := HF.out w2 b hb2; obtain ⟨ta, va, ea⟩ := ha.iface; have HA : Hid _ := ha; have HB : Hid _ := hb2; have HC3 : Hid (∀ W, Kept [] w2 W → _) := hc3; clear ha hb2 hc3; subst e3; subst ea)
   | (go_at_fn f3; refine (HC3.out _ (Kept.refl _ _)).mono ?_; rintro e w3 ⟨rfl, hk3⟩))
  go_ret
  have k23 := hk3.alloc (.cells #[.string f, .int .i64 0, .iface ta va, .string (firstN h (halveN h n).2), .int .i64 0, .iface t3 v3] 75)
  refine ⟨w3.heap.size, 2, [⟨f, .iface ta va, 0⟩, ⟨firstN h (halveN h n).2, .iface t3 v3, 0⟩], rfl, ?_, ?_, ((hk1.trans hk2).trans hk3).size, (hk1.trans hk2).trans k23⟩
  ·refine Or.inr ⟨w3.heap.size, 0, 2, _, rfl, heap_alloc_new _ _, Nat.le_refl _, by unfold maxLen; omega, by simp, ?_⟩
   intro i e he
   rcases i with _ | _ | i
   ·simp at he; subst he; exact ⟨rfl, fun j u hj => by simpa [ke] using ke_at ⟨f, .iface ta va, 0⟩ [] (ke ⟨firstN h (halveN h n).2, .iface t3 v3, 0⟩) j u hj⟩
   ·simp at he; subst he; exact ⟨rfl, fun j u hj => by simpa [ke] using ke_at ⟨firstN h (halveN h n).2, .iface t3 v3, 0⟩ (ke ⟨f, .iface ta va, 0⟩) [] j u hj⟩
   ·simp at he
  ·rw [HM.out]
   exact (F2.one (R := KR _ A h) (a := ⟨f, (halveN h n).1, 0⟩) (b := ⟨f, .iface ta va, 0⟩) ⟨⟨rfl, rfl⟩, ND.k HA.out k23⟩).append (F2.one ⟨⟨rfl, rfl⟩, ND.k HB.out k23⟩)

end Go.Proofs.YtcklgafpgdhnaabGreatDoor

namespace Go.Proofs.YtcklgafpgdhnaabGreatDoor
open Go.RowKit

def FittedR {h : Nat} (B : Nat) (A : Nat → Prop) (v : Value) (L : List (Kid h)) (w : World) (e : Ending) (w' : World) : Prop :=
 ∃ v' xs', e = .returned v' ∧ OW w' B 75 3 v' (xs'.map ke) ∧ F2 (KR w' A h) L xs' ∧ Kept v.ownBlock.toList w w'

theorem replK_kids {h : Nat} {B : Nat} {A : Nat → Prop} {v : Value} {xs : List KE} {ks : List (Kid h)} {w : World} (ho : OW w B 75 3 v (xs.map ke)) (hB : B ≤ w.heap.size) (hf : F2 (KR w A h) ks xs) (hA : ∀ y, A y → v.ownBlock ≠ some y) (hkl : ks.length ≤ 1000)
  {i j : Nat} {M : List (Kid h)} {gv cv : Nat} {xs1 : List KE} {W : World} (hW : Kept [] w W) (hij : i < j) (hj : j ≤ ks.length) (hv : SL W 75 3 (.slice (some ⟨gv, 0, none⟩) xs1.length cv) (xs1.map ke)) (hf1 : F2 (KR W (fun y => A y ∨ w.heap.size ≤ y) h) M xs1) (hgv : w.heap.size ≤ gv) (hM : M.length = 1 ∨ M.length = 2) (iv jv : Int) (hiv : iv = i) (hjv : jv = j) :
  Calls Tryz.prog 232 #[v, .int .i64 iv, .int .i64 jv, .slice (some ⟨gv, 0, none⟩) xs1.length cv] W (FittedR B (fun y => A y ∨ w.heap.size ≤ y) v (ks.take i ++ (M ++ ks.drop j)) w) := by
 subst hiv
 subst hjv
 have hlt := own_lt ho.1
 have hln : (xs.map ke).length = ks.length := by rw [List.length_map, hf.1]
 have ho' : OW W B 75 3 v (xs.map ke) := ⟨owns_kept ho.1 hW (by simp), ho.2⟩
 have hl1 : xs1.length = M.length := hf1.1.symm
 have hv' : SL W 75 3 (.slice (some ⟨gv, 0, none⟩) (xs1.map ke).length cv) (xs1.map ke) := by rw [List.length_map]; exact hv
 have hc := replK_any B v (xs.map ke) i j W ho' (one_ke (kids_iface hf)) hij (by omega) (by omega) (Nat.le_trans hB hW.size) gv 0 cv (xs1.map ke) hv' (one_ke (kids_iface hf1)) (by rw [List.length_map]; omega) (by rw [List.length_map]; omega) (by
  intro e
  have := hlt gv (by rw [e]; simp)
  omega)
 rw [List.length_map] at hc
 refine hc.mono ?_
 rintro e w' ⟨v', rfl, ho3, hk3⟩
 have hS : ∀ y ∈ v.ownBlock.toList, ¬ (A y ∨ w.heap.size ≤ y) := by
  intro y hy hA'
  rcases hA' with h1 | h1
  ·exact hA y h1 (by simpa using hy)
  ·have := hlt y hy; omega
 refine ⟨v', xs.take i ++ (xs1 ++ xs.drop j), rfl, ?_, ?_, (hW.mono (by simp)).trans hk3⟩
 ·have e : (xs.map ke).take i ++ xs1.map ke ++ (xs.map ke).drop j = (xs.take i ++ (xs1 ++ xs.drop j)).map ke := by simp
  rw [e] at ho3
  exact ho3
 ·have up : F2 (KR w' (fun y => A y ∨ w.heap.size ≤ y) h) ks xs := hf.mono fun _ _ _ hr => KR.kept (KR.kept hr hW (by simp) fun _ h => Or.inl h) hk3 hS fun _ h => h
  have up1 : F2 (KR w' (fun y => A y ∨ w.heap.size ≤ y) h) M xs1 := hf1.mono fun _ _ _ hr => KR.kept hr hk3 hS fun _ h => h
  exact (up.take i).append (up1.append (up.drop j))

theorem join_ok {h : Nat} {ks : List (Kid h)} {i : Nat} (hl : Loose h ks i) {a : Kid h} (ha : ks[i]? = some a) (hs : sizeN h a.2 < 40) :
  ∃ x y, ks[i - 1]? = some x ∧ ks[i - 1 + 1]? = some y ∧ WFN h x.1 (joinN h x.2 y.2) ∧ sizeN h (joinN h x.2 y.2) ≤ 161 ∧ fittedN h ks i = ks.take (i - 1) ++ (fitN h x.1 (joinN h x.2 y.2) ++ ks.drop (i - 1 + 2)) := by
 obtain ⟨l1, l2⟩ := hl.lo a ha
 have hmem : ∀ {j b}, ks[j]? = some b → b ∈ ks := fun h => List.mem_of_getElem? h
 have h2 := hl.two
 have hlt := hl.lt
 obtain ⟨x, hx⟩ : ∃ x, ks[i - 1]? = some x := ⟨_, List.getElem?_eq_getElem (by omega)⟩
 obtain ⟨y, hy⟩ : ∃ y, ks[i - 1 + 1]? = some y := ⟨_, List.getElem?_eq_getElem (by omega)⟩
 have hsp := split2 ks (i - 1) x y hx hy
 have hord := hl.kw.ord
 rw [hsp] at hord
 have hb : Bef h x y := by
  have := (List.pairwise_append.1 (List.pairwise_append.1 hord).2.1).1
  exact (List.pairwise_cons.1 this).1 y (by simp)
 have hw := wf_join h x y hb (hl.kw.all x (hmem hx)) (hl.kw.all y (hmem hy)) (hl.full x (hmem hx))
 have hsz := size_join h x.2 y.2
 have hrange : sizeN h x.2 + sizeN h y.2 ≤ 161 := by
  by_cases hi0 : i = 0
  ·subst hi0
   have hxa : x = a := by rw [ha] at hx; cases hx; rfl
   have t2 := (hl.rt _ y hy (by omega)).2
   subst hxa; omega
  ·have hya : y = a := by rw [show i - 1 + 1 = i by omega, ha] at hy; cases hy; rfl
   have t2 := (hl.rt _ x hx (by omega)).2
   subst hya; omega
 refine ⟨x, y, hx, hy, hw, by omega, ?_⟩
 unfold fittedN
 rw [ha]
 simp only
 rw [if_pos hs, hx, hy]
theorem fits_len (h : Nat) (f : ByteArray) (n : Nd h) : (fitN h f n).length = 1 ∨ (fitN h f n).length = 2 := by
 unfold fitN
 split
 ·exact Or.inl rfl
 ·exact Or.inr rfl

theorem brFitted_one {h : Nat} {B : Nat} {A : Nat → Prop} {v : Value} {xs : List KE} {ks : List (Kid h)} {w : World} (ho : OW w B 75 3 v (xs.map ke)) (hB : B ≤ w.heap.size) (hf : F2 (KR w A h) ks xs) (hA : ∀ y, A y → v.ownBlock ≠ some y) (hkl : ks.length ≤ 1000)
  {i : Nat} (hl : Loose h ks i) {a : Kid h} (ha : ks[i]? = some a) (hs : ¬ sizeN h a.2 < 40) :
  Calls Tryz.prog 227 #[v, .int .i64 i] w (FittedR B (fun y => A y ∨ w.heap.size ≤ y) v (fittedN h ks i) w) := by
 have hres : fittedN h ks i = ks.take i ++ (fitN h a.1 a.2 ++ ks.drop (i + 1)) := by
  unfold fittedN
  rw [ha]
  simp only
  rw [if_neg hs]
 have hlt := hl.lt
 have hwa := hl.kw.all a (List.mem_of_getElem? ha)
 have hla := hl.lo a ha
 obtain ⟨y, hy, hr⟩ := hf.get ha
 obtain ⟨f1, v1, ⟨t1, e1, hm1, he1⟩, hc1⟩ := size_nd hr.2 (Sm.of hwa (by omega))
 have hln : (xs.map ke).length = ks.length := by rw [List.length_map, hf.1]
 obtain ⟨g, off, cap, cur, ev, hg, hc2, hc3, hc4, hcur⟩ := ho.sl.at_ (by omega)
 rw [hln] at ev
 have hcl := hcur i (ke y) (by rw [List.getElem?_map, hy]; rfl)
 simp only [ke, e1, hr.1.1] at hcl
 have hcell : ∀ W, Kept [] w W → W.cell? ⟨g, off + i * 3, none⟩ = some (.string a.1) := fun W kW => by rw [cell_of_row _ _ _ _ _ _ (kW.get hg (by simp))]; exact hcl.2 0 _ rfl
 have c0 : w.cell? ⟨g, off + i * 3 + 2, none⟩ = some (.iface t1 v1) := by rw [cell_of_row _ _ _ _ _ _ hg]; exact hcl.2 2 _ rfl
 have HFit : Hid (∀ W, Kept [] w W → _) := fun W kW => fit_any (A := fun y => A y ∨ w.heap.size ≤ y) (f := a.1) (ND.kept kW (by simp) (fun _ h => Or.inl h) hr.2) hwa (by omega)
 rw [e1] at HFit
 have HRp : Hid (∀ W gv cv xs1, Kept [] w W → SL W 75 3 (.slice (some ⟨gv, 0, none⟩) xs1.length cv) (xs1.map ke) → F2 (KR W (fun y => A y ∨ w.heap.size ≤ y) h) (fitN h a.1 a.2) xs1 → w.heap.size ≤ gv → _) := fun W gv cv xs1 hW hv hf1 hgv => replK_kids ho hB hf hA hkl hW (i := i) (j := i + 1) (by omega) (by omega) hv hf1 hgv (fits_len h a.1 a.2) (i : Int) ((i : Int) + 1) rfl (by omega)
 rw [hres]
 have HC1 : Hid (∀ W, Kept [] w W → _) := hc1
 have HCell : Hid _ := hcell
 have hge : ¬ ((sizeN h a.2 : Nat) : Int) < 40 := by omega
 have hib : i ≤ 1000 := by omega
 subst ev
 generalize sizeN h a.2 = S at *
 generalize ks.length = m at *
 clear hcell hcl hcur hc1 hwa hla hl hy hr hf ho hA hres ha e1
 go_enter Tryz.func227, Tryz.ntmps227
 go_wp2_with (first
  | (refine wpList_val rfl _ _ (exec_index 180 (.tmp 7) (.tmp 8) rfl g off m cap i 3 rfl rfl 75 Tryz.underlying180 stk' hlt (off + i * 3) rfl) ?_)
  | (go_at_fn f1; refine (HC1.out _ (Kept.refl _ _)).mono ?_; rintro e w1 ⟨rfl, hk1⟩; have c1 := HCell.out w1 hk1)
  | (refine wpList_val rfl _ _ (exec_index 180 (.tmp 39) (.tmp 40) rfl g off m cap i 3 rfl rfl 75 Tryz.underlying180 stk' hlt (off + i * 3) rfl) ?_)
  | (go_at_call 106; refine (HFit.out _ hk1).mono ?_; rintro e w2 ⟨gv, cv, xs1, rfl, hv1, hf1, hgv, hk2⟩)
  | (go_at_call 232; refine (HRp.out _ gv cv xs1 (hk1.trans hk2) hv1 hf1 (Nat.le_trans hk1.size hgv)).mono ?_; rintro e w3 ⟨v3, xs3, rfl, ho3, hf3, hk3⟩))
 go_ret
 exact ⟨_, _, rfl, ho3, hf3, hk3⟩

end Go.Proofs.YtcklgafpgdhnaabGreatDoor

namespace Go.Proofs.YtcklgafpgdhnaabGreatDoor
open Go.RowKit

def KdS (g : Nat) (cur : Array Value) (W : World) : Prop := W.heap[g]? = some (.cells cur 75 (0, 0))
theorem nm_size : 291 + Made.depth = 391 := by kernel_rfl
theorem exec_invoke {o : Oper} {a : Act} {w : World} (x : Operand) (nm : String) (y : Operand) (ts : Array TypeId) (ho : o.op = .call { callee := .invoke x nm, args := #[y], argTypes := ts }) (t : TypeId) (v : Value) (hx : a.eval x = .iface t v) (vy : Value) (hy : a.eval y = vy) (f : FuncId)
  (hm : (Go.method 391 t v nm).run Tryz.prog w = .ok (f, v) w) (he : (callFunc f #[v, vy]).run Tryz.prog w = .ok (.enter f #[v, vy]) w) : (execOp a.eval o).run Tryz.prog w = .ok (.enter f #[v, vy]) w := by
 have hp : (program : Sem Program).run Tryz.prog w = .ok Tryz.prog w := rfl
 simp [execOp, ho, resolve, invoke, callMethod, hx, hy, hp, nm_size, hm, he]

theorem brFitted_two0 {h : Nat} {B : Nat} {A : Nat → Prop} {v : Value} {xs : List KE} {ks : List (Kid h)} {w : World} (ho : OW w B 75 3 v (xs.map ke)) (hB : B ≤ w.heap.size) (hf : F2 (KR w A h) ks xs) (hA : ∀ y, A y → v.ownBlock ≠ some y) (hkl : ks.length ≤ 1000)
  (hl : Loose h ks (0)) {a : Kid h} (ha : ks[0]? = some a) (hs : sizeN h a.2 < 40) :
  Calls Tryz.prog 227 #[v, .int .i64 ((0 : Nat) : Int)] w (FittedR B (fun y => A y ∨ w.heap.size ≤ y) v (fittedN h ks (0)) w) := by
 obtain ⟨x, y, hx, hy, hwj, hsj, hres⟩ := join_ok hl ha hs
 have hxa : x = a := by rw [show (0 : Nat) - 1 = 0 from rfl, ha] at hx; cases hx; rfl
 subst hxa
 simp only [Nat.zero_sub, Nat.zero_add] at hx hy hres
 have hlt := hl.lt
 have htwo := hl.two
 have hwx := hl.kw.all x (List.mem_of_getElem? hx)
 have hwy := hl.kw.all y (List.mem_of_getElem? hy)
 have hsxy := size_join h x.2 y.2
 obtain ⟨X, hX, hrX⟩ := hf.get hx
 obtain ⟨Y, hY, hrY⟩ := hf.get hy
 obtain ⟨f2, v2, ⟨t2, e2, hm2, he2⟩, hc2⟩ := joined_nd hrX.2 hrY.2 (Sm.of hwx (by omega)) (Sm.of hwy (by omega))
 obtain ⟨ty, vy, eY⟩ := hrY.2.iface
 obtain ⟨f1, v1, ⟨t1, e1, hm1, he1⟩, hc1⟩ := size_nd hrX.2 (Sm.of hwx (by omega))
 rw [e2] at e1
 cases e1
 have hln : (xs.map ke).length = ks.length := by rw [List.length_map, hf.1]
 obtain ⟨g, off, cap, cur, ev, hg, hc3, hc4, hc5, hcur⟩ := ho.sl.at_ (by omega)
 rw [hln] at ev
 have cellK : ∀ (W : World), W.heap[g]? = some (.cells cur 75 (0, 0)) → ∀ (j : Nat) (Z : KE), xs[j]? = some Z → ∀ p, p = off + j * 3 → W.cell? ⟨g, p, none⟩ = some (.string Z.1) ∧ W.cell? ⟨g, p + 2, none⟩ = some Z.2 := by
  intro W hW j Z hZ p hp
  have := hcur j (ke Z) (by rw [List.getElem?_map, hZ]; rfl)
  subst hp
  exact ⟨by rw [cell_of_row _ _ _ _ _ _ hW]; exact this.2 0 _ rfl, by rw [cell_of_row _ _ _ _ _ _ hW]; exact this.2 2 _ rfl⟩
 have HX : Hid (∀ W : World, W.heap[g]? = some (.cells cur 75 (0, 0)) → W.cell? ⟨g, off + 2, none⟩ = some (.iface t2 v2)) := fun W hW => by rw [← e2]; exact (cellK W hW _ X hX (off) (by omega)).2
 have HX0 : Hid (∀ W : World, W.heap[g]? = some (.cells cur 75 (0, 0)) → W.cell? ⟨g, off, none⟩ = some (.string x.1)) := fun W hW => by rw [← hrX.1.1]; exact (cellK W hW _ X hX (off) (by omega)).1
 have HY : Hid (∀ W : World, W.heap[g]? = some (.cells cur 75 (0, 0)) → W.cell? ⟨g, off + 3 + 2, none⟩ = some (.iface ty vy)) := fun W hW => by rw [← eY]; exact (cellK W hW _ Y hY (off + 3) (by omega)).2
 have c0 := HX.out w hg
 rw [eY] at hc2
 have HFit : Hid (∀ W W' a', Kept [] w W' → Kept [] W' W → ND W (fun y => A y ∨ w.heap.size ≤ y) h (joinN h x.2 y.2) a' → _) := fun W W' a' _ _ hn => fit_any (f := x.1) hn hwj hsj
 have HRp : Hid (∀ W gv cv xs1, Kept [] w W → SL W 75 3 (.slice (some ⟨gv, 0, none⟩) xs1.length cv) (xs1.map ke) → F2 (KR W (fun y => A y ∨ w.heap.size ≤ y) h) (fitN h x.1 (joinN h x.2 y.2)) xs1 → w.heap.size ≤ gv → _) := fun W gv cv xs1 hW hv hf1 hgv => replK_kids ho hB hf hA hkl hW (i := 0) (j := 0 + 2) (by omega) (by omega) hv hf1 hgv (fits_len h x.1 _) (0) (0 + 2) (by omega) (by omega)
 rw [hres]
 have HC1 : Hid (∀ W, Kept [] w W → _) := hc1
 have HC2 : Hid (∀ W, Kept [] w W → _) := hc2
 have hge : ((sizeN h x.2 : Nat) : Int) < 40 := by omega
 have hib : 0 ≤ 1000 := by omega
 have hlt0 : 0 < ks.length := by omega
 have hlt1 : 0 + 1 < ks.length := by omega
 subst ev
 generalize hSz : sizeN h x.2 = S at *
 generalize ks.length = m at *
 clear hcur hc1 hc2 hwx hwy hl hX hY hrX hrY hf ho hA hres ha hx hy hsxy hwj hsj hs hSz cellK e2 eY
 go_enter Tryz.func227, Tryz.ntmps227
 go_wp2_with (first
  | (refine wpList_val rfl _ _ (exec_index 180 (.tmp 7) (.tmp 8) rfl g off m cap (0) 3 rfl rfl 75 Tryz.underlying180 stk' hlt (off) (by omega)) ?_)
  | (go_at_fn f1; refine (HC1.out _ (Kept.refl _ _)).mono ?_; rintro e w1 ⟨rfl, hk1⟩))
 have hS : KdS g cur w1.drew := hk1.get hg (by simp)
 refine wp_region_S (KdS g cur) (by kernel_rfl) ?_
 refine wpAnyH_take (i := 0) (v := .slice (some ⟨g, off, none⟩) m cap) rfl (by kernel_rfl) (by kernel_rfl) (by kernel_rfl) (fun _ _ _ h => h) (Or.inl ⟨by rfl, fun W hW => by rfl⟩) hS ?_
 simp only [Act.put, zA, zC, zD, zE, zF]
 refine wpAnyH_take (i := 1) (v := .int .i64 (0)) rfl (by kernel_rfl) (by kernel_rfl) (by kernel_rfl) (fun _ _ _ h => h) (Or.inl ⟨by rfl, fun W hW => by rfl⟩) hS ?_
 simp only [Act.put, zA, zB, zC, zD, zE, zF]
 refine wpAnyH_take (i := 2) (v := .pointer (some ⟨g, off, none⟩)) rfl (by kernel_rfl) (by kernel_rfl) (by kernel_rfl) (fun _ _ _ h => h) (Or.inl ⟨by rfl, fun W hW => exec_index 180 (.tmp 22) (.tmp 23) rfl g off m cap (0) 3 rfl rfl 75 Tryz.underlying180 stk' hlt0 (off) (by omega)⟩) hS ?_
 simp only [Act.put, zA, zB, zC, zD, zE, zF]
 refine wpAnyH_take (i := 3) (v := .pointer (some ⟨g, off + 2, none⟩)) rfl (by kernel_rfl) (by kernel_rfl) (by kernel_rfl) (fun _ _ _ h => h) (Or.inl ⟨by rfl, fun W hW => exec_fieldL 75 (.tmp 24) 2 rfl g (off) rfl 2 (by rfl)⟩) hS ?_
 simp only [Act.put, zA, zB, zC, zD, zE, zF]
 refine wpAnyH_take (i := 4) (v := .iface t2 v2) rfl (by kernel_rfl) (by kernel_rfl) (by kernel_rfl) (fun _ _ _ h => h) (Or.inl ⟨by rfl, fun W hW => exec_load 73 (.tmp 25) rfl ⟨g, off + 2, none⟩ rfl _ (run_load1 Tryz.underlying73 rfl (HX.out W hW))⟩) hS ?_
 simp only [Act.put, zA, zB, zC, zD, zE, zF]
 refine wpAnyH_take (i := 5) (v := .slice (some ⟨g, off, none⟩) m cap) rfl (by kernel_rfl) (by kernel_rfl) (by kernel_rfl) (fun _ _ _ h => h) (Or.inl ⟨by rfl, fun W hW => by rfl⟩) hS ?_
 simp only [Act.put, zA, zB, zC, zD, zE, zF]
 refine wpAnyH_take (i := 6) (v := .int .i64 (0)) rfl (by kernel_rfl) (by kernel_rfl) (by kernel_rfl) (fun _ _ _ h => h) (Or.inl ⟨by rfl, fun W hW => by rfl⟩) hS ?_
 simp only [Act.put, zA, zB, zC, zD, zE, zF]
 refine wpAnyH_take (i := 7) (v := .int .i64 ((0 + 1 : Nat) : Int)) rfl (by kernel_rfl) (by kernel_rfl) (by kernel_rfl) (fun _ _ _ h => h) (Or.inl ⟨by rfl, fun W hW => exec_addN (.tmp 28) (.const (.int .i64 1)) rfl (0) 1 rfl rfl (by omega)⟩) hS ?_
 simp only [Act.put, zA, zB, zC, zD, zE, zF]
 refine wpAnyH_take (i := 8) (v := .pointer (some ⟨g, off + 3, none⟩)) rfl (by kernel_rfl) (by kernel_rfl) (by kernel_rfl) (fun _ _ _ h => h) (Or.inl ⟨by rfl, fun W hW => exec_index 180 (.tmp 27) (.tmp 29) rfl g off m cap (0 + 1) 3 rfl rfl 75 Tryz.underlying180 stk' hlt1 (off + 3) (by omega)⟩) hS ?_
 simp only [Act.put, zA, zB, zC, zD, zE, zF]
 refine wpAnyH_take (i := 9) (v := .pointer (some ⟨g, off + 3 + 2, none⟩)) rfl (by kernel_rfl) (by kernel_rfl) (by kernel_rfl) (fun _ _ _ h => h) (Or.inl ⟨by rfl, fun W hW => exec_fieldL 75 (.tmp 30) 2 rfl g (off + 3) rfl 2 (by rfl)⟩) hS ?_
 simp only [Act.put, zA, zB, zC, zD, zE, zF]
 refine wpAnyH_take (i := 10) (v := .iface ty vy) rfl (by kernel_rfl) (by kernel_rfl) (by kernel_rfl) (fun _ _ _ h => h) (Or.inl ⟨by rfl, fun W hW => exec_load 73 (.tmp 31) rfl ⟨g, off + 3 + 2, none⟩ rfl _ (run_load1 Tryz.underlying73 rfl (HY.out W hW))⟩) hS ?_
 simp only [Act.put, zA, zB, zC, zD, zE, zF]
 refine wpAnyH_take (i := 11) (v := .iface t2 v2) rfl (by kernel_rfl) (by kernel_rfl) (by kernel_rfl) (fun _ _ _ h => h) (Or.inl ⟨by rfl, fun W hW => by rfl⟩) hS ?_
 simp only [Act.put, zA, zB, zC, zD, zE, zF]
 refine wpAnyH_take (i := 12) (v := .iface t2 v2) rfl (by kernel_rfl) (by kernel_rfl) (by kernel_rfl) (fun _ _ _ h => h) (Or.inl ⟨by rfl, fun W hW => by rfl⟩) hS ?_
 simp only [Act.put, zA, zB, zC, zD, zE, zF]
 refine held_one (i := 13) (by kernel_rfl) (wpOp_call rfl (by rfl) f2 #[v2, .iface ty vy] (exec_invoke (.tmp 34) _ (.tmp 32) _ rfl t2 v2 rfl _ rfl f2 (hm2 _) (he2 _ _)) _ (HC2.out _ hk1.drew) ?_)
 rintro e w2 ⟨a', rfl, hn2, hk2⟩
 obtain ⟨tj, vj, ej⟩ := hn2.iface
 have hS2 : KdS g cur w2 := hk2.get hS (by simp)
 refine ⟨a', rfl, hS2, ?_⟩
 simp only [Act.put, zA, zB, zC, zD, zE, zF]
 refine held_one (i := 14) (by kernel_rfl) (wpOp_valW rfl (by rfl) a' w2 rfl ⟨hS2, ?_⟩)
 simp only [Act.put, zA, zB, zC, zD, zE, zF]
 refine wpAnyH_done (by kernel_rfl) ?_ _
 have c2 := HX0.out w2 hS2
 have hK2 : Kept [] w w2 := hk1.drew.trans hk2
 have HF2 : Hid (Calls _ _ _ _ _) := HFit.out w2 w a' (Kept.refl _ _) hK2 hn2
 clear hS hS2 hn2
 subst ej
 go_wp2_with (first
  | (refine wpList_val rfl _ _ (exec_index 180 (.tmp 39) (.tmp 40) rfl g off m cap (0) 3 rfl rfl 75 Tryz.underlying180 stk' hlt0 (off) (by omega)) ?_)
  | (go_at_call 106; refine HF2.out.mono ?_; rintro e w3 ⟨gv, cv, xs1, rfl, hv1, hf1, hgv, hk3⟩)
  | (go_at_call 232; refine (HRp.out _ gv cv xs1 (hK2.trans hk3) hv1 hf1 (Nat.le_trans hK2.size hgv)).mono ?_; rintro e w4 ⟨v4, xs4, rfl, ho4, hf4, hk4⟩))
 go_ret
 exact ⟨_, _, rfl, ho4, hf4, hk4⟩

theorem brFitted_twoS {h : Nat} {B : Nat} {A : Nat → Prop} {v : Value} {xs : List KE} {ks : List (Kid h)} {w : World} (ho : OW w B 75 3 v (xs.map ke)) (hB : B ≤ w.heap.size) (hf : F2 (KR w A h) ks xs) (hA : ∀ y, A y → v.ownBlock ≠ some y) (hkl : ks.length ≤ 1000)
  {ip : Nat} (hl : Loose h ks (ip + 1)) {a : Kid h} (ha : ks[ip + 1]? = some a) (hs : sizeN h a.2 < 40) :
  Calls Tryz.prog 227 #[v, .int .i64 ((ip + 1 : Nat) : Int)] w (FittedR B (fun y => A y ∨ w.heap.size ≤ y) v (fittedN h ks (ip + 1)) w) := by
 obtain ⟨x, y, hx, hy, hwj, hsj, hres⟩ := join_ok hl ha hs
 simp only [Nat.add_sub_cancel] at hx hy hres
 have hya : y = a := by rw [ha] at hy; cases hy; rfl
 subst hya
 have hlt := hl.lt
 have htwo := hl.two
 have hwx := hl.kw.all x (List.mem_of_getElem? hx)
 have hwy := hl.kw.all y (List.mem_of_getElem? hy)
 have hsxy := size_join h x.2 y.2
 obtain ⟨X, hX, hrX⟩ := hf.get hx
 obtain ⟨Y, hY, hrY⟩ := hf.get hy
 obtain ⟨f2, v2, ⟨t2, e2, hm2, he2⟩, hc2⟩ := joined_nd hrX.2 hrY.2 (Sm.of hwx (by omega)) (Sm.of hwy (by omega))
 obtain ⟨ty, vy, eY⟩ := hrY.2.iface
 obtain ⟨f1, v1, ⟨t1, e1, hm1, he1⟩, hc1⟩ := size_nd hrY.2 (Sm.of hwy (by omega))
 rw [eY] at e1
 cases e1
 have hln : (xs.map ke).length = ks.length := by rw [List.length_map, hf.1]
 obtain ⟨g, off, cap, cur, ev, hg, hc3, hc4, hc5, hcur⟩ := ho.sl.at_ (by omega)
 rw [hln] at ev
 have cellK : ∀ (W : World), W.heap[g]? = some (.cells cur 75 (0, 0)) → ∀ (j : Nat) (Z : KE), xs[j]? = some Z → ∀ p, p = off + j * 3 → W.cell? ⟨g, p, none⟩ = some (.string Z.1) ∧ W.cell? ⟨g, p + 2, none⟩ = some Z.2 := by
  intro W hW j Z hZ p hp
  have := hcur j (ke Z) (by rw [List.getElem?_map, hZ]; rfl)
  subst hp
  exact ⟨by rw [cell_of_row _ _ _ _ _ _ hW]; exact this.2 0 _ rfl, by rw [cell_of_row _ _ _ _ _ _ hW]; exact this.2 2 _ rfl⟩
 have HX : Hid (∀ W : World, W.heap[g]? = some (.cells cur 75 (0, 0)) → W.cell? ⟨g, off + ip * 3 + 2, none⟩ = some (.iface t2 v2)) := fun W hW => by rw [← e2]; exact (cellK W hW _ X hX (off + ip * 3) (by omega)).2
 have HX0 : Hid (∀ W : World, W.heap[g]? = some (.cells cur 75 (0, 0)) → W.cell? ⟨g, off + ip * 3, none⟩ = some (.string x.1)) := fun W hW => by rw [← hrX.1.1]; exact (cellK W hW _ X hX (off + ip * 3) (by omega)).1
 have HY : Hid (∀ W : World, W.heap[g]? = some (.cells cur 75 (0, 0)) → W.cell? ⟨g, off + (ip + 1) * 3 + 2, none⟩ = some (.iface ty vy)) := fun W hW => by rw [← eY]; exact (cellK W hW _ Y hY (off + (ip + 1) * 3) (by omega)).2
 have c0 := HY.out w hg
 rw [eY] at hc2
 have HFit : Hid (∀ W W' a', Kept [] w W' → Kept [] W' W → ND W (fun y => A y ∨ w.heap.size ≤ y) h (joinN h x.2 y.2) a' → _) := fun W W' a' _ _ hn => fit_any (f := x.1) hn hwj hsj
 have HRp : Hid (∀ W gv cv xs1, Kept [] w W → SL W 75 3 (.slice (some ⟨gv, 0, none⟩) xs1.length cv) (xs1.map ke) → F2 (KR W (fun y => A y ∨ w.heap.size ≤ y) h) (fitN h x.1 (joinN h x.2 y.2)) xs1 → w.heap.size ≤ gv → _) := fun W gv cv xs1 hW hv hf1 hgv => replK_kids ho hB hf hA hkl hW (i := ip) (j := ip + 2) (by omega) (by omega) hv hf1 hgv (fits_len h x.1 _) ((ip : Int)) ((ip : Int) + 2) (by omega) (by omega)
 rw [hres]
 have HC1 : Hid (∀ W, Kept [] w W → _) := hc1
 have HC2 : Hid (∀ W, Kept [] w W → _) := hc2
 have hge : ((sizeN h y.2 : Nat) : Int) < 40 := by omega
 have hib : ip ≤ 1000 := by omega
 have hlt0 : ip < ks.length := by omega
 have hlt1 : ip + 1 < ks.length := by omega
 subst ev
 generalize hSz : sizeN h y.2 = S at *
 generalize ks.length = m at *
 clear hcur hc1 hc2 hwx hwy hl hX hY hrX hrY hf ho hA hres ha hx hy hsxy hwj hsj hs hSz cellK e2 eY
 go_enter Tryz.func227, Tryz.ntmps227
 go_wp2_with (first
  | (refine wpList_val rfl _ _ (exec_index 180 (.tmp 7) (.tmp 8) rfl g off m cap (ip + 1) 3 rfl rfl 75 Tryz.underlying180 stk' hlt (off + (ip + 1) * 3) (by omega)) ?_)
  | (go_at_fn f1; refine (HC1.out _ (Kept.refl _ _)).mono ?_; rintro e w1 ⟨rfl, hk1⟩))
 have hS : KdS g cur w1.drew := hk1.get hg (by simp)
 refine wp_region_S (KdS g cur) (by kernel_rfl) ?_
 refine wpAnyH_take (i := 0) (v := .slice (some ⟨g, off, none⟩) m cap) rfl (by kernel_rfl) (by kernel_rfl) (by kernel_rfl) (fun _ _ _ h => h) (Or.inl ⟨by rfl, fun W hW => by rfl⟩) hS ?_
 simp only [Act.put, zA, zC, zD, zE, zF]
 refine wpAnyH_take (i := 1) (v := .int .i64 ((ip : Int))) rfl (by kernel_rfl) (by kernel_rfl) (by kernel_rfl) (fun _ _ _ h => h) (Or.inl ⟨by rfl, fun W hW => by rfl⟩) hS ?_
 simp only [Act.put, zA, zB, zC, zD, zE, zF]
 refine wpAnyH_take (i := 2) (v := .pointer (some ⟨g, off + ip * 3, none⟩)) rfl (by kernel_rfl) (by kernel_rfl) (by kernel_rfl) (fun _ _ _ h => h) (Or.inl ⟨by rfl, fun W hW => exec_index 180 (.tmp 22) (.tmp 23) rfl g off m cap (ip) 3 rfl rfl 75 Tryz.underlying180 stk' hlt0 (off + ip * 3) (by omega)⟩) hS ?_
 simp only [Act.put, zA, zB, zC, zD, zE, zF]
 refine wpAnyH_take (i := 3) (v := .pointer (some ⟨g, off + ip * 3 + 2, none⟩)) rfl (by kernel_rfl) (by kernel_rfl) (by kernel_rfl) (fun _ _ _ h => h) (Or.inl ⟨by rfl, fun W hW => exec_fieldL 75 (.tmp 24) 2 rfl g (off + ip * 3) rfl 2 (by rfl)⟩) hS ?_
 simp only [Act.put, zA, zB, zC, zD, zE, zF]
 refine wpAnyH_take (i := 4) (v := .iface t2 v2) rfl (by kernel_rfl) (by kernel_rfl) (by kernel_rfl) (fun _ _ _ h => h) (Or.inl ⟨by rfl, fun W hW => exec_load 73 (.tmp 25) rfl ⟨g, off + ip * 3 + 2, none⟩ rfl _ (run_load1 Tryz.underlying73 rfl (HX.out W hW))⟩) hS ?_
 simp only [Act.put, zA, zB, zC, zD, zE, zF]
 refine wpAnyH_take (i := 5) (v := .slice (some ⟨g, off, none⟩) m cap) rfl (by kernel_rfl) (by kernel_rfl) (by kernel_rfl) (fun _ _ _ h => h) (Or.inl ⟨by rfl, fun W hW => by rfl⟩) hS ?_
 simp only [Act.put, zA, zB, zC, zD, zE, zF]
 refine wpAnyH_take (i := 6) (v := .int .i64 ((ip : Int))) rfl (by kernel_rfl) (by kernel_rfl) (by kernel_rfl) (fun _ _ _ h => h) (Or.inl ⟨by rfl, fun W hW => by rfl⟩) hS ?_
 simp only [Act.put, zA, zB, zC, zD, zE, zF]
 refine wpAnyH_take (i := 7) (v := .int .i64 ((ip + 1 : Nat) : Int)) rfl (by kernel_rfl) (by kernel_rfl) (by kernel_rfl) (fun _ _ _ h => h) (Or.inl ⟨by rfl, fun W hW => exec_addN (.tmp 28) (.const (.int .i64 1)) rfl (ip) 1 rfl rfl (by omega)⟩) hS ?_
 simp only [Act.put, zA, zB, zC, zD, zE, zF]
 refine wpAnyH_take (i := 8) (v := .pointer (some ⟨g, off + (ip + 1) * 3, none⟩)) rfl (by kernel_rfl) (by kernel_rfl) (by kernel_rfl) (fun _ _ _ h => h) (Or.inl ⟨by rfl, fun W hW => exec_index 180 (.tmp 27) (.tmp 29) rfl g off m cap (ip + 1) 3 rfl rfl 75 Tryz.underlying180 stk' hlt1 (off + (ip + 1) * 3) (by omega)⟩) hS ?_
 simp only [Act.put, zA, zB, zC, zD, zE, zF]
 refine wpAnyH_take (i := 9) (v := .pointer (some ⟨g, off + (ip + 1) * 3 + 2, none⟩)) rfl (by kernel_rfl) (by kernel_rfl) (by kernel_rfl) (fun _ _ _ h => h) (Or.inl ⟨by rfl, fun W hW => exec_fieldL 75 (.tmp 30) 2 rfl g (off + (ip + 1) * 3) rfl 2 (by rfl)⟩) hS ?_
 simp only [Act.put, zA, zB, zC, zD, zE, zF]
 refine wpAnyH_take (i := 10) (v := .iface ty vy) rfl (by kernel_rfl) (by kernel_rfl) (by kernel_rfl) (fun _ _ _ h => h) (Or.inl ⟨by rfl, fun W hW => exec_load 73 (.tmp 31) rfl ⟨g, off + (ip + 1) * 3 + 2, none⟩ rfl _ (run_load1 Tryz.underlying73 rfl (HY.out W hW))⟩) hS ?_
 simp only [Act.put, zA, zB, zC, zD, zE, zF]
 refine wpAnyH_take (i := 11) (v := .iface t2 v2) rfl (by kernel_rfl) (by kernel_rfl) (by kernel_rfl) (fun _ _ _ h => h) (Or.inl ⟨by rfl, fun W hW => by rfl⟩) hS ?_
 simp only [Act.put, zA, zB, zC, zD, zE, zF]
 refine wpAnyH_take (i := 12) (v := .iface t2 v2) rfl (by kernel_rfl) (by kernel_rfl) (by kernel_rfl) (fun _ _ _ h => h) (Or.inl ⟨by rfl, fun W hW => by rfl⟩) hS ?_
 simp only [Act.put, zA, zB, zC, zD, zE, zF]
 refine held_one (i := 13) (by kernel_rfl) (wpOp_call rfl (by rfl) f2 #[v2, .iface ty vy] (exec_invoke (.tmp 34) _ (.tmp 32) _ rfl t2 v2 rfl _ rfl f2 (hm2 _) (he2 _ _)) _ (HC2.out _ hk1.drew) ?_)
 rintro e w2 ⟨a', rfl, hn2, hk2⟩
 obtain ⟨tj, vj, ej⟩ := hn2.iface
 have hS2 : KdS g cur w2 := hk2.get hS (by simp)
 refine ⟨a', rfl, hS2, ?_⟩
 simp only [Act.put, zA, zB, zC, zD, zE, zF]
 refine held_one (i := 14) (by kernel_rfl) (wpOp_valW rfl (by rfl) a' w2 rfl ⟨hS2, ?_⟩)
 simp only [Act.put, zA, zB, zC, zD, zE, zF]
 refine wpAnyH_done (by kernel_rfl) ?_ _
 have c2 := HX0.out w2 hS2
 have hK2 : Kept [] w w2 := hk1.drew.trans hk2
 have HF2 : Hid (Calls _ _ _ _ _) := HFit.out w2 w a' (Kept.refl _ _) hK2 hn2
 clear hS hS2 hn2
 subst ej
 go_wp2_with (first
  | (refine wpList_val rfl _ _ (exec_index 180 (.tmp 39) (.tmp 40) rfl g off m cap (ip) 3 rfl rfl 75 Tryz.underlying180 stk' hlt0 (off + ip * 3) (by omega)) ?_)
  | (go_at_call 106; refine HF2.out.mono ?_; rintro e w3 ⟨gv, cv, xs1, rfl, hv1, hf1, hgv, hk3⟩)
  | (go_at_call 232; refine (HRp.out _ gv cv xs1 (hK2.trans hk3) hv1 hf1 (Nat.le_trans hK2.size hgv)).mono ?_; rintro e w4 ⟨v4, xs4, rfl, ho4, hf4, hk4⟩))
 go_ret
 exact ⟨_, _, rfl, ho4, hf4, hk4⟩

theorem brFitted_any {h : Nat} {B : Nat} {A : Nat → Prop} {v : Value} {xs : List KE} {ks : List (Kid h)} {w : World} (ho : OW w B 75 3 v (xs.map ke)) (hB : B ≤ w.heap.size) (hf : F2 (KR w A h) ks xs) (hA : ∀ y, A y → v.ownBlock ≠ some y) (hkl : ks.length ≤ 1000)
  (i : Nat) (hl : Loose h ks i) : Calls Tryz.prog 227 #[v, .int .i64 i] w (FittedR B (fun y => A y ∨ w.heap.size ≤ y) v (fittedN h ks i) w) := by
 obtain ⟨a, ha⟩ : ∃ a, ks[i]? = some a := ⟨_, List.getElem?_eq_getElem hl.lt⟩
 by_cases hs : sizeN h a.2 < 40
 ·cases i with
  | zero => exact brFitted_two0 ho hB hf hA hkl hl ha hs
  | succ ip => exact brFitted_twoS ho hB hf hA hkl hl ha hs
 ·exact brFitted_one ho hB hf hA hkl hl ha hs

end Go.Proofs.YtcklgafpgdhnaabGreatDoor
