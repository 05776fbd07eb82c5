import Derived.Test.YtcklgafpgdhnaabGreatDoorPtan
set_option maxRecDepth 100000
set_option maxHeartbeats 4000000
open List renaming getElem_toArray → zA, getElem_cons_succ → zB, getElem_cons_zero → zC, setIfInBounds_toArray → zD, set_cons_succ → zE, set_cons_zero → zF
namespace Go.Proofs.YtcklgafpgdhnaabGreatDoor
open Go.RowKit

theorem insP_end (B : Nat) (vl : Value) (es : List El) (w : World) (h : OW w B 138 2 vl es) (hl : es.length ≤ 50000) (hBw : B ≤ w.heap.size)
  (gv off cv : Nat) (vs : List El) (hv : SL w 138 2 (.slice (some ⟨gv, off, none⟩) vs.length cv) vs) (hv1 : One 2 vs) (hv0 : 0 < vs.length) (hv2 : vs.length ≤ 1000) :
  Calls Tryz.prog 122 #[vl, .int .i64 es.length, .slice (some ⟨gv, off, none⟩) vs.length cv] w (OwnR B 138 2 vl (es ++ vs) w) := by
 obtain ⟨ie, hie, hz1, hz2, hz3⟩ := info_parts itp
 obtain ⟨p, c, rfl⟩ := h.sl.shape
 obtain ⟨v', w', hr, ho, hgr, -⟩ := run_append_own (P := Tryz.prog) w B 135 0 138 ie _ 2 32 Tryz.underlying135 hie hz1 hz2 hz3 rfl (by decide) (.slice p es.length c) es.length (fl es) h.1 ⟨gv, off, none⟩ vs.length cv (fl vs) (fl_len hv1.wd) hv.src.2 hv1.fl (by unfold maxLen; omega) (by omega) hBw
 have hr1 : ∀ ty, (Builtin.append_ #[135, 134] ty #[.slice p es.length c, .slice (some ⟨gv, off, none⟩) vs.length cv]).run Tryz.prog w = .ok v' w' := fun ty => (append_tu w 135 134 ty 138 138 ie Tryz.underlying135 Tryz.underlying134 hie p es.length c _).trans hr
 have f2 : ¬ (vs.length : Int) = 0 := by omega
 have f3 : (es.length : Int) ≤ (es.length : Int) := by omega
 have hc : es.length ≤ c := by
  obtain ⟨_, ⟨e, h0⟩ | ⟨g, cap, cur, e, _, _, h1, _⟩⟩ := h.1
  ·injection e with e1 e2 e3; omega
  ·injection e with e1 e2 e3; omega
 have fin : OwnR B 138 2 (.slice p es.length c) (es ++ vs) w (.returned v') w' := by
  refine ⟨_, rfl, ?_, grown_kept hgr _ (by intro x hx; rw [hx]; simp)⟩
  unfold OW
  rw [List.length_append, fl_append]
  exact ⟨ho, h.2.app hv1.wd⟩
 obtain ⟨out, hout⟩ : ∃ out, out = es ++ vs := ⟨_, rfl⟩
 rw [← hout] at fin ⊢
 have FIN : Hid _ := fin
 obtain ⟨rs, hrs⟩ : ∃ rs, rs = (if c = es.length then p else p.map (·.add (es.length * 2))) := ⟨_, rfl⟩
 obtain ⟨rc, hrc⟩ : ∃ rc, rc = c - es.length := ⟨_, rfl⟩
 have hsl : ∀ W : World, (Instr.sliceAt 135 (.slice p es.length c) (some (.int .i64 (es.length : Int))) none none).run Tryz.prog W = .ok (.slice rs 0 rc) W := by
  intro W
  rw [hrs, hrc]
  simp [Instr.sliceAt, Instr.slice, run_underlying Tryz.underlying135, Instr.sliceBounds, Instr.sliceBound, asIntOf, sizeOf, typeInfo, hie, hz2]
 clear fin ho hgr hout hr hrs hrc
 go_enter Tryz.func122, Tryz.ntmps122
 go_wp2_with (first
  | (at_builtin; (refine wpList_val rfl _ w' (exec_append2 (.tmp 23) (.tmp 24) 135 134 rfl _ _ rfl rfl _ (hr1 _)) ?_)))
 go_ret
 exact FIN.out

theorem insP_any (B : Nat) (vl : Value) (es : List El) (i : Nat) (w : World) (h : OW w B 138 2 vl es) (h1 : One 2 es) (hi : i ≤ es.length) (hl : es.length ≤ 50000) (hBw : B ≤ w.heap.size)
  (gv off cv : Nat) (vs : List El) (hv : SL w 138 2 (.slice (some ⟨gv, off, none⟩) vs.length cv) vs) (hv1 : One 2 vs) (hv0 : 0 < vs.length) (hv2 : vs.length ≤ 1000) (hap : vl.ownBlock ≠ some gv) :
  Calls Tryz.prog 122 #[vl, .int .i64 i, .slice (some ⟨gv, off, none⟩) vs.length cv] w (OwnR B 138 2 vl (es.take i ++ vs ++ es.drop i) w) := by
 rcases Nat.eq_or_lt_of_le hi with rfl | hi
 ·have := insP_end B vl es w h hl hBw gv off cv vs hv hv1 hv0 hv2
  rw [List.take_length, List.drop_length, List.append_nil]
  exact this
 ·obtain ⟨g, cap, cur, rfl, hB, hg, hc1, hc2, hc3, htk⟩ := h.open (by omega)
  have hap' : gv ≠ g := by intro e; subst e; exact hap rfl
  by_cases hr : es.length + vs.length ≤ cap
  ·exact insP_shift B es i w g cap cur hB hg hc1 hc2 hc3 htk h1 hi hl gv off cv vs hv hv1 hv0 hv2 hr hap'
  ·exact insP_new B es i w g cap cur hB hg hc1 hc2 hc3 htk h1 hi hl gv off cv vs hv hv1 hv0 hv2 (by omega) hBw

theorem run_append_nil {P : Program} (w : World) (t ty e : TypeId) (i : TypeInfo) (ht : P.underlying t = some (.slice e)) (hi : P.info? e = some i) (b : Option Addr) (n c : Nat) (hn : n ≤ c) :
  (Builtin.append_ #[t, t] ty #[.slice b n c, .slice none 0 0]).run P w = .ok (.slice b n c) w := by
 cases b with
 | none => simp [Builtin.append_, run_underlying ht, sizeOf, typeInfo, hi, Builtin.lenOf, Builtin.firstCells, hn]
 | some a => simp [Builtin.append_, run_underlying ht, sizeOf, typeInfo, hi, Builtin.lenOf, Builtin.firstCells, hn, storeCells]

theorem OW.low {w : World} {B B' : Nat} {t : TypeId} {d : Nat} {v : Value} {es : List El} (h : OW w B t d v es) (hb : B' ≤ B) : OW w B' t d v es := ⟨owns_mono h.1 hb, h.2⟩

theorem append_SL {P : Program} (t e : TypeId) (ie : TypeInfo) (z : Value) (ht : P.underlying t = some (.slice e)) (hie : P.info? e = some ie) (hz1 : ie.zero = some z) {d bb : Nat} (hz2 : ie.size = d) (hz3 : ie.bytes = bb) (hby : bb ≤ 40) (hd : 0 < d) (hzs : z.cells.size = d) (B : Nat) (v : Value) (xs : List El) (w : World) (h : OW w B e d v xs) (hB : B ≤ w.heap.size)
  (y : Value) (ys : List El) (hy : SL w e d y ys) (h1 : One d ys) (hl : xs.length + ys.length ≤ 100000) :
  ∃ v' w', (∀ ty, (Builtin.append_ #[t, t] ty #[v, y]).run P w = .ok v' w') ∧ OW w' B e d v' (xs ++ ys) ∧ Kept v.ownBlock.toList w w' := by
 obtain ⟨p, c, rfl⟩ := h.sl.shape
 rcases hy with ⟨rfl, rfl⟩ | hy
 ·have hc : xs.length ≤ c := by
   obtain ⟨_, ⟨e, h0⟩ | ⟨g, cap, cur, e, _, _, h1, _⟩⟩ := h.1
   ·injection e with e1 e2 e3; omega
   ·injection e with e1 e2 e3; omega
  exact ⟨_, w, fun ty => run_append_nil w t ty e ie ht hie p xs.length c hc, by rw [List.append_nil]; exact h, Kept.refl _ _⟩
 ·obtain ⟨g, off, cap, cur, rfl, hy⟩ := hy
  have hs : SL w e d (.slice (some ⟨g, off, none⟩) ys.length cap) ys := Or.inr ⟨g, off, cap, cur, rfl, hy⟩
  obtain ⟨v', w', hr, ho, hgr, -⟩ := run_append_own (P := P) w B t 0 e ie z d bb ht hie hz1 hz2 hz3 hzs hd (.slice p xs.length c) xs.length (fl xs) h.1 ⟨g, off, none⟩ ys.length cap (fl ys) (fl_len h1.wd) (hs.src (hd := hd)).2 h1.fl (by unfold maxLen; omega) (Nat.le_trans (Nat.mul_le_mul_left _ hby) (by omega)) hB
  refine ⟨v', w', fun ty => hr, ?_, grown_kept hgr _ (by intro x hx; rw [hx]; simp)⟩
  unfold OW
  rw [List.length_append, fl_append]
  exact ⟨ho, h.2.app h1.wd⟩

theorem growP_any (n : Nat) (w : World) (hn : n ≤ 100000) : Calls Tryz.prog 241 #[.slice none 0 0, .int .i64 n] w (CopyR 138 2 [] w) := by
 obtain ⟨ie, hie, hz1, hz2, hz3⟩ := info_parts itp
 have f1 : ¬ (n : Int) < 0 := by omega
 rcases Nat.eq_zero_or_pos n with rfl | h0
 ·go_enter Tryz.func241, Tryz.ntmps241
  go_wp2
  go_ret
  exact ⟨_, rfl, ⟨World.ownsRow_nil _ _ _ _, by simp [Wd]⟩, Kept.refl _ _⟩
 ·have f2 : (0 : Int) < (n : Int) := by omega
  have hge := grownCap_ge w n 0 138
  have hcm : grownCap w n 0 138 ≤ maxLen := grownCap_le_maxLen w n 0 138 (by unfold maxLen; omega)
  have hf0 : (Builtin.firstCells ie.size 0 (.slice none 0 0)).run Tryz.prog w.drew = .ok ([] : List Value).toArray w.drew := by simp [Builtin.firstCells]
  have hr0 := fun ty => Lib.run_append_grow_zeros (P := Tryz.prog) w 135 3 ty 138 ie _ .i64 .i64 Tryz.underlying135 Tryz.underlying3 hie hz1 none 0 0 [] hf0 n h0 (by rw [hz2]; decide) (by omega) (by omega) (by rw [hz3]; omega) (growslice_fits (by omega) (by rw [hz3]; omega))
  simp only [Nat.zero_add] at hr0
  obtain ⟨cap, hcap⟩ : ∃ cap, cap = grownCap w n 0 138 := ⟨_, rfl⟩
  obtain ⟨cs, hcs⟩ : ∃ cs, cs = (([] : List Value).toArray ++ Builtin.zeroCells (Value.agg #[.string ⟨#[]⟩, .string ⟨#[]⟩]).cells n ++ Builtin.zeroCells (Value.agg #[.string ⟨#[]⟩, .string ⟨#[]⟩]).cells (grownCap w n 0 138 - n)) := ⟨_, rfl⟩
  rw [← hcs, ← hcap] at hr0
  have lcs : cs.size = cap * 2 := by
   rw [hcs, hcap, Array.size_append, Array.size_append, size_zeroCells, size_zeroCells]
   simp only [Value.cells, List.size_toArray, List.length_nil, List.length_cons]
   omega
  have hsl0 : ∀ W : World, (Instr.sliceAt 135 (.slice none 0 0) none (some (.int .i64 0)) none).run Tryz.prog W = .ok (.slice none 0 0) W := by
   intro W; simp [Instr.sliceAt, Instr.slice, run_underlying Tryz.underlying135, Instr.sliceBounds, Instr.sliceBound, asIntOf, sizeOf, typeInfo, hie]
  have hsl1 : ∀ W : World, (Instr.sliceAt 135 (.slice (some ⟨w.heap.size, 0, none⟩) n cap) none (some (.int .i64 0)) none).run Tryz.prog W = .ok (.slice (some ⟨w.heap.size, 0, none⟩) 0 cap) W := fun W => run_slice_hi W 135 138 2 w.heap.size 0 n cap Tryz.underlying135 stp 0 (by omega)
  have fin : CopyR 138 2 [] w (.returned (.slice (some ⟨w.heap.size, 0, none⟩) 0 cap)) (w.drew.alloc (.cells cs 138)) := by
   refine ⟨_, rfl, ⟨⟨rfl, Or.inr ⟨w.heap.size, cap, cs, rfl, Nat.le_refl _, heap_alloc_new w.drew _, Nat.zero_le _, by omega, lcs, by simp [fl]⟩⟩, by simp [Wd]⟩, (Kept.refl [] w).drew.alloc _⟩
  have FIN : Hid _ := fin
  clear fin hcs hcap lcs
  go_enter Tryz.func241, Tryz.ntmps241
  go_wp2_with (first
   | (at_builtin; (refine wpList_val rfl _ _ (exec_append2 (.tmp 20) (.tmp 21) 135 3 rfl _ _ rfl rfl _ (hr0 _)) ?_)))
  go_ret
  exact FIN.out

theorem growK_any (n : Nat) (w : World) (hn : n ≤ 100000) : Calls Tryz.prog 242 #[.slice none 0 0, .int .i64 n] w (CopyR 75 3 [] w) := by
 obtain ⟨ie, hie, hz1, hz2, hz3⟩ := info_parts itk
 have f1 : ¬ (n : Int) < 0 := by omega
 rcases Nat.eq_zero_or_pos n with rfl | h0
 ·go_enter Tryz.func242, Tryz.ntmps242
  go_wp2
  go_ret
  exact ⟨_, rfl, ⟨World.ownsRow_nil _ _ _ _, by simp [Wd]⟩, Kept.refl _ _⟩
 ·have f2 : (0 : Int) < (n : Int) := by omega
  have hge := grownCap_ge w n 0 75
  have hcm : grownCap w n 0 75 ≤ maxLen := grownCap_le_maxLen w n 0 75 (by unfold maxLen; omega)
  have hf0 : (Builtin.firstCells ie.size 0 (.slice none 0 0)).run Tryz.prog w.drew = .ok ([] : List Value).toArray w.drew := by simp [Builtin.firstCells]
  have hr0 := fun ty => Lib.run_append_grow_zeros (P := Tryz.prog) w 180 3 ty 75 ie _ .i64 .i64 Tryz.underlying180 Tryz.underlying3 hie hz1 none 0 0 [] hf0 n h0 (by rw [hz2]; decide) (by omega) (by omega) (by rw [hz3]; omega) (growslice_fits (by omega) (by rw [hz3]; omega))
  simp only [Nat.zero_add] at hr0
  obtain ⟨cap, hcap⟩ : ∃ cap, cap = grownCap w n 0 75 := ⟨_, rfl⟩
  obtain ⟨cs, hcs⟩ : ∃ cs, cs = (([] : List Value).toArray ++ Builtin.zeroCells (Value.agg #[.string ⟨#[]⟩, .int .i64 0, .nilIface]).cells n ++ Builtin.zeroCells (Value.agg #[.string ⟨#[]⟩, .int .i64 0, .nilIface]).cells (grownCap w n 0 75 - n)) := ⟨_, rfl⟩
  rw [← hcs, ← hcap] at hr0
  have lcs : cs.size = cap * 3 := by
   rw [hcs, hcap, Array.size_append, Array.size_append, size_zeroCells, size_zeroCells]
   simp only [Value.cells, List.size_toArray, List.length_nil, List.length_cons]
   omega
  have hsl0 : ∀ W : World, (Instr.sliceAt 180 (.slice none 0 0) none (some (.int .i64 0)) none).run Tryz.prog W = .ok (.slice none 0 0) W := by
   intro W; simp [Instr.sliceAt, Instr.slice, run_underlying Tryz.underlying180, Instr.sliceBounds, Instr.sliceBound, asIntOf, sizeOf, typeInfo, hie]
  have hsl1 : ∀ W : World, (Instr.sliceAt 180 (.slice (some ⟨w.heap.size, 0, none⟩) n cap) none (some (.int .i64 0)) none).run Tryz.prog W = .ok (.slice (some ⟨w.heap.size, 0, none⟩) 0 cap) W := fun W => run_slice_hi W 180 75 3 w.heap.size 0 n cap Tryz.underlying180 stk 0 (by omega)
  have fin : CopyR 75 3 [] w (.returned (.slice (some ⟨w.heap.size, 0, none⟩) 0 cap)) (w.drew.alloc (.cells cs 75)) := by
   refine ⟨_, rfl, ⟨⟨rfl, Or.inr ⟨w.heap.size, cap, cs, rfl, Nat.le_refl _, heap_alloc_new w.drew _, Nat.zero_le _, by omega, lcs, by simp [fl]⟩⟩, by simp [Wd]⟩, (Kept.refl [] w).drew.alloc _⟩
  have FIN : Hid _ := fin
  clear fin hcs hcap lcs
  go_enter Tryz.func242, Tryz.ntmps242
  go_wp2_with (first
   | (at_builtin; (refine wpList_val rfl _ _ (exec_append2 (.tmp 20) (.tmp 21) 180 3 rfl _ _ rfl rfl _ (hr0 _)) ?_)))
  go_ret
  exact FIN.out

end Go.Proofs.YtcklgafpgdhnaabGreatDoor

namespace Go.Proofs.YtcklgafpgdhnaabGreatDoor
open Go.RowKit

def CjP (xs ys : List El) (j : Nat) : List El := if j = 0 then [] else if j = 1 then xs else xs ++ ys
def CnP (xs ys : List El) (w : World) (s i : Value) (wr : World) : Prop := ∃ j : Nat, j ≤ 2 ∧ i = .int .i64 j ∧ s = .int .i64 ((CjP xs ys j).length : Nat) ∧ Kept [] w wr
def CvP (xs ys : List El) (w : World) (s i : Value) (wr : World) : Prop := ∃ j : Nat, j ≤ 2 ∧ i = .int .i64 j ∧ OW wr w.heap.size 138 2 s (CjP xs ys j) ∧ Kept [] w wr

theorem concP_any (b : Nat) (x y : Value) (xs ys : List El) (w : World) (hb : w.heap[b]? = some (.cells #[x, y] 135 (0, 0))) (hx : SL w 138 2 x xs) (hy : SL w 138 2 y ys) (x1 : One 2 xs) (y1 : One 2 ys) (hl : xs.length + ys.length ≤ 50000) :
  Calls Tryz.prog 233 #[.slice (some ⟨b, 0, none⟩) 2 2] w (CopyR 138 2 (xs ++ ys) w) := by
 obtain ⟨ie, hie, hz1, hz2, hz3⟩ := info_parts itp
 obtain ⟨px, cx, ex⟩ := hx.shape
 obtain ⟨py, cy, ey⟩ := hy.shape
 subst ex
 subst ey
 go_enter Tryz.func233, Tryz.ntmps233
 go_wp2
 go_loopw [3, 11] (fun s i wr => CnP xs ys w s i wr) (fun _ i _ => 2 - (intOf i).toNat)
 case atStart => exact ⟨0, by omega, rfl, rfl, Kept.refl _ _⟩
 case round =>
  obtain ⟨j, hj, rfl, rfl, hkr⟩ := hrel
  have hbr := hkr.get hb (by simp)
  have c0 : wr.cell? ⟨b, 0, none⟩ = some (.slice px xs.length cx) := by rw [cell_of_row _ _ _ _ _ _ hbr]; rfl
  have c1 : wr.cell? ⟨b, 1, none⟩ = some (.slice py ys.length cy) := by rw [cell_of_row _ _ _ _ _ _ hbr]; rfl
  rcases (by omega : j = 0 ∨ j = 1 ∨ j = 2) with rfl | rfl | rfl
  ·have e0 : CjP xs ys 0 = [] := rfl
   have e1 : Hid (CjP xs ys (0 + 1) = xs) := rfl
   rw [e0]
   go_wp2
   go_roundw
   case rel => exact ⟨0 + 1, by omega, by go_num, (by rw [e1.out] <;> simp), hkr⟩
   case measure => simp [intOf]
  ·have e0 : CjP xs ys 1 = xs := rfl
   have e1 : Hid (CjP xs ys (1 + 1) = xs ++ ys) := rfl
   rw [e0]
   go_wp2
   go_roundw
   case rel => exact ⟨1 + 1, by omega, by go_num, (by rw [e1.out, List.length_append] <;> simp), hkr⟩
   case measure => simp [intOf]
  ·have e0 : (CjP xs ys 2).length = xs.length + ys.length := by show (xs ++ ys).length = _; rw [List.length_append]
   rw [e0]
   go_wp2_with (first
    | (go_at_call 241; refine (growP_any (xs.length + ys.length) _ (by omega)).mono ?_; rintro e w2 ⟨v2, rfl, ho2, hk2⟩))
   go_loopw [6, 27] (fun s i wr => CvP xs ys w s i wr) (fun _ i _ => 2 - (intOf i).toNat)
   case atStart => exact ⟨0, by omega, rfl, OW.low ho2 hkr.size, hkr.trans hk2⟩
   case round =>
    clear c0 c1 hbr hk2 ho2 hkr
    obtain ⟨j, hj, rfl, hos, hkr⟩ := hrel
    obtain ⟨p6, c6, e6⟩ := hos.sl.shape
    subst e6
    have hbr := hkr.get hb (by simp)
    have c0 : wr.cell? ⟨b, 0, none⟩ = some (.slice px xs.length cx) := by rw [cell_of_row _ _ _ _ _ _ hbr]; rfl
    have c1 : wr.cell? ⟨b, 1, none⟩ = some (.slice py ys.length cy) := by rw [cell_of_row _ _ _ _ _ _ hbr]; rfl
    rcases (by omega : j = 0 ∨ j = 1 ∨ j = 2) with rfl | rfl | rfl
    ·obtain ⟨v', w', hr, ho', hk'⟩ := append_SL (P := Tryz.prog) 135 138 ie _ Tryz.underlying135 hie hz1 hz2 hz3 (by decide) (by decide) rfl w.heap.size _ _ wr hos hkr.size _ xs (hx.kept hkr) x1 (by show 0 + xs.length ≤ 100000; omega)
     have hK : Kept [] w w' := hkr.trans2 hk' (fun y hy => Or.inr (own_ge hos.1 y hy))
     have HO : Hid (OW w' w.heap.size 138 2 v' (CjP xs ys (0 + 1))) := ho'
     clear ho' hk' hos
     go_wp2_with (first | (at_builtin; (refine wpList_val rfl _ w' (exec_append2 (.tmp 31) (.tmp 32) 135 135 rfl _ _ rfl rfl _ (hr _)) ?_)))
     go_roundw
     case rel => exact ⟨0 + 1, by omega, by go_num, HO.out, hK⟩
     case measure => simp [intOf]
    ·obtain ⟨v', w', hr, ho', hk'⟩ := append_SL (P := Tryz.prog) 135 138 ie _ Tryz.underlying135 hie hz1 hz2 hz3 (by decide) (by decide) rfl w.heap.size _ _ wr hos hkr.size _ ys (hy.kept hkr) y1 (by show xs.length + ys.length ≤ 100000; omega)
     have hK : Kept [] w w' := hkr.trans2 hk' (fun y hy => Or.inr (own_ge hos.1 y hy))
     have HO : Hid (OW w' w.heap.size 138 2 v' (CjP xs ys (1 + 1))) := ho'
     clear ho' hk' hos
     go_wp2_with (first | (at_builtin; (refine wpList_val rfl _ w' (exec_append2 (.tmp 31) (.tmp 32) 135 135 rfl _ _ rfl rfl _ (hr _)) ?_)))
     go_roundw
     case rel => exact ⟨1 + 1, by omega, by go_num, HO.out, hK⟩
     case measure => simp [intOf]
    ·go_wp2
     go_ret
     exact ⟨_, rfl, hos, hkr⟩

def CjK (xs ys : List El) (j : Nat) : List El := if j = 0 then [] else if j = 1 then xs else xs ++ ys
def CnK (xs ys : List El) (w : World) (s i : Value) (wr : World) : Prop := ∃ j : Nat, j ≤ 2 ∧ i = .int .i64 j ∧ s = .int .i64 ((CjK xs ys j).length : Nat) ∧ Kept [] w wr
def CvK (xs ys : List El) (w : World) (s i : Value) (wr : World) : Prop := ∃ j : Nat, j ≤ 2 ∧ i = .int .i64 j ∧ OW wr w.heap.size 75 3 s (CjK xs ys j) ∧ Kept [] w wr

theorem concK_any (b : Nat) (x y : Value) (xs ys : List El) (w : World) (hb : w.heap[b]? = some (.cells #[x, y] 180 (0, 0))) (hx : SL w 75 3 x xs) (hy : SL w 75 3 y ys) (x1 : One 3 xs) (y1 : One 3 ys) (hl : xs.length + ys.length ≤ 50000) :
  Calls Tryz.prog 234 #[.slice (some ⟨b, 0, none⟩) 2 2] w (CopyR 75 3 (xs ++ ys) w) := by
 obtain ⟨ie, hie, hz1, hz2, hz3⟩ := info_parts itk
 obtain ⟨px, cx, ex⟩ := hx.shape
 obtain ⟨py, cy, ey⟩ := hy.shape
 subst ex
 subst ey
 go_enter Tryz.func234, Tryz.ntmps234
 go_wp2
 go_loopw [3, 11] (fun s i wr => CnK xs ys w s i wr) (fun _ i _ => 2 - (intOf i).toNat)
 case atStart => exact ⟨0, by omega, rfl, rfl, Kept.refl _ _⟩
 case round =>
  obtain ⟨j, hj, rfl, rfl, hkr⟩ := hrel
  have hbr := hkr.get hb (by simp)
  have c0 : wr.cell? ⟨b, 0, none⟩ = some (.slice px xs.length cx) := by rw [cell_of_row _ _ _ _ _ _ hbr]; rfl
  have c1 : wr.cell? ⟨b, 1, none⟩ = some (.slice py ys.length cy) := by rw [cell_of_row _ _ _ _ _ _ hbr]; rfl
  rcases (by omega : j = 0 ∨ j = 1 ∨ j = 2) with rfl | rfl | rfl
  ·have e0 : CjK xs ys 0 = [] := rfl
   have e1 : Hid (CjK xs ys (0 + 1) = xs) := rfl
   rw [e0]
   go_wp2
   go_roundw
   case rel => exact ⟨0 + 1, by omega, by go_num, (by rw [e1.out] <;> simp), hkr⟩
   case measure => simp [intOf]
  ·have e0 : CjK xs ys 1 = xs := rfl
   have e1 : Hid (CjK xs ys (1 + 1) = xs ++ ys) := rfl
   rw [e0]
   go_wp2
   go_roundw
   case rel => exact ⟨1 + 1, by omega, by go_num, (by rw [e1.out, List.length_append] <;> simp), hkr⟩
   case measure => simp [intOf]
  ·have e0 : (CjK xs ys 2).length = xs.length + ys.length := by show (xs ++ ys).length = _; rw [List.length_append]
   rw [e0]
   go_wp2_with (first
    | (go_at_call 242; refine (growK_any (xs.length + ys.length) _ (by omega)).mono ?_; rintro e w2 ⟨v2, rfl, ho2, hk2⟩))
   go_loopw [6, 27] (fun s i wr => CvK xs ys w s i wr) (fun _ i _ => 2 - (intOf i).toNat)
   case atStart => exact ⟨0, by omega, rfl, OW.low ho2 hkr.size, hkr.trans hk2⟩
   case round =>
    clear c0 c1 hbr hk2 ho2 hkr
    obtain ⟨j, hj, rfl, hos, hkr⟩ := hrel
    obtain ⟨p6, c6, e6⟩ := hos.sl.shape
    subst e6
    have hbr := hkr.get hb (by simp)
    have c0 : wr.cell? ⟨b, 0, none⟩ = some (.slice px xs.length cx) := by rw [cell_of_row _ _ _ _ _ _ hbr]; rfl
    have c1 : wr.cell? ⟨b, 1, none⟩ = some (.slice py ys.length cy) := by rw [cell_of_row _ _ _ _ _ _ hbr]; rfl
    rcases (by omega : j = 0 ∨ j = 1 ∨ j = 2) with rfl | rfl | rfl
    ·obtain ⟨v', w', hr, ho', hk'⟩ := append_SL (P := Tryz.prog) 180 75 ie _ Tryz.underlying180 hie hz1 hz2 hz3 (by decide) (by decide) rfl w.heap.size _ _ wr hos hkr.size _ xs (hx.kept hkr) x1 (by show 0 + xs.length ≤ 100000; omega)
     have hK : Kept [] w w' := hkr.trans2 hk' (fun y hy => Or.inr (own_ge hos.1 y hy))
     have HO : Hid (OW w' w.heap.size 75 3 v' (CjK xs ys (0 + 1))) := ho'
     clear ho' hk' hos
     go_wp2_with (first | (at_builtin; (refine wpList_val rfl _ w' (exec_append2 (.tmp 31) (.tmp 32) 180 180 rfl _ _ rfl rfl _ (hr _)) ?_)))
     go_roundw
     case rel => exact ⟨0 + 1, by omega, by go_num, HO.out, hK⟩
     case measure => simp [intOf]
    ·obtain ⟨v', w', hr, ho', hk'⟩ := append_SL (P := Tryz.prog) 180 75 ie _ Tryz.underlying180 hie hz1 hz2 hz3 (by decide) (by decide) rfl w.heap.size _ _ wr hos hkr.size _ ys (hy.kept hkr) y1 (by show xs.length + ys.length ≤ 100000; omega)
     have hK : Kept [] w w' := hkr.trans2 hk' (fun y hy => Or.inr (own_ge hos.1 y hy))
     have HO : Hid (OW w' w.heap.size 75 3 v' (CjK xs ys (1 + 1))) := ho'
     clear ho' hk' hos
     go_wp2_with (first | (at_builtin; (refine wpList_val rfl _ w' (exec_append2 (.tmp 31) (.tmp 32) 180 180 rfl _ _ rfl rfl _ (hr _)) ?_)))
     go_roundw
     case rel => exact ⟨1 + 1, by omega, by go_num, HO.out, hK⟩
     case measure => simp [intOf]
    ·go_wp2
     go_ret
     exact ⟨_, rfl, hos, hkr⟩

end Go.Proofs.YtcklgafpgdhnaabGreatDoor

namespace Go.Proofs.YtcklgafpgdhnaabGreatDoor
open Go.RowKit

def F2 {α β : Type} (R : α → β → Prop) (ls : List α) (bs : List β) : Prop := ls.length = bs.length ∧ ∀ (i : Nat) (a : α) (b : β), ls[i]? = some a → bs[i]? = some b → R a b
section
variable {α β : Type} {R : α → β → Prop}
theorem F2.nil : F2 R [] [] := ⟨rfl, fun i a b h => by simp at h⟩
theorem F2.one {a : α} {b : β} (h : R a b) : F2 R [a] [b] := ⟨rfl, fun i x y hx hy => by
 cases i with
 | zero => simp at hx hy; subst hx; subst hy; exact h
 | succ i => simp at hx⟩
theorem F2.get {ls : List α} {bs : List β} (h : F2 R ls bs) {i : Nat} {a : α} (ha : ls[i]? = some a) : ∃ b, bs[i]? = some b ∧ R a b := by
 have hi : i < bs.length := by rw [← h.1]; exact (List.getElem?_eq_some_iff.1 ha).1
 exact ⟨_, List.getElem?_eq_getElem hi, h.2 i a _ ha (List.getElem?_eq_getElem hi)⟩
theorem F2.mono {R' : α → β → Prop} {ls : List α} {bs : List β} (h : F2 R ls bs) (hR : ∀ a ∈ ls, ∀ b, R a b → R' a b) : F2 R' ls bs :=
 ⟨h.1, fun i a b ha hb => hR a (List.mem_of_getElem? ha) b (h.2 i a b ha hb)⟩
theorem F2.append {ls ls' : List α} {bs bs' : List β} (h : F2 R ls bs) (h' : F2 R ls' bs') : F2 R (ls ++ ls') (bs ++ bs') := by
 refine ⟨by rw [List.length_append, List.length_append, h.1, h'.1], fun i a b ha hb => ?_⟩
 rcases Nat.lt_or_ge i ls.length with hi | hi
 ·rw [List.getElem?_append_left hi] at ha
  rw [List.getElem?_append_left (by rw [← h.1]; exact hi)] at hb
  exact h.2 i a b ha hb
 ·rw [List.getElem?_append_right hi] at ha
  rw [List.getElem?_append_right (by rw [← h.1]; exact hi), ← h.1] at hb
  exact h'.2 _ a b ha hb
theorem F2.take {ls : List α} {bs : List β} (h : F2 R ls bs) (n : Nat) : F2 R (ls.take n) (bs.take n) := by
 refine ⟨by rw [List.length_take, List.length_take, h.1], fun i a b ha hb => ?_⟩
 rw [List.getElem?_take] at ha hb
 split at ha
 ·rename_i hi
  rw [if_pos hi] at hb
  exact h.2 i a b ha hb
 ·cases ha
theorem F2.drop {ls : List α} {bs : List β} (h : F2 R ls bs) (n : Nat) : F2 R (ls.drop n) (bs.drop n) := by
 refine ⟨by rw [List.length_drop, List.length_drop, h.1], fun i a b ha hb => ?_⟩
 rw [List.getElem?_drop] at ha hb
 exact h.2 _ a b ha hb
theorem F2.set {ls : List α} {bs : List β} (h : F2 R ls bs) (i : Nat) {a : α} {b : β} (hab : R a b) : F2 R (ls.set i a) (bs.set i b) := by
 refine ⟨by rw [List.length_set, List.length_set, h.1], fun j x y hx hy => ?_⟩
 rw [List.getElem?_set] at hx hy
 split at hx
 ·rename_i hij
  rw [if_pos hij] at hy
  subst hij
  rw [← h.1] at hy
  split at hx
  ·rename_i hl
   rw [if_pos hl] at hy
   cases hx; cases hy; exact hab
  ·cases hx
 ·rename_i hij
  rw [if_neg hij] at hy
  exact h.2 j x y hx hy
end

theorem SL.keptS {S : List Nat} {w w' : World} {t : TypeId} {d : Nat} {v : Value} {es : List El} (h : SL w t d v es) (k : Kept S w w') (hS : ∀ b, v.ownBlock = some b → b ∉ S) : SL w' t d v es := by
 rcases h with h | ⟨g, off, cap, cur, rfl, hh, r⟩
 ·exact Or.inl h
 ·exact Or.inr ⟨g, off, cap, cur, rfl, k.get hh (hS g rfl), r⟩

def ND (w : World) (A : Nat → Prop) : (h : Nat) → Nd h → Value → Prop
 | 0, l, x => ∃ v, x = .iface 135 v ∧ LF w v l ∧ ∀ b, v.ownBlock = some b → A b
 | h + 1, ks, x => ∃ v xs, x = .iface 180 v ∧ SL w 75 3 v (xs.map ke) ∧ (∀ b, v.ownBlock = some b → A b) ∧ F2 (fun (k : Kid h) (e : KE) => (e.1 = k.1 ∧ e.3 = k.3) ∧ ND w A h k.2 e.2) ks xs
def KR (w : World) (A : Nat → Prop) (h : Nat) (k : Kid h) (e : KE) : Prop := (e.1 = k.1 ∧ e.3 = k.3) ∧ ND w A h k.2 e.2
theorem ND_succ {w : World} {A : Nat → Prop} {h : Nat} {ks : List (Kid h)} {x : Value} : ND w A (h + 1) ks x ↔ ∃ v xs, x = .iface 180 v ∧ SL w 75 3 v (xs.map ke) ∧ (∀ b, v.ownBlock = some b → A b) ∧ F2 (KR w A h) ks xs := Iff.rfl
theorem ND.kept {S : List Nat} {w w' : World} {A A' : Nat → Prop} (k : Kept S w w') (hS : ∀ y ∈ S, ¬ A y) (hA : ∀ y, A y → A' y) : ∀ {h : Nat} {n : Nd h} {x : Value}, ND w A h n x → ND w' A' h n x
 | 0, _, _, ⟨v, e, hl, hb⟩ => ⟨v, e, SL.keptS hl k fun b hb' hm => hS b hm (hb b hb'), fun b h => hA b (hb b h)⟩
 | _ + 1, _, _, ⟨v, es, e, hl, hb, hf⟩ => ⟨v, es, e, SL.keptS hl k fun b hb' hm => hS b hm (hb b hb'), fun b h => hA b (hb b h), hf.mono fun _ _ _ hr => ⟨hr.1, ND.kept k hS hA hr.2⟩⟩
theorem KR.kept {S : List Nat} {w w' : World} {A A' : Nat → Prop} {h : Nat} {q : Kid h} {e : KE} (hr : KR w A h q e) (k : Kept S w w') (hS : ∀ y ∈ S, ¬ A y) (hA : ∀ y, A y → A' y) : KR w' A' h q e := ⟨hr.1, ND.kept k hS hA hr.2⟩
theorem ND.iface {w : World} {A : Nat → Prop} : ∀ {h : Nat} {n : Nd h} {x : Value}, ND w A h n x → ∃ t v, x = .iface t v
 | 0, _, _, ⟨v, e, _⟩ => ⟨_, v, e⟩
 | _ + 1, _, _, ⟨v, _, e, _⟩ => ⟨_, v, e⟩
theorem one_pe (l : List Pr) : One 2 (l.map pe) := by
 intro e he
 obtain ⟨p, _, rfl⟩ := List.mem_map.1 he
 exact ⟨rfl, by intro u hu; simp [pe] at hu; rcases hu with rfl | rfl <;> rfl⟩
theorem kids_iface {w : World} {A : Nat → Prop} {h : Nat} {ks : List (Kid h)} {xs : List KE} (hf : F2 (KR w A h) ks xs) : ∀ x ∈ xs, ∃ t v, x.2 = .iface t v := by
 intro x hx
 obtain ⟨i, hi⟩ := List.mem_iff_getElem?.1 hx
 have hl : i < ks.length := by rw [hf.1]; exact (List.getElem?_eq_some_iff.1 hi).1
 exact (hf.2 i _ x (List.getElem?_eq_getElem hl) hi).2.iface
theorem one_ke {xs : List KE} (h : ∀ x ∈ xs, ∃ t v, x.2 = .iface t v) : One 3 (xs.map ke) := by
 intro e he
 obtain ⟨x, hx, rfl⟩ := List.mem_map.1 he
 obtain ⟨t, v, hv⟩ := h x hx
 exact ⟨rfl, by intro u hu; simp [ke, hv] at hu; rcases hu with rfl | rfl | rfl <;> rfl⟩
theorem kids_keys {w : World} {A : Nat → Prop} {h : Nat} {ks : List (Kid h)} {xs : List KE} (hf : F2 (KR w A h) ks xs) : xs.map (·.1) = ks.map (·.1) := by
 apply List.ext_getElem?
 intro i
 rw [List.getElem?_map, List.getElem?_map]
 rcases Nat.lt_or_ge i ks.length with hi | hi
 ·obtain ⟨b, hb, hr⟩ := hf.get (List.getElem?_eq_getElem hi)
  rw [hb, List.getElem?_eq_getElem hi]
  simp [hr.1.1]
 ·rw [List.getElem?_eq_none (by rw [← hf.1]; exact hi), List.getElem?_eq_none hi]
  rfl

end Go.Proofs.YtcklgafpgdhnaabGreatDoor
