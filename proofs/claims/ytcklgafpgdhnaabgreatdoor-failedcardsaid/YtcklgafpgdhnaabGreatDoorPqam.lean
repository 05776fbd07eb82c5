import Derived.Test.YtcklgafpgdhnaabGreatDoorPqal
import Derived.Test.YtcklgafpgdhnaabGreatDoorPqai
set_option maxRecDepth 100000
set_option maxHeartbeats 4000000
open Go.Proofs.Tryz
namespace Go.Proofs.YtcklgafpgdhnaabGreatDoor
open Go.RowKit
theorem Q46 (B : Nat) (vl : Value) (es : List El) (w : World) (h : OW w B 138 2 vl es) (hl : es.length <= 50000) (hBw : B <= w.heap.size)
  (gv off cv : Nat) (vs : List El) (hv : SL w 138 2 (.slice (some ⟨gv, off, none⟩) vs.length cv) vs) (hv1 : One 2 vs) (hv0 : 0 < vs.length) (hv2 : vs.length <= 1000) :
  Calls prog 122 #[vl, .int .i64 es.length, .slice (some ⟨gv, off, none⟩) vs.length cv] w (gj B 138 2 vl (es ++ vs) w) := by
 obtain ⟨ie, hie, hz1, hz2, hz3⟩ := info_parts itp
 obtain ⟨p, c, rfl⟩ := h.sl.shape
 obtain ⟨v', w', hr, ho, hgr, -⟩ := run_append_own (P := prog) w B 135 0 138 ie _ 2 32 underlying135 hie hz1 hz2 hz3 rfl (by decide) (.slice p es.length c) es.length (fl es) h.1 ⟨gv, off, none⟩ vs.length cv (fl vs) (qb hv1.wd) hv.src.2 hv1.fl (by unfold maxLen; omega) (by omega) hBw
 have hr1 : ∀ ty, (Builtin.append_ #[135, 134] ty #[.slice p es.length c, .slice (some ⟨gv, off, none⟩) vs.length cv]).run prog w = .ok v' w' := fun ty => (Q3N w 135 134 ty 138 138 ie underlying135 underlying134 hie p es.length c _).trans hr
 have f2 : ¬ (vs.length : Int) = 0 := by omega
 have f3 : (es.length : Int) <= (es.length : Int) := by omega
 have hc : es.length <= c := by
  obtain ⟨_, ⟨e, h0⟩ | ⟨g, cap, cur, e, _, _, h1, _⟩⟩ := h.1
  ·injection e with e1 e2 e3; omega
  ·injection e with e1 e2 e3; omega
 have fin : gj B 138 2 (.slice p es.length c) (es ++ vs) w (.returned v') w' := by
  refine ⟨_, rfl, ?_, qL hgr _ (by intro x hx; rw [hx]; simp)⟩
  unfold OW
  rw [List.length_append, yW]
  exact ⟨ho, h.2.app hv1.wd⟩
 obtain ⟨out, hout⟩ : ∃ out, out = es ++ vs := ⟨_, rfl⟩
 rw [<- hout] at fin ⊢
 have FIN : Hid _ := fin
 obtain ⟨rs, hrs⟩ : ∃ rs, rs = (if c = es.length then p else p.map (·.add (es.length * 2))) := ⟨_, rfl⟩
 obtain ⟨rc, hrc⟩ : ∃ rc, rc = c - es.length := ⟨_, rfl⟩
 have hsl : ∀ W : World, (Instr.sliceAt 135 (.slice p es.length c) (some (.int .i64 (es.length : Int))) none none).run prog W = .ok (.slice rs 0 rc) W := by
  intro W
  rw [hrs, hrc]
  simp [Instr.sliceAt, Instr.slice, run_underlying underlying135, Instr.sliceBounds, Instr.sliceBound, asIntOf, sizeOf, typeInfo, hie, hz2]
 clear fin ho hgr hout hr hrs hrc
 go_enter func122, ntmps122
 go_wp2_with (first
  | (at_builtin; (refine y8 rfl _ w' (yG (.tmp 23) (.tmp 24) 135 134 rfl _ _ rfl rfl _ (hr1 _)) ?_)))
 go_ret
 exact FIN.out
theorem Q47 (B : Nat) (vl : Value) (es : List El) (i : Nat) (w : World) (h : OW w B 138 2 vl es) (h1 : One 2 es) (hi : i <= es.length) (hl : es.length <= 50000) (hBw : B <= w.heap.size)
  (gv off cv : Nat) (vs : List El) (hv : SL w 138 2 (.slice (some ⟨gv, off, none⟩) vs.length cv) vs) (hv1 : One 2 vs) (hv0 : 0 < vs.length) (hv2 : vs.length <= 1000) (hap : vl.ownBlock ≠ some gv) :
  Calls prog 122 #[vl, .int .i64 i, .slice (some ⟨gv, off, none⟩) vs.length cv] w (gj B 138 2 vl (es.take i ++ vs ++ es.drop i) w) := by
 rcases Nat.eq_or_lt_of_le hi with rfl | hi
 ·have := Q46 B vl es w h hl hBw gv off cv vs hv hv1 hv0 hv2
  rw [List.take_length, List.drop_length, List.append_nil]
  exact this
 ·obtain ⟨g, cap, cur, rfl, hB, hg, hc1, hc2, hc3, htk⟩ := h.open (by omega)
  have hap' : gv ≠ g := by intro e; subst e; exact hap rfl
  by_cases hr : es.length + vs.length <= cap
  ·exact Q3Q B es i w g cap cur hB hg hc1 hc2 hc3 htk h1 hi hl gv off cv vs hv hv1 hv0 hv2 hr hap'
  ·exact Q3P B es i w g cap cur hB hg hc1 hc2 hc3 htk h1 hi hl gv off cv vs hv hv1 hv0 hv2 (by omega) hBw
theorem Q48 {P : Program} (w : World) (t ty e : TypeId) (i : TypeInfo) (ht : P.underlying t = some (.slice e)) (hi : P.info? e = some i) (b : Option Addr) (n c : Nat) (hn : n <= c) :
  (Builtin.append_ #[t, t] ty #[.slice b n c, .slice none 0 0]).run P w = .ok (.slice b n c) w := by
 cases b with
 | none => simp [Builtin.append_, run_underlying ht, sizeOf, typeInfo, hi, Builtin.lenOf, Builtin.firstCells, hn]
 | some a => simp [Builtin.append_, run_underlying ht, sizeOf, typeInfo, hi, Builtin.lenOf, Builtin.firstCells, hn, storeCells]
theorem OW.low {w : World} {B B' : Nat} {t : TypeId} {d : Nat} {v : Value} {es : List El} (h : OW w B t d v es) (hb : B' <= B) : OW w B' t d v es := ⟨Q0P h.1 hb, h.2⟩
theorem Zq {P : Program} (t e : TypeId) (ie : TypeInfo) (z : Value) (ht : P.underlying t = some (.slice e)) (hie : P.info? e = some ie) (hz1 : ie.zero = some z) {d bb : Nat} (hz2 : ie.size = d) (hz3 : ie.bytes = bb) (hby : bb <= 40) (hd : 0 < d) (hzs : z.cells.size = d) (B : Nat) (v : Value) (xs : List El) (w : World) (h : OW w B e d v xs) (hB : B <= w.heap.size)
  (y : Value) (ys : List El) (hy : SL w e d y ys) (h1 : One d ys) (hl : xs.length + ys.length <= 100000) :
  ∃ v' w', (∀ ty, (Builtin.append_ #[t, t] ty #[v, y]).run P w = .ok v' w') /\ OW w' B e d v' (xs ++ ys) /\ y5 v.ownBlock.toList w w' := by
 obtain ⟨p, c, rfl⟩ := h.sl.shape
 rcases hy with ⟨rfl, rfl⟩ | hy
 ·have hc : xs.length <= c := by
   obtain ⟨_, ⟨e, h0⟩ | ⟨g, cap, cur, e, _, _, h1, _⟩⟩ := h.1
   ·injection e with e1 e2 e3; omega
   ·injection e with e1 e2 e3; omega
  exact ⟨_, w, fun ty => Q48 w t ty e ie ht hie p xs.length c hc, by rw [List.append_nil]; exact h, y5.refl _ _⟩
 ·obtain ⟨g, off, cap, cur, rfl, hy⟩ := hy
  have hs : SL w e d (.slice (some ⟨g, off, none⟩) ys.length cap) ys := Or.inr ⟨g, off, cap, cur, rfl, hy⟩
  obtain ⟨v', w', hr, ho, hgr, -⟩ := run_append_own (P := P) w B t 0 e ie z d bb ht hie hz1 hz2 hz3 hzs hd (.slice p xs.length c) xs.length (fl xs) h.1 ⟨g, off, none⟩ ys.length cap (fl ys) (qb h1.wd) (hs.src (hd := hd)).2 h1.fl (by unfold maxLen; omega) (Nat.le_trans (Nat.mul_le_mul_left _ hby) (by omega)) hB
  refine ⟨v', w', fun ty => hr, ?_, qL hgr _ (by intro x hx; rw [hx]; simp)⟩
  unfold OW
  rw [List.length_append, yW]
  exact ⟨ho, h.2.app h1.wd⟩
theorem Q49 (n : Nat) (w : World) (hn : n <= 100000) : Calls prog 241 #[.slice none 0 0, .int .i64 n] w (Q3C 138 2 [] w) := by
 obtain ⟨ie, hie, hz1, hz2, hz3⟩ := info_parts itp
 have f1 : ¬ (n : Int) < 0 := by omega
 rcases Nat.eq_zero_or_pos n with rfl | h0
 ·go_enter func241, ntmps241
  go_wp2
  go_ret
  exact ⟨_, rfl, ⟨World.ownsRow_nil _ _ _ _, by simp [Wd]⟩, y5.refl _ _⟩
 ·have f2 : (0 : Int) < (n : Int) := by omega
  have hge := grownCap_ge w n 0 138
  have hcm : grownCap w n 0 138 <= maxLen := grownCap_le_maxLen w n 0 138 (by unfold maxLen; omega)
  have hf0 : (Builtin.firstCells ie.size 0 (.slice none 0 0)).run prog w.drew = .ok ([] : List Value).toArray w.drew := by simp [Builtin.firstCells]
  have hr0 := fun ty => Lib.run_append_grow_zeros (P := prog) w 135 3 ty 138 ie _ .i64 .i64 underlying135 underlying3 hie hz1 none 0 0 [] hf0 n h0 (by rw [hz2]; decide) (by omega) (by omega) (by rw [hz3]; omega) (growslice_fits (by omega) (by rw [hz3]; omega))
  simp only [Nat.zero_add] at hr0
  obtain ⟨cap, hcap⟩ : ∃ cap, cap = grownCap w n 0 138 := ⟨_, rfl⟩
  obtain ⟨cs, hcs⟩ : ∃ cs, cs = (([] : List Value).toArray ++ Builtin.zeroCells (Value.agg #[.string ⟨#[]⟩, .string ⟨#[]⟩]).cells n ++ Builtin.zeroCells (Value.agg #[.string ⟨#[]⟩, .string ⟨#[]⟩]).cells (grownCap w n 0 138 - n)) := ⟨_, rfl⟩
  rw [<- hcs, <- hcap] at hr0
  have lcs : cs.size = cap * 2 := by
   rw [hcs, hcap, Array.size_append, Array.size_append, size_zeroCells, size_zeroCells]
   simp only [Value.cells, List.size_toArray, List.length_nil, List.length_cons]
   omega
  have hsl0 : ∀ W : World, (Instr.sliceAt 135 (.slice none 0 0) none (some (.int .i64 0)) none).run prog W = .ok (.slice none 0 0) W := by
   intro W; simp [Instr.sliceAt, Instr.slice, run_underlying underlying135, Instr.sliceBounds, Instr.sliceBound, asIntOf, sizeOf, typeInfo, hie]
  have hsl1 : ∀ W : World, (Instr.sliceAt 135 (.slice (some ⟨w.heap.size, 0, none⟩) n cap) none (some (.int .i64 0)) none).run prog W = .ok (.slice (some ⟨w.heap.size, 0, none⟩) 0 cap) W := fun W => yq W 135 138 2 w.heap.size 0 n cap underlying135 stp 0 (by omega)
  have fin : Q3C 138 2 [] w (.returned (.slice (some ⟨w.heap.size, 0, none⟩) 0 cap)) (w.drew.alloc (.cells cs 138)) := by
   refine ⟨_, rfl, ⟨⟨rfl, Or.inr ⟨w.heap.size, cap, cs, rfl, Nat.le_refl _, heap_alloc_new w.drew _, Nat.zero_le _, by omega, lcs, by simp [fl]⟩⟩, by simp [Wd]⟩, (y5.refl [] w).drew.alloc _⟩
  have FIN : Hid _ := fin
  clear fin hcs hcap lcs
  go_enter func241, ntmps241
  go_wp2_with (first
   | (at_builtin; (refine y8 rfl _ _ (yG (.tmp 20) (.tmp 21) 135 3 rfl _ _ rfl rfl _ (hr0 _)) ?_)))
  go_ret
  exact FIN.out
theorem Q4a (n : Nat) (w : World) (hn : n <= 100000) : Calls prog 242 #[.slice none 0 0, .int .i64 n] w (Q3C 75 3 [] w) := by
 obtain ⟨ie, hie, hz1, hz2, hz3⟩ := info_parts itk
 have f1 : ¬ (n : Int) < 0 := by omega
 rcases Nat.eq_zero_or_pos n with rfl | h0
 ·go_enter func242, ntmps242
  go_wp2
  go_ret
  exact ⟨_, rfl, ⟨World.ownsRow_nil _ _ _ _, by simp [Wd]⟩, y5.refl _ _⟩
 ·have f2 : (0 : Int) < (n : Int) := by omega
  have hge := grownCap_ge w n 0 75
  have hcm : grownCap w n 0 75 <= maxLen := grownCap_le_maxLen w n 0 75 (by unfold maxLen; omega)
  have hf0 : (Builtin.firstCells ie.size 0 (.slice none 0 0)).run prog w.drew = .ok ([] : List Value).toArray w.drew := by simp [Builtin.firstCells]
  have hr0 := fun ty => Lib.run_append_grow_zeros (P := prog) w 180 3 ty 75 ie _ .i64 .i64 underlying180 underlying3 hie hz1 none 0 0 [] hf0 n h0 (by rw [hz2]; decide) (by omega) (by omega) (by rw [hz3]; omega) (growslice_fits (by omega) (by rw [hz3]; omega))
  simp only [Nat.zero_add] at hr0
  obtain ⟨cap, hcap⟩ : ∃ cap, cap = grownCap w n 0 75 := ⟨_, rfl⟩
  obtain ⟨cs, hcs⟩ : ∃ cs, cs = (([] : List Value).toArray ++ Builtin.zeroCells (Value.agg #[.string ⟨#[]⟩, .int .i64 0, .nilIface]).cells n ++ Builtin.zeroCells (Value.agg #[.string ⟨#[]⟩, .int .i64 0, .nilIface]).cells (grownCap w n 0 75 - n)) := ⟨_, rfl⟩
  rw [<- hcs, <- hcap] at hr0
  have lcs : cs.size = cap * 3 := by
   rw [hcs, hcap, Array.size_append, Array.size_append, size_zeroCells, size_zeroCells]
   simp only [Value.cells, List.size_toArray, List.length_nil, List.length_cons]
   omega
  have hsl0 : ∀ W : World, (Instr.sliceAt 180 (.slice none 0 0) none (some (.int .i64 0)) none).run prog W = .ok (.slice none 0 0) W := by
   intro W; simp [Instr.sliceAt, Instr.slice, run_underlying underlying180, Instr.sliceBounds, Instr.sliceBound, asIntOf, sizeOf, typeInfo, hie]
  have hsl1 : ∀ W : World, (Instr.sliceAt 180 (.slice (some ⟨w.heap.size, 0, none⟩) n cap) none (some (.int .i64 0)) none).run prog W = .ok (.slice (some ⟨w.heap.size, 0, none⟩) 0 cap) W := fun W => yq W 180 75 3 w.heap.size 0 n cap underlying180 stk 0 (by omega)
  have fin : Q3C 75 3 [] w (.returned (.slice (some ⟨w.heap.size, 0, none⟩) 0 cap)) (w.drew.alloc (.cells cs 75)) := by
   refine ⟨_, rfl, ⟨⟨rfl, Or.inr ⟨w.heap.size, cap, cs, rfl, Nat.le_refl _, heap_alloc_new w.drew _, Nat.zero_le _, by omega, lcs, by simp [fl]⟩⟩, by simp [Wd]⟩, (y5.refl [] w).drew.alloc _⟩
  have FIN : Hid _ := fin
  clear fin hcs hcap lcs
  go_enter func242, ntmps242
  go_wp2_with (first
   | (at_builtin; (refine y8 rfl _ _ (yG (.tmp 20) (.tmp 21) 180 3 rfl _ _ rfl rfl _ (hr0 _)) ?_)))
  go_ret
  exact FIN.out
def CjP (xs ys : List El) (j : Nat) : List El := if j = 0 then [] else if j = 1 then xs else xs ++ ys
def CnP (xs ys : List El) (w : World) (s i : Value) (wr : World) : Prop := ∃ j : Nat, j <= 2 /\ i = .int .i64 j /\ s = .int .i64 ((CjP xs ys j).length : Nat) /\ y5 [] w wr
def CvP (xs ys : List El) (w : World) (s i : Value) (wr : World) : Prop := ∃ j : Nat, j <= 2 /\ i = .int .i64 j /\ OW wr w.heap.size 138 2 s (CjP xs ys j) /\ y5 [] w wr
theorem Q4b (b : Nat) (x y : Value) (xs ys : List El) (w : World) (hb : w.heap[b]? = some (.cells #[x, y] 135 (0, 0))) (hx : SL w 138 2 x xs) (hy : SL w 138 2 y ys) (x1 : One 2 xs) (y1 : One 2 ys) (hl : xs.length + ys.length <= 50000) :
  Calls prog 233 #[.slice (some ⟨b, 0, none⟩) 2 2] w (Q3C 138 2 (xs ++ ys) w) := by
 obtain ⟨ie, hie, hz1, hz2, hz3⟩ := info_parts itp
 obtain ⟨px, cx, ex⟩ := hx.shape
 obtain ⟨py, cy, ey⟩ := hy.shape
 subst ex
 subst ey
 go_enter func233, ntmps233
 go_wp2
 go_loopw [3, 11] (fun s i wr => CnP xs ys w s i wr) (fun _ i _ => 2 - (intOf i).toNat)
 case atStart => exact ⟨0, by omega, rfl, rfl, y5.refl _ _⟩
 case round =>
  obtain ⟨j, hj, rfl, rfl, hkr⟩ := hrel
  have hbr := hkr.get hb (by simp)
  have c0 : wr.cell? ⟨b, 0, none⟩ = some (.slice px xs.length cx) := by rw [cell_of_row _ _ _ _ _ _ hbr]; rfl
  have c1 : wr.cell? ⟨b, 1, none⟩ = some (.slice py ys.length cy) := by rw [cell_of_row _ _ _ _ _ _ hbr]; rfl
  rcases (by omega : j = 0 \/ j = 1 \/ j = 2) with rfl | rfl | rfl
  ·have e0 : CjP xs ys 0 = [] := rfl
   have e1 : Hid (CjP xs ys (0 + 1) = xs) := rfl
   rw [e0]
   go_wp2
   go_roundw
   case rel => exact ⟨0 + 1, by omega, by go_num, (by rw [e1.out] <;> simp), hkr⟩
   case measure => simp [intOf]
  ·have e0 : CjP xs ys 1 = xs := rfl
   have e1 : Hid (CjP xs ys (1 + 1) = xs ++ ys) := rfl
   rw [e0]
   go_wp2
   go_roundw
   case rel => exact ⟨1 + 1, by omega, by go_num, (by rw [e1.out, List.length_append] <;> simp), hkr⟩
   case measure => simp [intOf]
  ·have e0 : (CjP xs ys 2).length = xs.length + ys.length := by show (xs ++ ys).length = _; rw [List.length_append]
   rw [e0]
   go_wp2_with (first
    | (go_at_call 241; refine (Q49 (xs.length + ys.length) _ (by omega)).mono ?_; rintro e w2 ⟨v2, rfl, ho2, hk2⟩))
   go_loopw [6, 27] (fun s i wr => CvP xs ys w s i wr) (fun _ i _ => 2 - (intOf i).toNat)
   case atStart => exact ⟨0, by omega, rfl, OW.low ho2 hkr.size, hkr.trans hk2⟩
   case round =>
    clear c0 c1 hbr hk2 ho2 hkr
    obtain ⟨j, hj, rfl, hos, hkr⟩ := hrel
    obtain ⟨p6, c6, e6⟩ := hos.sl.shape
    subst e6
    have hbr := hkr.get hb (by simp)
    have c0 : wr.cell? ⟨b, 0, none⟩ = some (.slice px xs.length cx) := by rw [cell_of_row _ _ _ _ _ _ hbr]; rfl
    have c1 : wr.cell? ⟨b, 1, none⟩ = some (.slice py ys.length cy) := by rw [cell_of_row _ _ _ _ _ _ hbr]; rfl
    rcases (by omega : j = 0 \/ j = 1 \/ j = 2) with rfl | rfl | rfl
    ·obtain ⟨v', w', hr, ho', hk'⟩ := Zq (P := prog) 135 138 ie _ underlying135 hie hz1 hz2 hz3 (by decide) (by decide) rfl w.heap.size _ _ wr hos hkr.size _ xs (hx.kept hkr) x1 (by show 0 + xs.length <= 100000; omega)
     have hK : y5 [] w w' := hkr.trans2 hk' (fun y hy => Or.inr (qm hos.1 y hy))
     have HO : Hid (OW w' w.heap.size 138 2 v' (CjP xs ys (0 + 1))) := ho'
     clear ho' hk' hos
     go_wp2_with (first | (at_builtin; (refine y8 rfl _ w' (yG (.tmp 31) (.tmp 32) 135 135 rfl _ _ rfl rfl _ (hr _)) ?_)))
     go_roundw
     case rel => exact ⟨0 + 1, by omega, by go_num, HO.out, hK⟩
     case measure => simp [intOf]
    ·obtain ⟨v', w', hr, ho', hk'⟩ := Zq (P := prog) 135 138 ie _ underlying135 hie hz1 hz2 hz3 (by decide) (by decide) rfl w.heap.size _ _ wr hos hkr.size _ ys (hy.kept hkr) y1 (by show xs.length + ys.length <= 100000; omega)
     have hK : y5 [] w w' := hkr.trans2 hk' (fun y hy => Or.inr (qm hos.1 y hy))
     have HO : Hid (OW w' w.heap.size 138 2 v' (CjP xs ys (1 + 1))) := ho'
     clear ho' hk' hos
     go_wp2_with (first | (at_builtin; (refine y8 rfl _ w' (yG (.tmp 31) (.tmp 32) 135 135 rfl _ _ rfl rfl _ (hr _)) ?_)))
     go_roundw
     case rel => exact ⟨1 + 1, by omega, by go_num, HO.out, hK⟩
     case measure => simp [intOf]
    ·go_wp2
     go_ret
     exact ⟨_, rfl, hos, hkr⟩
def CjK (xs ys : List El) (j : Nat) : List El := if j = 0 then [] else if j = 1 then xs else xs ++ ys
def CnK (xs ys : List El) (w : World) (s i : Value) (wr : World) : Prop := ∃ j : Nat, j <= 2 /\ i = .int .i64 j /\ s = .int .i64 ((CjK xs ys j).length : Nat) /\ y5 [] w wr
def CvK (xs ys : List El) (w : World) (s i : Value) (wr : World) : Prop := ∃ j : Nat, j <= 2 /\ i = .int .i64 j /\ OW wr w.heap.size 75 3 s (CjK xs ys j) /\ y5 [] w wr
theorem Q4c (b : Nat) (x y : Value) (xs ys : List El) (w : World) (hb : w.heap[b]? = some (.cells #[x, y] 180 (0, 0))) (hx : SL w 75 3 x xs) (hy : SL w 75 3 y ys) (x1 : One 3 xs) (y1 : One 3 ys) (hl : xs.length + ys.length <= 50000) :
  Calls prog 234 #[.slice (some ⟨b, 0, none⟩) 2 2] w (Q3C 75 3 (xs ++ ys) w) := by
 obtain ⟨ie, hie, hz1, hz2, hz3⟩ := info_parts itk
 obtain ⟨px, cx, ex⟩ := hx.shape
 obtain ⟨py, cy, ey⟩ := hy.shape
 subst ex
 subst ey
 go_enter func234, ntmps234
 go_wp2
 go_loopw [3, 11] (fun s i wr => CnK xs ys w s i wr) (fun _ i _ => 2 - (intOf i).toNat)
 case atStart => exact ⟨0, by omega, rfl, rfl, y5.refl _ _⟩
 case round =>
  obtain ⟨j, hj, rfl, rfl, hkr⟩ := hrel
  have hbr := hkr.get hb (by simp)
  have c0 : wr.cell? ⟨b, 0, none⟩ = some (.slice px xs.length cx) := by rw [cell_of_row _ _ _ _ _ _ hbr]; rfl
  have c1 : wr.cell? ⟨b, 1, none⟩ = some (.slice py ys.length cy) := by rw [cell_of_row _ _ _ _ _ _ hbr]; rfl
  rcases (by omega : j = 0 \/ j = 1 \/ j = 2) with rfl | rfl | rfl
  ·have e0 : CjK xs ys 0 = [] := rfl
   have e1 : Hid (CjK xs ys (0 + 1) = xs) := rfl
   rw [e0]
   go_wp2
   go_roundw
   case rel => exact ⟨0 + 1, by omega, by go_num, (by rw [e1.out] <;> simp), hkr⟩
   case measure => simp [intOf]
  ·have e0 : CjK xs ys 1 = xs := rfl
   have e1 : Hid (CjK xs ys (1 + 1) = xs ++ ys) := rfl
   rw [e0]
   go_wp2
   go_roundw
   case rel => exact ⟨1 + 1, by omega, by go_num, (by rw [e1.out, List.length_append] <;> simp), hkr⟩
   case measure => simp [intOf]
  ·have e0 : (CjK xs ys 2).length = xs.length + ys.length := by show (xs ++ ys).length = _; rw [List.length_append]
   rw [e0]
   go_wp2_with (first
    | (go_at_call 242; refine (Q4a (xs.length + ys.length) _ (by omega)).mono ?_; rintro e w2 ⟨v2, rfl, ho2, hk2⟩))
   go_loopw [6, 27] (fun s i wr => CvK xs ys w s i wr) (fun _ i _ => 2 - (intOf i).toNat)
   case atStart => exact ⟨0, by omega, rfl, OW.low ho2 hkr.size, hkr.trans hk2⟩
   case round =>
    clear c0 c1 hbr hk2 ho2 hkr
    obtain ⟨j, hj, rfl, hos, hkr⟩ := hrel
    obtain ⟨p6, c6, e6⟩ := hos.sl.shape
    subst e6
    have hbr := hkr.get hb (by simp)
    have c0 : wr.cell? ⟨b, 0, none⟩ = some (.slice px xs.length cx) := by rw [cell_of_row _ _ _ _ _ _ hbr]; rfl
    have c1 : wr.cell? ⟨b, 1, none⟩ = some (.slice py ys.length cy) := by rw [cell_of_row _ _ _ _ _ _ hbr]; rfl
    rcases (by omega : j = 0 \/ j = 1 \/ j = 2) with rfl | rfl | rfl
    ·obtain ⟨v', w', hr, ho', hk'⟩ := Zq (P := prog) 180 75 ie _ underlying180 hie hz1 hz2 hz3 (by decide) (by decide) rfl w.heap.size _ _ wr hos hkr.size _ xs (hx.kept hkr) x1 (by show 0 + xs.length <= 100000; omega)
     have hK : y5 [] w w' := hkr.trans2 hk' (fun y hy => Or.inr (qm hos.1 y hy))
     have HO : Hid (OW w' w.heap.size 75 3 v' (CjK xs ys (0 + 1))) := ho'
     clear ho' hk' hos
     go_wp2_with (first | (at_builtin; (refine y8 rfl _ w' (yG (.tmp 31) (.tmp 32) 180 180 rfl _ _ rfl rfl _ (hr _)) ?_)))
     go_roundw
     case rel => exact ⟨0 + 1, by omega, by go_num, HO.out, hK⟩
     case measure => simp [intOf]
    ·obtain ⟨v', w', hr, ho', hk'⟩ := Zq (P := prog) 180 75 ie _ underlying180 hie hz1 hz2 hz3 (by decide) (by decide) rfl w.heap.size _ _ wr hos hkr.size _ ys (hy.kept hkr) y1 (by show xs.length + ys.length <= 100000; omega)
     have hK : y5 [] w w' := hkr.trans2 hk' (fun y hy => Or.inr (qm hos.1 y hy))
     have HO : Hid (OW w' w.heap.size 75 3 v' (CjK xs ys (1 + 1))) := ho'
     clear ho' hk' hos
     go_wp2_with (first | (at_builtin; (refine y8 rfl _ w' (yG (.tmp 31) (.tmp 32) 180 180 rfl _ _ rfl rfl _ (hr _)) ?_)))
     go_roundw
     case rel => exact ⟨1 + 1, by omega, by go_num, HO.out, hK⟩
     case measure => simp [intOf]
    ·go_wp2
     go_ret
     exact ⟨_, rfl, hos, hkr⟩
def F2 {α β : Type} (R : α -> β -> Prop) (ls : List α) (bs : List β) : Prop := ls.length = bs.length /\ ∀ (i : Nat) (a : α) (b : β), ls[i]? = some a -> bs[i]? = some b -> R a b
section
variable {α β : Type} {R : α -> β -> Prop}
theorem F2.nil : F2 R [] [] := ⟨rfl, fun i a b h => by simp at h⟩
theorem F2.one {a : α} {b : β} (h : R a b) : F2 R [a] [b] := ⟨rfl, fun i x y hx hy => by
 cases i with
 | zero => simp at hx hy; subst hx; subst hy; exact h
 | succ i => simp at hx⟩
theorem F2.get {ls : List α} {bs : List β} (h : F2 R ls bs) {i : Nat} {a : α} (ha : ls[i]? = some a) : ∃ b, bs[i]? = some b /\ R a b := by
 have hi : i < bs.length := by rw [<- h.1]; exact (List.getElem?_eq_some_iff.1 ha).1
 exact ⟨_, List.getElem?_eq_getElem hi, h.2 i a _ ha (List.getElem?_eq_getElem hi)⟩
theorem F2.mono {R' : α -> β -> Prop} {ls : List α} {bs : List β} (h : F2 R ls bs) (hR : ∀ a ∈ ls, ∀ b, R a b -> R' a b) : F2 R' ls bs :=
 ⟨h.1, fun i a b ha hb => hR a (List.mem_of_getElem? ha) b (h.2 i a b ha hb)⟩
theorem F2.append {ls ls' : List α} {bs bs' : List β} (h : F2 R ls bs) (h' : F2 R ls' bs') : F2 R (ls ++ ls') (bs ++ bs') := by
 refine ⟨by rw [List.length_append, List.length_append, h.1, h'.1], fun i a b ha hb => ?_⟩
 rcases Nat.lt_or_ge i ls.length with hi | hi
 ·rw [List.getElem?_append_left hi] at ha
  rw [List.getElem?_append_left (by rw [<- h.1]; exact hi)] at hb
  exact h.2 i a b ha hb
 ·rw [List.getElem?_append_right hi] at ha
  rw [List.getElem?_append_right (by rw [<- h.1]; exact hi), <- h.1] at hb
  exact h'.2 _ a b ha hb
theorem F2.take {ls : List α} {bs : List β} (h : F2 R ls bs) (n : Nat) : F2 R (ls.take n) (bs.take n) := by
 refine ⟨by rw [List.length_take, List.length_take, h.1], fun i a b ha hb => ?_⟩
 rw [List.getElem?_take] at ha hb
 split at ha
 ·rename_i hi
  rw [if_pos hi] at hb
  exact h.2 i a b ha hb
 ·cases ha
theorem F2.drop {ls : List α} {bs : List β} (h : F2 R ls bs) (n : Nat) : F2 R (ls.drop n) (bs.drop n) := by
 refine ⟨by rw [List.length_drop, List.length_drop, h.1], fun i a b ha hb => ?_⟩
 rw [List.getElem?_drop] at ha hb
 exact h.2 _ a b ha hb
theorem F2.set {ls : List α} {bs : List β} (h : F2 R ls bs) (i : Nat) {a : α} {b : β} (hab : R a b) : F2 R (ls.set i a) (bs.set i b) := by
 refine ⟨by rw [List.length_set, List.length_set, h.1], fun j x y hx hy => ?_⟩
 rw [List.getElem?_set] at hx hy
 split at hx
 ·rename_i hij
  rw [if_pos hij] at hy
  subst hij
  rw [<- h.1] at hy
  split at hx
  ·rename_i hl
   rw [if_pos hl] at hy
   cases hx; cases hy; exact hab
  ·cases hx
 ·rename_i hij
  rw [if_neg hij] at hy
  exact h.2 j x y hx hy
end
theorem SL.keptS {S : List Nat} {w w' : World} {t : TypeId} {d : Nat} {v : Value} {es : List El} (h : SL w t d v es) (k : y5 S w w') (hS : ∀ b, v.ownBlock = some b -> b ∉ S) : SL w' t d v es := by
 rcases h with h | ⟨g, off, cap, cur, rfl, hh, r⟩
 ·exact Or.inl h
 ·exact Or.inr ⟨g, off, cap, cur, rfl, k.get hh (hS g rfl), r⟩
def ND (w : World) (A : Nat -> Prop) : (h : Nat) -> Nd h -> Value -> Prop
 | 0, l, x => ∃ v, x = .iface 135 v /\ LF w v l /\ ∀ b, v.ownBlock = some b -> A b
 | h + 1, ks, x => ∃ v xs, x = .iface 180 v /\ SL w 75 3 v (xs.map ke) /\ (∀ b, v.ownBlock = some b -> A b) /\ F2 (fun (k : Kid h) (e : KE) => (e.1 = k.1 /\ e.3 = k.3) /\ ND w A h k.2 e.2) ks xs
def KR (w : World) (A : Nat -> Prop) (h : Nat) (k : Kid h) (e : KE) : Prop := (e.1 = k.1 /\ e.3 = k.3) /\ ND w A h k.2 e.2
theorem qE {w : World} {A : Nat -> Prop} {h : Nat} {ks : List (Kid h)} {x : Value} : ND w A (h + 1) ks x ↔ ∃ v xs, x = .iface 180 v /\ SL w 75 3 v (xs.map ke) /\ (∀ b, v.ownBlock = some b -> A b) /\ F2 (KR w A h) ks xs := Iff.rfl
theorem ND.kept {S : List Nat} {w w' : World} {A A' : Nat -> Prop} (k : y5 S w w') (hS : ∀ y ∈ S, ¬ A y) (hA : ∀ y, A y -> A' y) : ∀ {h : Nat} {n : Nd h} {x : Value}, ND w A h n x -> ND w' A' h n x
 | 0, _, _, ⟨v, e, hl, hb⟩ => ⟨v, e, SL.keptS hl k fun b hb' hm => hS b hm (hb b hb'), fun b h => hA b (hb b h)⟩
 | _ + 1, _, _, ⟨v, es, e, hl, hb, hf⟩ => ⟨v, es, e, SL.keptS hl k fun b hb' hm => hS b hm (hb b hb'), fun b h => hA b (hb b h), hf.mono fun _ _ _ hr => ⟨hr.1, ND.kept k hS hA hr.2⟩⟩
theorem KR.kept {S : List Nat} {w w' : World} {A A' : Nat -> Prop} {h : Nat} {q : Kid h} {e : KE} (hr : KR w A h q e) (k : y5 S w w') (hS : ∀ y ∈ S, ¬ A y) (hA : ∀ y, A y -> A' y) : KR w' A' h q e := ⟨hr.1, ND.kept k hS hA hr.2⟩
theorem ND.iface {w : World} {A : Nat -> Prop} : ∀ {h : Nat} {n : Nd h} {x : Value}, ND w A h n x -> ∃ t v, x = .iface t v
 | 0, _, _, ⟨v, e, _⟩ => ⟨_, v, e⟩
 | _ + 1, _, _, ⟨v, _, e, _⟩ => ⟨_, v, e⟩
theorem ZY (l : List Pr) : One 2 (l.map pe) := by
 intro e he
 obtain ⟨p, _, rfl⟩ := List.mem_map.1 he
 exact ⟨rfl, by intro u hu; simp [pe] at hu; rcases hu with rfl | rfl <;> rfl⟩
theorem qS {w : World} {A : Nat -> Prop} {h : Nat} {ks : List (Kid h)} {xs : List KE} (hf : F2 (KR w A h) ks xs) : ∀ x ∈ xs, ∃ t v, x.2 = .iface t v := by
 intro x hx
 obtain ⟨i, hi⟩ := List.mem_iff_getElem?.1 hx
 have hl : i < ks.length := by rw [hf.1]; exact (List.getElem?_eq_some_iff.1 hi).1
 exact (hf.2 i _ x (List.getElem?_eq_getElem hl) hi).2.iface
theorem ZZ {xs : List KE} (h : ∀ x ∈ xs, ∃ t v, x.2 = .iface t v) : One 3 (xs.map ke) := by
 intro e he
 obtain ⟨x, hx, rfl⟩ := List.mem_map.1 he
 obtain ⟨t, v, hv⟩ := h x hx
 exact ⟨rfl, by intro u hu; simp [ke, hv] at hu; rcases hu with rfl | rfl | rfl <;> rfl⟩
theorem Q4d {w : World} {A : Nat -> Prop} {h : Nat} {ks : List (Kid h)} {xs : List KE} (hf : F2 (KR w A h) ks xs) : xs.map (·.1) = ks.map (·.1) := by
 apply List.ext_getElem?
 intro i
 rw [List.getElem?_map, List.getElem?_map]
 rcases Nat.lt_or_ge i ks.length with hi | hi
 ·obtain ⟨b, hb, hr⟩ := hf.get (List.getElem?_eq_getElem hi)
  rw [hb, List.getElem?_eq_getElem hi]
  simp [hr.1.1]
 ·rw [List.getElem?_eq_none (by rw [<- hf.1]; exact hi), List.getElem?_eq_none hi]
  rfl
theorem ZD {α : Type} (p : α -> Bool) (l : List α) : ∀ (m : Nat), m <= l.length -> (∀ x q, l[x]? = some q -> (x < m ↔ p q = true)) -> (l.takeWhile p).length = m := by
 induction l with
 | nil => intro m hm _; simp at hm; subst hm; rfl
 | cons a r ih =>
  intro m hm h
  cases m with
  | zero =>
   have := h 0 a rfl
   have hf : p a = false := by
    cases hp : p a with
    | false => rfl
    | true => exact absurd (this.2 hp) (by omega)
   rw [List.takeWhile_cons, hf]; rfl
  | succ m =>
   have ht : p a = true := (h 0 a rfl).1 (by omega)
   rw [List.takeWhile_cons, ht]
   simp only [if_true, List.length_cons]
   rw [ih m (by simp at hm; omega) fun x q hq => by
    have := h (x + 1) q (by simpa using hq)
    rw [<- this]; omega]
theorem QI.lt {keys : List ByteArray} (h : QI keys) {i j : Nat} {a b : ByteArray} (hi : keys[i]? = some a) (hj : keys[j]? = some b) (hij : i < j) : bl a b = true := by
 have hi' := List.getElem?_eq_some_iff.1 hi
 have hj' := List.getElem?_eq_some_iff.1 hj
 have := List.pairwise_iff_getElem.1 h i j hi'.1 hj'.1 hij
 rw [hi'.2, hj'.2] at this
 exact this
theorem Q4e {a b : ByteArray} (h : bl a b = true) : bl b a = false := Qp h
theorem Q4f {keys : List ByteArray} {k : ByteArray} {i : Nat} {b : Bool} (hr : QI keys) (hp : Pos keys k i) (hb : b = true ↔ keys[i]? = some k) :
  ∀ x q, keys[x]? = some q -> (x < (if b then i + 1 else i) ↔ (!bl k q) = true) := by
 intro x q hq
 have hx := hp.2 x q hq
 have hxl : x < keys.length := (List.getElem?_eq_some_iff.1 hq).1
 cases b with
 | true =>
  have hk := hb.1 rfl
  rw [if_pos rfl]
  rcases Nat.lt_trichotomy x i with h | h | h
  ·simp [Q4e (hx.1 h)]; omega
  ·subst h
   rw [hk] at hq; cases hq
   simp [gU]
  ·have := hr.lt hk hq h
   simp [this]; omega
 | false =>
  simp only [Bool.false_eq_true, if_false]
  constructor
  ·intro h; simp [Q4e (hx.1 h)]
  ·intro h
   simp at h
   rcases Nat.lt_or_ge x i with h' | h'
   ·exact h'
   exfalso
   have hn : ¬ bl q k = true := fun e => absurd (hx.2 e) (by omega)
   rcases jW q k with e | e | e
   ·exact hn e
   ·subst e
    rcases Nat.eq_or_lt_of_le h' with e | e
    ·subst e; exact absurd (hb.2 hq) (by simp)
    ·obtain ⟨c, hc⟩ : ∃ c, keys[i]? = some c := ⟨_, List.getElem?_eq_getElem (by omega)⟩
     have := (hp.2 i c hc).2 (hr.lt hc hq e)
     omega
   ·rw [h] at e; cases e
theorem Q4g {h : Nat} {ks : List (Kid h)} (hk : KW h ks) : QI (ks.map (·.1)) := by
 unfold QI
 rw [List.pairwise_map]
 exact hk.ord.imp fun hb => hb.1
theorem j6 {l : List Pr} (hs : Srt l) : QI (l.map (·.1)) := by
 unfold QI
 rw [List.pairwise_map]
 exact hs
theorem Q4h {h : Nat} {ks : List (Kid h)} {k : ByteArray} {i : Nat} {b : Bool} (hk : KW h ks) (hp : Pos (ks.map (·.1)) k i) (hb : b = true ↔ (ks.map (·.1))[i]? = some k) :
  qs ks k = if b then i else i - 1 := by
 have hle := Q4f (Q4g hk) hp hb
 have hm : (if b then i + 1 else i) <= ks.length := by
  cases b with
  | true =>
   have := (List.getElem?_eq_some_iff.1 (hb.1 rfl)).1
   rw [List.length_map] at this
   rw [if_pos rfl]; omega
  | false => have := hp.1; rw [List.length_map] at this; simpa using this
 have := ZD (fun a : Kid h => !bl k a.1) ks _ hm fun x q hq => hle x q.1 (by rw [List.getElem?_map, hq]; rfl)
 unfold qs
 rw [this]
 cases b <;> simp
theorem Qs {l : List Pr} {k : ByteArray} {i : Nat} (hp : Pos (l.map (·.1)) k i) : (∀ p ∈ l.take i, bl p.1 k = true) /\ ∀ p ∈ l.drop i, bl p.1 k = false := by
 constructor
 ·intro p hpm
  obtain ⟨j, hj⟩ := List.mem_iff_getElem?.1 hpm
  rw [List.getElem?_take] at hj
  split at hj
  ·rename_i hlt
   exact (hp.2 j p.1 (by rw [List.getElem?_map, hj]; rfl)).1 hlt
  ·cases hj
 ·intro p hpm
  obtain ⟨j, hj⟩ := List.mem_iff_getElem?.1 hpm
  rw [List.getElem?_drop] at hj
  have := hp.2 (i + j) p.1 (by rw [List.getElem?_map, hj]; rfl)
  cases hb : bl p.1 k with
  | false => rfl
  | true => exact absurd (this.2 hb) (by omega)
theorem Q4i (k v : ByteArray) (B : List Pr) (h : ∀ p ∈ B, bl k p.1 = true) : yL k v B = (k, v) :: B := by
 have := jz k v [] B h
 simpa [yL, qZ] using this
theorem Q4j (k v u : ByteArray) (B : List Pr) (h : ∀ p ∈ B, bl k p.1 = true) : yL k v ((k, u) :: B) = (k, v) :: B := by
 have := jz k v [(k, u)] B h
 have e : yL k v [(k, u)] = [(k, v)] := by simp [yL, qZ, gU, j1]
 rw [e] at this
 exact this
theorem Q4k {l : List Pr} {k : ByteArray} {i : Nat} {b : Bool} (hs : Srt l) (hp : Pos (l.map (·.1)) k i) (hb : b = true ↔ (l.map (·.1))[i]? = some k) :
  (b = true -> ∃ u B, l.drop i = (k, u) :: B /\ l.drop (i + 1) = B /\ l[i]? = some (k, u) /\ ∀ p ∈ B, bl k p.1 = true) /\ (b = false -> ∀ p ∈ l.drop i, bl k p.1 = true) := by
 have hpt := Qs hp
 constructor
 ·intro hbt
  have hk := hb.1 hbt
  rw [List.getElem?_map] at hk
  cases hl : l[i]? with
  | none => rw [hl] at hk; cases hk
  | some q =>
   rw [hl] at hk
   simp at hk
   obtain ⟨q1, q2⟩ := q
   simp at hk
   subst hk
   have hi := List.getElem?_eq_some_iff.1 hl
   have hd : l.drop i = (q1, q2) :: l.drop (i + 1) := by rw [List.drop_eq_getElem_cons hi.1, hi.2]
   refine ⟨q2, l.drop (i + 1), hd, rfl, rfl, ?_⟩
   intro p hpm
   have hsd : Srt (l.drop i) := List.Pairwise.sublist (List.drop_sublist i l) hs
   rw [hd] at hsd
   exact (List.pairwise_cons.1 hsd).1 p hpm
 ·intro hbf p hpm
  obtain ⟨j, hj⟩ := List.mem_iff_getElem?.1 hpm
  rw [List.getElem?_drop] at hj
  have hle := Q4f (j6 hs) hp hb (i + j) p.1 (by rw [List.getElem?_map, hj]; rfl)
  rw [hbf] at hle
  simp only [Bool.false_eq_true, if_false] at hle
  cases h : bl k p.1 with
  | true => rfl
  | false => rw [h] at hle; have := hle.2 rfl; omega
theorem Q4l {l : List Pr} {k v : ByteArray} {i : Nat} {b : Bool} (hs : Srt l) (hp : Pos (l.map (·.1)) k i) (hb : b = true ↔ (l.map (·.1))[i]? = some k) :
  yL k v l = l.take i ++ [(k, v)] ++ l.drop (if b then i + 1 else i) := by
 obtain ⟨h1, h2⟩ := Q4k hs hp hb
 conv => lhs; rw [<- List.take_append_drop i l]
 rw [Qa k v _ _ (Qs hp).1, List.append_assoc]
 cases b with
 | true =>
  obtain ⟨u, B, e, e2, _, hg⟩ := h1 rfl
  rw [e, Q4j k v u B hg, if_pos rfl, e2]; rfl
 | false =>
  rw [Q4i k v _ (h2 rfl)]; rfl
theorem Q4m {l : List Pr} {k : ByteArray} {i : Nat} {b : Bool} (hs : Srt l) (hp : Pos (l.map (·.1)) k i) (hb : b = true ↔ (l.map (·.1))[i]? = some k) :
  yx k l = if b then l.take i ++ l.drop (i + 1) else l := by
 obtain ⟨h1, h2⟩ := Q4k hs hp hb
 conv => lhs; rw [<- List.take_append_drop i l]
 rw [Z4, Q2F k _ (Qs hp).1]
 cases b with
 | true =>
  obtain ⟨u, B, e, e2, _, hg⟩ := h1 rfl
  rw [e, if_pos rfl, e2]
  have : yx k ((k, u) :: B) = yx k B := by simp [yx, j1]
  rw [this, jj k B hg]
 | false =>
  rw [jj k _ (h2 rfl), List.take_append_drop]; rfl
theorem Q4n (k : ByteArray) (l : List Pr) (h : ∀ p ∈ l, be p.1 k = false) : qC k l = none := by
 induction l with
 | nil => rfl
 | cons p r ih =>
  unfold qC
  rw [h p (by simp)]
  exact ih fun q hq => h q (by simp [hq])
theorem Q4o (k : ByteArray) (A l : List Pr) (h : ∀ p ∈ A, be p.1 k = false) : qC k (A ++ l) = qC k l := by
 induction A with
 | nil => rfl
 | cons p r ih =>
  rw [List.cons_append]
  conv => lhs; unfold qC
  rw [h p (by simp)]
  exact ih fun q hq => h q (by simp [hq])
theorem Q4p (k : ByteArray) (l B : List Pr) (h : ∀ p ∈ B, be p.1 k = false) : qC k (l ++ B) = qC k l := by
 induction l with
 | nil => exact Q4n k B h
 | cons p r ih =>
  rw [List.cons_append]
  unfold qC
  rw [ih]
theorem Q4q {l : List Pr} {k : ByteArray} {i : Nat} {b : Bool} (hs : Srt l) (hp : Pos (l.map (·.1)) k i) (hb : b = true ↔ (l.map (·.1))[i]? = some k) :
  qC k l = if b then (l[i]?).map (·.2) else none := by
 obtain ⟨h1, h2⟩ := Q4k hs hp hb
 conv => lhs; rw [<- List.take_append_drop i l]
 rw [Q4o k _ _ fun p hp' => gA ((Qs hp).1 p hp')]
 cases b with
 | true =>
  obtain ⟨u, B, e, _, e3, _⟩ := h1 rfl
  rw [e, if_pos rfl, e3]
  simp [qC, j1]
 | false =>
  rw [Q4n k _ fun p hp' => by rw [QH]; exact gA (h2 rfl p hp')]; rfl
def qV (k : ByteArray) : (h : Nat) -> Nd h -> List Pr
 | 0, l => l
 | h + 1, ks => match (show List (Kid h) from ks)[qs (h := h) ks k]? with
  | none => []
  | some a => qV k h a.2
theorem QJ (k : ByteArray) (h : Nat) (ks : List (Kid h)) (a : Kid h) (hg : ks[qs ks k]? = some a) : qV k (h + 1) ks = qV k h a.2 := by
 show (match ks[qs ks k]? with | none => [] | some a => qV k h a.2) = _
 rw [hg]
theorem Q4r (k : ByteArray) : ∀ (h : Nat) (f : ByteArray) (n : Nd h), WFN h f n -> ge k f -> Srt (qV k h n) /\ qC k (qV k h n) = qC k (yN h n)
 | 0, _, _, hw, _ => ⟨hw.1, rfl⟩
 | h + 1, f, ks, hw, hk => by
  obtain ⟨⟨n0, x0, r0, e0⟩, hkw⟩ := (yF h f ks).1 hw
  obtain ⟨A, a, B, esp, hlen, hga, hB⟩ := Qr f n0 x0 r0 k (by rw [<- e0]; exact hkw) hk
  rw [<- e0] at esp hlen
  have hamem : List.Mem (α := Kid h) a ks := by rw [esp]; exact List.mem_append_right _ (by simp)
  have ih := Q4r k h a.1 a.2 (hkw.all a hamem) hga
  have hord := hkw.ord
  rw [esp] at hord
  obtain ⟨pA, pMB, pAMB⟩ := List.pairwise_append.1 hord
  have hAlt : ∀ p ∈ yA h A, be p.1 k = false := by
   intro p hp
   obtain ⟨c, hc, hp⟩ := yX.1 hp
   exact gA (qj ((pAMB c hc a (by simp)).2 p hp) hga)
  have hBgt : ∀ p ∈ yA h B, be p.1 k = false := by
   intro p hp
   obtain ⟨c, hc, hp⟩ := yX.1 hp
   rw [QH]
   exact gA (qj (hB c hc) (WFN.keys (hkw.all c (by rw [esp]; simp [hc])) p hp).1)
  have e1 : qV k (h + 1) ks = qV k h a.2 := QJ k h ks a (by rw [<- hlen, esp]; simp)
  have e2 : yN (h + 1) ks = yA h A ++ (yN h a.2 ++ yA h B) := by
   show yA h ks = _
   rw [esp, qg, qg]
   simp [yA]
  rw [e1, e2]
  exact ⟨ih.1, by rw [Q4o k _ _ hAlt, Q4p k _ _ hBgt]; exact ih.2⟩
def pK (keys : List ByteArray) (k : ByteArray) : Nat := (keys.takeWhile fun q => bl q k).length
def bK (keys : List ByteArray) (k : ByteArray) : Bool := decide (keys[pK keys k]? = some k)
theorem Q4s (keys : List ByteArray) (k : ByteArray) : bK keys k = true ↔ keys[pK keys k]? = some k := by unfold bK; simp
theorem Q4t {keys : List ByteArray} (hr : QI keys) (k : ByteArray) : Pos keys k (pK keys k) := by
 have hpre : (keys.takeWhile fun q => bl q k) <+: keys := List.takeWhile_prefix _
 refine ⟨hpre.length_le, fun x q hq => ?_⟩
 have hxl := List.getElem?_eq_some_iff.1 hq
 obtain ⟨r, hr'⟩ := hpre
 constructor
 ·intro hx
  have : (keys.takeWhile fun q => bl q k)[x]? = some q := by
   rw [<- hr', List.getElem?_append_left hx] at hq
   exact hq
  have hall := List.all_takeWhile (p := fun q => bl q k) (l := keys)
  rw [List.all_eq_true] at hall
  exact hall q (List.mem_of_getElem? this)
 ·intro hb
  rcases Nat.lt_or_ge x (pK keys k) with h | h
  ·exact h
  exfalso
  obtain ⟨c, hc⟩ : ∃ c, keys[pK keys k]? = some c := ⟨_, List.getElem?_eq_getElem (by have := hxl.1; omega)⟩
  have hcf : bl c k = false := by
   have := List.head?_dropWhile_not (p := fun q => bl q k) (l := keys)
   have hd : (keys.dropWhile fun q => bl q k).head? = some c := by
    have htd := List.takeWhile_append_dropWhile (p := fun q => bl q k) (l := keys)
    unfold pK at hc
    generalize keys.takeWhile (fun q => bl q k) = T at htd hc
    generalize keys.dropWhile (fun q => bl q k) = D at htd hc ⊢
    rw [<- htd, List.getElem?_append_right (Nat.le_refl _), Nat.sub_self] at hc
    rw [<- hc]
    cases D <;> rfl
   rw [hd] at this
   simpa using this
  rcases Nat.eq_or_lt_of_le h with e | e
  ·rw [e, hq] at hc; cases hc; rw [hb] at hcf; cases hcf
  ·have := qX (hr.lt hc hq e) hb
   rw [this] at hcf; cases hcf
theorem Z9 {keys : List ByteArray} {k : ByteArray} {w w' : World} {e : Ending} (h : Q3j keys k w e w') : e = .returned (.tuple #[.int .i64 (pK keys k : Nat), .bool (bK keys k)]) /\ y5 [] w w' := by
 obtain ⟨i, b, rfl, hp, hb, hk⟩ := h
 have hi : pK keys k = i := ZD (fun q => bl q k) keys i hp.1 hp.2
 have hbb : bK keys k = b := by
  unfold bK
  rw [hi]
  cases b with
  | true => simpa using hb.1 rfl
  | false => simpa using fun e => absurd (hb.2 e) (by simp)
 rw [hi, hbb]
 exact ⟨rfl, hk⟩
def flt (lo hi : ByteArray) (l : List Pr) : List Pr := l.filter (inR lo hi)
theorem Q4u (lo hi : ByteArray) (A B : List Pr) : flt lo hi (A ++ B) = flt lo hi A ++ flt lo hi B := List.filter_append ..
theorem Q4v (lo hi : ByteArray) (A : List Pr) (h : ∀ p ∈ A, bl p.1 lo = true) : flt lo hi A = [] := by
 unfold flt
 rw [List.filter_eq_nil_iff]
 intro p hp
 simp [inR, h p hp]
theorem Q4w (lo hi : ByteArray) (A : List Pr) (h : ∀ p ∈ A, bl p.1 hi = false) : flt lo hi A = [] := by
 unfold flt
 rw [List.filter_eq_nil_iff]
 intro p hp
 simp [inR, h p hp]
theorem Q4x (lo hi : ByteArray) (A : List Pr) (h1 : ∀ p ∈ A, bl p.1 lo = false) (h2 : ∀ p ∈ A, bl p.1 hi = true) : flt lo hi A = A := by
 unfold flt
 rw [List.filter_eq_self]
 intro p hp
 simp [inR, h1 p hp, h2 p hp]
theorem Q4y {l : List Pr} {hi : ByteArray} {j : Nat} {p : Pr} (hs : Srt l) (hj : l[j]? = some p) (hp : bl p.1 hi = false) : ∀ q ∈ l.drop j, bl q.1 hi = false := by
 intro q hq
 have hjl := List.getElem?_eq_some_iff.1 hj
 have hd : l.drop j = p :: l.drop (j + 1) := by rw [List.drop_eq_getElem_cons hjl.1, hjl.2]
 have hsd : Srt (l.drop j) := List.Pairwise.sublist (List.drop_sublist j l) hs
 rw [hd] at hsd hq
 rcases List.mem_cons.1 hq with rfl | hq
 ·exact hp
 ·have := (List.pairwise_cons.1 hsd).1 q hq
  exact gz (Qp this) hp
theorem Q4z {l : List Pr} {lo hi : ByteArray} {i j : Nat} (hp : Pos (l.map (·.1)) lo i) (hij : i <= j) (hlt : ∀ p ∈ (l.drop i).take (j - i), bl p.1 hi = true) :
  flt lo hi l = (l.drop i).take (j - i) ++ flt lo hi (l.drop j) := by
 obtain ⟨h1, h2⟩ := Qs hp
 conv => lhs; rw [<- List.take_append_drop i l, <- List.take_append_drop (j - i) (l.drop i)]
 rw [Q4u, Q4u, Q4v lo hi _ h1, List.nil_append, List.drop_drop, show i + (j - i) = j by omega, Q4x lo hi _ (fun p hp' => h2 p (List.mem_of_mem_take hp')) hlt]
theorem Q4A {h : Nat} {ks : List (Kid h)} {lo : ByteArray} (hk : KW h ks) : ∀ p ∈ yA h (ks.take (qs ks lo)), bl p.1 lo = true := by
 intro p hp
 obtain ⟨a, ha, hp⟩ := yX.1 hp
 obtain ⟨x, hx⟩ := List.mem_iff_getElem?.1 ha
 rw [List.getElem?_take] at hx
 split at hx
 ·rename_i hlt
  have hlt' : x + 1 < (ks.takeWhile fun a => !bl lo a.1).length := by unfold qs at hlt; omega
  have hpre : (ks.takeWhile fun a => !bl lo a.1) <+: ks := List.takeWhile_prefix _
  obtain ⟨b, hb⟩ : ∃ b, (ks.takeWhile fun a => !bl lo a.1)[x + 1]? = some b := ⟨_, List.getElem?_eq_getElem hlt'⟩
  have hbl : bl lo b.1 = false := by
   have := List.all_takeWhile (p := fun a : Kid h => !bl lo a.1) (l := ks)
   rw [List.all_eq_true] at this
   have := this b (List.mem_of_getElem? hb)
   simpa using this
  have hb' : ks[x + 1]? = some b := by
   obtain ⟨r, hr⟩ := hpre
   rw [<- hr, List.getElem?_append_left hlt']
   exact hb
  have hx' := List.getElem?_eq_some_iff.1 hx
  have hb'' := List.getElem?_eq_some_iff.1 hb'
  have hbef := List.pairwise_iff_getElem.1 hk.ord x (x + 1) hx'.1 hb''.1 (by omega)
  rw [hx'.2, hb''.2] at hbef
  exact qj (hbef.2 p hp) hbl
 ·cases hx
theorem Q4B {h : Nat} {ks : List (Kid h)} {hi : ByteArray} {j : Nat} {a : Kid h} (hk : KW h ks) (hj : ks[j]? = some a) (ha : bl a.1 hi = false) : ∀ p ∈ yA h (ks.drop j), bl p.1 hi = false := by
 intro p hp
 have hjl := List.getElem?_eq_some_iff.1 hj
 have hd : ks.drop j = a :: ks.drop (j + 1) := by rw [List.drop_eq_getElem_cons hjl.1, hjl.2]
 have hkd : KW h (ks.drop j) := hk.sub (List.drop_sublist j ks)
 rw [hd] at hp hkd
 obtain ⟨b, hb, hp⟩ := yX.1 hp
 have h1 := hkd.froms b hb
 have h2 := (WFN.keys (hkd.all b hb) p hp).1
 exact gz h2 (gz h1 ha)
theorem Q4C {h : Nat} {ks : List (Kid h)} {hi : ByteArray} {j : Nat} {a : Kid h} (hk : KW h ks) (hj : ks[j]? = some a) {q : Pr} (hq : q ∈ yN h a.2) (hqh : bl q.1 hi = false) : ∀ p ∈ yA h (ks.drop (j + 1)), bl p.1 hi = false := by
 intro p hp
 have hjl := List.getElem?_eq_some_iff.1 hj
 have hd : ks.drop j = a :: ks.drop (j + 1) := by rw [List.drop_eq_getElem_cons hjl.1, hjl.2]
 have hkd : KW h (ks.drop j) := hk.sub (List.drop_sublist j ks)
 rw [hd] at hkd
 obtain ⟨b, hb, hp⟩ := yX.1 hp
 have h1 := ((List.pairwise_cons.1 hkd.ord).1 b hb).2 q hq
 have h2 := (WFN.keys (hkd.all b (by simp [hb])) p hp).1
 exact gz h2 (gz (Qp h1) hqh)
def qY (nm : String) (x : Value) (f : FuncId) (v : Value) : Prop :=
 ∃ t, x = .iface t v /\ (∀ W, (Go.method 391 t v nm).run prog W = .ok (f, v) W) /\ ∀ (args : Array Value) (W : World), (callFunc f args).run prog W = .ok (.enter f args) W
theorem Q4D (p : Option Addr) (n c : Nat) : qY "store/tree.size" (.iface 135 (.slice p n c)) 191 (.slice p n c) := ⟨_, rfl, fun _ => by kernel_rfl, fun _ _ => by kernel_rfl⟩
theorem Q4E (p : Option Addr) (n c : Nat) : qY "store/tree.size" (.iface 180 (.slice p n c)) 221 (.slice p n c) := ⟨_, rfl, fun _ => by kernel_rfl, fun _ _ => by kernel_rfl⟩
def Sm : (h : Nat) -> Nd h -> Prop
 | 0, l => (∀ p : Pr, List.Mem p l -> okp p) /\ List.length (α := Pr) l <= 1000
 | h + 1, ks => List.length (α := Kid h) ks <= 1000
theorem Q4F (l : List Pr) : l.length <= (l.map psz).sum := by
 induction l with
 | nil => simp
 | cons p r ih => have := Q2K p; simp; omega
theorem Sm.of {h : Nat} {f : ByteArray} {n : Nd h} (hw : WFN h f n) (hs : yl h n <= 1000) : Sm h n := by
 cases h with
 | zero =>
  refine ⟨fun p hp => (hw.2 p hp).2, ?_⟩
  have := Q4F n
  have e : yl 0 n = (List.map psz n).sum := rfl
  omega
 | succ h =>
  have e : yl (h + 1) n = 11 * List.length (α := Kid h) n := rfl
  show List.length (α := Kid h) n <= 1000
  omega
theorem Q4G (xs : List KE) : (xs.map ksz).sum = 11 * xs.length := by
 induction xs with
 | nil => rfl
 | cons a r ih => simp [ih, ksz]; omega
theorem Q4H (v : Value) (l : List Pr) (w : World) (h : LF w v l) (hs : Sm 0 l) : Calls prog 191 #[v] w fun e w' => e = .returned (.int .i64 (yl 0 l : Nat)) /\ y5 [] w w' := by
 have HM : Hid (Calls _ _ _ _ _) := Q3s v l w h (by have := hs.2; omega) fun x hx => Z5 (hs.1 x hx)
 obtain ⟨p, c, ev⟩ := SL.shape h
 rw [List.length_map] at ev
 subst ev
 go_enter func191, ntmps191
 go_wp2_with (first | (go_at_call 196; refine HM.out.mono ?_; rintro e w1 ⟨rfl, hk1⟩))
 go_ret
 exact ⟨rfl, hk1⟩
theorem Q4I (v : Value) (xs : List KE) (w : World) (h : SL w 75 3 v (xs.map ke)) (hl : xs.length <= 1000) (ho : ∀ x ∈ xs, ∃ t v, x.2 = .iface t v) : Calls prog 221 #[v] w fun e w' => e = .returned (.int .i64 (11 * xs.length : Nat)) /\ y5 [] w w' := by
 have HM : Hid (Calls _ _ _ _ _) := Q3v v xs w h (by omega) (fun x hx => by show 11 <= 22; omega) ho
 rw [Q4G] at HM
 obtain ⟨p, c, ev⟩ := SL.shape h
 rw [List.length_map] at ev
 subst ev
 go_enter func221, ntmps221
 go_wp2_with (first | (go_at_call 229; refine HM.out.mono ?_; rintro e w1 ⟨rfl, hk1⟩))
 go_ret
 exact ⟨rfl, hk1⟩
theorem ND.k {w W : World} {A : Nat -> Prop} {h : Nat} {n : Nd h} {x : Value} (hx : ND w A h n x) (k : y5 [] w W) : ND W A h n x := ND.kept k (by simp) (fun _ h => h) hx
theorem F2.k {w W : World} {A : Nat -> Prop} {h : Nat} {ks : List (Kid h)} {xs : List KE} (hx : F2 (KR w A h) ks xs) (k : y5 [] w W) : F2 (KR W A h) ks xs := hx.mono fun _ _ _ hr => KR.kept hr k (by simp) fun _ h => h
theorem Qb {w : World} {A : Nat -> Prop} {h : Nat} {n : Nd h} {x : Value} (hx : ND w A h n x) (hs : Sm h n) :
  ∃ f v, qY "store/tree.size" x f v /\ ∀ W, y5 [] w W -> Calls prog f #[v] W fun e w' => e = .returned (.int .i64 (yl h n : Nat)) /\ y5 [] W w' := by
 cases h with
 | zero =>
  obtain ⟨v, rfl, hl, _⟩ := hx
  have HC := fun W k => Q4H v n W (hl.kept k) hs
  obtain ⟨p, c, ev⟩ := SL.shape hl
  subst ev
  exact ⟨_, _, Q4D _ _ _, HC⟩
 | succ h =>
  obtain ⟨v, xs, rfl, hl, _, hf⟩ := qE.1 hx
  have hlen : xs.length = List.length (α := Kid h) n := hf.1.symm
  have HC := fun W k => Q4I v xs W (hl.kept k) (by rw [hlen]; exact hs) (qS hf)
  rw [hlen] at HC
  obtain ⟨p, c, ev⟩ := SL.shape hl
  subst ev
  exact ⟨_, _, Q4E _ _ _, HC⟩
end Go.Proofs.YtcklgafpgdhnaabGreatDoor
