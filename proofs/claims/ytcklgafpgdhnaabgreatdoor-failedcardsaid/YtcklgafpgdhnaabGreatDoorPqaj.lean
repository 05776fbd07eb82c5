import Derived.Test.YtcklgafpgdhnaabGreatDoorPqai
import Derived.Test.YtcklgafpgdhnaabGreatDoorPqag
import Derived.Lib.AppendZerosOnto
import Derived.Lib.Overlaps
import Derived.Test.YtcklgafpgdhnaabGreatDoorPqab
set_option maxRecDepth 100000
set_option maxHeartbeats 4000000
open Go.Proofs.Tryz
open Go.Act renaming put → zP
open List renaming getElem_toArray → zA, getElem_cons_succ → zB, getElem_cons_zero → zC, setIfInBounds_toArray → zD, set_cons_succ → zE, set_cons_zero → zF
namespace Go.Proofs.YtcklgafpgdhnaabGreatDoor
open Go.RowKit
def yS (d g o cap l : Nat) : Addr := if cap = l then ⟨g, o, none⟩ else ⟨g, o + l * d, none⟩
theorem jk (d g o cap l : Nat) : (yS d g o cap l).block = g := by unfold yS; split <;> rfl
section
variable {P : Program} (w : World) (t e : TypeId) (d g o n cap : Nat) (hu : P.underlying t = some (.slice e)) (hs : (P.info? e).map (·.size) = some d)
include hu hs
theorem yq (h : Nat) (hh : h <= cap) :
  (Instr.sliceAt t (.slice (some ⟨g, o, none⟩) n cap) none (some (.int .i64 h)) none).run P w = .ok (.slice (some ⟨g, o, none⟩) h cap) w := by
 cases hq : P.info? e with
 | none => simp [hq] at hs
 | some ie =>
  simp [Instr.sliceAt, Instr.slice, run_underlying hu, Instr.sliceBounds, Instr.sliceBound, asIntOf, sizeOf, typeInfo, hq, hh, Addr.add]
theorem yi (l : Nat) (hl : l <= n) :
  (Instr.sliceAt t (.slice (some ⟨g, o, none⟩) n cap) (some (.int .i64 l)) none none).run P w = .ok (.slice (some (yS d g o cap l)) (n - l) (cap - l)) w := by
 cases hq : P.info? e with
 | none => simp [hq] at hs
 | some ie =>
  have hsz : ie.size = d := by simpa [hq] using hs
  unfold yS
  by_cases hcl : cap = l
  ·simp [Instr.sliceAt, Instr.slice, run_underlying hu, Instr.sliceBounds, Instr.sliceBound, asIntOf, sizeOf, typeInfo, hq, hl, hcl]
  ·simp [Instr.sliceAt, Instr.slice, run_underlying hu, Instr.sliceBounds, Instr.sliceBound, asIntOf, sizeOf, typeInfo, hq, hsz, hl, hcl, add_lit]
theorem qd (l h : Nat) (hl : l <= h) (hh : h <= cap) :
  (Instr.sliceAt t (.slice (some ⟨g, o, none⟩) n cap) (some (.int .i64 l)) (some (.int .i64 h)) none).run P w = .ok (.slice (some (yS d g o cap l)) (h - l) (cap - l)) w := by
 cases hq : P.info? e with
 | none => simp [hq] at hs
 | some ie =>
  have hsz : ie.size = d := by simpa [hq] using hs
  unfold yS
  by_cases hcl : cap = l
  ·have e1 : h = l := by omega
   subst e1
   subst hcl
   simp [Instr.sliceAt, Instr.slice, run_underlying hu, Instr.sliceBounds, Instr.sliceBound, asIntOf, sizeOf, typeInfo, hq]
  ·simp [Instr.sliceAt, Instr.slice, run_underlying hu, Instr.sliceBounds, Instr.sliceBound, asIntOf, sizeOf, typeInfo, hq, hsz, hl, hh, hcl, add_lit]
end
theorem muld (a b c d : Nat) (h : a + b <= c) : a * d + b * d <= c * d := by
 rw [<- Nat.add_mul]
 exact Nat.mul_le_mul_right d h
def Rw (w : World) (g : Nat) (t : TypeId) (cur : List Value) : Prop := w.heap[g]? = some (.cells cur.toArray t (0, 0))
theorem Rw.kept {w w' : World} {g : Nat} {t : TypeId} {cur : List Value} {S : List Nat} (h : Rw w g t cur) (k : y5 S w w') (hg : g ∉ S) : Rw w' g t cur := y5.get k h hg
theorem Rw.drew {w : World} {g : Nat} {t : TypeId} {cur : List Value} (h : Rw w g t cur) : Rw w.drew g t cur := h
theorem Rw.src {w : World} {g : Nat} {t : TypeId} {cur : List Value} {d : Nat} (h : Rw w g t cur) (cap l k : Nat) (hl : l + k <= cap) : ∀ j u, ((cur.drop (l * d)).take (k * d))[j]? = some u -> w.cell? ((yS d g 0 cap l).add j) = some u := by
 intro j u hj
 rw [List.getElem?_take] at hj
 split at hj
 ·rename_i hjk
  have hne : ¬ cap = l := by
   intro e
   have : k = 0 := by omega
   rw [this, Nat.zero_mul] at hjk
   omega
  unfold yS
  rw [if_neg hne, add_lit, cell_of_row _ _ _ _ _ _ h]
  rw [List.getElem?_drop] at hj
  simpa using hj
 ·cases hj
theorem gI {P : Program} {w : World} {g : Nat} {t : TypeId} {cur : List Value} {d : Nat} (h : Rw w g t cur) (dT sT elem : TypeId) (hu : P.underlying dT = some (.slice elem)) (hs : (P.info? elem).map (·.size) = some d) (cap n l : Nat) (hl : l <= n) (hn : n <= cap) (hc : cur.length = cap * d)
  (a : Addr) (m c : Nat) (cs : List Value) (hcs : cs.length = Nat.min m (n - l) * d) (hsrc : ∀ j v, cs[j]? = some v -> w.cell? (a.add j) = some v) (h1 : ∀ v ∈ cs, v.oneCell' = true) :
  ∃ W, (∀ ty, (Builtin.copy_ #[dT, sT] ty #[.slice (some (yS d g 0 cap l)) (n - l) (cap - l), .slice (some a) m c]).run P w = .ok (goInt (Nat.min m (n - l))) W) /\ Rw W g t (splice cur (l * d) cs) /\ y5 [g] w W := by
 have hmin : Nat.min m (n - l) <= n - l := Nat.min_le_right _ _
 by_cases hcl : cap = l
 ·have h0 : Nat.min m (n - l) = 0 := by omega
  have e0 : cs = [] := List.eq_nil_of_length_eq_zero (by rw [hcs, h0, Nat.zero_mul])
  subst e0
  have hr := fun ty => ZB (P := P) w dT sT ty elem g 0 (n - l) (cap - l) d a m c cur.toArray t [] hu hs h (by simp [h0]) hsrc (by simp) h1
  refine ⟨_, ?_, setRow_heap w g _ _ t _ h, (y5.refl _ _).setRow (Or.inl (by simp)) _⟩
  intro ty
  unfold yS
  rw [if_pos hcl, hr]
  simp [splice]
 ·have hr := fun ty => ZB (P := P) w dT sT ty elem g (l * d) (n - l) (cap - l) d a m c cur.toArray t cs hu hs h hcs hsrc (by have := muld l (Nat.min m (n - l)) cap d (by omega); simp; omega) h1
  refine ⟨_, ?_, setRow_heap w g _ _ t _ h, (y5.refl _ _).setRow (Or.inl (by simp)) _⟩
  intro ty
  unfold yS
  rw [if_neg hcl, Nat.zero_add, hr]
  simp [splice]
theorem Q3G {P : Program} {w : World} {g : Nat} {t : TypeId} {cur : List Value} {d : Nat} (h : Rw w g t cur) (dT e : TypeId) (z : Value) (ht : P.underlying dT = some (.slice e)) (hv : ∀ w, (zeroValue e).run P w = .ok z w) (hk : z.cells.size = d) (h1 : ∀ u ∈ z.cells.toList, u.oneCell' = true)
  (cap n l : Nat) (hl : l <= n) (hn : n <= cap) (hc : cur.length = cap * d) (hd : 0 < d := by decide) :
  ∃ W zs, zs.length = (n - l) * d /\ (∀ ty, (Builtin.clear_ #[dT] ty #[.slice (some (yS d g 0 cap l)) (n - l) (cap - l)]).run P w = .ok (.tuple #[]) W) /\ Rw W g t (splice cur (l * d) zs) /\ y5 [g] w W := by
 by_cases hcl : cap = l
 ·obtain ⟨W, zs, hz, hr, hg, hkk⟩ := Z6 (P := P) w dT e z ht hv d hk hd h1 g 0 (n - l) (cap - l) cur t h (by have : n - l = 0 := (by omega); rw [this, Nat.zero_mul]; omega)
  refine ⟨W, zs, hz, ?_, ?_, hkk⟩
  ·intro ty; unfold yS; rw [if_pos hcl, hr]
  ·have e0 : zs = [] := List.eq_nil_of_length_eq_zero (by rw [hz, show n - l = 0 by omega, Nat.zero_mul])
   subst e0
   have : splice cur (l * d) ([] : List Value) = splice cur 0 [] := by simp [splice]
   rw [this]; exact hg
 ·obtain ⟨W, zs, hz, hr, hg, hkk⟩ := Z6 (P := P) w dT e z ht hv d hk hd h1 g (l * d) (n - l) (cap - l) cur t h (by have := muld l (n - l) cap d (by omega); omega)
  refine ⟨W, zs, hz, ?_, hg, hkk⟩
  intro ty; unfold yS; rw [if_neg hcl, Nat.zero_add, hr]
theorem Z7 {P : Program} {w : World} {g : Nat} {e : TypeId} {cur : List Value} {d : Nat} (h : Rw w g e cur) (t u du : TypeId) (ht : P.underlying t = some (.slice e)) (hu : P.underlying u = some (.slice du)) (hs : (P.info? e).map (·.size) = some d) (cap n : Nat) (hc : cur.length = cap * d)
  (a : Addr) (m c : Nat) (hroom : n + m <= cap) (cs : List Value) (hcs : cs.length = m * d) (hsrc : ∀ j v, cs[j]? = some v -> w.cell? (a.add j) = some v) (h1 : ∀ v ∈ cs, v.oneCell' = true) :
  ∃ W, (∀ ty, (Builtin.append_ #[t, u] ty #[.slice (some ⟨g, 0, none⟩) n cap, .slice (some a) m c]).run P w = .ok (.slice (some ⟨g, 0, none⟩) (n + m) cap) W) /\ Rw W g e (splice cur (n * d) cs) /\ y5 [g] w W := by
 cases hq : P.info? e with
 | none => simp [hq] at hs
 | some i =>
  have hi : i.size = d := by simpa [hq] using hs
  have hf := run_firstCells_some (P := P) w d m a m c cs hcs hsrc
  have hst := run_storeCells_at P g (n * d) e cs 0 cur.toArray w h (by have := muld n m cap d hroom; simp; omega) h1
  simp only [Nat.add_zero] at hst
  refine ⟨_, ?_, setRow_heap w g _ _ e _ h, (y5.refl _ _).setRow (Or.inl (by simp)) _⟩
  intro ty
  simp [Builtin.append_, run_underlying ht, run_underlying hu, sizeOf, typeInfo, hq, hi, Builtin.lenOf, hroom, hf, Addr.add_lit, hst, splice]
theorem Q3H {P : Program} {w : World} {g : Nat} {e : TypeId} {cur : List Value} {d : Nat} (h : Rw w g e cur) (t u du : TypeId) (i : TypeInfo) (z : Value) (ht : P.underlying t = some (.slice e)) (hu : P.underlying u = some (.slice du)) (hi : P.info? e = some i) (hz : i.zero = some z) (hs : i.size = d) (hb : i.bytes <= 40) (hz2 : z.cells.size = d)
  (cap n : Nat) (hn : n <= cap) (hc : cur.length = cap * d) (a : Addr) (m c : Nat) (hroom : cap < n + m) (hbig : n + m <= 200000) (cs : List Value) (hcs : cs.length = m * d) (hsrc : ∀ j v, cs[j]? = some v -> w.cell? (a.add j) = some v) :
  ∃ W cap' rest, (∀ ty, (Builtin.append_ #[t, u] ty #[.slice (some ⟨g, 0, none⟩) n cap, .slice (some a) m c]).run P w = .ok (.slice (some ⟨w.heap.size, 0, none⟩) (n + m) cap') W) /\ Rw W w.heap.size e (cur.take (n * d) ++ cs ++ rest) /\ (cur.take (n * d) ++ cs ++ rest).length = cap' * d /\ n + m <= cap' /\ cap' <= maxLen /\ y5 [] w W := by
 have holds : ∀ j v, (cur.take (n * d))[j]? = some v -> w.cell? ((⟨g, 0, none⟩ : Addr).add j) = some v := by
  intro j v hj
  rw [List.getElem?_take] at hj
  split at hj
  ·rw [add_lit, cell_of_row _ _ _ _ _ _ h]; simpa using hj
  ·cases hj
 have hlo : (cur.take (n * d)).length = n * d := by have := Nat.mul_le_mul_right d hn; rw [List.length_take]; omega
 have hge := grownCap_ge w (n + m) cap e
 have hcm : grownCap w (n + m) cap e <= maxLen := grownCap_le_maxLen w (n + m) cap e (by unfold maxLen; omega)
 have hfit : Builtin.nextslicecap (n + m) cap * i.bytes <= 281474976710656 := growslice_fits (by omega) (Nat.le_trans (Nat.mul_le_mul_left _ hb) (by omega))
 have h63' : ¬ (9223372036854775807 < ((n : Int) + (m : Int))) := by omega
 have h48' : ¬ (281474976710656 < Builtin.nextslicecap (n + m) cap * i.bytes) := by omega
 have hnr : ¬ (n + m <= cap) := by omega
 have hf := run_firstCells_some (P := P) w.drew i.size m a m c cs (by rw [hs]; exact hcs) (by simpa using hsrc)
 have hf0 := run_firstCells_some (P := P) w.drew i.size n ⟨g, 0, none⟩ n cap (cur.take (n * d)) (by rw [hs]; exact hlo) (by simpa using holds)
 have hr0 := fun ty => run_append_grow (P := P) w t ty e i z ht hi hz ⟨g, 0, none⟩ n cap (cur.take (n * d)) (by rw [hs]; exact hlo) holds a m c cs (by rw [hs]; exact hcs) hsrc hroom (by omega) hfit
 have hr : ∀ ty, (Builtin.append_ #[t, u] ty #[.slice (some ⟨g, 0, none⟩) n cap, .slice (some a) m c]).run P w = (Builtin.append_ #[t, t] ty #[.slice (some ⟨g, 0, none⟩) n cap, .slice (some a) m c]).run P w := by
  intro ty
  simp [Builtin.append_, run_underlying ht, run_underlying hu, sizeOf, typeInfo, hi]
 refine ⟨_, grownCap w (n + m) cap e, (Builtin.zeroCells z.cells (grownCap w (n + m) cap e - (n + m))).toList, fun ty => (hr ty).trans ((hr0 ty).trans rfl), ?_, ?_, hge, hcm, ((y5.refl [] w).drew).alloc _⟩
 ·have := heap_alloc_new w.drew (.cells ((cur.take (n * d)).toArray ++ cs.toArray ++ Builtin.zeroCells z.cells (grownCap w (n + m) cap e - (n + m))) e)
  unfold Rw
  rw [show w.heap.size = w.drew.heap.size from rfl, this]
  simp
 ·simp only [List.length_append, hlo, hcs, Array.length_toList, size_zeroCells, hz2]
  have e := congrArg (· * d) (show n + m + (grownCap w (n + m) cap e - (n + m)) = grownCap w (n + m) cap e by omega)
  simp only [Nat.add_mul] at e
  omega
theorem Z8 {P : Program} {w : World} {g : Nat} {e : TypeId} {cur : List Value} {d : Nat} (h : Rw w g e cur) (t tn : TypeId) (i : TypeInfo) (z : Value) (ht : P.underlying t = some (.slice e)) (hu : P.underlying tn = some (.int .i64)) (hi : P.info? e = some i) (hz : i.zero = some z) (hs : i.size = d) (hb : i.bytes <= 40) (hz2 : z.cells.size = d)
  (cap n : Nat) (hn : n <= cap) (hc : cur.length = cap * d) (m : Nat) (h0 : 0 < m) (hroom : cap < n + m) (hbig : n + m <= 200000) (hd : 0 < d := by decide) :
  ∃ W cap' rest, (∀ ty, (Builtin.append_ #[t, tn] ty #[.slice (some ⟨g, 0, none⟩) n cap, .int .i64 m]).run P w = .ok (.slice (some ⟨w.heap.size, 0, none⟩) (n + m) cap') W) /\ Rw W w.heap.size e (cur.take (n * d) ++ rest) /\ (cur.take (n * d) ++ rest).length = cap' * d /\ n + m <= cap' /\ cap' <= maxLen /\ y5 [] w W := by
 have holds : ∀ j v, (cur.take (n * d))[j]? = some v -> w.cell? ((⟨g, 0, none⟩ : Addr).add j) = some v := by
  intro j v hj
  rw [List.getElem?_take] at hj
  split at hj
  ·rw [add_lit, cell_of_row _ _ _ _ _ _ h]; simpa using hj
  ·cases hj
 have hlo : (cur.take (n * d)).length = n * d := by have := Nat.mul_le_mul_right d hn; rw [List.length_take]; omega
 have hge := grownCap_ge w (n + m) cap e
 have hcm : grownCap w (n + m) cap e <= maxLen := grownCap_le_maxLen w (n + m) cap e (by unfold maxLen; omega)
 have hfit : Builtin.nextslicecap (n + m) cap * i.bytes <= 281474976710656 := growslice_fits (by omega) (Nat.le_trans (Nat.mul_le_mul_left _ hb) (by omega))
 have hf0 := run_firstCells_some (P := P) w.drew i.size n ⟨g, 0, none⟩ n cap (cur.take (n * d)) (by rw [hs]; exact hlo) (by simpa using holds)
 have hr0 := fun ty => Lib.run_append_grow_zeros (P := P) w t tn ty e i z .i64 .i64 ht hu hi hz (some ⟨g, 0, none⟩) n cap (cur.take (n * d)) hf0 m h0 (by rw [hs]; exact hd) hroom (by omega) (Nat.le_trans (Nat.mul_le_mul_left _ hb) (by omega)) hfit
 refine ⟨_, grownCap w (n + m) cap e, (Builtin.zeroCells z.cells m ++ Builtin.zeroCells z.cells (grownCap w (n + m) cap e - (n + m))).toList, hr0, ?_, ?_, hge, hcm, ((y5.refl [] w).drew).alloc _⟩
 ·have := heap_alloc_new w.drew (.cells ((cur.take (n * d)).toArray ++ Builtin.zeroCells z.cells m ++ Builtin.zeroCells z.cells (grownCap w (n + m) cap e - (n + m))) e)
  unfold Rw
  rw [show w.heap.size = w.drew.heap.size from rfl, this]
  simp
 ·simp only [List.length_append, hlo, Array.toList_append, Array.length_toList, size_zeroCells, hz2]
  have e := congrArg (· * d) (show n + m + (grownCap w (n + m) cap e - (n + m)) = grownCap w (n + m) cap e by omega)
  simp only [Nat.add_mul] at e
  omega
theorem Q3I {P : Program} {w : World} {g d : Nat} {e e' : TypeId} {cur : List Value} {cu : Array Value} (tS tR : TypeId) (ht : P.underlying tS = some (.slice e)) (hs : (P.info? e).map (·.size) = some d) (a b : Addr) (la ca lb cb : Nat) (ha : w.heap[a.block]? = some (.cells cu e' (0, 0))) (hb : b.block = g) (h : Rw w g e cur) (hne : a.block ≠ g) (h0 : 0 < cur.length) :
  (Extern.SlicesOverlaps.overlaps #[tS, tS] #[tR] #[.slice (some a) la ca, .slice (some b) lb cb]).run P w = .ok (.bool false) w := by
 have hz : ∀ w, (Go.sizeOf e).run P w = .ok d w := by
  intro w
  cases hq : P.info? e with
  | none => simp [hq] at hs
  | some i =>
   have hi : i.size = d := by simpa [hq] using hs
   simp [sizeOf, typeInfo, hq, hi]
 subst hb
 refine Lib.run_overlaps_apart w tS tR e ht d hz a b la ca lb cb hne e' e cu.size cur.length ?_ ?_ (by omega) ?_ ?_
 ·simp [World.shape?, ha]
 ·unfold Rw at h; simp [World.shape?, h]
 ·simp [World.frozen?, ha]
 ·simp [World.frozen?, ha]
theorem OW.open {w : World} {B : Nat} {t : TypeId} {d : Nat} {v : Value} {es : List El} (h : OW w B t d v es) (h0 : 0 < es.length) : ∃ g cap cur, v = .slice (some ⟨g, 0, none⟩) es.length cap /\ B <= g /\ Rw w g t cur /\ es.length <= cap /\ cap <= maxLen /\ cur.length = cap * d /\ cur.take (es.length * d) = fl es := by
 obtain ⟨⟨_, ⟨rfl, h1⟩ | ⟨g, cap, cur, rfl, hB, hh, h1, h2, h3, htk⟩⟩, _⟩ := h
 ·omega
 ·exact ⟨g, cap, cur.toList, rfl, hB, hh, h1, h2, by simpa using h3, htk⟩
theorem OW.close {w : World} {B : Nat} {t : TypeId} {d : Nat} {es : List El} {g n cap : Nat} {cur : List Value} (hw : Wd d es) (hB : B <= g) (h : Rw w g t cur) (hn : n = es.length) (h1 : n <= cap) (h2 : cap <= maxLen) (h3 : cur.length = cap * d) (htk : cur.take (n * d) = fl es) : OW w B t d (.slice (some ⟨g, 0, none⟩) n cap) es := by
 subst hn
 exact ⟨⟨qb hw, Or.inr ⟨g, cap, cur.toArray, rfl, hB, h, h1, h2, by simpa using h3, htk⟩⟩, hw⟩
def gj (B : Nat) (t : TypeId) (d : Nat) (v : Value) (es : List El) (w : World) (e : Ending) (w' : World) : Prop := ∃ v', e = .returned v' /\ OW w' B t d v' es /\ y5 v.ownBlock.toList w w'
theorem Q3J (es : List El) (hw : Wd 2 es) (cur zs : List Value) (i n : Nat) (hn : n = es.length) (hi : i < n) (htk : cur.take (n * 2) = fl es) :
  (splice (splice cur (i * 2) ((cur.drop ((i + 1) * 2)).take ((n - (i + 1)) * 2))) ((n - 1) * 2) zs).take ((n - 1) * 2) = fl (es.take i ++ es.drop (i + 1)) := by
 have e1 : (cur.drop ((i + 1) * 2)).take ((n - (i + 1)) * 2) = fl (es.drop (i + 1)) := by
  rw [<- Q05 hw, <- htk, List.drop_take]
  congr 1; omega
 have e2 : cur.take (i * 2) = fl (es.take i) := by
  rw [<- Q04 hw, <- htk, List.take_take]
  congr 1; omega
 rw [e1]
 have l1 : (fl (es.take i)).length = i * 2 := by rw [qb (hw.take i), List.length_take]; omega
 have l2 : (fl (es.drop (i + 1))).length = (n - (i + 1)) * 2 := by rw [qb (hw.drop _), List.length_drop]; omega
 unfold splice
 rw [e2, yW]
 have l3 : (fl (es.take i) ++ (fl (es.drop (i + 1)) ++ cur.drop (i * 2 + (fl (es.drop (i + 1))).length))).take ((n - 1) * 2) = fl (es.take i) ++ fl (es.drop (i + 1)) := by
  rw [<- List.append_assoc, List.take_append_of_le_length (by rw [List.length_append, l1, l2]; omega), List.take_of_length_le (by rw [List.length_append, l1, l2]; omega)]
 rw [l3, List.take_append_of_le_length (by rw [List.length_append, l1, l2]; omega), List.take_of_length_le (by rw [List.length_append, l1, l2]; omega)]
theorem zvp (w : World) : (zeroValue 138).run prog w = .ok (.agg #[.string ⟨#[]⟩, .string ⟨#[]⟩]) w := by kernel_rfl
theorem j5 {d : Nat} {es : List El} (h1 : One d es) {cur : List Value} {n : Nat} (htk : cur.take (n * d) = fl es) (l k : Nat) (hlk : l + k <= n) : ∀ u ∈ (cur.drop (l * d)).take (k * d), u.oneCell' = true := by
 intro u hu
 refine h1.fl u ?_
 rw [<- htk]
 obtain ⟨j, hj⟩ := List.mem_iff_getElem?.1 hu
 rw [List.getElem?_take] at hj
 have hb := Nat.mul_le_mul_right d hlk
 rw [Nat.add_mul] at hb
 split at hj
 ·rw [List.getElem?_drop] at hj
  refine List.mem_of_getElem? (i := l * d + j) ?_
  rw [List.getElem?_take, if_pos (by omega)]
  exact hj
 ·cases hj
theorem Q3K (B : Nat) (vl : Value) (es : List El) (i : Nat) (w : World) (h : OW w B 138 2 vl es) (h1 : One 2 es) (hi : i < es.length) (hl : es.length <= 50000) :
  Calls prog 114 #[vl, .int .i64 i, .int .i64 ((i : Int) + 1)] w (gj B 138 2 vl (es.take i ++ es.drop (i + 1)) w) := by
 obtain ⟨g, cap, cur, rfl, hB, hg, hc1, hc2, hc3, htk⟩ := h.open (by omega)
 have f1 : (i : Int) <= (i : Int) + 1 := by omega
 have f2 : (i : Int) + 1 <= (es.length : Int) := by omega
 have f3 : (es.length : Int) <= (cap : Int) := by omega
 have f4 : ¬ (i : Int) = (i : Int) + 1 := by omega
 have hcs : ((cur.drop ((i + 1) * 2)).take ((es.length - (i + 1)) * 2)).length = (es.length - (i + 1)) * 2 := by rw [List.length_take, List.length_drop]; omega
 obtain ⟨w1, hr1, hg1, k1⟩ := Z7 (P := prog) hg.drew 135 135 138 underlying135 underlying135 stp cap i hc3 (yS 2 g 0 cap (i + 1)) (es.length - (i + 1)) (cap - (i + 1)) (by omega) ((cur.drop ((i + 1) * 2)).take ((es.length - (i + 1)) * 2)) hcs (hg.drew.src cap (i + 1) (es.length - (i + 1)) (by omega)) (j5 h1 htk (i + 1) _ (by omega))
 have hsp : (splice cur (i * 2) ((cur.drop ((i + 1) * 2)).take ((es.length - (i + 1)) * 2))).length = cap * 2 := by rw [length_splice _ _ _ (by rw [hcs]; omega), hc3]
 have elen : i + (es.length - (i + 1)) = es.length - 1 := by omega
 rw [elen] at hr1
 have K1 : y5 [g] w w1 := ((y5.refl [g] w).drew).trans k1
 have hslc : ∀ W : World, (Instr.sliceAt 135 (.slice (some ⟨g, 0, none⟩) (es.length - 1) cap) (some (.int .i64 ((es.length - 1 : Nat) : Int))) (some (.int .i64 (es.length : Int))) none).run prog W = .ok (.slice (some (yS 2 g 0 cap (es.length - 1))) (es.length - (es.length - 1)) (cap - (es.length - 1))) W := fun W => qd W 135 138 2 g 0 (es.length - 1) cap underlying135 stp (es.length - 1) es.length (by omega) (by omega)
 obtain ⟨w2, zs, hzs, hr2, hg2, k2⟩ := Q3G (P := prog) hg1 135 138 _ underlying135 zvp (by rfl) (by intro u hu; simp [Value.cells] at hu; rcases hu with rfl | rfl <;> rfl) cap es.length (es.length - 1) (by omega) (by omega) hsp
 have fin : gj B 138 2 (.slice (some ⟨g, 0, none⟩) es.length cap) (es.take i ++ es.drop (i + 1)) w (.returned (.slice (some ⟨g, 0, none⟩) (es.length - 1) cap)) w2 := by
  refine ⟨_, rfl, OW.close (h1.wd.take i |>.app (h1.wd.drop _)) hB hg2 (by simp; omega) (by omega) hc2 (by rw [length_splice _ _ _ (by rw [hzs, hsp]; omega), hsp]) (Q3J es h1.wd cur zs i es.length rfl hi htk), ?_⟩
  exact K1.trans k2
 have FIN : Hid _ := fin
 clear fin K1 k2 hg2 hzs
 go_enter func114, ntmps114
 go_wp2
 refine yj (fun _ : World => True) (by kernel_rfl) ?_
 refine hu 0 (.slice (some ⟨g, 0, none⟩) es.length cap) rfl (fun W hW => by rfl) trivial ?_
 simp only [zP, zA, zC, zD, zE, zF]
 refine hu 1 (.int .i64 i) rfl (fun W hW => by rfl) trivial ?_
 simp only [zP, zA, zB, zC, zD, zE, zF]
 refine hu 2 (.slice (some ⟨g, 0, none⟩) i cap) rfl (fun W hW => yu 135 (.tmp 20) none (some (.tmp 21)) none rfl _ none (some (.int .i64 i)) none rfl rfl rfl rfl _ (yq W 135 138 2 g 0 es.length cap underlying135 stp i (by omega))) trivial ?_
 simp only [zP, zA, zB, zC, zD, zE, zF]
 refine hu 3 (.slice (some ⟨g, 0, none⟩) es.length cap) rfl (fun W hW => by rfl) trivial ?_
 simp only [zP, zA, zB, zC, zD, zE, zF]
 refine hu 4 (.int .i64 ((i : Int) + 1)) rfl (fun W hW => by rfl) trivial ?_
 simp only [zP, zA, zB, zC, zD, zE, zF]
 refine hu 5 (.slice (some (yS 2 g 0 cap (i + 1))) (es.length - (i + 1)) (cap - (i + 1))) rfl (fun W hW => yu 135 (.tmp 23) (some (.tmp 24)) none none rfl _ (some (.int .i64 ((i + 1 : Nat) : Int))) none none rfl rfl rfl rfl _ (yi W 135 138 2 g 0 es.length cap underlying135 stp (i + 1) (by omega))) trivial ?_
 simp only [zP, zA, zB, zC, zD, zE, zF]
 refine yf (i := 6) (by kernel_rfl) (yy rfl (by rfl) _ w1 (yG (.tmp 22) (.tmp 25) 135 135 rfl _ _ rfl rfl _ (hr1 _)) ⟨trivial, ?_⟩)
 simp only [zP, zA, zB, zC, zD, zE, zF]
 refine yf (i := 7) (by kernel_rfl) (yy rfl (by rfl) (.slice (some ⟨g, 0, none⟩) (es.length - 1) cap) w1 rfl ⟨trivial, ?_⟩)
 simp only [zP, zA, zB, zC, zD, zF]
 refine wpAnyH_done (by kernel_rfl) ?_ _
 go_wp2_with (first
  | (at_builtin; (refine y8 rfl _ w2 (jS (.tmp 31) 135 rfl _ rfl _ (hr2 _)) ?_)))
 go_ret
 exact FIN.out
section
variable {α : Type}
theorem yO (L cs : List α) (o k : Nat) (hk : k <= o) (ho : o <= L.length) : (splice L o cs).take k = L.take k := by
 unfold splice
 rw [List.take_append_of_le_length (by rw [List.length_take]; omega), List.take_take, Nat.min_eq_left hk]
theorem gX (L cs : List α) (o k : Nat) (hk : o + cs.length <= k) (ho : o <= L.length) : (splice L o cs).drop k = L.drop k := by
 unfold splice
 rw [List.drop_append, List.drop_of_length_le (by rw [List.length_take]; omega), List.nil_append, List.length_take, Nat.min_eq_left ho, List.drop_append, List.drop_of_length_le (by omega), List.nil_append, List.drop_drop]
 congr 1; omega
theorem qn (L cs : List α) (o : Nat) (ho : o <= L.length) : ((splice L o cs).drop o).take cs.length = cs := by
 unfold splice
 rw [List.drop_append, List.drop_of_length_le (by rw [List.length_take]; omega), List.nil_append, List.length_take, Nat.min_eq_left ho, Nat.sub_self, List.drop_zero, List.take_append_of_le_length (Nat.le_refl _), List.take_of_length_le (Nat.le_refl _)]
theorem jl (L : List α) (a b c : Nat) : L.take (a + b + c) = L.take a ++ ((L.drop a).take b ++ (L.drop (a + b)).take c) := by
 rw [Nat.add_assoc, List.take_add, List.take_add, List.drop_drop]
end
section
variable {d : Nat} (hd : d = 2 \/ d = 3) (es vs : List El) (hwe : Wd d es) (hwv : Wd d vs) (cur : List Value) (i j n m : Nat) (hn : n = es.length) (hm : m = vs.length) (hij : i <= j) (hjn : j <= n) (htk : cur.take (n * d) = fl es)
include hwe hn htk
set_option linter.unusedSectionVars false in
theorem Zp (_hjn : j <= n) : (cur.drop (j * d)).take ((n - j) * d) = fl (es.drop j) := by
 rw [<- Q05 hwe, <- htk, List.drop_take]
 congr 1; rw [Nat.sub_mul]
set_option linter.unusedSectionVars false in
theorem js (hin : i <= n) : cur.take (i * d) = fl (es.take i) := by
 rw [<- Q04 hwe, <- htk, List.take_take]
 congr 1; exact (Nat.min_eq_left (Nat.mul_le_mul_right d hin)).symm
include hd hwv hm hij hjn
theorem ZX (hc : (i + m + (n - j)) * d <= cur.length) :
  (splice (splice cur ((i + m) * d) ((cur.drop (j * d)).take ((n - j) * d))) (i * d) (fl vs)).take ((i + m + (n - j)) * d) = fl (es.take i ++ vs ++ es.drop j) := by
 rcases hd with rfl | rfl
 ·rw [Zp es hwe cur j n hn htk hjn]
  have l1 : (fl vs).length = m * 2 := by rw [qb hwv, hm]
  have l2 : (fl (es.drop j)).length = (n - j) * 2 := by rw [qb (hwe.drop j), List.length_drop, hn]
  have l3 : (splice cur ((i + m) * 2) (fl (es.drop j))).length = cur.length := length_splice _ _ _ (by omega)
  rw [show (i + m + (n - j)) * 2 = i * 2 + m * 2 + (n - j) * 2 by omega, jl]
  rw [yO _ _ _ _ (Nat.le_refl _) (by omega), yO _ _ _ _ (by omega) (by omega), js es hwe cur i n hn htk (by omega)]
  rw [<- l1, qn _ _ _ (by omega), gX _ _ _ _ (Nat.le_refl _) (by omega), l1, <- Nat.add_mul, <- l2, qn _ _ _ (by omega), yW, yW, List.append_assoc]
 ·rw [Zp es hwe cur j n hn htk hjn]
  have l1 : (fl vs).length = m * 3 := by rw [qb hwv, hm]
  have l2 : (fl (es.drop j)).length = (n - j) * 3 := by rw [qb (hwe.drop j), List.length_drop, hn]
  have l3 : (splice cur ((i + m) * 3) (fl (es.drop j))).length = cur.length := length_splice _ _ _ (by omega)
  rw [show (i + m + (n - j)) * 3 = i * 3 + m * 3 + (n - j) * 3 by omega, jl]
  rw [yO _ _ _ _ (Nat.le_refl _) (by omega), yO _ _ _ _ (by omega) (by omega), js es hwe cur i n hn htk (by omega)]
  rw [<- l1, qn _ _ _ (by omega), gX _ _ _ _ (Nat.le_refl _) (by omega), l1, <- Nat.add_mul, <- l2, qn _ _ _ (by omega), yW, yW, List.append_assoc]
theorem Q3L (zs : List Value) (hmj : i + m <= j) (hc : n * d <= cur.length) :
  (splice (splice (splice cur (i * d) (fl vs)) ((i + m) * d) (((splice cur (i * d) (fl vs)).drop (j * d)).take ((n - j) * d))) ((i + m + (n - j)) * d) zs).take ((i + m + (n - j)) * d) = fl (es.take i ++ vs ++ es.drop j) := by
 rcases hd with rfl | rfl
 ·have l1 : (fl vs).length = m * 2 := by rw [qb hwv, hm]
  have l2 : (fl (es.drop j)).length = (n - j) * 2 := by rw [qb (hwe.drop j), List.length_drop, hn]
  have l3 : (splice cur (i * 2) (fl vs)).length = cur.length := length_splice _ _ _ (by omega)
  rw [gX cur _ _ _ (by omega) (by omega), Zp es hwe cur j n hn htk hjn]
  have l4 : (splice (splice cur (i * 2) (fl vs)) ((i + m) * 2) (fl (es.drop j))).length = cur.length := by rw [length_splice _ _ _ (by omega), l3]
  rw [yO _ _ _ _ (Nat.le_refl _) (by omega), show (i + m + (n - j)) * 2 = i * 2 + m * 2 + (n - j) * 2 by omega, jl]
  rw [yO _ _ _ _ (by omega) (by omega), yO _ _ _ _ (Nat.le_refl _) (by omega), js es hwe cur i n hn htk (by omega)]
  rw [<- Nat.add_mul, <- l2, qn _ _ _ (by omega)]
  have e1 : (List.drop (i * 2) (splice (splice cur (i * 2) (fl vs)) ((i + m) * 2) (fl (es.drop j)))).take (m * 2) = fl vs := by
   have : ((splice (splice cur (i * 2) (fl vs)) ((i + m) * 2) (fl (es.drop j))).take ((i + m) * 2)).drop (i * 2) = fl vs := by
    rw [yO _ _ _ _ (Nat.le_refl _) (by omega), List.drop_take, show (i + m) * 2 - i * 2 = m * 2 by omega, <- l1, qn _ _ _ (by omega)]
   rw [List.drop_take, show (i + m) * 2 - i * 2 = m * 2 by omega] at this
   exact this
  rw [e1, yW, yW, List.append_assoc]
 ·have l1 : (fl vs).length = m * 3 := by rw [qb hwv, hm]
  have l2 : (fl (es.drop j)).length = (n - j) * 3 := by rw [qb (hwe.drop j), List.length_drop, hn]
  have l3 : (splice cur (i * 3) (fl vs)).length = cur.length := length_splice _ _ _ (by omega)
  rw [gX cur _ _ _ (by omega) (by omega), Zp es hwe cur j n hn htk hjn]
  have l4 : (splice (splice cur (i * 3) (fl vs)) ((i + m) * 3) (fl (es.drop j))).length = cur.length := by rw [length_splice _ _ _ (by omega), l3]
  rw [yO _ _ _ _ (Nat.le_refl _) (by omega), show (i + m + (n - j)) * 3 = i * 3 + m * 3 + (n - j) * 3 by omega, jl]
  rw [yO _ _ _ _ (by omega) (by omega), yO _ _ _ _ (Nat.le_refl _) (by omega), js es hwe cur i n hn htk (by omega)]
  rw [<- Nat.add_mul, <- l2, qn _ _ _ (by omega)]
  have e1 : (List.drop (i * 3) (splice (splice cur (i * 3) (fl vs)) ((i + m) * 3) (fl (es.drop j)))).take (m * 3) = fl vs := by
   have : ((splice (splice cur (i * 3) (fl vs)) ((i + m) * 3) (fl (es.drop j))).take ((i + m) * 3)).drop (i * 3) = fl vs := by
    rw [yO _ _ _ _ (Nat.le_refl _) (by omega), List.drop_take, show (i + m) * 3 - i * 3 = m * 3 by omega, <- l1, qn _ _ _ (by omega)]
   rw [List.drop_take, show (i + m) * 3 - i * 3 = m * 3 by omega] at this
   exact this
  rw [e1, yW, yW, List.append_assoc]
theorem Q3M (rest : List Value) (hc : (i + m + (n - j)) * d <= (cur.take (i * d) ++ rest).length) (hin : i * d <= cur.length) :
  (splice (splice (cur.take (i * d) ++ rest) (i * d) (fl vs)) ((i + m) * d) ((cur.drop (j * d)).take ((n - j) * d))).take ((i + m + (n - j)) * d) = fl (es.take i ++ vs ++ es.drop j) := by
 rcases hd with rfl | rfl
 ·rw [Zp es hwe cur j n hn htk hjn]
  have l1 : (fl vs).length = m * 2 := by rw [qb hwv, hm]
  have l2 : (fl (es.drop j)).length = (n - j) * 2 := by rw [qb (hwe.drop j), List.length_drop, hn]
  have l3 : (splice (cur.take (i * 2) ++ rest) (i * 2) (fl vs)).length = (cur.take (i * 2) ++ rest).length := length_splice _ _ _ (by omega)
  rw [show (i + m + (n - j)) * 2 = i * 2 + m * 2 + (n - j) * 2 by omega, jl]
  rw [yO _ _ _ _ (by omega) (by omega), yO _ _ _ _ (Nat.le_refl _) (by omega)]
  rw [<- Nat.add_mul, <- l2, qn _ _ _ (by omega)]
  have e0 : (cur.take (i * 2) ++ rest).take (i * 2) = fl (es.take i) := by
   rw [List.take_append_of_le_length (by rw [List.length_take]; omega), List.take_take, Nat.min_self, js es hwe cur i n hn htk (by omega)]
  have e1 : (List.drop (i * 2) (splice (splice (cur.take (i * 2) ++ rest) (i * 2) (fl vs)) ((i + m) * 2) (fl (es.drop j)))).take (m * 2) = fl vs := by
   have : ((splice (splice (cur.take (i * 2) ++ rest) (i * 2) (fl vs)) ((i + m) * 2) (fl (es.drop j))).take ((i + m) * 2)).drop (i * 2) = fl vs := by
    rw [yO _ _ _ _ (Nat.le_refl _) (by omega), List.drop_take, show (i + m) * 2 - i * 2 = m * 2 by omega, <- l1, qn _ _ _ (by omega)]
   rw [List.drop_take, show (i + m) * 2 - i * 2 = m * 2 by omega] at this
   exact this
  rw [e0, e1, yW, yW, List.append_assoc]
 ·rw [Zp es hwe cur j n hn htk hjn]
  have l1 : (fl vs).length = m * 3 := by rw [qb hwv, hm]
  have l2 : (fl (es.drop j)).length = (n - j) * 3 := by rw [qb (hwe.drop j), List.length_drop, hn]
  have l3 : (splice (cur.take (i * 3) ++ rest) (i * 3) (fl vs)).length = (cur.take (i * 3) ++ rest).length := length_splice _ _ _ (by omega)
  rw [show (i + m + (n - j)) * 3 = i * 3 + m * 3 + (n - j) * 3 by omega, jl]
  rw [yO _ _ _ _ (by omega) (by omega), yO _ _ _ _ (Nat.le_refl _) (by omega)]
  rw [<- Nat.add_mul, <- l2, qn _ _ _ (by omega)]
  have e0 : (cur.take (i * 3) ++ rest).take (i * 3) = fl (es.take i) := by
   rw [List.take_append_of_le_length (by rw [List.length_take]; omega), List.take_take, Nat.min_self, js es hwe cur i n hn htk (by omega)]
  have e1 : (List.drop (i * 3) (splice (splice (cur.take (i * 3) ++ rest) (i * 3) (fl vs)) ((i + m) * 3) (fl (es.drop j)))).take (m * 3) = fl vs := by
   have : ((splice (splice (cur.take (i * 3) ++ rest) (i * 3) (fl vs)) ((i + m) * 3) (fl (es.drop j))).take ((i + m) * 3)).drop (i * 3) = fl vs := by
    rw [yO _ _ _ _ (Nat.le_refl _) (by omega), List.drop_take, show (i + m) * 3 - i * 3 = m * 3 by omega, <- l1, qn _ _ _ (by omega)]
   rw [List.drop_take, show (i + m) * 3 - i * 3 = m * 3 by omega] at this
   exact this
  rw [e0, e1, yW, yW, List.append_assoc]
end
theorem Q3N {P : Program} (w : World) (t u ty e d : TypeId) (i : TypeInfo) (ht : P.underlying t = some (.slice e)) (hu : P.underlying u = some (.slice d)) (hi : P.info? e = some i) (b : Option Addr) (n c : Nat) (x : Value) :
  (Builtin.append_ #[t, u] ty #[.slice b n c, x]).run P w = (Builtin.append_ #[t, t] ty #[.slice b n c, x]).run P w := by
 simp [Builtin.append_, run_underlying ht, run_underlying hu, sizeOf, typeInfo, hi]
theorem yY {o : Oper} {a : Act} {w : World} (x y : Operand) (ho : o.op = .binOp .add 3 x y 3) (m n : Nat) (hx : a.eval x = .int .i64 m) (hy : a.eval y = .int .i64 n) (hb : m + n < 1000000000000000000) :
  (execOp a.eval o).run prog w = .ok (.value (.int .i64 ((m + n : Nat) : Int))) w := by
 have hw : IntKind.i64.wrap ((m : Int) + (n : Int)) = (m : Int) + (n : Int) := by rw [IntKind.wrap_i64]; omega
 have hr : (binOp .add 3 (.int .i64 m) (.int .i64 n)).run prog w = .ok (.int .i64 (IntKind.i64.wrap ((m : Int) + (n : Int)))) w := rfl
 rw [hw] at hr
 have hg : (eqGuard .add 3 x y (.int .i64 m) (.int .i64 n)).run prog w = .ok () w := by simp [eqGuard]
 simp [execOp, ho, hx, hy, hr, hg]
theorem gO {a b : Nat} (h : a <= b) : Nat.min a b = a := Nat.min_eq_left h
theorem Q3O {a b : Nat} (h : b <= a) : Nat.min a b = b := Nat.min_eq_right h
theorem Q3P (B : Nat) (es : List El) (i : Nat) (w : World) (g cap : Nat) (cur : List Value) (_hB : B <= g) (hg : Rw w g 138 cur) (hc1 : es.length <= cap) (_hc2 : cap <= maxLen) (hc3 : cur.length = cap * 2) (htk : cur.take (es.length * 2) = fl es) (h1 : One 2 es) (hi : i < es.length) (hl : es.length <= 50000)
  (gv off cv : Nat) (vs : List El) (hv : SL w 138 2 (.slice (some ⟨gv, off, none⟩) vs.length cv) vs) (hv1 : One 2 vs) (hv0 : 0 < vs.length) (hv2 : vs.length <= 1000) (hroom : cap < es.length + vs.length) (hBw : B <= w.heap.size) :
  Calls prog 122 #[.slice (some ⟨g, 0, none⟩) (es.length) cap, .int .i64 i, .slice (some ⟨gv, off, none⟩) vs.length cv] w (gj B 138 2 (.slice (some ⟨g, 0, none⟩) (es.length) cap) (es.take i ++ vs ++ es.drop i) w) := by
 obtain ⟨ie, hie, hz1, hz2, hz3⟩ := info_parts itp
 have gw : g < w.heap.size := (Array.getElem?_eq_some_iff.1 hg).1
 have f1 : (i : Int) <= (es.length : Int) := by omega
 have f2 : ¬ (vs.length : Int) = 0 := by omega
 have f3 : ¬ (i : Int) = (es.length : Int) := by omega
 have f4 : (cap : Int) < (es.length : Int) + (vs.length : Int) := by omega
 obtain ⟨w1, cap2, rest, hr1, hg1, hc4, hc5, hc6, k1⟩ := Z8 (P := prog) hg 135 3 ie _ underlying135 underlying3 hie hz1 hz2 (by omega) rfl cap i (by omega) hc3 (es.length + vs.length - i) (by omega) (by omega) (by omega)
 rw [show i + (es.length + vs.length - i) = es.length + vs.length by omega] at hr1 hc5
 rw [show ((es.length + vs.length - i : Nat) : Int) = (es.length : Int) + (vs.length : Int) - (i : Int) by omega] at hr1
 obtain ⟨w2, hr2, hg2, k2⟩ := gI (P := prog) hg1 135 134 138 underlying135 stp cap2 (es.length + vs.length) i (by omega) hc5 hc4 ⟨gv, off, none⟩ vs.length cv (fl vs) (by rw [qb hv1.wd, gO (by omega)]) (hv.kept k1).src.2 hv1.fl
 have lcs : ((cur.drop (i * 2)).take ((es.length - i) * 2)).length = (es.length - i) * 2 := by rw [List.length_take, List.length_drop]; omega
 have lfl : (fl vs).length = vs.length * 2 := qb hv1.wd
 have l2 : (splice (cur.take (i * 2) ++ rest) (i * 2) (fl vs)).length = cap2 * 2 := by rw [length_splice _ _ _ (by omega), hc4]
 have hgo : Rw w2.drew g 138 cur := ((hg.kept k1 (by simp)).kept k2 (by simp; omega)).drew
 obtain ⟨w3, hr3, hg3, k3⟩ := gI (P := prog) hg2.drew 135 135 138 underlying135 stp cap2 (es.length + vs.length) (i + vs.length) (by omega) hc5 l2 (yS 2 g 0 cap i) (es.length - i) (cap - i) ((cur.drop (i * 2)).take ((es.length - i) * 2)) (by rw [lcs, gO (by omega)]) (hgo.src cap i (es.length - i) (by omega)) (j5 h1 htk i _ (by omega))
 have fin : gj B 138 2 (.slice (some ⟨g, 0, none⟩) (es.length) cap) (es.take i ++ vs ++ es.drop i) w (.returned (.slice (some ⟨w.heap.size, 0, none⟩) (es.length + vs.length) cap2)) w3 := by
  refine ⟨_, rfl, OW.close (((h1.wd.take i).app hv1.wd).app (h1.wd.drop i)) hBw hg3 (by simp; omega) hc5 hc6 (by rw [length_splice _ _ _ (by rw [lcs, l2]; omega), l2]) ?_, ((k1.trans2 k2 (by intro x hx; simp at hx; omega)).drew.trans2 k3 (by intro x hx; simp at hx; omega)).mono (by simp)⟩
  have := Q3M (Or.inl rfl) es vs h1.wd hv1.wd cur i i es.length vs.length rfl rfl (Nat.le_refl _) (by omega) htk rest (by omega) (by omega)
  rw [show i + vs.length + (es.length - i) = es.length + vs.length by omega] at this
  exact this
 have FIN : Hid _ := fin
 have hsl1 : ∀ W : World, (Instr.sliceAt 135 (.slice (some ⟨g, 0, none⟩) (es.length) cap) none (some (.int .i64 (i : Int))) none).run prog W = .ok (.slice (some ⟨g, 0, none⟩) (i) cap) W := fun W => yq W 135 138 2 g 0 es.length cap underlying135 stp i (by omega)
 have hsl2 : ∀ W : World, (Instr.sliceAt 135 (.slice (some ⟨w.heap.size, 0, none⟩) (es.length + vs.length) cap2) (some (.int .i64 (i : Int))) none none).run prog W = .ok (.slice (some (yS 2 w.heap.size 0 cap2 (i))) (es.length + vs.length - (i)) (cap2 - (i))) W := fun W => yi W 135 138 2 w.heap.size 0 (es.length + vs.length) cap2 underlying135 stp i (by omega)
 clear fin k1 k2 k3 hg3 hg2 hg1 hgo
 go_enter func122, ntmps122
 go_wp2_with (first
  | (at_builtin; (refine y8 rfl _ w1 (yG (.tmp 34) (.tmp 39) 135 3 rfl _ _ rfl rfl _ (hr1 _)) ?_))
  | (at_builtin; (refine y8 rfl _ w2 (yT (.tmp 43) (.tmp 44) 135 134 rfl _ _ rfl rfl _ (hr2 _)) ?_)))
 refine yj (fun _ : World => True) (by kernel_rfl) ?_
 refine hu 0 (.slice (some ⟨w.heap.size, 0, none⟩) (es.length + vs.length) cap2) rfl (fun W hW => by rfl) trivial ?_
 simp only [zP, zA, zC, zD, zE, zF]
 refine hu 1 (.int .i64 i) rfl (fun W hW => by rfl) trivial ?_
 simp only [zP, zA, zB, zC, zD, zE, zF]
 refine hu 2 (.int .i64 vs.length) rfl (fun W hW => by rfl) trivial ?_
 simp only [zP, zA, zB, zC, zD, zE, zF]
 refine hu 3 (.int .i64 ((i + vs.length : Nat) : Int)) rfl (fun W hW => yY (.tmp 47) (.tmp 48) rfl (i) (vs.length) rfl rfl (by omega)) trivial ?_
 simp only [zP, zA, zB, zC, zD, zE, zF]
 refine hu 4 (.slice (some (yS 2 w.heap.size 0 cap2 (i + vs.length))) (es.length + vs.length - (i + vs.length)) (cap2 - (i + vs.length))) rfl (fun W hW => yu 135 (.tmp 46) (some (.tmp 49)) none none rfl _ (some (.int .i64 ((i + vs.length : Nat) : Int))) none none rfl rfl rfl rfl _ (yi W 135 138 2 w.heap.size 0 (es.length + vs.length) cap2 underlying135 stp (i + vs.length) (by omega))) trivial ?_
 simp only [zP, zA, zB, zC, zD, zE, zF]
 refine hu 5 (.slice (some ⟨g, 0, none⟩) (es.length) cap) rfl (fun W hW => by rfl) trivial ?_
 simp only [zP, zA, zB, zC, zD, zE, zF]
 refine hu 6 (.int .i64 i) rfl (fun W hW => by rfl) trivial ?_
 simp only [zP, zA, zB, zC, zD, zE, zF]
 refine hu 7 (.slice (some (yS 2 g 0 cap (i))) (es.length - (i)) (cap - (i))) rfl (fun W hW => yu 135 (.tmp 51) (some (.tmp 52)) none none rfl _ (some (.int .i64 ((i : Nat) : Int))) none none rfl rfl rfl rfl _ (yi W 135 138 2 g 0 (es.length) cap underlying135 stp (i) (by omega))) trivial ?_
 simp only [zP, zA, zB, zC, zD, zE, zF]
 refine yf (i := 8) (by kernel_rfl) (yy rfl (by rfl) _ w3 (yT (.tmp 50) (.tmp 53) 135 135 rfl _ _ rfl rfl _ (hr3 _)) ⟨trivial, ?_⟩)
 simp only [zP, zA, zB, zC, zD, zE, zF]
 refine wpAnyH_done (by kernel_rfl) ?_ _
 go_wp2
 go_ret
 exact FIN.out
theorem Q3Q (B : Nat) (es : List El) (i : Nat) (w : World) (g cap : Nat) (cur : List Value) (hB : B <= g) (hg : Rw w g 138 cur) (hc1 : es.length <= cap) (hc2 : cap <= maxLen) (hc3 : cur.length = cap * 2) (htk : cur.take (es.length * 2) = fl es) (h1 : One 2 es) (hi : i < es.length) (hl : es.length <= 50000)
  (gv off cv : Nat) (vs : List El) (hv : SL w 138 2 (.slice (some ⟨gv, off, none⟩) vs.length cv) vs) (hv1 : One 2 vs) (hv0 : 0 < vs.length) (hv2 : vs.length <= 1000) (hroom : es.length + vs.length <= cap) (hap : gv ≠ g) :
  Calls prog 122 #[.slice (some ⟨g, 0, none⟩) (es.length) cap, .int .i64 i, .slice (some ⟨gv, off, none⟩) vs.length cv] w (gj B 138 2 (.slice (some ⟨g, 0, none⟩) (es.length) cap) (es.take i ++ vs ++ es.drop i) w) := by
 have f1 : (i : Int) <= (es.length : Int) := by omega
 have f2 : ¬ (vs.length : Int) = 0 := by omega
 have f3 : ¬ (i : Int) = (es.length : Int) := by omega
 have f4 : ¬ (cap : Int) < (es.length : Int) + (vs.length : Int) := by omega
 have hvb := hv.src
 have hvh : ∃ cu, w.heap[gv]? = some (.cells cu 138 (0, 0)) := by
  obtain ⟨g', off', cap', cu, e, hh, _⟩ := hv.at_ hv0
  cases e
  exact ⟨cu, hh⟩
 obtain ⟨cu, hvh⟩ := hvh
 have hov := Q3I (P := prog) 134 4 underlying134 stp ⟨gv, off, none⟩ (yS 2 g 0 cap (i + vs.length)) vs.length cv (es.length + vs.length - (i + vs.length)) (cap - (i + vs.length)) hvh (jk _ _ _ _ _) hg hap (by omega)
 have he := @run_callFunc_extern prog 123 _ (Extern.SlicesOverlaps.overlaps #[134, 134] #[4]) func123 (by kernel_rfl) (by kernel_rfl) (by kernel_rfl) (by kernel_rfl)
 have lcs : ((cur.drop (i * 2)).take ((es.length - i) * 2)).length = (es.length - i) * 2 := by rw [List.length_take, List.length_drop]; omega
 have lfl : (fl vs).length = vs.length * 2 := qb hv1.wd
 have hgd : Rw w.drew g 138 cur := hg.drew
 obtain ⟨w1, hr1, hg1, k1⟩ := gI (P := prog) hgd 135 135 138 underlying135 stp cap (es.length + vs.length) (i + vs.length) (by omega) hroom hc3 (yS 2 g 0 cap i) (es.length + vs.length - i) (cap - i) ((cur.drop (i * 2)).take ((es.length - i) * 2)) (by rw [lcs, Q3O (by omega)]; omega) (hgd.src cap i (es.length - i) (by omega)) (j5 h1 htk i _ (by omega))
 have l1 : (splice cur ((i + vs.length) * 2) ((cur.drop (i * 2)).take ((es.length - i) * 2))).length = cap * 2 := by rw [length_splice _ _ _ (by omega), hc3]
 have K1 : y5 [g] w w1 := (y5.refl [g] w).drew.trans k1
 have hv' : ∀ j u, (fl vs)[j]? = some u -> w1.cell? ((⟨gv, off, none⟩ : Addr).add j) = some u := by
  intro j u hj
  have := hvb.2 j u hj
  rw [add_lit] at this ⊢
  rw [cell_of_row _ _ _ _ _ _ hvh] at this
  rw [cell_of_row _ _ _ _ _ _ (K1.get hvh (by simp; omega))]
  exact this
 obtain ⟨w2, hr2, hg2, k2⟩ := gI (P := prog) hg1 135 134 138 underlying135 stp cap (es.length + vs.length) i (by omega) hroom l1 ⟨gv, off, none⟩ vs.length cv (fl vs) (by rw [lfl, gO (by omega)]) hv' hv1.fl
 have fin : gj B 138 2 (.slice (some ⟨g, 0, none⟩) (es.length) cap) (es.take i ++ vs ++ es.drop i) w (.returned (.slice (some ⟨g, 0, none⟩) (es.length + vs.length) cap)) w2 := by
  refine ⟨_, rfl, OW.close (((h1.wd.take i).app hv1.wd).app (h1.wd.drop i)) hB hg2 (by simp; omega) hroom hc2 (by rw [length_splice _ _ _ (by omega), l1]) ?_, K1.trans k2⟩
  have := ZX (Or.inl rfl) es vs h1.wd hv1.wd cur i i es.length vs.length rfl rfl (Nat.le_refl _) (by omega) htk (by omega)
  rw [show i + vs.length + (es.length - i) = es.length + vs.length by omega] at this
  exact this
 have FIN : Hid _ := fin
 have hsl1 : ∀ W : World, (Instr.sliceAt 135 (.slice (some ⟨g, 0, none⟩) (es.length) cap) none (some (.int .i64 ((es.length : Int) + (vs.length : Int)))) none).run prog W = .ok (.slice (some ⟨g, 0, none⟩) (es.length + vs.length) cap) W := fun W => by
  have := yq (P := prog) W 135 138 2 g 0 es.length cap underlying135 stp (es.length + vs.length) (by omega)
  rwa [Int.natCast_add] at this
 have hsl2 : ∀ W : World, (Instr.sliceAt 135 (.slice (some ⟨g, 0, none⟩) (es.length + vs.length) cap) (some (.int .i64 ((i : Int) + (vs.length : Int)))) none none).run prog W = .ok (.slice (some (yS 2 g 0 cap (i + vs.length))) (es.length + vs.length - (i + vs.length)) (cap - (i + vs.length))) W := fun W => by
  have := yi (P := prog) W 135 138 2 g 0 (es.length + vs.length) cap underlying135 stp (i + vs.length) (by omega)
  rwa [Int.natCast_add] at this
 have hsl3 : ∀ W : World, (Instr.sliceAt 135 (.slice (some ⟨g, 0, none⟩) (es.length + vs.length) cap) (some (.int .i64 (i : Int))) none none).run prog W = .ok (.slice (some (yS 2 g 0 cap (i))) (es.length + vs.length - (i)) (cap - (i))) W := fun W => yi (P := prog) W 135 138 2 g 0 (es.length + vs.length) cap underlying135 stp i (by omega)
 clear fin K1 k1 k2 hg2 hg1 hgd hvb hvh
 go_enter func122, ntmps122
 go_wp2
 refine yj (fun _ : World => True) (by kernel_rfl) ?_
 refine hu 0 (.slice (some ⟨g, 0, none⟩) (es.length + vs.length) cap) rfl (fun W hW => by rfl) trivial ?_
 simp only [zP, zA, zC, zD, zE, zF]
 refine hu 1 (.int .i64 i) rfl (fun W hW => by rfl) trivial ?_
 simp only [zP, zA, zB, zC, zD, zE, zF]
 refine hu 2 (.int .i64 vs.length) rfl (fun W hW => by rfl) trivial ?_
 simp only [zP, zA, zB, zC, zD, zE, zF]
 refine hu 3 (.int .i64 ((i + vs.length : Nat) : Int)) rfl (fun W hW => yY (.tmp 70) (.tmp 71) rfl (i) (vs.length) rfl rfl (by omega)) trivial ?_
 simp only [zP, zA, zB, zC, zD, zE, zF]
 refine hu 4 (.slice (some (yS 2 g 0 cap (i + vs.length))) (es.length + vs.length - (i + vs.length)) (cap - (i + vs.length))) rfl (fun W hW => yu 135 (.tmp 69) (some (.tmp 72)) none none rfl _ (some (.int .i64 ((i + vs.length : Nat) : Int))) none none rfl rfl rfl rfl _ (yi W 135 138 2 g 0 (es.length + vs.length) cap underlying135 stp (i + vs.length) (by omega))) trivial ?_
 simp only [zP, zA, zB, zC, zD, zE, zF]
 refine hu 5 (.slice (some ⟨g, 0, none⟩) (es.length + vs.length) cap) rfl (fun W hW => by rfl) trivial ?_
 simp only [zP, zA, zB, zC, zD, zE, zF]
 refine hu 6 (.int .i64 i) rfl (fun W hW => by rfl) trivial ?_
 simp only [zP, zA, zB, zC, zD, zE, zF]
 refine hu 7 (.slice (some (yS 2 g 0 cap (i))) (es.length + vs.length - (i)) (cap - (i))) rfl (fun W hW => yu 135 (.tmp 74) (some (.tmp 75)) none none rfl _ (some (.int .i64 ((i : Nat) : Int))) none none rfl rfl rfl rfl _ (yi W 135 138 2 g 0 (es.length + vs.length) cap underlying135 stp (i) (by omega))) trivial ?_
 simp only [zP, zA, zB, zC, zD, zE, zF]
 refine yf (i := 8) (by kernel_rfl) (yy rfl (by rfl) _ w1 (yT (.tmp 73) (.tmp 76) 135 135 rfl _ _ rfl rfl _ (hr1 _)) ⟨trivial, ?_⟩)
 simp only [zP, zA, zB, zC, zD, zE, zF]
 refine wpAnyH_done (by kernel_rfl) ?_ _
 go_wp2_with (first
  | (at_builtin; (refine y8 rfl _ w2 (yT (.tmp 80) (.tmp 81) 135 134 rfl _ _ rfl rfl _ (hr2 _)) ?_)))
 go_ret
 exact FIN.out
end Go.Proofs.YtcklgafpgdhnaabGreatDoor
