import Derived.Test.YtloihcnbcknbnaaGreatDoorPtau
import Derived.Test.YtloihcnbcknbnaaGreatDoorPtag
import Derived.Lib.AppendZerosOnto
import Derived.Lib.Overlaps
namespace Go.Proofs.YtloihcnbcknbnaaGreatDoor
open Go.RowKit

def HvKI (l : List (ByteArray × Value)) (w : World) (s i : Value) (wr : World) : Prop := ∃ j : Nat, j ≤ l.length ∧ i = .int .i64 j ∧ s = .int .i64 (((l.take j).map ksz).sum : Nat) ∧ j + cutI ksz (l.map ksz).sum ((l.take j).map ksz).sum (l.drop j) = halfI ksz l ∧ Kept [] w wr

/-- the halves of a slice -/
def HvKR (vl : Value) (l : List (ByteArray × Value)) (w : World) (e : Ending) (w' : World) : Prop := ∃ a b, e = .returned (.tuple #[a, b]) ∧ SL w' 152 a ((l.take (halfI ksz l)).map ke) ∧ SL w' 152 b ((l.drop (halfI ksz l)).map ke) ∧ (∀ y, a.ownBlock = some y → vl.ownBlock = some y) ∧ (∀ y, b.ownBlock = some y → vl.ownBlock = some y) ∧ Kept [] w w'

set_option maxRecDepth 100000 in
set_option maxHeartbeats 4000000 in
theorem halveK_any (vl : Value) (l : List (ByteArray × Value)) (w : World) (h : SL w 152 vl (l.map ke)) (hl : l.length ≤ 50000) (hs : ∀ x ∈ l, ksz x ≤ 22) (ho : ∀ x ∈ l, ∃ t v, x.2 = .iface t v) (h0 : halfI ksz l < l.length) :
    Calls Tryz.prog 216 #[vl] w (HvKR vl l w) := by
  obtain ⟨g, off, cap, cur, ev, hg, hc1, hc2, hc3, hcur⟩ := h.at_ (by simp; omega)
  rw [List.length_map] at ev hc1
  subst ev
  have hm := mKSize
  have hbnd : ∀ j, ((l.take j).map ksz).sum ≤ (l.map ksz).sum := by
    intro j; have := sum_split ksz l j; omega
  have hall : (l.map ksz).sum ≤ 22 * l.length := by
    have : ∀ (L : List (ByteArray × Value)), (∀ x ∈ L, ksz x ≤ 22) → (L.map ksz).sum ≤ 22 * L.length := by
      intro L hL
      induction L with
      | nil => simp
      | cons a r ih =>
        have h1 := hL a (by simp)
        have h2 := ih fun x hx => hL x (by simp [hx])
        simp only [List.map_cons, List.sum_cons, List.length_cons]
        omega
    exact this l hs
  have HM : Hid (Calls _ _ _ _ _) := measK_any _ l w h hl hs ho
  generalize hW : (l.map ksz).sum = WH at *
  have HWH : Hid _ := hW
  clear hW
  go_enter Tryz.func216, Tryz.ntmps216
  go_wp2_with (first | (go_at_call 217; refine HM.out.mono ?_; rintro e w1 ⟨rfl, hk1⟩))
  go_loopw [5, 6] (fun s i wr => HvKI l w s i wr) (fun _ i _ => l.length + 1 - (intOf i).toNat)
  case atStart => exact ⟨0, Nat.zero_le _, rfl, by simp, by simp [halfI], hk1⟩
  case round =>
    obtain ⟨j, hj, rfl, rfl, hcut, hkr⟩ := hrel
    have hbj := hbnd j
    rw [HWH.out] at hcut
    by_cases hlt : 2 * ((l.take j).map ksz).sum < WH
    · have hjl : j < l.length := by
        rcases Nat.lt_or_ge j l.length with h1 | h1
        · exact h1
        · rw [List.take_of_length_le h1, HWH.out] at hlt; omega
      have hlt' : (2 : Int) * (((l.take j).map ksz).sum : Nat) < (WH : Int) := by omega
      obtain ⟨x, hx⟩ : ∃ x, l[j]? = some x := ⟨_, List.getElem?_eq_getElem hjl⟩
      have hx22 := hs x (List.mem_of_getElem? hx)
      obtain ⟨ti, vi, ei⟩ := ho x (List.mem_of_getElem? hx)
      have hnext : ((l.take (j + 1)).map ksz).sum = ((l.take j).map ksz).sum + ksz x := by
        rw [take_snoc l j x hx]; simp
      have hdr : l.drop j = x :: l.drop (j + 1) := by
        rw [List.drop_eq_getElem_cons hjl, (List.getElem?_eq_some_iff.1 hx).2]
      have hcut2 : j + 1 + cutI ksz (l.map ksz).sum ((l.take (j + 1)).map ksz).sum (l.drop (j + 1)) = halfI ksz l := by
        rw [← hcut, hdr, cutI, if_pos hlt, hnext, HWH.out]; omega
      have hgr : wr.heap[g]? = some (.cells cur 152 (0, 0)) := hkr.get hg (by simp)
      have hld := load2 (P := Tryz.prog) (ty := 152) _ hgr (hcur j _ (by rw [List.getElem?_map, hx]; rfl)) Tryz.underlying152 stk
      simp only [ke, ei] at hld
      generalize hS : ((l.take j).map ksz).sum = S at *
      have HN : Hid _ := hnext
      have HC : Hid _ := hcut2
      clear hnext hS hcut2 hcut hdr
      go_wp2_with (first
        | (refine wpList_val rfl _ _ (exec_index 150 (.tmp 16) (.tmp 17) rfl g off l.length cap j 2 rfl rfl 152 Tryz.underlying150 stk hjl (off + j * 2) rfl) ?_)
        | (refine wpList_load_seg rfl 152 (.tmp 18) rfl ⟨g, off + j * 2, none⟩ rfl _ hld ?_)
        | (go_at_call 233; refine (kidSize_any (x.1, .iface ti vi) _).mono ?_; rintro e w2 ⟨rfl, hk2⟩))
      go_roundw
      case rel => exact ⟨j + 1, by omega, by go_num, by rw [HN.out]; simp only [ksz]; rw [Value.int.injEq]; refine ⟨rfl, ?_⟩; rw [w64 _ (by omega)]; omega, HC.out, hkr.trans hk2⟩
      case measure => simp [intOf]; omega
    · have hge : ¬ (2 : Int) * (((l.take j).map ksz).sum : Nat) < (WH : Int) := by omega
      have ej : j = halfI ksz l := by
        have hz : cutI ksz WH ((l.take j).map ksz).sum (l.drop j) = 0 := by
          cases l.drop j with
          | nil => rfl
          | cons y t => rw [cutI, if_neg hlt]
        omega
      generalize hS : ((l.take j).map ksz).sum = S at *
      clear hcut hS
      have hjl : j < l.length := by omega
      have i1 : (j : Int) ≤ (l.length : Int) := by omega
      have i2 : (j : Int) ≤ (cap : Int) := by omega
      have i3 : ¬ cap = j := by omega
      have i4 : j ≤ cap := by omega
      go_wp2
      go_quiet (fail)
      go_wp2
      go_ret2
      have hgd : (wr.drewN nq).heap[g]? = some (.cells cur 152 (0, 0)) := hkr.get hg (by simp)
      refine ⟨_, _, rfl, Or.inr ⟨g, off, halfI ksz l, cur, ?_, hgd, ?_, by omega, by omega, ?_⟩, Or.inr ⟨g, off + halfI ksz l * 2, cap - halfI ksz l, cur, ?_, hgd, ?_, by omega, by omega, ?_⟩, fun _ hy => hy, fun _ hy => hy, hkr.drewN _⟩
      · simp; omega
      · simp; omega
      · intro i e he
        rw [List.map_take, List.getElem?_take] at he
        split at he
        · exact hcur i e he
        · cases he
      · simp
      · simp; omega
      · intro i e he
        rw [List.map_drop, List.getElem?_drop] at he
        have := hcur _ e he
        rw [show off + (halfI ksz l + i) * 2 = off + halfI ksz l * 2 + i * 2 by omega] at this
        exact this

end Go.Proofs.YtloihcnbcknbnaaGreatDoor

namespace Go.Proofs.YtloihcnbcknbnaaGreatDoor
open Go.RowKit

/-- elements as one row of cells -/
def fl (es : List (Value × Value)) : List Value := es.flatMap fun e => [e.1, e.2]
theorem fl_len (es : List (Value × Value)) : (fl es).length = es.length * 2 := by
  induction es with
  | nil => rfl
  | cons e r ih =>
    have : fl (e :: r) = [e.1, e.2] ++ fl r := rfl
    rw [this, List.length_append, ih]; simp; omega
theorem fl_append (a b : List (Value × Value)) : fl (a ++ b) = fl a ++ fl b := by simp [fl]
theorem fl_get (es : List (Value × Value)) : ∀ (i : Nat) (e : Value × Value), es[i]? = some e → (fl es)[i * 2]? = some e.1 ∧ (fl es)[i * 2 + 1]? = some e.2 := by
  induction es with
  | nil => intro i e h; simp at h
  | cons x r ih =>
    intro i e h
    have e1 : fl (x :: r) = [x.1, x.2] ++ fl r := rfl
    cases i with
    | zero => simp at h; subst h; rw [e1]; exact ⟨rfl, rfl⟩
    | succ i =>
      obtain ⟨h1, h2⟩ := ih i e (by simpa using h)
      rw [e1, show (i + 1) * 2 = i * 2 + 1 + 1 by omega]
      exact ⟨by simpa using h1, by simpa using h2⟩
theorem fl_take (es : List (Value × Value)) (i : Nat) : (fl es).take (i * 2) = fl (es.take i) := by
  induction es generalizing i with
  | nil => simp [fl]
  | cons x r ih =>
    cases i with
    | zero => simp [fl]
    | succ i =>
      have e1 : fl (x :: r) = x.1 :: x.2 :: fl r := rfl
      have e2 : fl ((x :: r).take (i + 1)) = x.1 :: x.2 :: fl (r.take i) := rfl
      rw [e1, e2, show (i + 1) * 2 = i * 2 + 1 + 1 by omega, List.take_succ_cons, List.take_succ_cons, ih]
theorem fl_drop (es : List (Value × Value)) (i : Nat) : (fl es).drop (i * 2) = fl (es.drop i) := by
  induction es generalizing i with
  | nil => simp [fl]
  | cons x r ih =>
    cases i with
    | zero => simp
    | succ i =>
      have e1 : fl (x :: r) = x.1 :: x.2 :: fl r := rfl
      rw [e1, show (i + 1) * 2 = i * 2 + 1 + 1 by omega, List.drop_succ_cons, List.drop_succ_cons, ih, List.drop_succ_cons]
/-- all are of one cell -/
def One (es : List (Value × Value)) : Prop := ∀ e ∈ es, e.1.oneCell' = true ∧ e.2.oneCell' = true
theorem One.fl {es : List (Value × Value)} (h : One es) : ∀ u ∈ fl es, u.oneCell' = true := by
  intro u hu
  simp only [Go.Proofs.YtloihcnbcknbnaaGreatDoor.fl, List.mem_flatMap] at hu
  obtain ⟨e, he, hu⟩ := hu
  simp at hu
  rcases hu with rfl | rfl
  · exact (h e he).1
  · exact (h e he).2

/-- a row of one's own -/
def OW (w : World) (B : Nat) (t : TypeId) (v : Value) (es : List (Value × Value)) : Prop := w.ownsRow B t 2 v es.length (fl es)
theorem OW.sl {w : World} {B : Nat} {t : TypeId} {v : Value} {es : List (Value × Value)} (h : OW w B t v es) : SL w t v es := by
  obtain ⟨_, ⟨rfl, h0⟩ | ⟨g, cap, cur, rfl, _, hh, h1, h2, h3, htk⟩⟩ := h
  · exact Or.inl ⟨rfl, List.eq_nil_of_length_eq_zero h0⟩
  · refine Or.inr ⟨g, 0, cap, cur, rfl, hh, h1, h2, by omega, ?_⟩
    intro i e he
    have hil : i < es.length := (List.getElem?_eq_some_iff.1 he).1
    obtain ⟨g1, g2⟩ := fl_get es i e he
    rw [← htk, List.getElem?_take, if_pos (by omega)] at g1 g2
    rw [Nat.zero_add]
    exact ⟨by simpa using g1, by simpa using g2⟩
/-- what a slice reads, cell by cell -/
theorem SL.src {w : World} {t : TypeId} {g off n cap : Nat} {es : List (Value × Value)} (h : SL w t (.slice (some ⟨g, off, none⟩) n cap) es) : n = es.length ∧ ∀ j u, (fl es)[j]? = some u → w.cell? ((⟨g, off, none⟩ : Addr).add j) = some u := by
  rcases h with ⟨h, _⟩ | ⟨g', off', cap', cur, e, hh, _, _, _, hc⟩
  · cases h
  cases e
  refine ⟨rfl, ?_⟩
  intro j u hj
  have hjl : j < es.length * 2 := by have := (List.getElem?_eq_some_iff.1 hj).1; rwa [fl_len] at this
  obtain ⟨e, he⟩ : ∃ e, es[j / 2]? = some e := ⟨_, List.getElem?_eq_getElem (by omega)⟩
  obtain ⟨f1, f2⟩ := fl_get es (j / 2) e he
  obtain ⟨c1, c2⟩ := hc (j / 2) e he
  rw [add_lit, cell_of_row _ _ _ _ _ _ hh]
  rcases Nat.mod_two_eq_zero_or_one j with hm | hm
  · have ej : j = j / 2 * 2 := by omega
    rw [ej] at hj ⊢
    rw [f1] at hj
    rw [c1]; exact hj
  · have ej : j = j / 2 * 2 + 1 := by omega
    rw [ej] at hj ⊢
    rw [f2] at hj
    rw [← Nat.add_assoc, c2]; exact hj

theorem itp : (Tryz.prog.info? 114).map (fun i => (i.zero, i.size, i.bytes)) = some (some (.agg #[.string ⟨#[]⟩, .string ⟨#[]⟩]), 2, 32) := by kernel_rfl
theorem itk : (Tryz.prog.info? 152).map (fun i => (i.zero, i.size, i.bytes)) = some (some (.agg #[.string ⟨#[]⟩, .nilIface]), 2, 32) := by kernel_rfl

theorem eqn_leaf (W : World) : (binOp .eql 108 (.slice none 0 0) (.slice none 0 0)).run Tryz.prog W = .ok (.bool true) W := by kernel_rfl
theorem eqs_leaf (a : Addr) (n c : Nat) (W : World) : (binOp .eql 108 (.slice (some a) n c) (.slice none 0 0)).run Tryz.prog W = .ok (.bool false) W := by kernel_rfl
theorem eqn_branch (W : World) : (binOp .eql 150 (.slice none 0 0) (.slice none 0 0)).run Tryz.prog W = .ok (.bool true) W := by kernel_rfl
theorem eqs_branch (a : Addr) (n c : Nat) (W : World) : (binOp .eql 150 (.slice (some a) n c) (.slice none 0 0)).run Tryz.prog W = .ok (.bool false) W := by kernel_rfl

/-- a copy of one's own -/
def CopyR (t : TypeId) (es : List (Value × Value)) (w : World) (e : Ending) (w' : World) : Prop := ∃ v, e = .returned v ∧ OW w' w.heap.size t v es ∧ Kept [] w w'

set_option maxRecDepth 100000 in
set_option maxHeartbeats 1000000 in
theorem cloneP_any (vl : Value) (es : List (Value × Value)) (w : World) (h : SL w 114 vl es) (h1 : One es) (hl : es.length ≤ 50000) : Calls Tryz.prog 93 #[vl] w (CopyR 114 es w) := by
  obtain ⟨ie, hie, hz1, hz2, hz3⟩ := info_parts itp
  have h' := h
  rcases h' with ⟨rfl, rfl⟩ | ⟨g, off, cap, cur, rfl, hg, _, _, _, _⟩
  · have hn := eqn_leaf
    go_enter Tryz.func93, Tryz.ntmps93
    go_wp2
    go_ret
    exact ⟨_, rfl, World.ownsRow_nil _ _ _ _, Kept.refl _ _⟩
  · have k1 := (Kept.refl [] w).alloc (.cells #[] 114)
    have own1 : (w.alloc (.cells #[] 114)).ownsRow w.heap.size 114 2 (.slice (some ⟨w.heap.size, 0, none⟩) 0 0) 0 [] := ⟨rfl, Or.inr ⟨w.heap.size, 0, #[], rfl, Nat.le_refl _, heap_alloc_new _ _, Nat.le_refl _, by unfold maxLen; omega, rfl, rfl⟩⟩
    have hsrc := (h.kept k1).src.2
    have hn := eqs_leaf
    go_enter Tryz.func93, Tryz.ntmps93
    go_wp2_with (first
      | (at_builtin; refine wpList_append_own _ rfl (.tmp 5) (.tmp 6) 108 rfl w.heap.size 114 ie _ 2 32 Tryz.underlying108 hie hz1 hz2 hz3 rfl (by decide) (.slice (some ⟨w.heap.size, 0, none⟩) 0 0) 0 [] rfl own1 ⟨g, off, none⟩ es.length cap (fl es) rfl (fl_len es) hsrc h1.fl (by unfold maxLen; omega) (by omega) (by simp) ?_; intro v3 w3 own3 gr3 _; have k3 := grown_kept gr3 [w.heap.size] (by intro x hx; cases hx; simp)))
    go_ret
    refine ⟨_, rfl, ?_, k1.trans2 k3 (by intro x hx; simp at hx; exact Or.inr (by omega))⟩
    have := own3
    rw [Nat.zero_add, List.nil_append] at this
    exact this

end Go.Proofs.YtloihcnbcknbnaaGreatDoor

namespace Go.Proofs.YtloihcnbcknbnaaGreatDoor
open Go.RowKit

set_option maxRecDepth 100000 in
set_option maxHeartbeats 1000000 in
theorem cloneK_any (vl : Value) (es : List (Value × Value)) (w : World) (h : SL w 152 vl es) (h1 : One es) (hl : es.length ≤ 50000) : Calls Tryz.prog 214 #[vl] w (CopyR 152 es w) := by
  obtain ⟨ie, hie, hz1, hz2, hz3⟩ := info_parts itk
  have h' := h
  rcases h' with ⟨rfl, rfl⟩ | ⟨g, off, cap, cur, rfl, hg, _, _, _, _⟩
  · have hn := eqn_branch
    go_enter Tryz.func214, Tryz.ntmps214
    go_wp2
    go_ret
    exact ⟨_, rfl, World.ownsRow_nil _ _ _ _, Kept.refl _ _⟩
  · have k1 := (Kept.refl [] w).alloc (.cells #[] 152)
    have own1 : (w.alloc (.cells #[] 152)).ownsRow w.heap.size 152 2 (.slice (some ⟨w.heap.size, 0, none⟩) 0 0) 0 [] := ⟨rfl, Or.inr ⟨w.heap.size, 0, #[], rfl, Nat.le_refl _, heap_alloc_new _ _, Nat.le_refl _, by unfold maxLen; omega, rfl, rfl⟩⟩
    have hsrc := (h.kept k1).src.2
    have hn := eqs_branch
    go_enter Tryz.func214, Tryz.ntmps214
    go_wp2_with (first
      | (at_builtin; refine wpList_append_own _ rfl (.tmp 5) (.tmp 6) 150 rfl w.heap.size 152 ie _ 2 32 Tryz.underlying150 hie hz1 hz2 hz3 rfl (by decide) (.slice (some ⟨w.heap.size, 0, none⟩) 0 0) 0 [] rfl own1 ⟨g, off, none⟩ es.length cap (fl es) rfl (fl_len es) hsrc h1.fl (by unfold maxLen; omega) (by omega) (by simp) ?_; intro v3 w3 own3 gr3 _; have k3 := grown_kept gr3 [w.heap.size] (by intro x hx; cases hx; simp)))
    go_ret
    refine ⟨_, rfl, ?_, k1.trans2 k3 (by intro x hx; simp at hx; exact Or.inr (by omega))⟩
    have := own3
    rw [Nat.zero_add, List.nil_append] at this
    exact this

end Go.Proofs.YtloihcnbcknbnaaGreatDoor

namespace Go.Proofs.YtloihcnbcknbnaaGreatDoor
open Go.RowKit

theorem mem_zeroCells {zc : Array Value} {n : Nat} (h0 : 0 < zc.size) (h1 : ∀ u ∈ zc.toList, u.oneCell' = true) : ∀ u ∈ (Builtin.zeroCells zc n).toList, u.oneCell' = true := by
  intro u hu
  obtain ⟨i, hi⟩ := List.mem_iff_getElem?.1 hu
  simp only [Builtin.zeroCells, Array.getElem?_toList] at hi
  rw [Array.getElem?_map] at hi
  cases hr : (Array.range (n * zc.size))[i]? with
  | none => rw [hr] at hi; cases hi
  | some x =>
    rw [hr] at hi
    simp only [Option.map_some, Option.some.injEq] at hi
    subst hi
    have hlt : x % zc.size < zc.size := Nat.mod_lt _ h0
    rw [getElem!_pos zc _ hlt]
    exact h1 _ (by simp)

/-- clear of a part of a row -/
theorem run_clear_wide {P : Program} (w : World) (t e : TypeId) (z : Value) (ht : P.underlying t = some (.slice e)) (hv : ∀ w, (zeroValue e).run P w = .ok z w) (k : Nat) (hk : z.cells.size = k) (hk0 : 0 < k) (h1 : ∀ u ∈ z.cells.toList, u.oneCell' = true) (g o n c : Nat) (cur : List Value) (tg : TypeId)
    (hg : w.heap[g]? = some (.cells cur.toArray tg (0, 0))) (hfit : o + n * k ≤ cur.length) :
    ∃ W zs, zs.length = n * k ∧ (∀ ty, (Builtin.clear_ #[t] ty #[.slice (some ⟨g, o, none⟩) n c]).run P w = .ok (.tuple #[]) W) ∧ W.heap[g]? = some (.cells (splice cur o zs).toArray tg (0, 0)) ∧ Kept [g] w W := by
  cases n with
  | zero =>
    refine ⟨w, [], by simp, ?_, by simpa [splice] using hg, Kept.refl _ _⟩
    intro ty; simp [Builtin.clear_, run_underlying ht]
  | succ n =>
    have hzl : (Builtin.zeroCells z.cells (n + 1)).toList.length = (n + 1) * k := by rw [Array.length_toList, size_zeroCells, hk]
    have hst := run_storeCells_at P g o tg (Builtin.zeroCells z.cells (n + 1)).toList 0 cur.toArray w hg (by rw [hzl]; simpa using hfit) (mem_zeroCells (by omega) h1)
    simp only [Nat.add_zero] at hst
    refine ⟨_, _, hzl, ?_, setRow_heap w g _ _ tg _ hg, (Kept.refl _ _).setRow (Or.inl (by simp)) _⟩
    intro ty; simp [Builtin.clear_, run_underlying ht, hv, hst, splice]

end Go.Proofs.YtloihcnbcknbnaaGreatDoor

namespace Go.Proofs.YtloihcnbcknbnaaGreatDoor
open Go.RowKit

/-- where a slice from the l-th element on begins -/
def cutA (g o cap l : Nat) : Addr := if cap = l then ⟨g, o, none⟩ else ⟨g, o + l * 2, none⟩
theorem cutA_block (g o cap l : Nat) : (cutA g o cap l).block = g := by unfold cutA; split <;> rfl

section
variable {P : Program} (w : World) (t e : TypeId) (g o n cap : Nat) (hu : P.underlying t = some (.slice e)) (hs : (P.info? e).map (·.size) = some 2)
include hu hs
theorem run_slice_hi (h : Nat) (hh : h ≤ cap) :
    (Instr.sliceAt t (.slice (some ⟨g, o, none⟩) n cap) none (some (.int .i64 h)) none).run P w = .ok (.slice (some ⟨g, o, none⟩) h cap) w := by
  cases hq : P.info? e with
  | none => simp [hq] at hs
  | some ie =>
    simp [Instr.sliceAt, Instr.slice, run_underlying hu, Instr.sliceBounds, Instr.sliceBound, asIntOf, sizeOf, typeInfo, hq, hh, Addr.add]

theorem run_slice_lo (l : Nat) (hl : l ≤ n) :
    (Instr.sliceAt t (.slice (some ⟨g, o, none⟩) n cap) (some (.int .i64 l)) none none).run P w = .ok (.slice (some (cutA g o cap l)) (n - l) (cap - l)) w := by
  cases hq : P.info? e with
  | none => simp [hq] at hs
  | some ie =>
    have hsz : ie.size = 2 := by simpa [hq] using hs
    unfold cutA
    by_cases hcl : cap = l
    · simp [Instr.sliceAt, Instr.slice, run_underlying hu, Instr.sliceBounds, Instr.sliceBound, asIntOf, sizeOf, typeInfo, hq, hl, hcl]
    · simp [Instr.sliceAt, Instr.slice, run_underlying hu, Instr.sliceBounds, Instr.sliceBound, asIntOf, sizeOf, typeInfo, hq, hsz, hl, hcl, add_lit]

theorem run_slice_lh (l h : Nat) (hl : l ≤ h) (hh : h ≤ cap) :
    (Instr.sliceAt t (.slice (some ⟨g, o, none⟩) n cap) (some (.int .i64 l)) (some (.int .i64 h)) none).run P w = .ok (.slice (some (cutA g o cap l)) (h - l) (cap - l)) w := by
  cases hq : P.info? e with
  | none => simp [hq] at hs
  | some ie =>
    have hsz : ie.size = 2 := by simpa [hq] using hs
    unfold cutA
    by_cases hcl : cap = l
    · have e1 : h = l := by omega
      subst e1
      subst hcl
      simp [Instr.sliceAt, Instr.slice, run_underlying hu, Instr.sliceBounds, Instr.sliceBound, asIntOf, sizeOf, typeInfo, hq]
    · simp [Instr.sliceAt, Instr.slice, run_underlying hu, Instr.sliceBounds, Instr.sliceBound, asIntOf, sizeOf, typeInfo, hq, hsz, hl, hh, hcl, add_lit]
end

theorem exec_slice {P : Program} {o : Oper} {a : Act} {w : World} (t : TypeId) (x : Operand) (lo hi mx : Option Operand) (ho : o.op = .slice t x lo hi mx) (vx : Value) (vl vh vm : Option Value) (hx : a.eval x = vx) (h1 : lo.map a.eval = vl) (h2 : hi.map a.eval = vh) (h3 : mx.map a.eval = vm) (r : Value) (hr : (Instr.sliceAt t vx vl vh vm).run P w = .ok r w) :
    (execOp a.eval o).run P w = .ok (.value r) w := by
  subst hx h1 h2 h3
  simp [execOp, ho, hr]

theorem exec_append2 {P : Program} {o : Oper} {a : Act} {w w' : World} (x y : Operand) (t u : TypeId) (ho : o.op = .call { callee := .builtin .append, args := #[x, y], argTypes := #[t, u] }) (vx vy : Value) (hx : a.eval x = vx) (hy : a.eval y = vy) (v : Value)
    (hrun : (Builtin.append_ #[t, u] o.type #[vx, vy]).run P w = .ok v w') : (execOp a.eval o).run P w = .ok (.value v) w' := by
  simp [execOp, ho, resolve, invoke, builtin, hx, hy, hrun, Result.andThen]
theorem exec_clear {P : Program} {o : Oper} {a : Act} {w w' : World} (x : Operand) (t : TypeId) (ho : o.op = .call { callee := .builtin .clear, args := #[x], argTypes := #[t] }) (vx : Value) (hx : a.eval x = vx) (v : Value)
    (hrun : (Builtin.clear_ #[t] o.type #[vx]).run P w = .ok v w') : (execOp a.eval o).run P w = .ok (.value v) w' := by
  simp [execOp, ho, resolve, invoke, builtin, hx, hrun, Result.andThen]
theorem exec_copy2 {P : Program} {o : Oper} {a : Act} {w w' : World} (x y : Operand) (t u : TypeId) (ho : o.op = .call { callee := .builtin .copy, args := #[x, y], argTypes := #[t, u] }) (vx vy : Value) (hx : a.eval x = vx) (hy : a.eval y = vy) (v : Value)
    (hrun : (Builtin.copy_ #[t, u] o.type #[vx, vy]).run P w = .ok v w') : (execOp a.eval o).run P w = .ok (.value v) w' := by
  simp [execOp, ho, resolve, invoke, builtin, hx, hy, hrun, Result.andThen]

/-- a row of cells -/
def Rw (w : World) (g : Nat) (t : TypeId) (cur : List Value) : Prop := w.heap[g]? = some (.cells cur.toArray t (0, 0))
theorem Rw.kept {w w' : World} {g : Nat} {t : TypeId} {cur : List Value} {S : List Nat} (h : Rw w g t cur) (k : Kept S w w') (hg : g ∉ S) : Rw w' g t cur := Kept.get k h hg
theorem Rw.drew {w : World} {g : Nat} {t : TypeId} {cur : List Value} (h : Rw w g t cur) : Rw w.drew g t cur := h
/-- what a slice of a row reads -/
theorem Rw.src {w : World} {g : Nat} {t : TypeId} {cur : List Value} (h : Rw w g t cur) (cap l k : Nat) (hl : l + k ≤ cap) : ∀ j u, ((cur.drop (l * 2)).take (k * 2))[j]? = some u → w.cell? ((cutA g 0 cap l).add j) = some u := by
  intro j u hj
  rw [List.getElem?_take] at hj
  split at hj
  · rename_i hjk
    have hne : ¬ cap = l := by omega
    unfold cutA
    rw [if_neg hne, add_lit, cell_of_row _ _ _ _ _ _ h]
    rw [List.getElem?_drop] at hj
    simpa using hj
  · cases hj

theorem copyTo {P : Program} {w : World} {g : Nat} {t : TypeId} {cur : List Value} (h : Rw w g t cur) (dT sT elem : TypeId) (hu : P.underlying dT = some (.slice elem)) (hs : (P.info? elem).map (·.size) = some 2) (cap n l : Nat) (hl : l ≤ n) (hn : n ≤ cap) (hc : cur.length = cap * 2)
    (a : Addr) (m c : Nat) (cs : List Value) (hcs : cs.length = Nat.min m (n - l) * 2) (hsrc : ∀ j v, cs[j]? = some v → w.cell? (a.add j) = some v) (h1 : ∀ v ∈ cs, v.oneCell' = true) :
    ∃ W, (∀ ty, (Builtin.copy_ #[dT, sT] ty #[.slice (some (cutA g 0 cap l)) (n - l) (cap - l), .slice (some a) m c]).run P w = .ok (goInt (Nat.min m (n - l))) W) ∧ Rw W g t (splice cur (l * 2) cs) ∧ Kept [g] w W := by
  have hmin : Nat.min m (n - l) ≤ n - l := Nat.min_le_right _ _
  by_cases hcl : cap = l
  · have h0 : Nat.min m (n - l) = 0 := by omega
    have e0 : cs = [] := List.eq_nil_of_length_eq_zero (by rw [hcs, h0])
    subst e0
    have hr := fun ty => run_copy_wide (P := P) w dT sT ty elem g 0 (n - l) (cap - l) 2 a m c cur.toArray t [] hu hs h (by simp [h0]) hsrc (by simp) h1
    refine ⟨_, ?_, setRow_heap w g _ _ t _ h, (Kept.refl _ _).setRow (Or.inl (by simp)) _⟩
    intro ty
    unfold cutA
    rw [if_pos hcl, hr]
    simp [splice]
  · have hr := fun ty => run_copy_wide (P := P) w dT sT ty elem g (l * 2) (n - l) (cap - l) 2 a m c cur.toArray t cs hu hs h hcs hsrc (by simp; omega) h1
    refine ⟨_, ?_, setRow_heap w g _ _ t _ h, (Kept.refl _ _).setRow (Or.inl (by simp)) _⟩
    intro ty
    unfold cutA
    rw [if_neg hcl, Nat.zero_add, hr]
    simp [splice]

theorem clearTo {P : Program} {w : World} {g : Nat} {t : TypeId} {cur : List Value} (h : Rw w g t cur) (dT e : TypeId) (z : Value) (ht : P.underlying dT = some (.slice e)) (hv : ∀ w, (zeroValue e).run P w = .ok z w) (hk : z.cells.size = 2) (h1 : ∀ u ∈ z.cells.toList, u.oneCell' = true)
    (cap n l : Nat) (hl : l ≤ n) (hn : n ≤ cap) (hc : cur.length = cap * 2) :
    ∃ W zs, zs.length = (n - l) * 2 ∧ (∀ ty, (Builtin.clear_ #[dT] ty #[.slice (some (cutA g 0 cap l)) (n - l) (cap - l)]).run P w = .ok (.tuple #[]) W) ∧ Rw W g t (splice cur (l * 2) zs) ∧ Kept [g] w W := by
  by_cases hcl : cap = l
  · obtain ⟨W, zs, hz, hr, hg, hkk⟩ := run_clear_wide (P := P) w dT e z ht hv 2 hk (by decide) h1 g 0 (n - l) (cap - l) cur t h (by omega)
    refine ⟨W, zs, hz, ?_, ?_, hkk⟩
    · intro ty; unfold cutA; rw [if_pos hcl, hr]
    · have e0 : zs = [] := List.eq_nil_of_length_eq_zero (by rw [hz]; omega)
      subst e0
      have : splice cur (l * 2) ([] : List Value) = splice cur 0 [] := by simp [splice]
      rw [this]; exact hg
  · obtain ⟨W, zs, hz, hr, hg, hkk⟩ := run_clear_wide (P := P) w dT e z ht hv 2 hk (by decide) h1 g (l * 2) (n - l) (cap - l) cur t h (by omega)
    refine ⟨W, zs, hz, ?_, hg, hkk⟩
    intro ty; unfold cutA; rw [if_neg hcl, Nat.zero_add, hr]

/-- append where there is room -/
theorem appendTo {P : Program} {w : World} {g : Nat} {e : TypeId} {cur : List Value} (h : Rw w g e cur) (t u d : TypeId) (ht : P.underlying t = some (.slice e)) (hu : P.underlying u = some (.slice d)) (hs : (P.info? e).map (·.size) = some 2) (cap n : Nat) (hc : cur.length = cap * 2)
    (a : Addr) (m c : Nat) (hroom : n + m ≤ cap) (cs : List Value) (hcs : cs.length = m * 2) (hsrc : ∀ j v, cs[j]? = some v → w.cell? (a.add j) = some v) (h1 : ∀ v ∈ cs, v.oneCell' = true) :
    ∃ W, (∀ ty, (Builtin.append_ #[t, u] ty #[.slice (some ⟨g, 0, none⟩) n cap, .slice (some a) m c]).run P w = .ok (.slice (some ⟨g, 0, none⟩) (n + m) cap) W) ∧ Rw W g e (splice cur (n * 2) cs) ∧ Kept [g] w W := by
  cases hq : P.info? e with
  | none => simp [hq] at hs
  | some i =>
    have hi : i.size = 2 := by simpa [hq] using hs
    have hf := run_firstCells_some (P := P) w 2 m a m c cs hcs hsrc
    have hst := run_storeCells_at P g (n * 2) e cs 0 cur.toArray w h (by simp; omega) h1
    simp only [Nat.add_zero] at hst
    refine ⟨_, ?_, setRow_heap w g _ _ e _ h, (Kept.refl _ _).setRow (Or.inl (by simp)) _⟩
    intro ty
    simp [Builtin.append_, run_underlying ht, run_underlying hu, sizeOf, typeInfo, hq, hi, Builtin.lenOf, hroom, hf, Addr.add_lit, hst, splice]

/-- append where there is none -/
theorem appendNew {P : Program} {w : World} {g : Nat} {e : TypeId} {cur : List Value} (h : Rw w g e cur) (t u d : TypeId) (i : TypeInfo) (z : Value) (ht : P.underlying t = some (.slice e)) (hu : P.underlying u = some (.slice d)) (hi : P.info? e = some i) (hz : i.zero = some z) (hs : i.size = 2) (hb : i.bytes = 32) (hz2 : z.cells.size = 2)
    (cap n : Nat) (hn : n ≤ cap) (hc : cur.length = cap * 2) (a : Addr) (m c : Nat) (hroom : cap < n + m) (hbig : n + m ≤ 200000) (cs : List Value) (hcs : cs.length = m * 2) (hsrc : ∀ j v, cs[j]? = some v → w.cell? (a.add j) = some v) :
    ∃ W cap' rest, (∀ ty, (Builtin.append_ #[t, u] ty #[.slice (some ⟨g, 0, none⟩) n cap, .slice (some a) m c]).run P w = .ok (.slice (some ⟨w.heap.size, 0, none⟩) (n + m) cap') W) ∧ Rw W w.heap.size e (cur.take (n * 2) ++ cs ++ rest) ∧ (cur.take (n * 2) ++ cs ++ rest).length = cap' * 2 ∧ n + m ≤ cap' ∧ cap' ≤ maxLen ∧ Kept [] w W := by
  have holds : ∀ j v, (cur.take (n * 2))[j]? = some v → w.cell? ((⟨g, 0, none⟩ : Addr).add j) = some v := by
    intro j v hj
    rw [List.getElem?_take] at hj
    split at hj
    · rw [add_lit, cell_of_row _ _ _ _ _ _ h]; simpa using hj
    · cases hj
  have hlo : (cur.take (n * 2)).length = n * 2 := by rw [List.length_take]; omega
  have hge := grownCap_ge w (n + m) cap e
  have hcm : grownCap w (n + m) cap e ≤ maxLen := grownCap_le_maxLen w (n + m) cap e (by unfold maxLen; omega)
  have hfit : Builtin.nextslicecap (n + m) cap * i.bytes ≤ 281474976710656 := growslice_fits (by omega) (by rw [hb]; omega)
  have h63' : ¬ (9223372036854775807 < ((n : Int) + (m : Int))) := by omega
  have h48' : ¬ (281474976710656 < Builtin.nextslicecap (n + m) cap * i.bytes) := by omega
  have hnr : ¬ (n + m ≤ cap) := by omega
  have hf := run_firstCells_some (P := P) w.drew i.size m a m c cs (by rw [hs]; exact hcs) (by simpa using hsrc)
  have hf0 := run_firstCells_some (P := P) w.drew i.size n ⟨g, 0, none⟩ n cap (cur.take (n * 2)) (by rw [hs]; exact hlo) (by simpa using holds)
  have hr0 := fun ty => run_append_grow (P := P) w t ty e i z ht hi hz ⟨g, 0, none⟩ n cap (cur.take (n * 2)) (by rw [hs]; exact hlo) holds a m c cs (by rw [hs]; exact hcs) hsrc hroom (by omega) hfit
  have hr : ∀ ty, (Builtin.append_ #[t, u] ty #[.slice (some ⟨g, 0, none⟩) n cap, .slice (some a) m c]).run P w = (Builtin.append_ #[t, t] ty #[.slice (some ⟨g, 0, none⟩) n cap, .slice (some a) m c]).run P w := by
    intro ty
    simp [Builtin.append_, run_underlying ht, run_underlying hu, sizeOf, typeInfo, hi]
  refine ⟨_, grownCap w (n + m) cap e, (Builtin.zeroCells z.cells (grownCap w (n + m) cap e - (n + m))).toList, fun ty => (hr ty).trans ((hr0 ty).trans rfl), ?_, ?_, hge, hcm, ((Kept.refl [] w).drew).alloc _⟩
  · have := heap_alloc_new w.drew (.cells ((cur.take (n * 2)).toArray ++ cs.toArray ++ Builtin.zeroCells z.cells (grownCap w (n + m) cap e - (n + m))) e)
    unfold Rw
    rw [show w.heap.size = w.drew.heap.size from rfl, this]
    simp
  · simp only [List.length_append, hlo, hcs, Array.length_toList, size_zeroCells, hz2]
    omega

/-- append of zeros where there is no room -/
theorem appendZeros {P : Program} {w : World} {g : Nat} {e : TypeId} {cur : List Value} (h : Rw w g e cur) (t tn : TypeId) (i : TypeInfo) (z : Value) (ht : P.underlying t = some (.slice e)) (hu : P.underlying tn = some (.int .i64)) (hi : P.info? e = some i) (hz : i.zero = some z) (hs : i.size = 2) (hb : i.bytes = 32) (hz2 : z.cells.size = 2)
    (cap n : Nat) (hn : n ≤ cap) (hc : cur.length = cap * 2) (m : Nat) (h0 : 0 < m) (hroom : cap < n + m) (hbig : n + m ≤ 200000) :
    ∃ W cap' rest, (∀ ty, (Builtin.append_ #[t, tn] ty #[.slice (some ⟨g, 0, none⟩) n cap, .int .i64 m]).run P w = .ok (.slice (some ⟨w.heap.size, 0, none⟩) (n + m) cap') W) ∧ Rw W w.heap.size e (cur.take (n * 2) ++ rest) ∧ (cur.take (n * 2) ++ rest).length = cap' * 2 ∧ n + m ≤ cap' ∧ cap' ≤ maxLen ∧ Kept [] w W := by
  have holds : ∀ j v, (cur.take (n * 2))[j]? = some v → w.cell? ((⟨g, 0, none⟩ : Addr).add j) = some v := by
    intro j v hj
    rw [List.getElem?_take] at hj
    split at hj
    · rw [add_lit, cell_of_row _ _ _ _ _ _ h]; simpa using hj
    · cases hj
  have hlo : (cur.take (n * 2)).length = n * 2 := by rw [List.length_take]; omega
  have hge := grownCap_ge w (n + m) cap e
  have hcm : grownCap w (n + m) cap e ≤ maxLen := grownCap_le_maxLen w (n + m) cap e (by unfold maxLen; omega)
  have hfit : Builtin.nextslicecap (n + m) cap * i.bytes ≤ 281474976710656 := growslice_fits (by omega) (by rw [hb]; omega)
  have hf0 := run_firstCells_some (P := P) w.drew i.size n ⟨g, 0, none⟩ n cap (cur.take (n * 2)) (by rw [hs]; exact hlo) (by simpa using holds)
  have hr0 := fun ty => Lib.run_append_grow_zeros (P := P) w t tn ty e i z .i64 .i64 ht hu hi hz (some ⟨g, 0, none⟩) n cap (cur.take (n * 2)) hf0 m h0 (by omega) hroom (by omega) (by rw [hb]; omega) hfit
  refine ⟨_, grownCap w (n + m) cap e, (Builtin.zeroCells z.cells m ++ Builtin.zeroCells z.cells (grownCap w (n + m) cap e - (n + m))).toList, hr0, ?_, ?_, hge, hcm, ((Kept.refl [] w).drew).alloc _⟩
  · have := heap_alloc_new w.drew (.cells ((cur.take (n * 2)).toArray ++ Builtin.zeroCells z.cells m ++ Builtin.zeroCells z.cells (grownCap w (n + m) cap e - (n + m))) e)
    unfold Rw
    rw [show w.heap.size = w.drew.heap.size from rfl, this]
    simp
  · simp only [List.length_append, hlo, Array.toList_append, Array.length_toList, size_zeroCells, hz2]
    omega

/-- two rows do not overlap -/
theorem apartTo {P : Program} {w : World} {g : Nat} {e e' : TypeId} {cur : List Value} {cu : Array Value} (tS tR : TypeId) (ht : P.underlying tS = some (.slice e)) (hs : (P.info? e).map (·.size) = some 2) (a b : Addr) (la ca lb cb : Nat) (ha : w.heap[a.block]? = some (.cells cu e' (0, 0))) (hb : b.block = g) (h : Rw w g e cur) (hne : a.block ≠ g) (h0 : 0 < cur.length) :
    (Extern.SlicesOverlaps.overlaps #[tS, tS] #[tR] #[.slice (some a) la ca, .slice (some b) lb cb]).run P w = .ok (.bool false) w := by
  have hz : ∀ w, (Go.sizeOf e).run P w = .ok 2 w := by
    intro w
    cases hq : P.info? e with
    | none => simp [hq] at hs
    | some i =>
      have hi : i.size = 2 := by simpa [hq] using hs
      simp [sizeOf, typeInfo, hq, hi]
  subst hb
  refine Lib.run_overlaps_apart w tS tR e ht 2 hz a b la ca lb cb hne e' e cu.size cur.length ?_ ?_ (by omega) ?_ ?_
  · simp [World.shape?, ha]
  · unfold Rw at h; simp [World.shape?, h]
  · simp [World.frozen?, ha]
  · simp [World.frozen?, ha]

theorem OW.open {w : World} {B : Nat} {t : TypeId} {v : Value} {es : List (Value × Value)} (h : OW w B t v es) (h0 : 0 < es.length) : ∃ g cap cur, v = .slice (some ⟨g, 0, none⟩) es.length cap ∧ B ≤ g ∧ Rw w g t cur ∧ es.length ≤ cap ∧ cap ≤ maxLen ∧ cur.length = cap * 2 ∧ cur.take (es.length * 2) = fl es := by
  obtain ⟨_, ⟨rfl, h1⟩ | ⟨g, cap, cur, rfl, hB, hh, h1, h2, h3, htk⟩⟩ := h
  · omega
  · exact ⟨g, cap, cur.toList, rfl, hB, hh, h1, h2, by simpa using h3, htk⟩
theorem OW.close {w : World} {B : Nat} {t : TypeId} {es : List (Value × Value)} {g n cap : Nat} {cur : List Value} (hB : B ≤ g) (h : Rw w g t cur) (hn : n = es.length) (h1 : n ≤ cap) (h2 : cap ≤ maxLen) (h3 : cur.length = cap * 2) (htk : cur.take (n * 2) = fl es) : OW w B t (.slice (some ⟨g, 0, none⟩) n cap) es := by
  subst hn
  exact ⟨fl_len es, Or.inr ⟨g, cap, cur.toArray, rfl, hB, h, h1, h2, by simpa using h3, htk⟩⟩

/-- a row of one's own, changed -/
def OwnR (B : Nat) (t : TypeId) (v : Value) (es : List (Value × Value)) (w : World) (e : Ending) (w' : World) : Prop := ∃ v', e = .returned v' ∧ OW w' B t v' es ∧ Kept v.ownBlock.toList w w'

end Go.Proofs.YtloihcnbcknbnaaGreatDoor

namespace Go.Proofs.YtloihcnbcknbnaaGreatDoor
open Go.RowKit

section
variable {P : Program} {ops : Array Oper} {Q : Exit → Act → World → Prop}
theorem wpOp_valW {i : Nat} {o : Oper} {K : Act → World → Prop} {a : Act} {w : World} (ho : ops[i]? = some o) (hw : Region.wanted o (yielded ops a.tmps) = true) (v : Value) (w' : World)
    (hrun : (execOp a.eval o).run P w = .ok (.value v) w') (h : K (a.put o.dst v) w') : wpOp P ops Q i K a w :=
  wpOp_step ho fun K' hK => by rw [if_pos hw]; unfold Oper.wp; rw [hrun]; exact hK _ _ h
end

/-- a row with a part of it put elsewhere -/
theorem take_del (es : List (Value × Value)) (cur zs : List Value) (i n : Nat) (hn : n = es.length) (hi : i < n) (htk : cur.take (n * 2) = fl es) :
    (splice (splice cur (i * 2) ((cur.drop ((i + 1) * 2)).take ((n - (i + 1)) * 2))) ((n - 1) * 2) zs).take ((n - 1) * 2) = fl (es.take i ++ es.drop (i + 1)) := by
  have e1 : (cur.drop ((i + 1) * 2)).take ((n - (i + 1)) * 2) = fl (es.drop (i + 1)) := by
    rw [← fl_drop, ← htk, List.drop_take]
    congr 1; omega
  have e2 : cur.take (i * 2) = fl (es.take i) := by
    rw [← fl_take, ← htk, List.take_take]
    congr 1; omega
  rw [e1]
  have l1 : (fl (es.take i)).length = i * 2 := by rw [fl_len, List.length_take]; omega
  have l2 : (fl (es.drop (i + 1))).length = (n - (i + 1)) * 2 := by rw [fl_len, List.length_drop]; omega
  unfold splice
  rw [e2, fl_append]
  have l3 : (fl (es.take i) ++ (fl (es.drop (i + 1)) ++ cur.drop (i * 2 + (fl (es.drop (i + 1))).length))).take ((n - 1) * 2) = fl (es.take i) ++ fl (es.drop (i + 1)) := by
    rw [← List.append_assoc, List.take_append_of_le_length (by rw [List.length_append, l1, l2]; omega), List.take_of_length_le (by rw [List.length_append, l1, l2]; omega)]
  rw [l3, List.take_append_of_le_length (by rw [List.length_append, l1, l2]; omega), List.take_of_length_le (by rw [List.length_append, l1, l2]; omega)]

theorem zvp (w : World) : (zeroValue 114).run Tryz.prog w = .ok (.agg #[.string ⟨#[]⟩, .string ⟨#[]⟩]) w := by kernel_rfl

theorem one_part {es : List (Value × Value)} (h1 : One es) {cur : List Value} {n : Nat} (htk : cur.take (n * 2) = fl es) (l k : Nat) (hlk : l + k ≤ n) : ∀ u ∈ (cur.drop (l * 2)).take (k * 2), u.oneCell' = true := by
  intro u hu
  refine h1.fl u ?_
  rw [← htk]
  obtain ⟨j, hj⟩ := List.mem_iff_getElem?.1 hu
  rw [List.getElem?_take] at hj
  split at hj
  · rw [List.getElem?_drop] at hj
    refine List.mem_of_getElem? (i := l * 2 + j) ?_
    rw [List.getElem?_take, if_pos (by omega)]
    exact hj
  · cases hj

set_option maxRecDepth 100000 in
set_option maxHeartbeats 4000000 in
theorem deleteP_any (B : Nat) (vl : Value) (es : List (Value × Value)) (i : Nat) (w : World) (h : OW w B 114 vl es) (h1 : One es) (hi : i < es.length) (hl : es.length ≤ 50000) :
    Calls Tryz.prog 92 #[vl, .int .i64 i, .int .i64 ((i : Int) + 1)] w (OwnR B 114 vl (es.take i ++ es.drop (i + 1)) w) := by
  obtain ⟨g, cap, cur, rfl, hB, hg, hc1, hc2, hc3, htk⟩ := h.open (by omega)
  have f1 : (i : Int) ≤ (i : Int) + 1 := by omega
  have f2 : (i : Int) + 1 ≤ (es.length : Int) := by omega
  have f3 : (es.length : Int) ≤ (cap : Int) := by omega
  have f4 : ¬ (i : Int) = (i : Int) + 1 := by omega
  have hcs : ((cur.drop ((i + 1) * 2)).take ((es.length - (i + 1)) * 2)).length = (es.length - (i + 1)) * 2 := by rw [List.length_take, List.length_drop]; omega
  obtain ⟨w1, hr1, hg1, k1⟩ := appendTo (P := Tryz.prog) hg.drew 108 108 114 Tryz.underlying108 Tryz.underlying108 stp cap i hc3 (cutA g 0 cap (i + 1)) (es.length - (i + 1)) (cap - (i + 1)) (by omega) ((cur.drop ((i + 1) * 2)).take ((es.length - (i + 1)) * 2)) hcs (hg.drew.src cap (i + 1) (es.length - (i + 1)) (by omega)) (one_part h1 htk (i + 1) _ (by omega))
  have hsp : (splice cur (i * 2) ((cur.drop ((i + 1) * 2)).take ((es.length - (i + 1)) * 2))).length = cap * 2 := by rw [length_splice _ _ _ (by rw [hcs]; omega), hc3]
  have elen : i + (es.length - (i + 1)) = es.length - 1 := by omega
  rw [elen] at hr1
  have K1 : Kept [g] w w1 := ((Kept.refl [g] w).drew).trans k1
  have hslc : ∀ W : World, (Instr.sliceAt 108 (.slice (some ⟨g, 0, none⟩) (es.length - 1) cap) (some (.int .i64 ((es.length - 1 : Nat) : Int))) (some (.int .i64 (es.length : Int))) none).run Tryz.prog W = .ok (.slice (some (cutA g 0 cap (es.length - 1))) (es.length - (es.length - 1)) (cap - (es.length - 1))) W := fun W => run_slice_lh W 108 114 g 0 (es.length - 1) cap Tryz.underlying108 stp (es.length - 1) es.length (by omega) (by omega)
  obtain ⟨w2, zs, hzs, hr2, hg2, k2⟩ := clearTo (P := Tryz.prog) hg1 108 114 _ Tryz.underlying108 zvp (by rfl) (by intro u hu; simp [Value.cells] at hu; rcases hu with rfl | rfl <;> rfl) cap es.length (es.length - 1) (by omega) (by omega) hsp
  have fin : OwnR B 114 (.slice (some ⟨g, 0, none⟩) es.length cap) (es.take i ++ es.drop (i + 1)) w (.returned (.slice (some ⟨g, 0, none⟩) (es.length - 1) cap)) w2 := by
    refine ⟨_, rfl, OW.close hB hg2 (by simp; omega) (by omega) hc2 (by rw [length_splice _ _ _ (by rw [hzs, hsp]; omega), hsp]) (take_del es cur zs i es.length rfl hi htk), ?_⟩
    exact K1.trans k2
  have FIN : Hid _ := fin
  clear fin K1 k2 hg2 hzs
  go_enter Tryz.func92, Tryz.ntmps92
  go_wp2
  refine wp_region_S (fun _ : World => True) (by kernel_rfl) ?_
  refine wpAnyH_take (i := 0) (v := .slice (some ⟨g, 0, none⟩) es.length cap) rfl (by kernel_rfl) (by kernel_rfl) (by kernel_rfl) (fun _ _ _ h => h) (Or.inl ⟨by rfl, fun W hW => by rfl⟩) trivial ?_
  simp only [Act.put, List.getElem_toArray, List.getElem_cons_zero, List.setIfInBounds_toArray, List.set_cons_succ, List.set_cons_zero]
  refine wpAnyH_take (i := 1) (v := .int .i64 i) rfl (by kernel_rfl) (by kernel_rfl) (by kernel_rfl) (fun _ _ _ h => h) (Or.inl ⟨by rfl, fun W hW => by rfl⟩) trivial ?_
  simp only [Act.put, List.getElem_toArray, List.getElem_cons_succ, List.getElem_cons_zero, List.setIfInBounds_toArray, List.set_cons_succ, List.set_cons_zero]
  refine wpAnyH_take (i := 2) (v := .slice (some ⟨g, 0, none⟩) i cap) rfl (by kernel_rfl) (by kernel_rfl) (by kernel_rfl) (fun _ _ _ h => h) (Or.inl ⟨by rfl, fun W hW => exec_slice 108 (.tmp 20) none (some (.tmp 21)) none rfl _ none (some (.int .i64 i)) none rfl rfl rfl rfl _ (run_slice_hi W 108 114 g 0 es.length cap Tryz.underlying108 stp i (by omega))⟩) trivial ?_
  simp only [Act.put, List.getElem_toArray, List.getElem_cons_succ, List.getElem_cons_zero, List.setIfInBounds_toArray, List.set_cons_succ, List.set_cons_zero]
  refine wpAnyH_take (i := 3) (v := .slice (some ⟨g, 0, none⟩) es.length cap) rfl (by kernel_rfl) (by kernel_rfl) (by kernel_rfl) (fun _ _ _ h => h) (Or.inl ⟨by rfl, fun W hW => by rfl⟩) trivial ?_
  simp only [Act.put, List.getElem_toArray, List.getElem_cons_succ, List.getElem_cons_zero, List.setIfInBounds_toArray, List.set_cons_succ, List.set_cons_zero]
  refine wpAnyH_take (i := 4) (v := .int .i64 ((i : Int) + 1)) rfl (by kernel_rfl) (by kernel_rfl) (by kernel_rfl) (fun _ _ _ h => h) (Or.inl ⟨by rfl, fun W hW => by rfl⟩) trivial ?_
  simp only [Act.put, List.getElem_toArray, List.getElem_cons_succ, List.getElem_cons_zero, List.setIfInBounds_toArray, List.set_cons_succ, List.set_cons_zero]
  refine wpAnyH_take (i := 5) (v := .slice (some (cutA g 0 cap (i + 1))) (es.length - (i + 1)) (cap - (i + 1))) rfl (by kernel_rfl) (by kernel_rfl) (by kernel_rfl) (fun _ _ _ h => h) (Or.inl ⟨by rfl, fun W hW => exec_slice 108 (.tmp 23) (some (.tmp 24)) none none rfl _ (some (.int .i64 ((i + 1 : Nat) : Int))) none none rfl rfl rfl rfl _ (run_slice_lo W 108 114 g 0 es.length cap Tryz.underlying108 stp (i + 1) (by omega))⟩) trivial ?_
  simp only [Act.put, List.getElem_toArray, List.getElem_cons_succ, List.getElem_cons_zero, List.setIfInBounds_toArray, List.set_cons_succ, List.set_cons_zero]
  refine held_one (i := 6) (by kernel_rfl) (wpOp_valW rfl (by rfl) _ w1 (exec_append2 (.tmp 22) (.tmp 25) 108 108 rfl _ _ rfl rfl _ (hr1 _)) ⟨trivial, ?_⟩)
  simp only [Act.put, List.getElem_toArray, List.getElem_cons_succ, List.getElem_cons_zero, List.setIfInBounds_toArray, List.set_cons_succ, List.set_cons_zero]
  refine held_one (i := 7) (by kernel_rfl) (wpOp_valW rfl (by rfl) (.slice (some ⟨g, 0, none⟩) (es.length - 1) cap) w1 rfl ⟨trivial, ?_⟩)
  simp only [Act.put, List.getElem_toArray, List.getElem_cons_succ, List.getElem_cons_zero, List.setIfInBounds_toArray, List.set_cons_zero]
  refine wpAnyH_done (by kernel_rfl) ?_ _
  go_wp2_with (first
    | (at_builtin; (refine wpList_val rfl _ w2 (exec_clear (.tmp 31) 108 rfl _ rfl _ (hr2 _)) ?_)))
  go_ret
  exact FIN.out

end Go.Proofs.YtloihcnbcknbnaaGreatDoor
