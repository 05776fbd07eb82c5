import Derived.Test.YtcklgafpgdhnaabGreatDoorPtad
import Derived.Test.YtcklgafpgdhnaabGreatDoorPtaa
import Derived.Test.YtcklgafpgdhnaabGreatDoorPtag
set_option maxRecDepth 100000
set_option maxHeartbeats 4000000
open List renaming getElem_toArray → zA, getElem_cons_succ → zB, getElem_cons_zero → zC, setIfInBounds_toArray → zD, set_cons_succ → zE, set_cons_zero → zF
namespace Go.Proofs.YtcklgafpgdhnaabGreatDoor
open Go.RowKit

structure Qt (D D' : Dv) : Prop where
 L : D'.L = D.L
 q : D'.q = D.q
 wr : D'.wr = D.wr
 t : D'.t = D.t
 off : D'.off = D.off
 fr : D'.fr = D.fr
 to : D'.to = D.to
def Good (D : Dv) : Prop := D.off = -1 ∧ D.fr = 0 ∧ D.to = 0
structure Er (D D' : Dv) : Prop where
 L : D'.L = D.L
 q : D'.q = D.q
 wr : D'.wr = D.wr
 t : D'.t = wrap64 (D.t + 1)
 off : D'.off = D.off
 fr : D'.fr = D.fr
 to : D'.to = D.to
 bad : ¬ Good D
structure Wn (D : Dv) (i : Nat) (B : List UInt8) (D' : Dv) : Prop where
 L : D'.L = D.L
 q : D'.q = D.q ++ [(i, B)]
 wr : D'.wr = wrap64 (D.wr + 1)
 t : D'.t = D.t
 off : D'.off = D.off
 fr : D'.fr = D.fr
 to : D'.to = D.to
structure Fl (D D' : Dv) : Prop where
 L : D'.L = lay D.L D.q
 q : D'.q = []
 wr : D'.wr = D.wr
 t : D'.t = D.t
 off : D'.off = D.off
 fr : D'.fr = D.fr
 to : D'.to = D.to

theorem Good.bad {D : Dv} (h : Good D) : D.bad = false := by
 obtain ⟨h1, h2, h3⟩ := h
 simp only [Dv.bad, h1, h2, h3]
 simp
theorem Qt.refl (D : Dv) : Qt D D := ⟨rfl, rfl, rfl, rfl, rfl, rfl, rfl⟩
theorem Qt.trans {D E F : Dv} (h : Qt D E) (g : Qt E F) : Qt D F :=
 ⟨g.L.trans h.L, g.q.trans h.q, g.wr.trans h.wr, g.t.trans h.t, g.off.trans h.off, g.fr.trans h.fr, g.to.trans h.to⟩
theorem Qt.good {D E : Dv} (h : Qt D E) : Good E ↔ Good D := by unfold Good; rw [h.off, h.fr, h.to]
theorem Qt.er {D E F : Dv} (h : Qt D E) (g : Er E F) : Er D F :=
 ⟨g.L.trans h.L, g.q.trans h.q, g.wr.trans h.wr, by rw [g.t, h.t], g.off.trans h.off, g.fr.trans h.fr, g.to.trans h.to, fun hg => g.bad (h.good.2 hg)⟩
theorem Qt.wn {D E F : Dv} {i : Nat} {B : List UInt8} (h : Qt D E) (g : Wn E i B F) : Wn D i B F :=
 ⟨g.L.trans h.L, by rw [g.q, h.q], by rw [g.wr, h.wr], g.t.trans h.t, g.off.trans h.off, g.fr.trans h.fr, g.to.trans h.to⟩
theorem Qt.fl {D E F : Dv} (h : Qt D E) (g : Fl E F) : Fl D F :=
 ⟨by rw [g.L, h.L, h.q], g.q, g.wr.trans h.wr, g.t.trans h.t, g.off.trans h.off, g.fr.trans h.fr, g.to.trans h.to⟩
theorem Qt.view {D E : Dv} (h : Qt D E) (i : Nat) : E.view i = D.view i := by unfold Dv.view; rw [h.L, h.q]
theorem Qt.tick {D : Dv} (hb : D.bad = false) : Qt D D.tick := by
 refine ⟨rfl, rfl, rfl, ?_, rfl, rfl, rfl⟩
 simp [Dv.tick, hb]
theorem Er.tick {D : Dv} (hb : D.bad = true) : Er D D.tick := by
 refine ⟨rfl, rfl, rfl, ?_, rfl, rfl, rfl, fun hg => ?_⟩
 ·simp [Dv.tick, hb]
 ·rw [hg.bad] at hb; cases hb
theorem Wn.put {D : Dv} (hb : D.bad = false) (i : Nat) (B : List UInt8) : Wn D i B (D.put i B) := by
 refine ⟨rfl, rfl, rfl, ?_, rfl, rfl, rfl⟩
 simp [Dv.put, Dv.tick, hb]
theorem Fl.flush {D : Dv} (hb : D.bad = false) : Fl D D.flush := by
 refine ⟨rfl, rfl, rfl, ?_, rfl, rfl, rfl⟩
 simp [Dv.flush, Dv.tick, hb]
theorem Wn.good {D E : Dv} {i : Nat} {B : List UInt8} (h : Wn D i B E) : Good E ↔ Good D := by unfold Good; rw [h.off, h.fr, h.to]
theorem Fl.good {D E : Dv} (h : Fl D E) : Good E ↔ Good D := by unfold Good; rw [h.off, h.fr, h.to]

end Go.Proofs.YtcklgafpgdhnaabGreatDoor

namespace Go.Proofs.YtcklgafpgdhnaabGreatDoor
open Go.RowKit

structure Tab (w : World) : Prop where
 row : ∃ cs fr, w.heap[2]? = some (.cells cs 225 fr)
 ito : ∀ W : World, W.heap[2]? = w.heap[2]? → ∀ i : Nat, i < 70000 → Calls Tryz.prog 93 #[.int .i64 i] W fun e w' => ∃ s, e = .returned (.string s) ∧ s.size ≤ 1000 ∧ Kept [] W w'
theorem Tab.lt {w : World} (h : Tab w) : 2 < w.heap.size := by
 obtain ⟨cs, fr, hh⟩ := h.row
 exact lt_heap hh
theorem Tab.kept {S : List Nat} {w w' : World} (h : Tab w) (k : Kept S w w') (hS : 2 ∉ S) : Tab w' := by
 have e := k.block 2 h.lt hS
 obtain ⟨cs, fr, hh⟩ := h.row
 exact ⟨⟨cs, fr, by rw [e]; exact hh⟩, fun W hW => h.ito W (by rw [hW, e])⟩
theorem Tab.k {w w' : World} (h : Tab w) (k : Kept [] w w') : Tab w' := h.kept k (by simp)
theorem Itoa_any {w : World} (hT : Tab w) (i : Nat) (hi : i < 70000) : Calls Tryz.prog 93 #[.int .i64 i] w fun e w' => ∃ s, e = .returned (.string s) ∧ s.size ≤ 1000 ∧ Kept [] w w' := hT.ito w rfl i hi
theorem Tab.ne {w : World} (h : Tab w) {y : Nat} {cs : Array Value} {t : TypeId} {fr : Nat × Nat} (hy : w.heap[y]? = some (.cells cs t fr)) (ht : t ≠ 225) : 2 ≠ y := by
 obtain ⟨cs', fr', hh⟩ := h.row
 exact ne_tag hh hy ht.symm

end Go.Proofs.YtcklgafpgdhnaabGreatDoor

namespace Go.Proofs.YtcklgafpgdhnaabGreatDoor
open Go.RowKit

theorem mRead (a : Addr) (w : World) : (Go.method 391 23 (.pointer (some a)) "Read").run Tryz.prog w = .ok (171, .pointer (some a)) w := by kernel_rfl
theorem mWrite (a : Addr) (w : World) : (Go.method 391 23 (.pointer (some a)) "Write").run Tryz.prog w = .ok (172, .pointer (some a)) w := by kernel_rfl
theorem mFlush (a : Addr) (w : World) : (Go.method 391 23 (.pointer (some a)) "Flush").run Tryz.prog w = .ok (170, .pointer (some a)) w := by kernel_rfl
theorem mBlocks (a : Addr) (w : World) : (Go.method 391 23 (.pointer (some a)) "Blocks").run Tryz.prog w = .ok (23, .pointer (some a)) w := by kernel_rfl
theorem zblk (w : World) : (Instr.alloc 80 true (.tuple #[])).run Tryz.prog w = .ok (.pointer (some ⟨w.heap.size, 0, none⟩)) (w.alloc (.cells (u8s (List.replicate 128 0)).toArray 80)) := by kernel_rfl

def Vol (w : World) (v a n : Nat) : Prop := w.heap[v]? = some (.cells #[.iface 23 (.pointer (some ⟨a, 0, none⟩)), .int .i64 n] 105 (0, 0))

def Thr (x : Int) (e : Ending) (w' : World) : Prop :=
 ∃ f o, e = .panicked [{ v := .iface 143 (.agg #[.iface 98 (.pointer (some ⟨f, 0, none⟩))]), recovered := false }] ∧
  w'.heap[f]? = some (.cells #[o, .iface 44 (.int .i64 x)] 101 (0, 0))
theorem Throw_v (o : ByteArray) (x : Int) (w : World) : Calls Tryz.prog 46 #[.string o, .int .i64 x] w fun e w' => Thr x e w' ∧ Kept [] w w' := by
 go_enter Tryz.func46, Tryz.ntmps46
 go_wp2
 exact ⟨rfl, ⟨w.heap.size, .string o, rfl, heap_alloc_new _ _⟩, (Kept.refl _ _).alloc _⟩
theorem Thr.ex {x : Int} {e : Ending} {w' : World} (h : Thr x e w') : ∃ f o, e = .panicked [{ v := .iface 143 (.agg #[.iface 98 (.pointer (some ⟨f, 0, none⟩))]), recovered := false }] ∧
  w'.heap[f]? = some (.cells #[o, .iface 44 (.int .i64 x)] 101 (0, 0)) := h

def RdR (a : Nat) (bv : Value) (n : Nat) (cv : Value) (D : Dv) (P : Ending → World → Prop) (w : World) (e : Ending) (w' : World) : Prop :=
 ∃ D', DQ w' a bv n cv D' ∧ Kept [a] w w' ∧ ((Qt D D' ∧ P e w') ∨ (Er D D' ∧ Thr 6 e w'))
def WrR (a : Nat) (bv : Value) (n : Nat) (cv : Value) (P : Dv → Ending → World → Prop) (w : World) (e : Ending) (w' : World) : Prop :=
 ∃ cv' D', DQ w' a bv n cv' D' ∧ Kept (dfoot a bv cv) w w' ∧ (∀ y, cv'.ownBlock = some y → cv.ownBlock = some y ∨ w.heap.size ≤ y) ∧ P D' e w'

theorem DQ.no {w : World} {a : Nat} {bv : Value} {n : Nat} {cv : Value} {D : Dv} (h : DQ w a bv n cv D) {y : Nat} {cs : Array Value} {t : TypeId} {fr : Nat × Nat} (hy : w.heap[y]? = some (.cells cs t fr)) (ht : t ∉ [65, 80, 82]) : y ∉ dfoot a bv cv := by
 simp only [List.mem_cons, List.not_mem_nil, or_false, not_or] at ht
 intro hx
 rcases List.mem_cons.1 hx with rfl | hx
 ·exact ne_tag hy h.d ht.1 rfl
 rcases List.mem_append.1 hx with hx | hx
 ·obtain ⟨cs', fr', hh⟩ := owns_tag h.b (by simpa using hx)
  exact ne_tag hy hh ht.2.1 rfl
 ·obtain ⟨cs', fr', hh⟩ := owns_tag h.o (by simpa using hx)
  exact ne_tag hy hh ht.2.2 rfl
theorem DQ.ge {w : World} {a : Nat} {bv : Value} {n : Nat} {cv : Value} {D : Dv} (h : DQ w a bv n cv D) {y : Nat} (hy : w.heap.size ≤ y) : y ∉ dfoot a bv cv := fun hx => by have := h.lt y hx; omega
theorem DQ.k1 {w w' : World} {a : Nat} {bv : Value} {n : Nat} {cv : Value} {D : Dv} {y : Nat} (h : DQ w a bv n cv D) (k : Kept [y] w w') (hy : y ∉ dfoot a bv cv) : DQ w' a bv n cv D := h.kept k (by intro x hx hm; simp at hm; subst hm; exact hy hx)

theorem Tab.dq {w : World} {a : Nat} {bv : Value} {n : Nat} {cv : Value} {D : Dv} (hT : Tab w) (h : DQ w a bv n cv D) : 2 ∉ dfoot a bv cv := by
 obtain ⟨cs, fr, hh⟩ := hT.row
 exact h.no hh (by decide)
theorem Tab.dqa {w : World} {a : Nat} {bv : Value} {n : Nat} {cv : Value} {D : Dv} (hT : Tab w) (h : DQ w a bv n cv D) : 2 ∉ [a] := by
 have := hT.dq h
 simp only [dfoot, List.mem_cons, not_or] at this
 simpa using this.1

theorem VBlock_ok (v a : Nat) (bv : Value) (n : Nat) (cv : Value) (D : Dv) (i : Nat) (w : World) (hv : Vol w v a n) (h : DQ w a bv n cv D) (hi : i < n) (hn : n ≤ 1000) (hq : D.q.length ≤ 1000000) (hb : D.bad = false) :
  Calls Tryz.prog 102 #[.pointer (some ⟨v, 0, none⟩), .int .i64 i] w fun e w' => e = .returned (.agg (u8s (D.view i)).toArray) ∧ DQ w' a bv n cv D.tick ∧ Kept [a] w w' := by
 have m1 := mRead
 have nva : v ≠ a := ne_tag hv h.d (by decide)
 have hlv := lt_heap hv
 have hla := lt_heap h.d
 have hlb : (D.view i).length = 128 := vf_len (length_blockOf D.L n i h.l hi) h.q
 go_enter Tryz.func102, Tryz.ntmps102
 go_wp2_with (first
  | (refine wpList_alloc_d rfl 4 rfl 80 rfl _ (zblk _) ?_; intro w1 hn1 hk1 hs1; have HS1 : Hid _ := hs1; clear hs1; have c1 : w1.cell? ⟨v, 0, none⟩ = some (.iface 23 (.pointer (some ⟨a, 0, none⟩))) := cellAt (hk1.get hv (by simp)) rfl)
  | (go_at_call 171; refine (Read_any a bv n cv D i w1 (h.k0 hk1) hi hn hq).mono ?_; rintro e w2 ⟨hd2, hk2, hr⟩; rw [hb] at hr; simp only [Bool.false_eq_true, if_false] at hr; obtain ⟨r, rfl, hr2, hrs2⟩ := hr)
  | (refine wpList_alloc_d rfl 7 rfl 80 rfl _ (zblk _) ?_; intro w3 hn3 hk3 hs3; have HS3 : Hid _ := hs3; clear hs3; have hr3 := hk3.get hr2 (by simp))
  | (refine upon_copy_k 83 83 5 Tryz.underlying83 su8 w2.heap.size 0 128 128 ⟨r, 0, none⟩ 128 128 (u8s (List.replicate 128 0)) 80 hn3 (u8s (D.view i)) (by rw [length_u8s, hlb]; exact (Nat.min_self 128).symm) (row_src hr3) (by rw [length_u8s, length_u8s, hlb, List.length_replicate]; omega) (one_u8s _) ?_; intro w4 hg4 hk4; rw [splice_whole _ _ (by rw [length_u8s, length_u8s, hlb, List.length_replicate])] at hg4)
  | (refine wpList_load_row rfl 80 (.tmp 7) rfl w2.heap.size rfl 80 (u8s (D.view i)).toArray (0, 0) _ hg4 Tryz.underlying80 rfl (by rw [sblk]; simp [length_u8s, hlb]) ?_)
  | (refine wpList_store_k rfl 80 (.tmp 4) (.tmp 26) rfl w.heap.size (u8s (D.view i)).toArray rfl rfl 80 _ (hk4.get (hk3.get (hk2.get hn1 (by simp; omega)) (by simp)) (by have := hk2.size; have := lt_heap hn1; simp; omega)) (by rw [sblk]; simp [length_u8s, hlb]) (by simp [length_u8s, hlb]) (all_of (one_u8s _)) ?_; intro w5 hg5 hk5))
 refine bodyPost_ret (results_cell_row rfl _ w5 w.heap.size 80 _ (0, 0) _ rfl hg5 Tryz.underlying80 rfl (by rw [sblk]; simp [length_u8s, hlb])) rfl ?_
 have hz1 := HS1.out
 have hz2 := hk2.size
 have hd3 := hd2.k0 hk3
 have hd4 := hd3.k1 hk4 (hd2.ge (Nat.le_refl _))
 have hd5 := hd4.k1 hk5 (h.ge (Nat.le_refl _))
 refine ⟨rfl, hd5, ?_⟩
 refine Kept.trans2 (Kept.trans2 (Kept.trans2 (Kept.trans2 (hk1.mono (by simp)) hk2 (by simp)) hk3 (by simp)) hk4 ?_) hk5 ?_
 ·intro x hx; simp at hx; subst hx; exact Or.inr (by omega)
 ·intro x hx; simp at hx; subst hx; exact Or.inr (Nat.le_refl _)

theorem VBlock_bad (v a : Nat) (bv : Value) (n : Nat) (cv : Value) (D : Dv) (i : Nat) (w : World) (hv : Vol w v a n) (h : DQ w a bv n cv D) (hi : i < n) (hn : n ≤ 1000) (hq : D.q.length ≤ 1000000) (hb : D.bad = true) (hT : Tab w) :
  Calls Tryz.prog 102 #[.pointer (some ⟨v, 0, none⟩), .int .i64 i] w fun e w' => Thr 6 e w' ∧ DQ w' a bv n cv D.tick ∧ Kept [a] w w' := by
 have m1 := mRead
 go_enter Tryz.func102, Tryz.ntmps102
 go_wp2_with (first
  | (refine wpList_alloc_d rfl 4 rfl 80 rfl _ (zblk _) ?_; intro w1 hn1 hk1 hs1; have HS1 : Hid _ := hs1; clear hs1; have c1 : w1.cell? ⟨v, 0, none⟩ = some (.iface 23 (.pointer (some ⟨a, 0, none⟩))) := cellAt (hk1.get hv (by simp)) rfl)
  | (go_at_call 171; refine (Read_any a bv n cv D i w1 (h.k0 hk1) hi hn hq).mono ?_; rintro e w2 ⟨hd2, hk2, hr⟩; rw [hb] at hr; simp only [if_true, eIO] at hr; subst hr; have hT2 := (hT.k hk1).kept hk2 ((hT.k hk1).dqa (h.k0 hk1)))
  | (go_at_call 93; refine (Itoa_any hT2 i (by omega)).mono ?_; rintro e w3 ⟨s3, rfl, hs3, hk3⟩; have hs3' : ¬ 9223372036854775807 < 14 + s3.size := (by omega))
  | (go_at_call 46; refine (Throw_v _ _ _).mono ?_; rintro e w4 ⟨ht, hk4⟩; obtain ⟨f, o, rfl, hf⟩ := ht.ex))
 exact ⟨rfl, ht, (hd2.k0 hk3).k0 hk4, ((hk1.mono (by simp)).trans hk2).trans ((hk3.trans hk4).mono (by simp))⟩

theorem VBlock_any (v a : Nat) (bv : Value) (n : Nat) (cv : Value) (D : Dv) (i : Nat) (w : World) (hv : Vol w v a n) (h : DQ w a bv n cv D) (hi : i < n) (hn : n ≤ 1000) (hq : D.q.length ≤ 1000000) (hT : Good D ∨ Tab w) :
  Calls Tryz.prog 102 #[.pointer (some ⟨v, 0, none⟩), .int .i64 i] w (RdR a bv n cv D (fun e _ => e = .returned (.agg (u8s (D.view i)).toArray)) w) := by
 cases hb : D.bad with
 | false => exact (VBlock_ok v a bv n cv D i w hv h hi hn hq hb).mono fun e w' ⟨h1, h2, h3⟩ => ⟨D.tick, h2, h3, Or.inl ⟨Qt.tick hb, h1⟩⟩
 | true => exact (VBlock_bad v a bv n cv D i w hv h hi hn hq hb (hT.resolve_left fun hg => by rw [hg.bad] at hb; cases hb)).mono fun e w' ⟨h1, h2, h3⟩ => ⟨D.tick, h2, h3, Or.inr ⟨Er.tick hb, h1⟩⟩

end Go.Proofs.YtcklgafpgdhnaabGreatDoor
