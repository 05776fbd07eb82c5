import Derived.Test.YtcklgafpgdhnaaaGreatDoorPtab
import Derived.Test.YtcklgafpgdhnaaaGreatDoorPtac
import Derived.Deep.DeepAppendRoom
import Derived.Laws.IdiomStrings
import Derived.BigRegion
set_option maxRecDepth 100000
set_option maxHeartbeats 4000000
open List renaming getElem_toArray → zA, getElem_cons_succ → zB, getElem_cons_zero → zC, setIfInBounds_toArray → zD, set_cons_succ → zE, set_cons_zero → zF
namespace Go.Proofs.YtcklgafpgdhnaaaGreatDoor
open Go.RowKit

theorem zc_write : Tryz.zeroCells94 = (wcells 0 (zl 128)).toArray := by kernel_rfl
theorem zc_write' (i : Int) : Tryz.zeroCells94.setIfInBounds 0 (.int .i64 i) = (wcells i (zl 128)).toArray := by rw [zc_write]; simp [wcells]
theorem iwrite : (Tryz.prog.info? 94).map (fun i => (i.zero, i.size, i.bytes)) = some (some (.agg (wcells 0 (zl 128)).toArray), 129, 136) := by kernel_rfl
theorem swrites : (Tryz.prog.info? 89).map (·.size) = some 1 := by kernel_rfl
theorem splice_wcells (i : Int) (B : List UInt8) (h : B.length = 128) : splice (wcells i (zl 128)) 1 (u8s B) = wcells i (u8s B) := by
 simp [splice, wcells, length_u8s, h, zl]
theorem grown_kept {w w' : World} {row : Option Nat} (h : w.grownBy w' row) (S : List Nat) (hr : ∀ k, row = some k → k ∈ S) : Kept S w w' :=
 ⟨h.os, h.tape, h.output, h.size, fun k hk hn => h.block k hk fun e => hn (hr k e.symm)⟩
theorem owns_one {w : World} {base e size n : Nat} {v : Value} {xs : List Value} (h : w.ownsRow base e size v n xs) : v.oneCell' = true := by
 obtain ⟨_, ⟨rfl, _⟩ | ⟨g, cap, cur, rfl, _⟩⟩ := h <;> rfl

theorem append_owns {P : Program} (w : World) (t e : TypeId) (i : TypeInfo) (z : Value) (size bytes : Nat) (ht : P.underlying t = some (.slice e)) (hi : P.info? e = some i) (hz : i.zero = some z) (hs : i.size = size) (hb : i.bytes = bytes) (hzs : z.cells.size = size) (h0 : 0 < size)
  (v : Value) (n : Nat) (xs : List Value) (hown : w.ownsRow 0 e size v n xs) (a : Addr) (m c : Nat) (news : List Value) (hl : news.length = m * size) (hnews : ∀ j u, news[j]? = some u → w.cell? (a.add j) = some u) (h1 : ∀ u ∈ news, u.oneCell' = true)
  (h63 : n + m ≤ maxLen) (hbytes : (n + m) * bytes ≤ 140737488355328) :
  ∃ v' w', (Builtin.append_ #[t, t] t #[v, .slice (some a) m c]).run P w = .ok v' w' ∧ w'.ownsRow 0 e size v' (n + m) (xs ++ news) ∧ Kept v.ownBlock.toList w w' ∧ ∀ y, v'.ownBlock = some y → v.ownBlock = some y ∨ w.heap.size ≤ y := by
 obtain ⟨v', w', hr, ho, hg, _⟩ := run_append_own (P := P) w 0 t t e i z size bytes ht hi hz hs hb hzs h0 v n xs hown a m c news hl hnews h1 h63 hbytes (Nat.zero_le _)
 refine ⟨v', w', hr, ho, grown_kept hg _ (by intro x hx; rw [hx]; simp), fun y hy => ?_⟩
 obtain ⟨hx, ⟨rfl, rfl⟩ | ⟨g, cap, cur, rfl, hB, hh, h2, h3, h4, h5⟩⟩ := hown
 ·have hnil : xs = [] := List.eq_nil_of_length_eq_zero (by rw [hx, Nat.zero_mul])
  obtain ⟨v2, w2, hr2, ho2, _⟩ := run_append_own (P := P) w w.heap.size t t e i z size bytes ht hi hz hs hb hzs h0 (.slice none 0 0) 0 [] (World.ownsRow_nil _ _ _ _) a m c news hl hnews h1 h63 hbytes (Nat.le_refl _)
  rw [hr] at hr2
  cases hr2
  exact Or.inr (ho2.lt y hy).1
 ·by_cases hroom : n + m ≤ cap
  ·obtain ⟨w2, hr2, _⟩ := run_append_own_spare (P := P) w 0 t t e i size ht hi hs g n cap xs ⟨hx, Or.inr ⟨g, cap, cur, rfl, hB, hh, h2, h3, h4, h5⟩⟩ a m c news hl hnews h1 hroom
   rw [hr] at hr2
   cases hr2
   exact Or.inl hy
  ·subst hs hb
   have holds : ∀ j u, xs[j]? = some u → w.cell? ((⟨g, 0, none⟩ : Addr).add j) = some u := by
    intro j u hj
    rw [add_lit, cell_of_row _ _ _ _ _ _ hh]
    have hjl := (List.getElem?_eq_some_iff.1 hj).1
    rw [← h5, List.getElem?_take, if_pos (by omega)] at hj
    simpa using hj
   have hr2 := run_append_grow (P := P) w t t e i z ht hi hz ⟨g, 0, none⟩ n cap xs hx holds a m c news hl hnews (by omega) (by unfold maxLen at h63; omega) (growslice_fits (by omega) hbytes)
   rw [hr] at hr2
   cases hr2
   simp only [Value.ownBlock, Option.some.injEq] at hy
   exact Or.inr (Nat.le_of_eq hy)

def Dv.put (D : Dv) (i : Nat) (B : List UInt8) : Dv := { D.tick with q := D.q ++ [(i, B)], wr := wrap64 (D.wr + 1) }
def WriteR (a : Nat) (bv : Value) (n : Nat) (cv : Value) (D : Dv) (i : Nat) (B : List UInt8) (w : World) (e : Ending) (w' : World) : Prop :=
 if D.bad then e = .returned eIO ∧ DQ w' a bv n cv D.tick ∧ Kept [a] w w' else
  e = .returned .nilIface ∧ ∃ cv', DQ w' a bv n cv' (D.put i B) ∧ Kept (dfoot a bv cv) w w' ∧ ∀ y, cv'.ownBlock = some y → cv.ownBlock = some y ∨ w.heap.size ≤ y

theorem Write_any (a : Nat) (bv : Value) (n s : Nat) (cv : Value) (D : Dv) (B : List UInt8) (t' : TypeId) (i : Nat) (w : World) (h : DQ w a bv n cv D) (hi : i < n) (hB : B.length = 128)
  (hs : w.heap[s]? = some (.cells (u8s B).toArray t' (0, 0))) (hsa : s ≠ a) (hq : D.q.length ≤ 1000000) :
  Calls Tryz.prog 223 #[.pointer (some ⟨a, 0, none⟩), .int .i64 i, .slice (some ⟨s, 0, none⟩) 128 128] w (WriteR a bv n cv D i B w) := by
 go_enter Tryz.func223, Tryz.ntmps223
 go_wp2_with fail
 refine (fails_any a _ _ D w h.d).mono ?_
 rintro e w1 ⟨rfl, hd1, hk1, -⟩
 have h1 : DQ w1 a bv n cv D.tick := h.upd hk1 hd1 rfl rfl
 cases hb : D.bad with
 | true =>
  have FIN : Hid (WriteR a bv n cv D i B w (.returned eIO) w1) := by show WriteR a bv n cv D i B w (.returned eIO) w1; unfold WriteR; rw [hb]; exact ⟨rfl, h1, hk1⟩
  go_wp2
  go_ret
  exact FIN.out
 | false =>
 obtain ⟨bp, bc, rfl⟩ := owns_slice h.b
 go_wp2_with fail
 refine (none_any a _ n _ _ _ i w1 hd1 (by omega) (by omega)).mono ?_
 rintro e w2 ⟨rfl, rfl⟩
 have hs2 := hk1.get hs (by simpa using hsa)
 have hla := lt_heap hd1
 have hls := lt_heap hs2
 go_wp2_with (first
  | (refine wpList_alloc_k rfl 94 rfl _ (zwrite _) ?_; intro w3 hn3 hk3 _; have hs3 := hk3.get hs2 (by simp))
  | (refine wpList_store_k rfl 94 (.tmp 7) (.tmp 17) rfl w2.heap.size (wcells i (zl 128)).toArray rfl (by simp only [Act.eval]; exact congrArg Value.agg (zc_write' i)) 94 _ hn3 (by rw [swrite]; simp [wcells, zl]) (by simp [wcells, zl]) (all_of (one_wcells _ _ (one_zl _))) ?_; intro w4 hn4 hk4; have hs4 := hk4.get hs3 (by simp; omega))
  | (refine upon_copy_k 60 60 5 Tryz.underlying60 su8 w2.heap.size 1 128 128 ⟨s, 0, none⟩ 128 128 (wcells i (zl 128)) 94 hn4 (u8s B) (by rw [length_u8s, hB]; exact (Nat.min_self 128).symm) (row_src hs4) (by simp [wcells, zl, length_u8s, hB]) (one_u8s _) ?_; intro w5 hg5 hk5))
 rw [splice_wcells _ _ (by rw [hB])] at hg5
 have own : ∀ y ∈ [w2.heap.size], y ∈ ([] : List Nat) ∨ w2.heap.size ≤ y := by intro y hy; simp at hy; subst hy; exact Or.inr (Nat.le_refl _)
 have K5 : Kept [] w2 w5 := (hk3.trans2 hk4 own).trans2 hk5 own
 have h5 : DQ w5 a (.slice bp n bc) n cv D.tick := h1.k0 K5
 have hwl : (wc (i, B)).length = 129 := by simp [wc, wcells, length_u8s, hB]
 have hS : w5.drew.heap[w2.heap.size]? = some (.cells (wc (i, B)).toArray 94 (0, 0)) ∧ DC w5.drew a (.slice bp n bc) cv D.tick := ⟨hg5, h5.d⟩
 refine wp_region_K (fun W => W.heap[w2.heap.size]? = some (.cells (wc (i, B)).toArray 94 (0, 0)) ∧ DC W a (.slice bp n bc) cv D.tick) 10 (by kernel_rfl) ?_
 refine kt (i := 0) (v := .pointer (some ⟨a, 0, none⟩)) rfl (by kernel_rfl) (by rfl) (fun W hW => by rfl) (fun _ _ _ h => h) hS ?_
 refine kt (i := 1) (v := .pointer (some ⟨a, 0, none⟩)) rfl (by kernel_rfl) (by rfl) (fun W hW => by rfl) (fun _ _ _ h => h) hS ?_
 refine kt (i := 2) (v := .pointer (some ⟨a, 0, none⟩)) rfl (by kernel_rfl) (by rfl) (fun W hW => by rfl) (fun _ _ _ h => h) hS ?_
 refine kt (i := 3) (v := .pointer (some ⟨a, 1, none⟩)) rfl (by kernel_rfl) (by rfl) (fun W hW => by rfl) (fun _ _ _ h => h) hS ?_
 refine kt (i := 4) (v := cv) rfl (by kernel_rfl) (by rfl) (fun W hW => exec_load 89 (.tmp 25) rfl ⟨a, 1, none⟩ rfl _ (run_load1 Tryz.underlying89 rfl (cellAt hW.2 rfl))) (fun _ _ _ h => h) hS ?_
 refine kt (i := 5) (v := .agg (wc (i, B)).toArray) rfl (by kernel_rfl) (by rfl) (fun W hW => exec_load 94 (.tmp 7) rfl _ rfl _ (run_loadVar_row W _ _ _ _ _ _ hW.1 Tryz.underlying94 rfl (by rw [swrite]; simp [hwl]))) (fun _ _ _ h => h) hS ?_
 obtain ⟨ie, hie, hz1, hz2, hz3⟩ := info_parts iwrite
 have hbs := run_build1 (P := Tryz.prog) w5.drew 89 94 (wc (i, B)).toArray ie _ Tryz.underlying89 hie hz1 (by rw [hz2]; simp [hwl]) (by simp [hwl]) (by simp [hwl])
 have K6 : Kept [] w5 (w5.drew.alloc (.cells (wc (i, B)).toArray 94)) := (Kept.refl [] w5).drew.alloc _
 have h6 := h5.k0 K6
 have n6 := heap_alloc_new w5.drew (.cells (wc (i, B)).toArray 94)
 have g6 := K6.get hg5 (by simp)
 obtain ⟨v', w8, hr8, hown8, k8, hwh⟩ := append_owns (P := Tryz.prog) (w5.drew.alloc (.cells (wc (i, B)).toArray 94)) 89 94 ie _ 129 136 Tryz.underlying89 hie hz1 hz2 hz3 (by simp [Value.cells, wcells, zl]) (by omega) cv D.q.length (fl (D.q.map wc)) h6.o ⟨w5.heap.size, 0, none⟩ 1 1 (wc (i, B)) (by simp [hwl]) (row_src n6) (one_wc _) (by unfold maxLen; omega) (by omega)
 have nca := h6.nq
 have d8 : DC w8 a (.slice bp n bc) cv D.tick := k8.get h6.d (by intro hx; exact (nca a (by simpa using hx)).1 rfl)
 have b8 := owns_kept h6.b k8 (by intro y hy hx; exact (nca y (by simpa using hx)).2 hy)
 have ncb : ∀ y, cv.ownBlock = some y → y < w2.heap.size := fun y hy => h1.lt y (by simp [dfoot, hy])
 have g8 := k8.get g6 (by intro hx; have := ncb w2.heap.size (by simpa using hx); omega)
 have v1 := owns_one hown8
 simp only [Act.put, zA, zB, zC, zD, zE, zF]
 refine K_one (i := 6) (by kernel_rfl) (wpOp_val rfl rfl (.slice (some ⟨w5.heap.size, 0, none⟩) 1 1) _ (exec_buildSlice 89 1 (.tmp 27) rfl (.agg (wc (i, B)).toArray) rfl _ hbs) ⟨fun _ => ⟨g6, h6.d⟩, ?_⟩)
 simp only [Act.put, zA, zB, zC, zD, zE, zF]
 refine K_one (i := 7) (by kernel_rfl) (wpOp_val rfl rfl v' w8 (exec_append (.tmp 26) (.tmp 28) 89 rfl cv (.slice (some ⟨w5.heap.size, 0, none⟩) 1 1) rfl rfl _ hr8) ⟨fun _ => ⟨g8, d8⟩, ?_⟩)
 simp only [Act.put, zA, zB, zC, zD, zE, zF]
 refine K_one (i := 8) (by kernel_rfl) (wpOp_val rfl rfl (.pointer (some ⟨a, 0, none⟩)) w8 rfl ⟨fun _ => ⟨g8, d8⟩, ?_⟩)
 simp only [Act.put, zA, zB, zC, zD, zE, zF]
 refine K_one (i := 9) (by kernel_rfl) (wpOp_val rfl rfl (.pointer (some ⟨a, 1, none⟩)) w8 rfl ⟨fun _ => ⟨g8, d8⟩, ?_⟩)
 simp only [Act.put, zA, zB, zC, zD, zE, zF]
 refine K_one (i := 10) (by kernel_rfl) (wpOp_skip rfl rfl _ (exec_store 89 (.tmp 31) (.tmp 29) rfl ⟨a, 1, none⟩ rfl v' rfl (run_store1 swrites v1 d8 (by simp [dcells]))) ⟨fun hx => absurd rfl hx, ?_⟩)
 simp only [Act.put, zA, zB, zC]
 refine wpAnyK_done (by kernel_rfl) ?_ _
 have d9 := setCellAt (i := 1) v' d8
 have k9 : Kept [a] w8 (w8.setCell ⟨a, 1, none⟩ v') := (Kept.refl _ _).setCell (Or.inl (by simp)) _
 have nv : ∀ y, v'.ownBlock = some y → y ≠ a := by
  intro y hy
  obtain ⟨cs, fr, hh⟩ := owns_tag hown8 hy
  exact ne_tag hh d8 (by decide)
 have o9 := owns_kept hown8 k9 fun y hy => by simpa using nv y hy
 have b9 := owns_kept b8 k9 fun y hy => by simpa using h.nb y hy
 generalize w8.setCell ⟨a, 1, none⟩ v' = w9 at *
 have e3 : w9.cell? ⟨a, 3, none⟩ = some (.int .i64 D.wr) := cellAt d9 rfl
 have f3 : w9.frozen? ⟨a, 3, none⟩ = false := frozen_of_row _ _ _ _ _ d9
 have d10 := setCellAt (i := 3) (.int .i64 (wrap64 (D.wr + 1))) d9
 have k10 : Kept [a] w9 (w9.setCell ⟨a, 3, none⟩ (.int .i64 (wrap64 (D.wr + 1)))) := (Kept.refl _ _).setCell (Or.inl (by simp)) _
 have FIN : Hid (WriteR a (.slice bp n bc) n cv D i B w (.returned .nilIface) (w9.setCell ⟨a, 3, none⟩ (.int .i64 (wrap64 (D.wr + 1))))) := by
  show WriteR _ _ _ _ _ _ _ _ _ _
  unfold WriteR
  rw [hb]
  refine ⟨rfl, v', ⟨d10, owns_kept b9 k10 fun y hy => by simpa using h.nb y hy, ?_, ?_, fun e => by simp [Dv.put] at e⟩, ?_, ?_⟩
  ·have o10 := owns_kept o9 k10 fun y hy => by simpa using nv y hy
   have e1 : fl (D.q.map wc) ++ wc (i, B) = fl ((D.put i B).q.map wc) := by simp [Dv.put, fl]
   have e2 : D.q.length + 1 = (D.put i B).q.length := by simp [Dv.put]
   rw [e1, e2] at o10
   exact o10
  ·intro x hx
   simp only [Dv.put, List.mem_append, List.mem_singleton] at hx
   rcases hx with hx | rfl
   ·exact h.q x hx
   ·exact ⟨hi, hB⟩
  ·have sub : ∀ S : List Nat, (∀ y ∈ S, y ∈ dfoot a (.slice bp n bc) cv) → ∀ y ∈ S, y ∈ dfoot a (.slice bp n bc) cv ∨ w.heap.size ≤ y := fun S hS y hy => Or.inl (hS y hy)
   refine ((((hk1.mono (by simp [dfoot])).trans2 K5 (by simp)).trans2 K6 (by simp)).trans2 k8 (sub _ (by intro y hy; simp [dfoot] at hy ⊢; simp [hy]))).trans2 (k9.trans k10) (sub _ (by simp [dfoot]))
  ·intro y hy
   have := hk1.size; have := K5.size; have := K6.size
   exact (hwh y hy).imp id fun h => by omega
 clear d10
 go_wp2
 go_ret
 exact FIN.out

end Go.Proofs.YtcklgafpgdhnaaaGreatDoor

namespace Go.Proofs.YtcklgafpgdhnaaaGreatDoor
open Go.RowKit

def setBlock (L : List UInt8) (i : Nat) (B : List UInt8) : List UInt8 := splice L (i * 128) B
theorem u8s_splice (L : List UInt8) (o : Nat) (B : List UInt8) : splice (u8s L) o (u8s B) = u8s (splice L o B) := by
 simp [splice, u8s, List.map_take, List.map_drop]
theorem sblk : (Tryz.prog.info? 92).map (·.size) = some 128 := by kernel_rfl
def lay (L : List UInt8) (q : List Wt) : List UInt8 := q.foldl (fun L x => setBlock L x.1 x.2) L
theorem lay_snoc (L : List UInt8) (q : List Wt) (x : Wt) : lay L (q ++ [x]) = setBlock (lay L q) x.1 x.2 := by simp [lay]
theorem length_setBlock (L B : List UInt8) (n i : Nat) (hL : L.length = n * 128) (hi : i < n) (hB : B.length = 128) : (setBlock L i B).length = n * 128 := by
 rw [setBlock, length_splice _ _ _ (by rw [hB, hL]; omega), hL]
theorem length_lay {n : Nat} {L : List UInt8} {q : List Wt} (hL : L.length = n * 128) (h : Fit n q) : (lay L q).length = n * 128 := by
 induction q generalizing L with
 | nil => exact hL
 | cons x r ih =>
  obtain ⟨h1, h2⟩ := h x (by simp)
  exact ih (L := setBlock L x.1 x.2) (length_setBlock L x.2 n x.1 hL h1 h2) fun y hy => h y (by simp [hy])
def Dv.flush (D : Dv) : Dv := { D.tick with L := lay D.L D.q, q := [] }

def FlushR (a : Nat) (bv : Value) (n : Nat) (cv : Value) (D : Dv) (w : World) (e : Ending) (w' : World) : Prop :=
 if D.bad then e = .returned eIO ∧ DQ w' a bv n cv D.tick ∧ Kept [a] w w' else e = .returned .nilIface ∧ DQ w' a bv n (.slice none 0 0) D.flush ∧ Kept (a :: bv.ownBlock.toList) w w'

def FlI (bv : Value) (n : Nat) (D : Dv) (w1 : World) (ix : Value) (wr : World) : Prop :=
 ∃ j : Nat, j ≤ D.q.length ∧ ix = .int .i64 j ∧ wr.ownsRow 0 92 128 bv n (u8s (lay D.L (D.q.take j))) ∧ Kept bv.ownBlock.toList w1 wr

theorem Flush_any (a : Nat) (bv : Value) (n : Nat) (cv : Value) (D : Dv) (w : World) (h : DQ w a bv n cv D) (_hn : n ≤ 1000) (hq : D.q.length ≤ 1000000) :
  Calls Tryz.prog 221 #[.pointer (some ⟨a, 0, none⟩)] w (FlushR a bv n cv D w) := by
 go_enter Tryz.func221, Tryz.ntmps221
 go_wp2_with fail
 refine (fails_any a _ _ D w h.d).mono ?_
 rintro e w1 ⟨rfl, hd1, hk1, -⟩
 have h1 : DQ w1 a bv n cv D.tick := h.upd hk1 hd1 rfl rfl
 cases hb : D.bad with
 | true =>
  have FIN : Hid (FlushR a bv n cv D w (.returned eIO) w1) := by show FlushR _ _ _ _ _ _ _ _; unfold FlushR; rw [hb]; exact ⟨rfl, h1, hk1⟩
  go_wp2
  go_ret
  exact FIN.out
 | false =>
 obtain ⟨p, cap, rfl⟩ := owns_slice h.o
 have c1 : w1.cell? ⟨a, 1, none⟩ = some (.slice p D.q.length cap) := cellAt hd1 rfl
 have hla := lt_heap hd1
 go_wp2
 clear c1
 go_loopw [4, 13] (fun _ ix wr => FlI bv n D w1 ix wr) (fun _ ix _ => D.q.length - (intOf ix).toNat)
 case atStart => exact ⟨0, Nat.zero_le _, rfl, h1.b, Kept.refl _ _⟩
 case round =>
  obtain ⟨j, hj, rfl, hr, hkr⟩ := hrel
  have dr : DC wr a bv (.slice p D.q.length cap) D.tick := hkr.get hd1 (by intro hx; exact h.nb a (by simpa using hx) rfl)
  by_cases hlt : j < D.q.length
  ·have hlt' : (j : Int) < (D.q.length : Int) := by omega
   obtain ⟨x, hx⟩ : ∃ x, D.q[j]? = some x := ⟨_, List.getElem?_eq_getElem hlt⟩
   obtain ⟨x1, x2⟩ := h.q x (List.mem_of_getElem? hx)
   obtain ⟨b, cap', cur, e, hbq, hcur⟩ := h1.at_ hx
   cases e
   have hbq := hkr.get hbq (by intro hx; exact (h1.nq b rfl).2 (by simpa using hx))
   obtain ⟨g, bc, bcur, rfl, hbg, _, hb1, hb2, hb3, hb4⟩ := owns_open hr (by omega)
   have hwl : (wc x).length = 129 := by simp [wc, wcells, length_u8s, x2]
   have hld := run_loadVar_seg (P := Tryz.prog) wr b (j * 129) 94 94 cur (wc x) (0, 0) _ hbq Tryz.underlying94 rfl (by rw [swrite, hwl]) hcur
   have hll := length_lay (q := D.q.take j) h.l fun y hy => h.q y (List.mem_of_mem_take hy)
   have hnext := lay_snoc D.L (D.q.take j) x
   rw [← take_snoc D.q j x hx] at hnext
   have HN : Hid _ := hnext
   clear hcur hnext
   go_wp2_with (first
    | (refine wpList_val rfl _ _ (exec_index 89 (.tmp 11) (.tmp 13) rfl b 0 D.q.length cap j 129 rfl rfl 94 Tryz.underlying89 swrite hlt (j * 129) (by omega)) ?_)
    | (refine wpList_load_seg rfl 94 (.tmp 15) rfl ⟨b, j * 129, none⟩ rfl (.agg (wc x).toArray) hld ?_)
    | (refine wpList_alloc_k rfl 94 rfl _ (zwrite _) ?_; intro w5 hn5 hk5 _)
    | (refine wpList_store_k rfl 94 (.tmp 4) (.tmp 16) rfl wr.heap.size (wc x).toArray rfl rfl 94 _ hn5 (by rw [swrite]; simp [hwl]) (by simp [hwl, wcells, zl]) (all_of (one_wc x)) ?_; intro w6 hn6 hk6))
   have K6 : Kept [] wr w6 := hk5.trans2 hk6 (by intro y hy; simp at hy; subst hy; exact Or.inr (Nat.le_refl _))
   have d6 := K6.get dr (by simp)
   have r6 := K6.get hbg (by simp)
   have hS : (fun W : World => DC W a (.slice (some ⟨g, 0, none⟩) n bc) (.slice (some ⟨b, 0, none⟩) D.q.length cap) D.tick ∧ W.heap[wr.heap.size]? = some (.cells (wc x).toArray 94 (0, 0))) w6.drew := ⟨d6, hn6⟩
   refine wp_region_K (fun W : World => DC W a (.slice (some ⟨g, 0, none⟩) n bc) (.slice (some ⟨b, 0, none⟩) D.q.length cap) D.tick ∧ W.heap[wr.heap.size]? = some (.cells (wc x).toArray 94 (0, 0))) 9 (by kernel_rfl) ?_
   refine kt (i := 0) (v := .pointer (some ⟨a, 0, none⟩)) rfl (by kernel_rfl) (by kernel_rfl) (fun W hW => by kernel_rfl) (fun _ _ _ h => h) hS ?_
   refine kt (i := 1) (v := .pointer (some ⟨a, 0, none⟩)) rfl (by kernel_rfl) (by kernel_rfl) (fun W hW => by kernel_rfl) (fun _ _ _ h => h) hS ?_
   refine kt (i := 2) (v := .pointer (some ⟨a, 0, none⟩)) rfl (by kernel_rfl) (by kernel_rfl) (fun W hW => by kernel_rfl) (fun _ _ _ h => h) hS ?_
   refine kt (i := 4) (v := .pointer (some ⟨wr.heap.size, 0, none⟩)) rfl (by kernel_rfl) (by kernel_rfl) (fun W hW => by kernel_rfl) (fun _ _ _ h => h) hS ?_
   refine kt (i := 6) (v := .pointer (some ⟨wr.heap.size, 1, none⟩)) rfl (by kernel_rfl) (by kernel_rfl) (fun W hW => by kernel_rfl) (fun _ _ _ h => h) hS ?_
   simp only [Act.put, zA, zB, zC, zD, zE, zF]
   refine kt (i := 3) (v := .slice (some ⟨g, 0, none⟩) n bc) rfl (by kernel_rfl) (by kernel_rfl) (fun W hW => exec_load 88 (.tmp 19) rfl ⟨a, 0, none⟩ rfl _ (run_load1 Tryz.underlying88 rfl (cellAt hW.1 rfl))) (fun _ _ _ h => h) hS ?_
   refine kt (i := 5) (v := .int .i64 x.1) rfl (by kernel_rfl) (by kernel_rfl) (fun W hW => exec_load 3 (.tmp 21) rfl ⟨wr.heap.size, 0, none⟩ rfl _ (run_load1 Tryz.underlying3 rfl (cellAt hW.2 rfl))) (fun _ _ _ h => h) hS ?_
   refine kt (i := 7) (v := .agg (u8s x.2).toArray) rfl (by kernel_rfl) (by kernel_rfl) (fun W hW => exec_load 92 (.tmp 23) rfl ⟨wr.heap.size, 1, none⟩ rfl _ (run_loadVar_seg W _ 1 _ _ (wc x) (u8s x.2) _ _ hW.2 Tryz.underlying92 rfl (by rw [sblk, length_u8s, x2]) (by intro k u hu; rw [Nat.add_comm]; exact hu))) (fun _ _ _ h => h) hS ?_
   simp only [Act.put, zA, zB, zC, zD, zE, zF]
   refine kt (i := 8) (v := .pointer (some ⟨g, x.1 * 128, none⟩)) rfl (by kernel_rfl) (by kernel_rfl) (fun W _ => exec_index 88 (.tmp 20) (.tmp 22) rfl g 0 n bc x.1 128 rfl rfl 92 Tryz.underlying88 sblk x1 _ (by simp)) (fun _ _ _ h => h) hS ?_
   simp only [Act.put, zA, zB, zC, zD, zE, zF]
   have hst := run_storeVar_seg (P := Tryz.prog) w6.drew g (x.1 * 128) 92 92 bcur (u8s x.2) r6 (by rw [sblk, length_u8s, x2]) (by rw [length_u8s, x2, hb3]; omega) (one_u8s _)
   have k7 : Kept [g] w6 (w6.drew.setRow g (splice bcur (x.1 * 128) (u8s x.2)).toArray) := (Kept.refl _ _).drew.setRow (Or.inl (by simp)) _
   have r7 := owns_put (w := w6.drew.setRow g (splice bcur (x.1 * 128) (u8s x.2)).toArray) (base := 0) (size := 128) (xs := u8s (lay D.L (D.q.take (j + 1)))) (by rw [length_u8s, length_lay h.l fun y hy => h.q y (List.mem_of_mem_take hy)]) (setRow_heap w6.drew g _ _ 92 _ r6) (Nat.zero_le _) hb1 hb2 (by rw [length_splice _ _ _ (by rw [length_u8s, x2, hb3]; omega), hb3]) (by rw [take_splice hb4 (by rw [length_u8s, x2]; omega) (by rw [hb3]; omega), u8s_splice, HN.out]; rfl)
   refine K_one (i := 9) (by kernel_rfl) (wpOp_skip rfl rfl _ (exec_store 92 (.tmp 25) (.tmp 24) rfl ⟨g, x.1 * 128, none⟩ rfl (.agg (u8s x.2).toArray) rfl hst) ⟨fun hx => absurd rfl hx, ?_⟩)
   simp only [Act.put, zA, zB, zC]
   refine wpAnyK_done (by kernel_rfl) ?_ _
   generalize w6.drew.setRow g (splice bcur (x.1 * 128) (u8s x.2)).toArray = w7 at *
   have K7 : Kept [g] w1 w7 := (hkr.trans2 K6 (by simp)).trans k7
   clear hst hS
   go_wp2
   go_roundw
   case rel => exact ⟨j + 1, by omega, by go_num, r7, K7⟩
   case measure => simp [intOf]; omega
  ·have hge : ¬ (j : Int) < (D.q.length : Int) := by omega
   have ej : j = D.q.length := by omega
   subst ej
   rw [List.take_length] at hr
   have e1 : wr.cell? ⟨a, 1, none⟩ = some (.slice p D.q.length cap) := cellAt dr rfl
   have f1 : wr.frozen? ⟨a, 1, none⟩ = false := frozen_of_row _ _ _ _ _ dr
   have d2 := setCellAt (i := 1) (.slice none 0 0) dr
   have k2 : Kept [a] wr (wr.setCell ⟨a, 1, none⟩ (.slice none 0 0)) := (Kept.refl _ _).setCell (Or.inl (by simp)) _
   have FIN : Hid (FlushR a bv n (.slice p D.q.length cap) D w (.returned .nilIface) (wr.setCell ⟨a, 1, none⟩ (.slice none 0 0))) := by
    show FlushR _ _ _ _ _ _ _ _
    unfold FlushR
    rw [hb]
    exact ⟨rfl, ⟨d2, owns_kept hr k2 fun y hy => by simpa using h.nb y hy, World.ownsRow_nil _ _ _ _, by simp [Fit, Dv.flush], fun _ => rfl⟩, ((hk1.mono (by simp)).trans2 hkr (by intro y hy; exact Or.inl (List.mem_cons_of_mem _ hy))).trans2 k2 (by simp)⟩
   clear d2
   go_wp2
   go_ret
   exact FIN.out

end Go.Proofs.YtcklgafpgdhnaaaGreatDoor

namespace Go.Proofs.YtcklgafpgdhnaaaGreatDoor
open Go.RowKit

def nb (x : Int) : Nat := if x < 0 then 0 else (x % 1000).toNat
theorem nb_lt (x : Int) : nb x < 1000 := by unfold nb; split <;> omega

theorem iblk : (Tryz.prog.info? 92).map (fun i => (i.zero, i.size, i.bytes)) = some (some (.agg (zl 128).toArray), 128, 128) := by kernel_rfl
theorem zl_get (n j : Nat) (h : j < (zl n).length) : (zl n)[j] = .int .u8 0 := by simp [zl]
theorem made_zl (n : Nat) : madeCells (zl 128).toArray n = (u8s (List.replicate n 0)).toArray := by
 apply Array.ext'
 apply List.ext_getElem?
 intro j
 by_cases hj : j < n
 ·have h128 : j % 128 < (zl 128).length := by rw [length_zl]; omega
  simp only [madeCells, u8s, List.size_toArray, length_zl, Array.toList_map, Array.toList_range, List.getElem?_map, List.getElem?_range hj, Option.map_some, List.getElem?_replicate, if_pos hj]
  rw [List.getElem!_toArray, List.getElem!_eq_getElem?_getD, List.getElem?_eq_getElem h128, zl_get]
  rfl
 ·simp [madeCells, u8s, hj]

theorem mkblocks (m : Nat) (hm : m < 1000) (w : World) : (Instr.makeSlice 88 (.int .i64 m) (.int .i64 m)).run Tryz.prog w = .ok (.slice (some ⟨w.heap.size, 0, none⟩) m m) (w.alloc (.cells (u8s (List.replicate (m * 128) 0)).toArray 92)) := by
 obtain ⟨ie, hie, hz1, hz2, hz3⟩ := info_parts iblk
 have := run_make (P := Tryz.prog) w 88 92 ie _ Tryz.underlying88 hie hz1 .i64 .i64 m m (by omega) (by omega) (by rw [hz3]; omega) (by omega)
 rw [this, hz2]
 simp only [Int.toNat_natCast, Value.cells, made_zl]

def Dv.new (L : List UInt8) : Dv := ⟨L, [], 0, 0, 0, -1, 0, 0⟩
def NewDev (L : List UInt8) (n : Nat) (a : Nat) (bv : Value) (w w' : World) : Prop := DQ w' a bv n (.slice none 0 0) (.new L) ∧ w.heap.size ≤ a ∧ (∃ g, bv = .slice (some ⟨g, 0, none⟩) n n ∧ w.heap.size ≤ g) ∧ Kept [] w w'
def RetDev (L : List UInt8) (n : Nat) (w : World) (e : Ending) (w' : World) : Prop := ∃ a bv, e = .returned (.pointer (some ⟨a, 0, none⟩)) ∧ NewDev L n a bv w w'

theorem newDev_of {w w3 : World} {L : List UInt8} {m : Nat} (hL : L.length = m * 128) (hn3 : w3.heap[w.heap.size]? = some (.cells (u8s L).toArray 92 (0, 0))) (hk3 : Kept [] w w3) (hs : w3.heap.size = w.heap.size + 1) (hm : m ≤ 1000) :
  NewDev L m (w.heap.size + 1) (.slice (some ⟨w.heap.size, 0, none⟩) m m) w (w3.alloc (.cells #[.slice (some ⟨w.heap.size, 0, none⟩) m m, .slice none 0 0, .int .i64 0, .int .i64 0, .int .i64 0, .int .i64 (-1), .int .i64 0, .int .i64 0] 91)) := by
 have hk := (Kept.refl [] w3).alloc (.cells #[.slice (some ⟨w.heap.size, 0, none⟩) m m, .slice none 0 0, .int .i64 0, .int .i64 0, .int .i64 0, .int .i64 (-1), .int .i64 0, .int .i64 0] 91)
 refine ⟨⟨?_, owns_put (by rw [length_u8s]; exact hL) (hk.get hn3 (by simp)) (Nat.zero_le _) (Nat.le_refl _) (by unfold maxLen; omega) (by rw [length_u8s]; exact hL) (List.take_of_length_le (by rw [length_u8s]; exact Nat.le_of_eq hL)), World.ownsRow_nil _ _ _ _, by simp [Fit, Dv.new], fun _ => rfl⟩, by omega, ⟨_, rfl, Nat.le_refl _⟩, hk3.trans hk⟩
 rw [← hs]; exact heap_alloc_new _ _

theorem NewDisk_any (x : Int) (w : World) : Calls Tryz.prog 32 #[.int .i64 x] w (RetDev (List.replicate (nb x * 128) 0) (nb x) w) := by
 by_cases hx : x < 0
 ·have hnb : nb x = 0 := by unfold nb; rw [if_pos hx]
  rw [hnb]
  go_enter Tryz.func32, Tryz.ntmps32
  go_wp2_with (first
   | (at_make; refine wpList_make_k rfl _ _ _ rfl _ _ rfl rfl _ _ (mkblocks 0 (by omega) w) ?_; intro w3 hn3 hk3 hs3; have HS : Hid (w3.heap.size = w.heap.size + 1) := hs3))
  go_ret
  exact ⟨_, _, rfl, newDev_of (by simp) hn3 hk3 HS.out (by omega)⟩
 ·have hlt := nb_lt x
  have Hm : Hid (x % 1000 = nb x) := by show _ = _; unfold nb; rw [if_neg hx]; omega
  generalize nb x = m at *
  go_enter Tryz.func32, Tryz.ntmps32
  go_wp2_with (first
   | (at_make; rw [Hm.out]; refine wpList_make_k rfl _ _ _ rfl _ _ rfl rfl _ _ (mkblocks m hlt w) ?_; intro w3 hn3 hk3 hs3; have HS : Hid (w3.heap.size = w.heap.size + 1) := hs3))
  go_ret
  exact ⟨_, _, rfl, newDev_of (by simp) hn3 hk3 HS.out (by omega)⟩

theorem ret_int {k : IntKind} {a b : Int} (h : a = b) : Ending.returned (.int k a) = .returned (.int k b) := by rw [h]

def pk (c : Int) (n : Nat) : Nat := if c < 0 then ((-(c + 1)) % n).toNat else (c % n).toNat
theorem pk_lt (c : Int) (n : Nat) (hn : 0 < n) : pk c n < n := by
 unfold pk
 split
 ·have := Int.emod_lt_of_pos (-(c + 1)) (show (0 : Int) < n by omega); have := Int.emod_nonneg (-(c + 1)) (show (n : Int) ≠ 0 by omega); omega
 ·have := Int.emod_lt_of_pos c (show (0 : Int) < n by omega); have := Int.emod_nonneg c (show (n : Int) ≠ 0 by omega); omega

theorem pick_any (c : Int) (n : Nat) (w : World) (hn : 0 < n) (hb : (n : Int) ≤ 1000000) (h1 : -9223372036854775808 ≤ c) (h2 : c ≤ 9223372036854775807) :
  Calls Tryz.prog 97 #[.int .i64 c, .int .i64 n] w fun e w' => e = .returned (.int .i64 (pk c n)) ∧ w' = w := by
 by_cases hc : c < 0
 ·have hp : (pk c n : Int) = (-(c + 1)) % n := by unfold pk; rw [if_pos hc]; have := Int.emod_nonneg (-(c + 1)) (show (n : Int) ≠ 0 by omega); omega
  have H : Hid (-((c + 1).tmod n) = (pk c n : Int)) := by show _ = _; rw [hp, ← Int.neg_tmod, Int.tmod_eq_emod_of_nonneg (by omega)]
  clear hp
  have hnz : ¬ (n : Int) = 0 := by omega
  go_enter Tryz.func97, Tryz.ntmps97
  go_wp2
  go_ret
  exact ⟨ret_int H.out, rfl⟩
 ·have hp : (pk c n : Int) = c % n := by unfold pk; rw [if_neg hc]; have := Int.emod_nonneg c (show (n : Int) ≠ 0 by omega); omega
  have H : Hid ((pk c n : Int) = c % n) := hp
  clear hp
  have hnz : ¬ (n : Int) = 0 := by omega
  go_enter Tryz.func97, Tryz.ntmps97
  go_wp2
  go_ret
  exact ⟨ret_int H.out.symm, rfl⟩

theorem near_any (c : Int) (w : World) (h1 : -9223372036854775808 ≤ c) (h2 : c ≤ 9223372036854775807) :
  Calls Tryz.prog 160 #[.int .i64 c] w fun e w' => e = .returned (.int .i64 (pk c 600)) ∧ w' = w := by
 go_enter Tryz.func160, Tryz.ntmps160
 go_wp2_with fail
 refine (pick_any c 600 w (by omega) (by omega) h1 h2).mono ?_
 rintro e w' ⟨rfl, rfl⟩
 go_wp2
 go_ret
 exact ⟨rfl, rfl⟩

theorem blocks_any (x : Int) (w : World) :
  Calls Tryz.prog 127 #[.int .i64 x] w fun e w' => e = .returned (.int .i64 (nb x)) ∧ w' = w := by
 by_cases hx : x < 0
 ·have hp : nb x = 0 := by unfold nb; rw [if_pos hx]
  rw [hp]
  go_enter Tryz.func127, Tryz.ntmps127
  go_wp2
  go_ret
  exact ⟨rfl, rfl⟩
 ·have H : Hid (x % 1000 = nb x) := by show _ = _; unfold nb; rw [if_neg hx]; omega
  generalize nb x = m at *
  go_enter Tryz.func127, Tryz.ntmps127
  go_wp2
  go_ret
  exact ⟨ret_int H.out, rfl⟩

end Go.Proofs.YtcklgafpgdhnaaaGreatDoor

namespace Go.Proofs.YtcklgafpgdhnaaaGreatDoor
open Go.RowKit

theorem iu8 : (Tryz.prog.info? 5).map (fun i => (i.zero, i.size, i.bytes)) = some (some (.int .u8 0), 1, 1) := by kernel_rfl

theorem take_block (L : List UInt8) (k : Nat) : L.take (k * 128) ++ blockOf L k = L.take ((k + 1) * 128) := by
 rw [blockOf, Nat.add_mul, Nat.one_mul, List.take_add]

theorem convert_owned {w : World} {base : Nat} {v : Value} {l : List UInt8} (h : w.ownsRow base 5 1 v l.length (u8s l)) : (convert 60 9 v).run Tryz.prog w = .ok (.string ⟨l.toArray⟩) w := by
 obtain ⟨hl, ⟨rfl, h0⟩ | ⟨g, cap, cur, rfl, hg, hh, h1, h2, h3, h4⟩⟩ := h
 ·have : l = [] := List.eq_nil_of_length_eq_zero h0
  subst this
  rw [run_convert_bytes_string w 60 9 5 none 0 0 Tryz.underlying60 Tryz.underlying5 Tryz.underlying9]
  simp [Conv.bytesToString]; rfl
 ·refine run_convert_bytes_back (P := Tryz.prog) w 60 9 5 ⟨g, 0, none⟩ cap l Tryz.underlying60 Tryz.underlying5 Tryz.underlying9 ?_
  intro j hj
  rw [add_lit, cell_of_row _ _ _ _ _ _ hh]
  have := congrArg (fun x => x[j]?) h4
  simp only [List.getElem?_take, Nat.mul_one, hj, if_true, u8s_get, List.getElem?_eq_getElem hj, Option.map_some] at this
  simpa using this

theorem Bytes_any (a : Nat) (bv : Value) (n : Nat) (cv : Value) (D : Dv) (w : World) (h : DQ w a bv n cv D) (hn : n < 1000) :
  Calls Tryz.prog 29 #[.pointer (some ⟨a, 0, none⟩)] w fun e w' => e = .returned (.string ⟨D.L.toArray⟩) ∧ Kept [] w w' := by
 obtain ⟨bp, bc, rfl⟩ := owns_slice h.b
 have c0 : w.cell? ⟨a, 0, none⟩ = some (.slice bp n bc) := cellAt h.d rfl
 have hla := lt_heap h.d
 obtain ⟨ie, hie, hz1, hz2, hz3⟩ := info_parts iu8
 go_enter Tryz.func29, Tryz.ntmps29
 go_wp2_with (first
  | (at_make; refine wpList_make_own _ rfl _ _ 60 rfl w.heap.size 5 ie (.int .u8 0) 1 Tryz.underlying60 hie hz1 hz2 .i64 .i64 _ (n * 128) rfl rfl (by omega) (by rw [hz3]; omega) (by unfold maxLen; omega) (Nat.le_refl _) ?_; intro w1 hown1 hgr1; have hk1 := grown_kept hgr1 [] (by simp); have c01 : w1.cell? ⟨a, 0, none⟩ = some (.slice bp n bc) := cellAt (hk1.get h.d (by simp)) rfl))
 clear c0 c01
 go_loopw [3, 17] (fun v i wr => ∃ k : Nat, k ≤ n ∧ i = .int .i64 k ∧ wr.ownsRow w.heap.size 5 1 v (D.L.take (k * 128)).length (u8s (D.L.take (k * 128))) ∧ Kept [] w wr) (fun _ i _ => n - (intOf i).toNat)
 case atStart => exact ⟨0, Nat.zero_le _, rfl, by simpa [u8s] using hown1, hk1⟩
 case round =>
  obtain ⟨k, hk, rfl, hown, hkr⟩ := hrel
  have hl := h.l
  by_cases hlt : k < n
  ·have hlen : (D.L.take (k * 128)).length = k * 128 := by rw [List.length_take, hl]; omega
   obtain ⟨g, bc', bcur, e, hbg, _, hb1, hb2, hb3, hb4⟩ := owns_open (owns_kept h.b hkr (by simp)) (by omega)
   cases e
   have c0 : wr.cell? ⟨a, 0, none⟩ = some (.slice (some ⟨g, 0, none⟩) n bc) := cellAt (hkr.get h.d (by simp)) rfl
   have hlb := length_blockOf D.L n k hl hlt
   rw [hlen] at hown
   go_wp2_with (first
    | (at_builtin; refine wpList_append_own _ rfl (.tmp 20) (.tmp 27) 60 rfl w.heap.size 5 ie (.int .u8 0) 1 1 Tryz.underlying60 hie hz1 hz2 hz3 rfl (by decide) u3 (k * 128) _ rfl hown ⟨g, k * 128, none⟩ 128 128 (u8s (blockOf D.L k)) rfl (by rw [length_u8s, hlb]) (row_srcAt hbg fun j v hv => take_get hb4 (block_get D.L k j v hv)) (one_u8s _) (by unfold maxLen; omega) (by omega) hkr.size ?_; intro v2 w2 hown2 hgr2 _))
   have hk2 : Kept [] w w2 := by
    refine hkr.trans2 (grown_kept hgr2 u3.ownBlock.toList (by intro x hx; rw [hx]; simp)) ?_
    intro x hx
    have hx' : u3.ownBlock = some x := by cases hu : u3.ownBlock with | none => rw [hu] at hx; cases hx | some y => rw [hu] at hx; simp at hx; rw [hx]
    exact Or.inr (hown.lt x hx').1
   have hown3 : w2.ownsRow w.heap.size 5 1 v2 (D.L.take ((k + 1) * 128)).length (u8s (D.L.take ((k + 1) * 128))) := by
    have e : u8s (D.L.take (k * 128)) ++ u8s (blockOf D.L k) = u8s (D.L.take ((k + 1) * 128)) := by rw [← take_block]; simp [u8s]
    rw [e] at hown2
    have : (D.L.take ((k + 1) * 128)).length = k * 128 + 128 := by rw [List.length_take, hl]; omega
    rw [this]; exact hown2
   clear hown2 hgr2 hown c0
   go_roundw
   case rel => exact ⟨k + 1, by omega, by go_num, hown3, hk2⟩
   case measure => simp [intOf]; omega
  ·have hkn : k = n := by omega
   subst hkn
   have hLl : D.L.take (k * 128) = D.L := List.take_of_length_le (by omega)
   rw [hLl] at hown
   have hcv := convert_owned hown
   clear hLl hl
   go_wp2
   go_ret
   exact ⟨rfl, hkr⟩

end Go.Proofs.YtcklgafpgdhnaaaGreatDoor

namespace Go.Proofs.YtcklgafpgdhnaaaGreatDoor
open Go.RowKit

def partly (L : List UInt8) (k n : Nat) : List UInt8 := L.take k ++ List.replicate (n * 128 - (L.take k).length) 0
theorem length_partly (L : List UInt8) (k n : Nat) (hk : k ≤ n * 128) : (partly L k n).length = n * 128 := by
 have := List.length_take_le k L
 rw [partly, List.length_append, List.length_replicate]; omega
theorem partly_set (L : List UInt8) (k n : Nat) (hk : k < n * 128) (b : UInt8) (hb : L[k]? = some b) : (partly L k n).set k b = partly L (k + 1) n := by
 have hk' : k < L.length := (List.getElem?_eq_some_iff.1 hb).1
 have hl : (L.take k).length = k := by rw [List.length_take]; omega
 have hl' : (L.take (k + 1)).length = k + 1 := by rw [List.length_take]; omega
 have e1 : n * 128 - k = (n * 128 - (k + 1)) + 1 := by omega
 rw [partly, partly, hl, hl', e1, List.replicate_succ, List.set_append_right _ _ (by omega), hl, Nat.sub_self, zF, take_snoc L k b hb, List.append_assoc]
 rfl
theorem u8s_set (l : List UInt8) (k : Nat) (b : UInt8) : (u8s l).toArray.setIfInBounds k (.int .u8 b.toNat) = (u8s (l.set k b)).toArray := by
 simp [u8s, List.map_set]
def laidL (n : Nat) (s : List UInt8) : List UInt8 := partly s (n * 128) n
theorem laidL_of (n : Nat) (L : List UInt8) (h : L.length = n * 128) : laidL n L = L := by
 rw [laidL, partly, List.take_of_length_le (by omega), h]; simp
theorem length_laidL (n : Nat) (s : List UInt8) : (laidL n s).length = n * 128 := length_partly _ _ _ (Nat.le_refl _)

def LdI (s : List UInt8) (n a : Nat) (bv : Value) (w : World) (i : Value) (wr : World) : Prop := ∃ k : Nat, k ≤ n * 128 ∧ k ≤ s.length ∧ i = .int .i64 k ∧ DQ wr a bv n (.slice none 0 0) (.new (partly s k n)) ∧ Kept [] w wr

theorem Laid_any (x : Int) (s : ByteArray) (w : World) (hs : s.size ≤ 1000000) :
  Calls Tryz.prog 128 #[.int .i64 x, .string s] w (RetDev (laidL (nb x) s.data.toList) (nb x) w) := by
 have Hg : Hid (∀ (k : Nat) (h : k < s.size), s.data.toList[k]? = some (s[k])) := by
  intro k h
  rw [List.getElem?_eq_getElem (by simpa using h)]; rfl
 have Hl : Hid (s.data.toList.length = s.size) := rfl
 have hn := nb_lt x
 go_enter Tryz.func128, Tryz.ntmps128
 go_wp2_with fail
 refine (NewDisk_any x w).mono ?_
 rintro e w1 ⟨a, bv, rfl, hd1, ha1, hg1, hk1⟩
 generalize nb x = n at *
 have hg0 : ∀ y, bv.ownBlock = some y → w.heap.size ≤ y := by
  obtain ⟨g', rfl, h⟩ := hg1
  intro y hy
  cases hy
  exact h
 go_wp2
 go_loopw [6] (fun i wr => LdI s.data.toList n a bv w i wr) (fun i _ => n * 128 - (intOf i).toNat)
 case atStart => exact ⟨0, Nat.zero_le _, Nat.zero_le _, rfl, by simpa [partly] using hd1, hk1⟩
 case round =>
  obtain ⟨k, hk, hkl, rfl, hd, hkr⟩ := hrel
  rw [Hl.out] at hkl
  obtain ⟨bp, bc, rfl⟩ := owns_slice hd.b
  have c0 : wr.cell? ⟨a, 0, none⟩ = some (.slice bp n bc) := cellAt hd.d rfl
  by_cases hlt : k < n * 128 ∧ k < s.size
  ·obtain ⟨hlt, hkss⟩ := hlt
   have hss : (k : Int) < (s.size : Int) := by omega
   have hkd : k / 128 < n := by omega
   obtain ⟨g, bc', bcur, e, hb, _, hb1, hb2, hb3, hb4⟩ := owns_open hd.b (by omega)
   cases e
   have hlp := length_partly s.data.toList k n hk
   obtain ⟨old, hold⟩ : ∃ old, wr.cell? ⟨g, k / 128 * 128 + k % 128, none⟩ = some old := by
    rw [cell_of_row _ _ _ _ _ _ hb]
    exact ⟨_, Array.getElem?_eq_getElem (by simp only [List.size_toArray, hb3]; omega)⟩
   have hfz : wr.frozen? ⟨g, k / 128 * 128 + k % 128, none⟩ = false := frozen_of_row _ _ _ _ _ hb
   go_wp2
   go_region
   rw [Nat.div_add_mod'] at hold hfz ⊢
   have k3 : Kept [g] wr (wr.setCell ⟨g, k, none⟩ (.int .u8 s[k].toNat)).drew := ((Kept.refl [g] wr).setCell (p := ⟨g, k, none⟩) (Or.inl (by simp)) (.int .u8 s[k].toNat)).drew
   have hd3 : DQ (wr.setCell ⟨g, k, none⟩ (.int .u8 s[k].toNat)).drew a (.slice (some ⟨g, 0, none⟩) n bc) n (.slice none 0 0) (.new (partly s.data.toList (k + 1) n)) := by
    refine ⟨k3.get hd.d (by simpa using (hd.nb g rfl).symm), ?_, World.ownsRow_nil _ _ _ _, by simp [Fit, Dv.new], fun _ => rfl⟩
    have h1 := setCellAt (i := k) (.int .u8 s[k].toNat) hb
    have h2 : ((bcur.set k (.int .u8 s[k].toNat))).take (n * 128) = u8s (partly s.data.toList (k + 1) n) := by
     rw [List.take_set, hb4, Dv.new, ← partly_set _ k n hlt s[k] (Hg.out k hkss)]
     simp [u8s, List.map_set]
    rw [zD] at h1
    exact owns_put (by rw [length_u8s]; exact length_partly _ _ _ (by omega)) h1 (Nat.zero_le _) hb1 hb2 (by rw [List.length_set]; exact hb3) h2
   have hk3 : Kept [] w (wr.setCell ⟨g, k, none⟩ (.int .u8 s[k].toNat)).drew := (hkr.setCell (Or.inr (hg0 g rfl)) _).drew
   generalize (wr.setCell ⟨g, k, none⟩ (.int .u8 s[k].toNat)).drew = w3 at *
   clear hold hfz hd c0 k3
   go_wp2
   go_roundw
   case rel => exact ⟨k + 1, by omega, by rw [Hl.out]; omega, by go_num, hd3, hk3⟩
   case measure => simp [intOf]; omega
  ·have hfull : partly s.data.toList k n = laidL n s.data.toList := by
    rcases Nat.lt_or_ge k (n * 128) with h1 | h1
    ·have e1 : k = s.data.toList.length := by rw [Hl.out]; omega
     rw [laidL, partly, partly, List.take_of_length_le (by omega), List.take_of_length_le (by omega)]
    ·rw [laidL, show k = n * 128 by omega]
   rw [hfull] at hd
   clear hfull
   by_cases h1 : k < s.size
   ·have hss : (k : Int) < (s.size : Int) := by omega
    have h2 : ¬ (k : Int) < (n : Int) * 128 := by omega
    go_wp2
    go_ret
    exact ⟨a, _, rfl, hd, ha1, hg1, hkr⟩
   ·have hss : ¬ (k : Int) < (s.size : Int) := by omega
    go_wp2
    go_ret
    exact ⟨a, _, rfl, hd, ha1, hg1, hkr⟩

end Go.Proofs.YtcklgafpgdhnaaaGreatDoor
