import Derived.Test.YtcklgafpgdhnaabGreatDoorPtac
import Derived.Laws.IdiomStrings
import Derived.BigRegion
import Derived.Laws.AppendOwnNone
import Derived.Laws.ResultCell
set_option maxRecDepth 100000
set_option maxHeartbeats 4000000
open List renaming getElem_toArray → zA, getElem_cons_succ → zB, getElem_cons_zero → zC, setIfInBounds_toArray → zD, set_cons_succ → zE, set_cons_zero → zF
namespace Go.Proofs.YtcklgafpgdhnaabGreatDoor
open Go.RowKit

def setBlock (L : List UInt8) (i : Nat) (B : List UInt8) : List UInt8 := splice L (i * 128) B
theorem u8s_splice (L : List UInt8) (o : Nat) (B : List UInt8) : splice (u8s L) o (u8s B) = u8s (splice L o B) := by
 simp [splice, u8s, List.map_take, List.map_drop]
theorem sblk : (Tryz.prog.info? 80).map (·.size) = some 128 := by kernel_rfl
def lay (L : List UInt8) (q : List Wt) : List UInt8 := q.foldl (fun L x => setBlock L x.1 x.2) L
theorem lay_snoc (L : List UInt8) (q : List Wt) (x : Wt) : lay L (q ++ [x]) = setBlock (lay L q) x.1 x.2 := by simp [lay]
theorem length_setBlock (L B : List UInt8) (n i : Nat) (hL : L.length = n * 128) (hi : i < n) (hB : B.length = 128) : (setBlock L i B).length = n * 128 := by
 rw [setBlock, length_splice _ _ _ (by rw [hB, hL]; omega), hL]
theorem length_lay {n : Nat} {L : List UInt8} {q : List Wt} (hL : L.length = n * 128) (h : Fit n q) : (lay L q).length = n * 128 := by
 induction q generalizing L with
 | nil => exact hL
 | cons x r ih =>
  obtain ⟨h1, h2⟩ := h x (by simp)
  exact ih (L := setBlock L x.1 x.2) (length_setBlock L x.2 n x.1 hL h1 h2) fun y hy => h y (by simp [hy])
def Dv.flush (D : Dv) : Dv := { D.tick with L := lay D.L D.q, q := [] }

def FlushR (a : Nat) (bv : Value) (n : Nat) (cv : Value) (D : Dv) (w : World) (e : Ending) (w' : World) : Prop :=
 if D.bad then e = .returned eIO ∧ DQ w' a bv n cv D.tick ∧ Kept [a] w w' else e = .returned .nilIface ∧ DQ w' a bv n (.slice none 0 0) D.flush ∧ Kept (a :: bv.ownBlock.toList) w w'

def FlI (bv : Value) (n : Nat) (D : Dv) (w1 : World) (ix : Value) (wr : World) : Prop :=
 ∃ j : Nat, j ≤ D.q.length ∧ ix = .int .i64 j ∧ wr.ownsRow 0 80 128 bv n (u8s (lay D.L (D.q.take j))) ∧ Kept bv.ownBlock.toList w1 wr

theorem Flush_any (a : Nat) (bv : Value) (n : Nat) (cv : Value) (D : Dv) (w : World) (h : DQ w a bv n cv D) (_hn : n ≤ 1000) (hq : D.q.length ≤ 1000000) :
  Calls Tryz.prog 170 #[.pointer (some ⟨a, 0, none⟩)] w (FlushR a bv n cv D w) := by
 go_enter Tryz.func170, Tryz.ntmps170
 go_wp2_with fail
 refine (fails_any a _ _ D w h.d).mono ?_
 rintro e w1 ⟨rfl, hd1, hk1, -⟩
 have h1 : DQ w1 a bv n cv D.tick := h.upd hk1 hd1 rfl rfl
 cases hb : D.bad with
 | true =>
  have FIN : Hid (FlushR a bv n cv D w (.returned eIO) w1) := by show FlushR _ _ _ _ _ _ _ _; unfold FlushR; rw [hb]; exact ⟨rfl, h1, hk1⟩
  go_wp2
  go_ret
  exact FIN.out
 | false =>
 obtain ⟨p, cap, rfl⟩ := owns_slice h.o
 have c1 : w1.cell? ⟨a, 1, none⟩ = some (.slice p D.q.length cap) := cellAt hd1 rfl
 have hla := lt_heap hd1
 go_wp2
 clear c1
 go_loopw [4, 13] (fun _ ix wr => FlI bv n D w1 ix wr) (fun _ ix _ => D.q.length - (intOf ix).toNat)
 case atStart => exact ⟨0, Nat.zero_le _, rfl, h1.b, Kept.refl _ _⟩
 case round =>
  obtain ⟨j, hj, rfl, hr, hkr⟩ := hrel
  have dr : DC wr a bv (.slice p D.q.length cap) D.tick := hkr.get hd1 (by intro hx; exact h.nb a (by simpa using hx) rfl)
  by_cases hlt : j < D.q.length
  ·have hlt' : (j : Int) < (D.q.length : Int) := by omega
   obtain ⟨x, hx⟩ : ∃ x, D.q[j]? = some x := ⟨_, List.getElem?_eq_getElem hlt⟩
   obtain ⟨x1, x2⟩ := h.q x (List.mem_of_getElem? hx)
   obtain ⟨b, cap', cur, e, hbq, hcur⟩ := h1.at_ hx
   cases e
   have hbq := hkr.get hbq (by intro hx; exact (h1.nq b rfl).2 (by simpa using hx))
   obtain ⟨g, bc, bcur, rfl, hbg, _, hb1, hb2, hb3, hb4⟩ := owns_open hr (by omega)
   have hwl : (wc x).length = 129 := by simp [wc, wcells, length_u8s, x2]
   have hld := run_loadVar_seg (P := Tryz.prog) wr b (j * 129) 82 82 cur (wc x) (0, 0) _ hbq Tryz.underlying82 rfl (by rw [swrite, hwl]) hcur
   have hll := length_lay (q := D.q.take j) h.l fun y hy => h.q y (List.mem_of_mem_take hy)
   have hnext := lay_snoc D.L (D.q.take j) x
   rw [← take_snoc D.q j x hx] at hnext
   have HN : Hid _ := hnext
   clear hcur hnext
   go_wp2_with (first
    | (refine wpList_val rfl _ _ (exec_index 63 (.tmp 11) (.tmp 13) rfl b 0 D.q.length cap j 129 rfl rfl 82 Tryz.underlying63 swrite hlt (j * 129) (by omega)) ?_)
    | (refine wpList_load_seg rfl 82 (.tmp 15) rfl ⟨b, j * 129, none⟩ rfl (.agg (wc x).toArray) hld ?_)
    | (refine wpList_alloc_k rfl 82 rfl _ (zwrite _) ?_; intro w5 hn5 hk5 _)
    | (refine wpList_store_k rfl 82 (.tmp 4) (.tmp 16) rfl wr.heap.size (wc x).toArray rfl rfl 82 _ hn5 (by rw [swrite]; simp [hwl]) (by simp [hwl, wcells, zl]) (all_of (one_wc x)) ?_; intro w6 hn6 hk6))
   have K6 : Kept [] wr w6 := hk5.trans2 hk6 (by intro y hy; simp at hy; subst hy; exact Or.inr (Nat.le_refl _))
   have d6 := K6.get dr (by simp)
   have r6 := K6.get hbg (by simp)
   have hS : (fun W : World => DC W a (.slice (some ⟨g, 0, none⟩) n bc) (.slice (some ⟨b, 0, none⟩) D.q.length cap) D.tick ∧ W.heap[wr.heap.size]? = some (.cells (wc x).toArray 82 (0, 0))) w6.drew := ⟨d6, hn6⟩
   refine wp_region_K (fun W : World => DC W a (.slice (some ⟨g, 0, none⟩) n bc) (.slice (some ⟨b, 0, none⟩) D.q.length cap) D.tick ∧ W.heap[wr.heap.size]? = some (.cells (wc x).toArray 82 (0, 0))) 9 (by kernel_rfl) ?_
   refine kt (i := 0) (v := .pointer (some ⟨a, 0, none⟩)) rfl (by kernel_rfl) (by kernel_rfl) (fun W hW => by kernel_rfl) (fun _ _ _ h => h) hS ?_
   refine kt (i := 1) (v := .pointer (some ⟨a, 0, none⟩)) rfl (by kernel_rfl) (by kernel_rfl) (fun W hW => by kernel_rfl) (fun _ _ _ h => h) hS ?_
   refine kt (i := 2) (v := .pointer (some ⟨a, 0, none⟩)) rfl (by kernel_rfl) (by kernel_rfl) (fun W hW => by kernel_rfl) (fun _ _ _ h => h) hS ?_
   refine kt (i := 4) (v := .pointer (some ⟨wr.heap.size, 0, none⟩)) rfl (by kernel_rfl) (by kernel_rfl) (fun W hW => by kernel_rfl) (fun _ _ _ h => h) hS ?_
   refine kt (i := 6) (v := .pointer (some ⟨wr.heap.size, 1, none⟩)) rfl (by kernel_rfl) (by kernel_rfl) (fun W hW => by kernel_rfl) (fun _ _ _ h => h) hS ?_
   simp only [Act.put, zA, zB, zC, zD, zE, zF]
   refine kt (i := 3) (v := .slice (some ⟨g, 0, none⟩) n bc) rfl (by kernel_rfl) (by kernel_rfl) (fun W hW => exec_load 62 (.tmp 19) rfl ⟨a, 0, none⟩ rfl _ (run_load1 Tryz.underlying62 rfl (cellAt hW.1 rfl))) (fun _ _ _ h => h) hS ?_
   refine kt (i := 5) (v := .int .i64 x.1) rfl (by kernel_rfl) (by kernel_rfl) (fun W hW => exec_load 3 (.tmp 21) rfl ⟨wr.heap.size, 0, none⟩ rfl _ (run_load1 Tryz.underlying3 rfl (cellAt hW.2 rfl))) (fun _ _ _ h => h) hS ?_
   refine kt (i := 7) (v := .agg (u8s x.2).toArray) rfl (by kernel_rfl) (by kernel_rfl) (fun W hW => exec_load 80 (.tmp 23) rfl ⟨wr.heap.size, 1, none⟩ rfl _ (run_loadVar_seg W _ 1 _ _ (wc x) (u8s x.2) _ _ hW.2 Tryz.underlying80 rfl (by rw [sblk, length_u8s, x2]) (by intro k u hu; rw [Nat.add_comm]; exact hu))) (fun _ _ _ h => h) hS ?_
   simp only [Act.put, zA, zB, zC, zD, zE, zF]
   refine kt (i := 8) (v := .pointer (some ⟨g, x.1 * 128, none⟩)) rfl (by kernel_rfl) (by kernel_rfl) (fun W _ => exec_index 62 (.tmp 20) (.tmp 22) rfl g 0 n bc x.1 128 rfl rfl 80 Tryz.underlying62 sblk x1 _ (by simp)) (fun _ _ _ h => h) hS ?_
   simp only [Act.put, zA, zB, zC, zD, zE, zF]
   have hst := run_storeVar_seg (P := Tryz.prog) w6.drew g (x.1 * 128) 80 80 bcur (u8s x.2) r6 (by rw [sblk, length_u8s, x2]) (by rw [length_u8s, x2, hb3]; omega) (one_u8s _)
   have k7 : Kept [g] w6 (w6.drew.setRow g (splice bcur (x.1 * 128) (u8s x.2)).toArray) := (Kept.refl _ _).drew.setRow (Or.inl (by simp)) _
   have r7 := owns_put (w := w6.drew.setRow g (splice bcur (x.1 * 128) (u8s x.2)).toArray) (base := 0) (size := 128) (xs := u8s (lay D.L (D.q.take (j + 1)))) (by rw [length_u8s, length_lay h.l fun y hy => h.q y (List.mem_of_mem_take hy)]) (setRow_heap w6.drew g _ _ 80 _ r6) (Nat.zero_le _) hb1 hb2 (by rw [length_splice _ _ _ (by rw [length_u8s, x2, hb3]; omega), hb3]) (by rw [take_splice hb4 (by rw [length_u8s, x2]; omega) (by rw [hb3]; omega), u8s_splice, HN.out]; rfl)
   refine K_one (i := 9) (by kernel_rfl) (wpOp_skip rfl rfl _ (exec_store 80 (.tmp 25) (.tmp 24) rfl ⟨g, x.1 * 128, none⟩ rfl (.agg (u8s x.2).toArray) rfl hst) ⟨fun hx => absurd rfl hx, ?_⟩)
   simp only [Act.put, zA, zB, zC]
   refine wpAnyK_done (by kernel_rfl) ?_ _
   generalize w6.drew.setRow g (splice bcur (x.1 * 128) (u8s x.2)).toArray = w7 at *
   have K7 : Kept [g] w1 w7 := (hkr.trans2 K6 (by simp)).trans k7
   clear hst hS
   go_wp2
   go_roundw
   case rel => exact ⟨j + 1, by omega, by go_num, r7, K7⟩
   case measure => simp [intOf]; omega
  ·have hge : ¬ (j : Int) < (D.q.length : Int) := by omega
   have ej : j = D.q.length := by omega
   subst ej
   rw [List.take_length] at hr
   have e1 : wr.cell? ⟨a, 1, none⟩ = some (.slice p D.q.length cap) := cellAt dr rfl
   have f1 : wr.frozen? ⟨a, 1, none⟩ = false := frozen_of_row _ _ _ _ _ dr
   have d2 := setCellAt (i := 1) (.slice none 0 0) dr
   have k2 : Kept [a] wr (wr.setCell ⟨a, 1, none⟩ (.slice none 0 0)) := (Kept.refl _ _).setCell (Or.inl (by simp)) _
   have FIN : Hid (FlushR a bv n (.slice p D.q.length cap) D w (.returned .nilIface) (wr.setCell ⟨a, 1, none⟩ (.slice none 0 0))) := by
    show FlushR _ _ _ _ _ _ _ _
    unfold FlushR
    rw [hb]
    exact ⟨rfl, ⟨d2, owns_kept hr k2 fun y hy => by simpa using h.nb y hy, World.ownsRow_nil _ _ _ _, by simp [Fit, Dv.flush], fun _ => rfl⟩, ((hk1.mono (by simp)).trans2 hkr (by intro y hy; exact Or.inl (List.mem_cons_of_mem _ hy))).trans2 k2 (by simp)⟩
   clear d2
   go_wp2
   go_ret
   exact FIN.out

end Go.Proofs.YtcklgafpgdhnaabGreatDoor

namespace Go.Proofs.YtcklgafpgdhnaabGreatDoor
open Go.RowKit

def nb (x : Int) : Nat := if x < 0 then 0 else (x % 1000).toNat
theorem nb_lt (x : Int) : nb x < 1000 := by unfold nb; split <;> omega

theorem iblk : (Tryz.prog.info? 80).map (fun i => (i.zero, i.size, i.bytes)) = some (some (.agg (zl 128).toArray), 128, 128) := by kernel_rfl
theorem zl_get (n j : Nat) (h : j < (zl n).length) : (zl n)[j] = .int .u8 0 := by simp [zl]
theorem made_zl (n : Nat) : madeCells (zl 128).toArray n = (u8s (List.replicate n 0)).toArray := by
 apply Array.ext'
 apply List.ext_getElem?
 intro j
 by_cases hj : j < n
 ·have h128 : j % 128 < (zl 128).length := by rw [length_zl]; omega
  simp only [madeCells, u8s, List.size_toArray, length_zl, Array.toList_map, Array.toList_range, List.getElem?_map, List.getElem?_range hj, Option.map_some, List.getElem?_replicate, if_pos hj]
  rw [List.getElem!_toArray, List.getElem!_eq_getElem?_getD, List.getElem?_eq_getElem h128, zl_get]
  rfl
 ·simp [madeCells, u8s, hj]

theorem mkblocks (m : Nat) (hm : m < 1000) (w : World) : (Instr.makeSlice 62 (.int .i64 m) (.int .i64 m)).run Tryz.prog w = .ok (.slice (some ⟨w.heap.size, 0, none⟩) m m) (w.alloc (.cells (u8s (List.replicate (m * 128) 0)).toArray 80)) := by
 obtain ⟨ie, hie, hz1, hz2, hz3⟩ := info_parts iblk
 have := run_make (P := Tryz.prog) w 62 80 ie _ Tryz.underlying62 hie hz1 .i64 .i64 m m (by omega) (by omega) (by rw [hz3]; omega) (by omega)
 rw [this, hz2]
 simp only [Int.toNat_natCast, Value.cells, made_zl]

def Dv.new (L : List UInt8) : Dv := ⟨L, [], 0, 0, 0, -1, 0, 0⟩
def NewDev (L : List UInt8) (n : Nat) (a : Nat) (bv : Value) (w w' : World) : Prop := DQ w' a bv n (.slice none 0 0) (.new L) ∧ w.heap.size ≤ a ∧ (∃ g, bv = .slice (some ⟨g, 0, none⟩) n n ∧ w.heap.size ≤ g) ∧ Kept [] w w'
def RetDev (L : List UInt8) (n : Nat) (w : World) (e : Ending) (w' : World) : Prop := ∃ a bv, e = .returned (.pointer (some ⟨a, 0, none⟩)) ∧ NewDev L n a bv w w'

theorem newDev_of {w w3 : World} {L : List UInt8} {m : Nat} (hL : L.length = m * 128) (hn3 : w3.heap[w.heap.size]? = some (.cells (u8s L).toArray 80 (0, 0))) (hk3 : Kept [] w w3) (hs : w3.heap.size = w.heap.size + 1) (hm : m ≤ 1000) :
  NewDev L m (w.heap.size + 1) (.slice (some ⟨w.heap.size, 0, none⟩) m m) w (w3.alloc (.cells #[.slice (some ⟨w.heap.size, 0, none⟩) m m, .slice none 0 0, .int .i64 0, .int .i64 0, .int .i64 0, .int .i64 (-1), .int .i64 0, .int .i64 0] 65)) := by
 have hk := (Kept.refl [] w3).alloc (.cells #[.slice (some ⟨w.heap.size, 0, none⟩) m m, .slice none 0 0, .int .i64 0, .int .i64 0, .int .i64 0, .int .i64 (-1), .int .i64 0, .int .i64 0] 65)
 refine ⟨⟨?_, owns_put (by rw [length_u8s]; exact hL) (hk.get hn3 (by simp)) (Nat.zero_le _) (Nat.le_refl _) (by unfold maxLen; omega) (by rw [length_u8s]; exact hL) (List.take_of_length_le (by rw [length_u8s]; exact Nat.le_of_eq hL)), World.ownsRow_nil _ _ _ _, by simp [Fit, Dv.new], fun _ => rfl⟩, by omega, ⟨_, rfl, Nat.le_refl _⟩, hk3.trans hk⟩
 rw [← hs]; exact heap_alloc_new _ _

theorem NewDisk_any (x : Int) (w : World) : Calls Tryz.prog 26 #[.int .i64 x] w (RetDev (List.replicate (nb x * 128) 0) (nb x) w) := by
 by_cases hx : x < 0
 ·have hnb : nb x = 0 := by unfold nb; rw [if_pos hx]
  rw [hnb]
  go_enter Tryz.func26, Tryz.ntmps26
  go_wp2_with (first
   | (at_make; refine wpList_make_k rfl _ _ _ rfl _ _ rfl rfl _ _ (mkblocks 0 (by omega) w) ?_; intro w3 hn3 hk3 hs3; have HS : Hid (w3.heap.size = w.heap.size + 1) := hs3))
  go_ret
  exact ⟨_, _, rfl, newDev_of (by simp) hn3 hk3 HS.out (by omega)⟩
 ·have hlt := nb_lt x
  have Hm : Hid (x % 1000 = nb x) := by show _ = _; unfold nb; rw [if_neg hx]; omega
  generalize nb x = m at *
  go_enter Tryz.func26, Tryz.ntmps26
  go_wp2_with (first
   | (at_make; rw [Hm.out]; refine wpList_make_k rfl _ _ _ rfl _ _ rfl rfl _ _ (mkblocks m hlt w) ?_; intro w3 hn3 hk3 hs3; have HS : Hid (w3.heap.size = w.heap.size + 1) := hs3))
  go_ret
  exact ⟨_, _, rfl, newDev_of (by simp) hn3 hk3 HS.out (by omega)⟩

theorem ret_int {k : IntKind} {a b : Int} (h : a = b) : Ending.returned (.int k a) = .returned (.int k b) := by rw [h]

def pk (c : Int) (n : Nat) : Nat := if c < 0 then ((-(c + 1)) % n).toNat else (c % n).toNat
theorem pk_lt (c : Int) (n : Nat) (hn : 0 < n) : pk c n < n := by
 unfold pk
 split
 ·have := Int.emod_lt_of_pos (-(c + 1)) (show (0 : Int) < n by omega); have := Int.emod_nonneg (-(c + 1)) (show (n : Int) ≠ 0 by omega); omega
 ·have := Int.emod_lt_of_pos c (show (0 : Int) < n by omega); have := Int.emod_nonneg c (show (n : Int) ≠ 0 by omega); omega

end Go.Proofs.YtcklgafpgdhnaabGreatDoor

namespace Go.Proofs.YtcklgafpgdhnaabGreatDoor
open Go.RowKit

theorem iu8 : (Tryz.prog.info? 5).map (fun i => (i.zero, i.size, i.bytes)) = some (some (.int .u8 0), 1, 1) := by kernel_rfl

theorem take_block (L : List UInt8) (k : Nat) : L.take (k * 128) ++ blockOf L k = L.take ((k + 1) * 128) := by
 rw [blockOf, Nat.add_mul, Nat.one_mul, List.take_add]

theorem convert_owned {w : World} {base : Nat} {v : Value} {l : List UInt8} (h : w.ownsRow base 5 1 v l.length (u8s l)) : (convert 83 9 v).run Tryz.prog w = .ok (.string ⟨l.toArray⟩) w := by
 obtain ⟨hl, ⟨rfl, h0⟩ | ⟨g, cap, cur, rfl, hg, hh, h1, h2, h3, h4⟩⟩ := h
 ·have : l = [] := List.eq_nil_of_length_eq_zero h0
  subst this
  rw [run_convert_bytes_string w 83 9 5 none 0 0 Tryz.underlying83 Tryz.underlying5 Tryz.underlying9]
  simp [Conv.bytesToString]; rfl
 ·refine run_convert_bytes_back (P := Tryz.prog) w 83 9 5 ⟨g, 0, none⟩ cap l Tryz.underlying83 Tryz.underlying5 Tryz.underlying9 ?_
  intro j hj
  rw [add_lit, cell_of_row _ _ _ _ _ _ hh]
  have := congrArg (fun x => x[j]?) h4
  simp only [List.getElem?_take, Nat.mul_one, hj, if_true, u8s_get, List.getElem?_eq_getElem hj, Option.map_some] at this
  simpa using this

end Go.Proofs.YtcklgafpgdhnaabGreatDoor

namespace Go.Proofs.YtcklgafpgdhnaabGreatDoor
open Go.RowKit

def partly (L : List UInt8) (k n : Nat) : List UInt8 := L.take k ++ List.replicate (n * 128 - (L.take k).length) 0
theorem length_partly (L : List UInt8) (k n : Nat) (hk : k ≤ n * 128) : (partly L k n).length = n * 128 := by
 have := List.length_take_le k L
 rw [partly, List.length_append, List.length_replicate]; omega
theorem partly_set (L : List UInt8) (k n : Nat) (hk : k < n * 128) (b : UInt8) (hb : L[k]? = some b) : (partly L k n).set k b = partly L (k + 1) n := by
 have hk' : k < L.length := (List.getElem?_eq_some_iff.1 hb).1
 have hl : (L.take k).length = k := by rw [List.length_take]; omega
 have hl' : (L.take (k + 1)).length = k + 1 := by rw [List.length_take]; omega
 have e1 : n * 128 - k = (n * 128 - (k + 1)) + 1 := by omega
 rw [partly, partly, hl, hl', e1, List.replicate_succ, List.set_append_right _ _ (by omega), hl, Nat.sub_self, zF, take_snoc L k b hb, List.append_assoc]
 rfl
theorem u8s_set (l : List UInt8) (k : Nat) (b : UInt8) : (u8s l).toArray.setIfInBounds k (.int .u8 b.toNat) = (u8s (l.set k b)).toArray := by
 simp [u8s, List.map_set]
def laidL (n : Nat) (s : List UInt8) : List UInt8 := partly s (n * 128) n
theorem laidL_of (n : Nat) (L : List UInt8) (h : L.length = n * 128) : laidL n L = L := by
 rw [laidL, partly, List.take_of_length_le (by omega), h]; simp
theorem length_laidL (n : Nat) (s : List UInt8) : (laidL n s).length = n * 128 := length_partly _ _ _ (Nat.le_refl _)

def LdI (s : List UInt8) (n a : Nat) (bv : Value) (w : World) (i : Value) (wr : World) : Prop := ∃ k : Nat, k ≤ n * 128 ∧ k ≤ s.length ∧ i = .int .i64 k ∧ DQ wr a bv n (.slice none 0 0) (.new (partly s k n)) ∧ Kept [] w wr

theorem Laid_any (x : Int) (s : ByteArray) (w : World) (hs : s.size ≤ 1000000) :
  Calls Tryz.prog 22 #[.int .i64 x, .string s] w (RetDev (laidL (nb x) s.data.toList) (nb x) w) := by
 have Hg : Hid (∀ (k : Nat) (h : k < s.size), s.data.toList[k]? = some (s[k])) := by
  intro k h
  rw [List.getElem?_eq_getElem (by simpa using h)]; rfl
 have Hl : Hid (s.data.toList.length = s.size) := rfl
 have hn := nb_lt x
 go_enter Tryz.func22, Tryz.ntmps22
 go_wp2_with fail
 refine (NewDisk_any x w).mono ?_
 rintro e w1 ⟨a, bv, rfl, hd1, ha1, hg1, hk1⟩
 generalize nb x = n at *
 have hg0 : ∀ y, bv.ownBlock = some y → w.heap.size ≤ y := by
  obtain ⟨g', rfl, h⟩ := hg1
  intro y hy
  cases hy
  exact h
 go_wp2
 go_loopw [6] (fun i wr => LdI s.data.toList n a bv w i wr) (fun i _ => n * 128 - (intOf i).toNat)
 case atStart => exact ⟨0, Nat.zero_le _, Nat.zero_le _, rfl, by simpa [partly] using hd1, hk1⟩
 case round =>
  obtain ⟨k, hk, hkl, rfl, hd, hkr⟩ := hrel
  rw [Hl.out] at hkl
  obtain ⟨bp, bc, rfl⟩ := owns_slice hd.b
  have c0 : wr.cell? ⟨a, 0, none⟩ = some (.slice bp n bc) := cellAt hd.d rfl
  by_cases hlt : k < n * 128 ∧ k < s.size
  ·obtain ⟨hlt, hkss⟩ := hlt
   have hss : (k : Int) < (s.size : Int) := by omega
   have hkd : k / 128 < n := by omega
   obtain ⟨g, bc', bcur, e, hb, _, hb1, hb2, hb3, hb4⟩ := owns_open hd.b (by omega)
   cases e
   have hlp := length_partly s.data.toList k n hk
   obtain ⟨old, hold⟩ : ∃ old, wr.cell? ⟨g, k / 128 * 128 + k % 128, none⟩ = some old := by
    rw [cell_of_row _ _ _ _ _ _ hb]
    exact ⟨_, Array.getElem?_eq_getElem (by simp only [List.size_toArray, hb3]; omega)⟩
   have hfz : wr.frozen? ⟨g, k / 128 * 128 + k % 128, none⟩ = false := frozen_of_row _ _ _ _ _ hb
   go_wp2
   go_region
   rw [Nat.div_add_mod'] at hold hfz ⊢
   have k3 : Kept [g] wr (wr.setCell ⟨g, k, none⟩ (.int .u8 s[k].toNat)).drew := ((Kept.refl [g] wr).setCell (p := ⟨g, k, none⟩) (Or.inl (by simp)) (.int .u8 s[k].toNat)).drew
   have hd3 : DQ (wr.setCell ⟨g, k, none⟩ (.int .u8 s[k].toNat)).drew a (.slice (some ⟨g, 0, none⟩) n bc) n (.slice none 0 0) (.new (partly s.data.toList (k + 1) n)) := by
    refine ⟨k3.get hd.d (by simpa using (hd.nb g rfl).symm), ?_, World.ownsRow_nil _ _ _ _, by simp [Fit, Dv.new], fun _ => rfl⟩
    have h1 := setCellAt (i := k) (.int .u8 s[k].toNat) hb
    have h2 : ((bcur.set k (.int .u8 s[k].toNat))).take (n * 128) = u8s (partly s.data.toList (k + 1) n) := by
     rw [List.take_set, hb4, Dv.new, ← partly_set _ k n hlt s[k] (Hg.out k hkss)]
     simp [u8s, List.map_set]
    rw [zD] at h1
    exact owns_put (by rw [length_u8s]; exact length_partly _ _ _ (by omega)) h1 (Nat.zero_le _) hb1 hb2 (by rw [List.length_set]; exact hb3) h2
   have hk3 : Kept [] w (wr.setCell ⟨g, k, none⟩ (.int .u8 s[k].toNat)).drew := (hkr.setCell (Or.inr (hg0 g rfl)) _).drew
   generalize (wr.setCell ⟨g, k, none⟩ (.int .u8 s[k].toNat)).drew = w3 at *
   clear hold hfz hd c0 k3
   go_wp2
   go_roundw
   case rel => exact ⟨k + 1, by omega, by rw [Hl.out]; omega, by go_num, hd3, hk3⟩
   case measure => simp [intOf]; omega
  ·have hfull : partly s.data.toList k n = laidL n s.data.toList := by
    rcases Nat.lt_or_ge k (n * 128) with h1 | h1
    ·have e1 : k = s.data.toList.length := by rw [Hl.out]; omega
     rw [laidL, partly, partly, List.take_of_length_le (by omega), List.take_of_length_le (by omega)]
    ·rw [laidL, show k = n * 128 by omega]
   rw [hfull] at hd
   clear hfull
   by_cases h1 : k < s.size
   ·have hss : (k : Int) < (s.size : Int) := by omega
    have h2 : ¬ (k : Int) < (n : Int) * 128 := by omega
    go_wp2
    go_ret
    exact ⟨a, _, rfl, hd, ha1, hg1, hkr⟩
   ·have hss : ¬ (k : Int) < (s.size : Int) := by omega
    go_wp2
    go_ret
    exact ⟨a, _, rfl, hd, ha1, hg1, hkr⟩

end Go.Proofs.YtcklgafpgdhnaabGreatDoor

namespace Go.Proofs.YtcklgafpgdhnaabGreatDoor
open Go.RowKit

theorem owns_mono {w : World} {base base' e size n : Nat} {v : Value} {xs : List Value} (h : w.ownsRow base e size v n xs) (hb : base' ≤ base) : w.ownsRow base' e size v n xs := by
 obtain ⟨h1, h2⟩ := h
 refine ⟨h1, ?_⟩
 rcases h2 with h2 | ⟨g, cap, cur, rfl, hg, r⟩
 ·exact Or.inl h2
 ·exact Or.inr ⟨g, cap, cur, rfl, by omega, r⟩

theorem wpList_append_src {P : Program} {w : World} {ops : Array Oper} {rest : List Oper} {o : Oper} {a : Act} {Q : Exit → Act → World → Prop} (hgd : o.guard = none) (s x : Operand) (t : TypeId)
  (ho : o.op = .call { callee := .builtin .append, args := #[s, x], argTypes := #[t, t] })
  (base : Nat) (e : TypeId) (i : TypeInfo) (z : Value) (size bytes : Nat) (ht : P.underlying t = some (.slice e)) (hi : P.info? e = some i) (hz : i.zero = some z)
  (hsize : i.size = size) (hby : i.bytes = bytes) (hzs : z.cells.size = size) (hsz : 0 < size)
  (v : Value) (n : Nat) (xs : List Value) (hs : a.eval s = v) (hown : w.ownsRow base e size v n xs)
  (y : Value) (base2 m : Nat) (ys : List Value) (hx : a.eval x = y) (hsrc : w.ownsRow base2 e size y m ys) (h1 : ∀ u ∈ ys, u.oneCell' = true)
  (h63 : n + m ≤ maxLen) (hbytes : (n + m) * bytes ≤ 140737488355328) (hbase : base ≤ w.heap.size)
  (h : ∀ v' w', w'.ownsRow base e size v' (n + m) (xs ++ ys) → w.grownBy w' v.ownBlock → wpList P ops Q rest (a.put o.dst v') w') : wpList P ops Q (o :: rest) a w := by
 obtain ⟨hl, ⟨rfl, rfl⟩ | ⟨g, cap, cur, rfl, hg, hh, h4, h5, h6, h7⟩⟩ := hsrc
 ·refine wpList_append_own_none hgd s x t ho base e i size ht hi v n xs hs hown hx ?_
  have : ys = [] := List.eq_nil_of_length_eq_zero (by simpa using hl)
  subst this
  exact h v w (by simpa using hown) (World.grownBy.refl _ _)
 ·refine wpList_append_own w hgd s x t ho base e i z size bytes ht hi hz hsize hby hzs hsz v n xs hs hown ⟨g, 0, none⟩ m cap ys hx hl ?_ h1 h63 hbytes hbase (fun v' w' ho' hg' _ => h v' w' ho' hg')
  intro j u hj
  rw [add_lit, Nat.zero_add, cell_of_row _ _ _ _ _ _ hh]
  rw [← h7, List.getElem?_take] at hj
  by_cases hjn : j < m * size
  ·simpa [hjn] using hj
  ·simp [hjn] at hj

end Go.Proofs.YtcklgafpgdhnaabGreatDoor
