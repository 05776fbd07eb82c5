import Derived.Test.YtcklgafpgdhnaaaGreatDoorPtac
import Derived.Laws.IdiomStrings
import Derived.BigRegion
import Derived.Laws.AppendOwnNone
import Derived.Laws.ResultCell
set_option maxRecDepth 100000
set_option maxHeartbeats 4000000
open List renaming getElem_toArray → zA, getElem_cons_succ → zB, getElem_cons_zero → zC, setIfInBounds_toArray → zD, set_cons_succ → zE, set_cons_zero → zF
namespace Go.Proofs.YtcklgafpgdhnaaaGreatDoor
open Go.RowKit

def setBlock (L : List UInt8) (i : Nat) (B : List UInt8) : List UInt8 := splice L (i * 128) B
theorem u8s_splice (L : List UInt8) (o : Nat) (B : List UInt8) : splice (u8s L) o (u8s B) = u8s (splice L o B) := by
 simp [splice, u8s, List.map_take, List.map_drop]
theorem sblk : (Tryz.prog.info? 92).map (·.size) = some 128 := by kernel_rfl
def lay (L : List UInt8) (q : List Wt) : List UInt8 := q.foldl (fun L x => setBlock L x.1 x.2) L
theorem lay_snoc (L : List UInt8) (q : List Wt) (x : Wt) : lay L (q ++ [x]) = setBlock (lay L q) x.1 x.2 := by simp [lay]
theorem length_setBlock (L B : List UInt8) (n i : Nat) (hL : L.length = n * 128) (hi : i < n) (hB : B.length = 128) : (setBlock L i B).length = n * 128 := by
 rw [setBlock, length_splice _ _ _ (by rw [hB, hL]; omega), hL]
theorem length_lay {n : Nat} {L : List UInt8} {q : List Wt} (hL : L.length = n * 128) (h : Fit n q) : (lay L q).length = n * 128 := by
 induction q generalizing L with
 | nil => exact hL
 | cons x r ih =>
  obtain ⟨h1, h2⟩ := h x (by simp)
  exact ih (L := setBlock L x.1 x.2) (length_setBlock L x.2 n x.1 hL h1 h2) fun y hy => h y (by simp [hy])
def Dv.flush (D : Dv) : Dv := { D.tick with L := lay D.L D.q, q := [] }

def FlushR (a : Nat) (bv : Value) (n : Nat) (cv : Value) (D : Dv) (w : World) (e : Ending) (w' : World) : Prop :=
 if D.bad then e = .returned eIO ∧ DQ w' a bv n cv D.tick ∧ Kept [a] w w' else e = .returned .nilIface ∧ DQ w' a bv n (.slice none 0 0) D.flush ∧ Kept (a :: bv.ownBlock.toList) w w'

def FlI (bv : Value) (n : Nat) (D : Dv) (w1 : World) (ix : Value) (wr : World) : Prop :=
 ∃ j : Nat, j ≤ D.q.length ∧ ix = .int .i64 j ∧ wr.ownsRow 0 92 128 bv n (u8s (lay D.L (D.q.take j))) ∧ Kept bv.ownBlock.toList w1 wr

theorem Flush_any (a : Nat) (bv : Value) (n : Nat) (cv : Value) (D : Dv) (w : World) (h : DQ w a bv n cv D) (_hn : n ≤ 1000) (hq : D.q.length ≤ 1000000) :
  Calls Tryz.prog 221 #[.pointer (some ⟨a, 0, none⟩)] w (FlushR a bv n cv D w) := by
 go_enter Tryz.func221, Tryz.ntmps221
 go_wp2_with fail
 refine (fails_any a _ _ D w h.d).mono ?_
 rintro e w1 ⟨rfl, hd1, hk1, -⟩
 have h1 : DQ w1 a bv n cv D.tick := h.upd hk1 hd1 rfl rfl
 cases hb : D.bad with
 | true =>
  have FIN : Hid (FlushR a bv n cv D w (.returned eIO) w1) := by show FlushR _ _ _ _ _ _ _ _; unfold FlushR; rw [hb]; exact ⟨rfl, h1, hk1⟩
  go_wp2
  go_ret
  exact FIN.out
 | false =>
 obtain ⟨p, cap, rfl⟩ := owns_slice h.o
 have c1 : w1.cell? ⟨a, 1, none⟩ = some (.slice p D.q.length cap) := cellAt hd1 rfl
 have hla := lt_heap hd1
 go_wp2
 clear c1
 go_loopw [4, 13] (fun _ ix wr => FlI bv n D w1 ix wr) (fun _ ix _ => D.q.length - (intOf ix).toNat)
 case atStart => exact ⟨0, Nat.zero_le _, rfl, h1.b, Kept.refl _ _⟩
 case round =>
  obtain ⟨j, hj, rfl, hr, hkr⟩ := hrel
  have dr : DC wr a bv (.slice p D.q.length cap) D.tick := hkr.get hd1 (by intro hx; exact h.nb a (by simpa using hx) rfl)
  by_cases hlt : j < D.q.length
  ·have hlt' : (j : Int) < (D.q.length : Int) := by omega
   obtain ⟨x, hx⟩ : ∃ x, D.q[j]? = some x := ⟨_, List.getElem?_eq_getElem hlt⟩
   obtain ⟨x1, x2⟩ := h.q x (List.mem_of_getElem? hx)
   obtain ⟨b, cap', cur, e, hbq, hcur⟩ := h1.at_ hx
   cases e
   have hbq := hkr.get hbq (by intro hx; exact (h1.nq b rfl).2 (by simpa using hx))
   obtain ⟨g, bc, bcur, rfl, hbg, _, hb1, hb2, hb3, hb4⟩ := owns_open hr (by omega)
   have hwl : (wc x).length = 129 := by simp [wc, wcells, length_u8s, x2]
   have hld := run_loadVar_seg (P := Tryz.prog) wr b (j * 129) 94 94 cur (wc x) (0, 0) _ hbq Tryz.underlying94 rfl (by rw [swrite, hwl]) hcur
   have hll := length_lay (q := D.q.take j) h.l fun y hy => h.q y (List.mem_of_mem_take hy)
   have hnext := lay_snoc D.L (D.q.take j) x
   rw [← take_snoc D.q j x hx] at hnext
   have HN : Hid _ := hnext
   clear hcur hnext
   go_wp2_with (first
    | (refine wpList_val rfl _ _ (exec_index 89 (.tmp 11) (.tmp 13) rfl b 0 D.q.length cap j 129 rfl rfl 94 Tryz.underlying89 swrite hlt (j * 129) (by omega)) ?_)
    | (refine wpList_load_seg rfl 94 (.tmp 15) rfl ⟨b, j * 129, none⟩ rfl (.agg (wc x).toArray) hld ?_)
    | (refine wpList_alloc_k rfl 94 rfl _ (zwrite _) ?_; intro w5 hn5 hk5 _)
    | (refine wpList_store_k rfl 94 (.tmp 4) (.tmp 16) rfl wr.heap.size (wc x).toArray rfl rfl 94 _ hn5 (by rw [swrite]; simp [hwl]) (by simp [hwl, wcells, zl]) (all_of (one_wc x)) ?_; intro w6 hn6 hk6))
   have K6 : Kept [] wr w6 := hk5.trans2 hk6 (by intro y hy; simp at hy; subst hy; exact Or.inr (Nat.le_refl _))
   have d6 := K6.get dr (by simp)
   have r6 := K6.get hbg (by simp)
   have hS : (fun W : World => DC W a (.slice (some ⟨g, 0, none⟩) n bc) (.slice (some ⟨b, 0, none⟩) D.q.length cap) D.tick ∧ W.heap[wr.heap.size]? = some (.cells (wc x).toArray 94 (0, 0))) w6.drew := ⟨d6, hn6⟩
   refine wp_region_K (fun W : World => DC W a (.slice (some ⟨g, 0, none⟩) n bc) (.slice (some ⟨b, 0, none⟩) D.q.length cap) D.tick ∧ W.heap[wr.heap.size]? = some (.cells (wc x).toArray 94 (0, 0))) 9 (by kernel_rfl) ?_
   refine kt (i := 0) (v := .pointer (some ⟨a, 0, none⟩)) rfl (by kernel_rfl) (by kernel_rfl) (fun W hW => by kernel_rfl) (fun _ _ _ h => h) hS ?_
   refine kt (i := 1) (v := .pointer (some ⟨a, 0, none⟩)) rfl (by kernel_rfl) (by kernel_rfl) (fun W hW => by kernel_rfl) (fun _ _ _ h => h) hS ?_
   refine kt (i := 2) (v := .pointer (some ⟨a, 0, none⟩)) rfl (by kernel_rfl) (by kernel_rfl) (fun W hW => by kernel_rfl) (fun _ _ _ h => h) hS ?_
   refine kt (i := 4) (v := .pointer (some ⟨wr.heap.size, 0, none⟩)) rfl (by kernel_rfl) (by kernel_rfl) (fun W hW => by kernel_rfl) (fun _ _ _ h => h) hS ?_
   refine kt (i := 6) (v := .pointer (some ⟨wr.heap.size, 1, none⟩)) rfl (by kernel_rfl) (by kernel_rfl) (fun W hW => by kernel_rfl) (fun _ _ _ h => h) hS ?_
   simp only [Act.put, zA, zB, zC, zD, zE, zF]
   refine kt (i := 3) (v := .slice (some ⟨g, 0, none⟩) n bc) rfl (by kernel_rfl) (by kernel_rfl) (fun W hW => exec_load 88 (.tmp 19) rfl ⟨a, 0, none⟩ rfl _ (run_load1 Tryz.underlying88 rfl (cellAt hW.1 rfl))) (fun _ _ _ h => h) hS ?_
   refine kt (i := 5) (v := .int .i64 x.1) rfl (by kernel_rfl) (by kernel_rfl) (fun W hW => exec_load 3 (.tmp 21) rfl ⟨wr.heap.size, 0, none⟩ rfl _ (run_load1 Tryz.underlying3 rfl (cellAt hW.2 rfl))) (fun _ _ _ h => h) hS ?_
   refine kt (i := 7) (v := .agg (u8s x.2).toArray) rfl (by kernel_rfl) (by kernel_rfl) (fun W hW => exec_load 92 (.tmp 23) rfl ⟨wr.heap.size, 1, none⟩ rfl _ (run_loadVar_seg W _ 1 _ _ (wc x) (u8s x.2) _ _ hW.2 Tryz.underlying92 rfl (by rw [sblk, length_u8s, x2]) (by intro k u hu; rw [Nat.add_comm]; exact hu))) (fun _ _ _ h => h) hS ?_
   simp only [Act.put, zA, zB, zC, zD, zE, zF]
   refine kt (i := 8) (v := .pointer (some ⟨g, x.1 * 128, none⟩)) rfl (by kernel_rfl) (by kernel_rfl) (fun W _ => exec_index 88 (.tmp 20) (.tmp 22) rfl g 0 n bc x.1 128 rfl rfl 92 Tryz.underlying88 sblk x1 _ (by simp)) (fun _ _ _ h => h) hS ?_
   simp only [Act.put, zA, zB, zC, zD, zE, zF]
   have hst := run_storeVar_seg (P := Tryz.prog) w6.drew g (x.1 * 128) 92 92 bcur (u8s x.2) r6 (by rw [sblk, length_u8s, x2]) (by rw [length_u8s, x2, hb3]; omega) (one_u8s _)
   have k7 : Kept [g] w6 (w6.drew.setRow g (splice bcur (x.1 * 128) (u8s x.2)).toArray) := (Kept.refl _ _).drew.setRow (Or.inl (by simp)) _
   have r7 := owns_put (w := w6.drew.setRow g (splice bcur (x.1 * 128) (u8s x.2)).toArray) (base := 0) (size := 128) (xs := u8s (lay D.L (D.q.take (j + 1)))) (by rw [length_u8s, length_lay h.l fun y hy => h.q y (List.mem_of_mem_take hy)]) (setRow_heap w6.drew g _ _ 92 _ r6) (Nat.zero_le _) hb1 hb2 (by rw [length_splice _ _ _ (by rw [length_u8s, x2, hb3]; omega), hb3]) (by rw [take_splice hb4 (by rw [length_u8s, x2]; omega) (by rw [hb3]; omega), u8s_splice, HN.out]; rfl)
   refine K_one (i := 9) (by kernel_rfl) (wpOp_skip rfl rfl _ (exec_store 92 (.tmp 25) (.tmp 24) rfl ⟨g, x.1 * 128, none⟩ rfl (.agg (u8s x.2).toArray) rfl hst) ⟨fun hx => absurd rfl hx, ?_⟩)
   simp only [Act.put, zA, zB, zC]
   refine wpAnyK_done (by kernel_rfl) ?_ _
   generalize w6.drew.setRow g (splice bcur (x.1 * 128) (u8s x.2)).toArray = w7 at *
   have K7 : Kept [g] w1 w7 := (hkr.trans2 K6 (by simp)).trans k7
   clear hst hS
   go_wp2
   go_roundw
   case rel => exact ⟨j + 1, by omega, by go_num, r7, K7⟩
   case measure => simp [intOf]; omega
  ·have hge : ¬ (j : Int) < (D.q.length : Int) := by omega
   have ej : j = D.q.length := by omega
   subst ej
   rw [List.take_length] at hr
   have e1 : wr.cell? ⟨a, 1, none⟩ = some (.slice p D.q.length cap) := cellAt dr rfl
   have f1 : wr.frozen? ⟨a, 1, none⟩ = false := frozen_of_row _ _ _ _ _ dr
   have d2 := setCellAt (i := 1) (.slice none 0 0) dr
   have k2 : Kept [a] wr (wr.setCell ⟨a, 1, none⟩ (.slice none 0 0)) := (Kept.refl _ _).setCell (Or.inl (by simp)) _
   have FIN : Hid (FlushR a bv n (.slice p D.q.length cap) D w (.returned .nilIface) (wr.setCell ⟨a, 1, none⟩ (.slice none 0 0))) := by
    show FlushR _ _ _ _ _ _ _ _
    unfold FlushR
    rw [hb]
    exact ⟨rfl, ⟨d2, owns_kept hr k2 fun y hy => by simpa using h.nb y hy, World.ownsRow_nil _ _ _ _, by simp [Fit, Dv.flush], fun _ => rfl⟩, ((hk1.mono (by simp)).trans2 hkr (by intro y hy; exact Or.inl (List.mem_cons_of_mem _ hy))).trans2 k2 (by simp)⟩
   clear d2
   go_wp2
   go_ret
   exact FIN.out

end Go.Proofs.YtcklgafpgdhnaaaGreatDoor

namespace Go.Proofs.YtcklgafpgdhnaaaGreatDoor
open Go.RowKit

def nb (x : Int) : Nat := if x < 0 then 0 else (x % 1000).toNat
theorem nb_lt (x : Int) : nb x < 1000 := by unfold nb; split <;> omega

theorem iblk : (Tryz.prog.info? 92).map (fun i => (i.zero, i.size, i.bytes)) = some (some (.agg (zl 128).toArray), 128, 128) := by kernel_rfl
theorem zl_get (n j : Nat) (h : j < (zl n).length) : (zl n)[j] = .int .u8 0 := by simp [zl]
theorem made_zl (n : Nat) : madeCells (zl 128).toArray n = (u8s (List.replicate n 0)).toArray := by
 apply Array.ext'
 apply List.ext_getElem?
 intro j
 by_cases hj : j < n
 ·have h128 : j % 128 < (zl 128).length := by rw [length_zl]; omega
  simp only [madeCells, u8s, List.size_toArray, length_zl, Array.toList_map, Array.toList_range, List.getElem?_map, List.getElem?_range hj, Option.map_some, List.getElem?_replicate, if_pos hj]
  rw [List.getElem!_toArray, List.getElem!_eq_getElem?_getD, List.getElem?_eq_getElem h128, zl_get]
  rfl
 ·simp [madeCells, u8s, hj]

theorem mkblocks (m : Nat) (hm : m < 1000) (w : World) : (Instr.makeSlice 88 (.int .i64 m) (.int .i64 m)).run Tryz.prog w = .ok (.slice (some ⟨w.heap.size, 0, none⟩) m m) (w.alloc (.cells (u8s (List.replicate (m * 128) 0)).toArray 92)) := by
 obtain ⟨ie, hie, hz1, hz2, hz3⟩ := info_parts iblk
 have := run_make (P := Tryz.prog) w 88 92 ie _ Tryz.underlying88 hie hz1 .i64 .i64 m m (by omega) (by omega) (by rw [hz3]; omega) (by omega)
 rw [this, hz2]
 simp only [Int.toNat_natCast, Value.cells, made_zl]

def Dv.new (L : List UInt8) : Dv := ⟨L, [], 0, 0, 0, -1, 0, 0⟩
def NewDev (L : List UInt8) (n : Nat) (a : Nat) (bv : Value) (w w' : World) : Prop := DQ w' a bv n (.slice none 0 0) (.new L) ∧ w.heap.size ≤ a ∧ (∃ g, bv = .slice (some ⟨g, 0, none⟩) n n ∧ w.heap.size ≤ g) ∧ Kept [] w w'
def RetDev (L : List UInt8) (n : Nat) (w : World) (e : Ending) (w' : World) : Prop := ∃ a bv, e = .returned (.pointer (some ⟨a, 0, none⟩)) ∧ NewDev L n a bv w w'

theorem newDev_of {w w3 : World} {L : List UInt8} {m : Nat} (hL : L.length = m * 128) (hn3 : w3.heap[w.heap.size]? = some (.cells (u8s L).toArray 92 (0, 0))) (hk3 : Kept [] w w3) (hs : w3.heap.size = w.heap.size + 1) (hm : m ≤ 1000) :
  NewDev L m (w.heap.size + 1) (.slice (some ⟨w.heap.size, 0, none⟩) m m) w (w3.alloc (.cells #[.slice (some ⟨w.heap.size, 0, none⟩) m m, .slice none 0 0, .int .i64 0, .int .i64 0, .int .i64 0, .int .i64 (-1), .int .i64 0, .int .i64 0] 91)) := by
 have hk := (Kept.refl [] w3).alloc (.cells #[.slice (some ⟨w.heap.size, 0, none⟩) m m, .slice none 0 0, .int .i64 0, .int .i64 0, .int .i64 0, .int .i64 (-1), .int .i64 0, .int .i64 0] 91)
 refine ⟨⟨?_, owns_put (by rw [length_u8s]; exact hL) (hk.get hn3 (by simp)) (Nat.zero_le _) (Nat.le_refl _) (by unfold maxLen; omega) (by rw [length_u8s]; exact hL) (List.take_of_length_le (by rw [length_u8s]; exact Nat.le_of_eq hL)), World.ownsRow_nil _ _ _ _, by simp [Fit, Dv.new], fun _ => rfl⟩, by omega, ⟨_, rfl, Nat.le_refl _⟩, hk3.trans hk⟩
 rw [← hs]; exact heap_alloc_new _ _

theorem NewDisk_any (x : Int) (w : World) : Calls Tryz.prog 32 #[.int .i64 x] w (RetDev (List.replicate (nb x * 128) 0) (nb x) w) := by
 by_cases hx : x < 0
 ·have hnb : nb x = 0 := by unfold nb; rw [if_pos hx]
  rw [hnb]
  go_enter Tryz.func32, Tryz.ntmps32
  go_wp2_with (first
   | (at_make; refine wpList_make_k rfl _ _ _ rfl _ _ rfl rfl _ _ (mkblocks 0 (by omega) w) ?_; intro w3 hn3 hk3 hs3; have HS : Hid (w3.heap.size = w.heap.size + 1) := hs3))
  go_ret
  exact ⟨_, _, rfl, newDev_of (by simp) hn3 hk3 HS.out (by omega)⟩
 ·have hlt := nb_lt x
  have Hm : Hid (x % 1000 = nb x) := by show _ = _; unfold nb; rw [if_neg hx]; omega
  generalize nb x = m at *
  go_enter Tryz.func32, Tryz.ntmps32
  go_wp2_with (first
   | (at_make; rw [Hm.out]; refine wpList_make_k rfl _ _ _ rfl _ _ rfl rfl _ _ (mkblocks m hlt w) ?_; intro w3 hn3 hk3 hs3; have HS : Hid (w3.heap.size = w.heap.size + 1) := hs3))
  go_ret
  exact ⟨_, _, rfl, newDev_of (by simp) hn3 hk3 HS.out (by omega)⟩

theorem ret_int {k : IntKind} {a b : Int} (h : a = b) : Ending.returned (.int k a) = .returned (.int k b) := by rw [h]

def pk (c : Int) (n : Nat) : Nat := if c < 0 then ((-(c + 1)) % n).toNat else (c % n).toNat
theorem pk_lt (c : Int) (n : Nat) (hn : 0 < n) : pk c n < n := by
 unfold pk
 split
 ·have := Int.emod_lt_of_pos (-(c + 1)) (show (0 : Int) < n by omega); have := Int.emod_nonneg (-(c + 1)) (show (n : Int) ≠ 0 by omega); omega
 ·have := Int.emod_lt_of_pos c (show (0 : Int) < n by omega); have := Int.emod_nonneg c (show (n : Int) ≠ 0 by omega); omega

end Go.Proofs.YtcklgafpgdhnaaaGreatDoor

namespace Go.Proofs.YtcklgafpgdhnaaaGreatDoor
open Go.RowKit

theorem u8s_set (l : List UInt8) (k : Nat) (b : UInt8) : (u8s l).toArray.setIfInBounds k (.int .u8 b.toNat) = (u8s (l.set k b)).toArray := by
 simp [u8s, List.map_set]
end Go.Proofs.YtcklgafpgdhnaaaGreatDoor

namespace Go.Proofs.YtcklgafpgdhnaaaGreatDoor
open Go.RowKit

theorem owns_mono {w : World} {base base' e size n : Nat} {v : Value} {xs : List Value} (h : w.ownsRow base e size v n xs) (hb : base' ≤ base) : w.ownsRow base' e size v n xs := by
 obtain ⟨h1, h2⟩ := h
 refine ⟨h1, ?_⟩
 rcases h2 with h2 | ⟨g, cap, cur, rfl, hg, r⟩
 ·exact Or.inl h2
 ·exact Or.inr ⟨g, cap, cur, rfl, by omega, r⟩

end Go.Proofs.YtcklgafpgdhnaaaGreatDoor

namespace Go.Proofs.YtcklgafpgdhnaaaGreatDoor
open Go.RowKit

def put1 (L : List UInt8) (x : Wt) (s : Nat) : List UInt8 := splice L (x.1 * 128 + s * 32) ((x.2.drop (s * 32)).take 32)
def svN (c : Nat → Bool) (L : List UInt8) (x : Wt) : Nat → List UInt8
 | 0 => L
 | s + 1 => if c s then put1 (svN c L x s) x s else svN c L x s
inductive Sr (L : List UInt8) : List Wt → List UInt8 → Prop
 | nil : Sr L [] L
 | snoc {q : List Wt} {L1 : List UInt8} (h : Sr L q L1) (x : Wt) (c : Nat → Bool) : Sr L (q ++ [x]) (svN c L1 x 4)
theorem svN_none (L : List UInt8) (x : Wt) : ∀ s, svN (fun _ => false) L x s = L
 | 0 => rfl
 | s + 1 => by rw [svN, svN_none L x s]; rfl
theorem Sr.rest {L L1 : List UInt8} {q : List Wt} (h : Sr L q L1) : ∀ r, Sr L (q ++ r) L1 := by
 intro r
 induction r generalizing q with
 | nil => simpa using h
 | cons x r ih =>
  have := h.snoc x fun _ => false
  rw [svN_none] at this
  simpa using ih this
theorem Sr.none (L : List UInt8) (q : List Wt) : Sr L q L := by simpa using (Sr.nil (L := L)).rest q
theorem length_svN {c : Nat → Bool} {L : List UInt8} {x : Wt} {n : Nat} (hL : L.length = n * 128) (hx : x.1 < n) (h2 : x.2.length = 128) : ∀ s, s ≤ 4 → (svN c L x s).length = n * 128
 | 0, _ => hL
 | s + 1, hs => by
  have ih := length_svN (c := c) hL hx h2 s (by omega)
  rw [svN]
  split
  ·rw [put1, length_splice _ _ _ (by rw [List.length_take, List.length_drop]; omega), ih]
  ·exact ih
theorem Sr.len {L L1 : List UInt8} {q : List Wt} {n : Nat} (h : Sr L q L1) (hL : L.length = n * 128) (hq : Fit n q) : L1.length = n * 128 := by
 induction h with
 | nil => exact hL
 | snoc h x c ih => exact length_svN (ih fun y hy => hq y (by simp [hy])) (hq x (by simp)).1 (hq x (by simp)).2 4 (by omega)

end Go.Proofs.YtcklgafpgdhnaaaGreatDoor

namespace Go.Proofs.YtcklgafpgdhnaaaGreatDoor
open Go.RowKit

structure Qt (D D' : Dv) : Prop where
 L : D'.L = D.L
 q : D'.q = D.q
 wr : D'.wr = D.wr
 t : D'.t = D.t
 off : D'.off = D.off
 fr : D'.fr = D.fr
 to : D'.to = D.to
def Good (D : Dv) : Prop := D.off = -1 ∧ D.fr = 0 ∧ D.to = 0
structure Er (D D' : Dv) : Prop where
 L : D'.L = D.L
 q : D'.q = D.q
 wr : D'.wr = D.wr
 t : D'.t = wrap64 (D.t + 1)
 off : D'.off = D.off
 fr : D'.fr = D.fr
 to : D'.to = D.to
 bad : ¬ Good D
structure Wn (D : Dv) (i : Nat) (B : List UInt8) (D' : Dv) : Prop where
 L : D'.L = D.L
 q : D'.q = D.q ++ [(i, B)]
 wr : D'.wr = wrap64 (D.wr + 1)
 t : D'.t = D.t
 off : D'.off = D.off
 fr : D'.fr = D.fr
 to : D'.to = D.to
structure Fl (D D' : Dv) : Prop where
 L : D'.L = lay D.L D.q
 q : D'.q = []
 wr : D'.wr = D.wr
 t : D'.t = D.t
 off : D'.off = D.off
 fr : D'.fr = D.fr
 to : D'.to = D.to

theorem Good.bad {D : Dv} (h : Good D) : D.bad = false := by
 obtain ⟨h1, h2, h3⟩ := h
 simp only [Dv.bad, h1, h2, h3]
 simp
theorem Qt.refl (D : Dv) : Qt D D := ⟨rfl, rfl, rfl, rfl, rfl, rfl, rfl⟩
theorem Qt.trans {D E F : Dv} (h : Qt D E) (g : Qt E F) : Qt D F :=
 ⟨g.L.trans h.L, g.q.trans h.q, g.wr.trans h.wr, g.t.trans h.t, g.off.trans h.off, g.fr.trans h.fr, g.to.trans h.to⟩
theorem Qt.good {D E : Dv} (h : Qt D E) : Good E ↔ Good D := by unfold Good; rw [h.off, h.fr, h.to]
theorem Qt.er {D E F : Dv} (h : Qt D E) (g : Er E F) : Er D F :=
 ⟨g.L.trans h.L, g.q.trans h.q, g.wr.trans h.wr, by rw [g.t, h.t], g.off.trans h.off, g.fr.trans h.fr, g.to.trans h.to, fun hg => g.bad (h.good.2 hg)⟩
theorem Qt.wn {D E F : Dv} {i : Nat} {B : List UInt8} (h : Qt D E) (g : Wn E i B F) : Wn D i B F :=
 ⟨g.L.trans h.L, by rw [g.q, h.q], by rw [g.wr, h.wr], g.t.trans h.t, g.off.trans h.off, g.fr.trans h.fr, g.to.trans h.to⟩
theorem Qt.fl {D E F : Dv} (h : Qt D E) (g : Fl E F) : Fl D F :=
 ⟨by rw [g.L, h.L, h.q], g.q, g.wr.trans h.wr, g.t.trans h.t, g.off.trans h.off, g.fr.trans h.fr, g.to.trans h.to⟩
theorem Qt.view {D E : Dv} (h : Qt D E) (i : Nat) : E.view i = D.view i := by unfold Dv.view; rw [h.L, h.q]
theorem Qt.tick {D : Dv} (hb : D.bad = false) : Qt D D.tick := by
 refine ⟨rfl, rfl, rfl, ?_, rfl, rfl, rfl⟩
 simp [Dv.tick, hb]
theorem Er.tick {D : Dv} (hb : D.bad = true) : Er D D.tick := by
 refine ⟨rfl, rfl, rfl, ?_, rfl, rfl, rfl, fun hg => ?_⟩
 ·simp [Dv.tick, hb]
 ·rw [hg.bad] at hb; cases hb
theorem Wn.put {D : Dv} (hb : D.bad = false) (i : Nat) (B : List UInt8) : Wn D i B (D.put i B) := by
 refine ⟨rfl, rfl, rfl, ?_, rfl, rfl, rfl⟩
 simp [Dv.put, Dv.tick, hb]
theorem Fl.flush {D : Dv} (hb : D.bad = false) : Fl D D.flush := by
 refine ⟨rfl, rfl, rfl, ?_, rfl, rfl, rfl⟩
 simp [Dv.flush, Dv.tick, hb]
theorem Wn.good {D E : Dv} {i : Nat} {B : List UInt8} (h : Wn D i B E) : Good E ↔ Good D := by unfold Good; rw [h.off, h.fr, h.to]
theorem Fl.good {D E : Dv} (h : Fl D E) : Good E ↔ Good D := by unfold Good; rw [h.off, h.fr, h.to]

end Go.Proofs.YtcklgafpgdhnaaaGreatDoor
