import Derived.Test.YtcklgafpgdhnaaaGreatDoorPsab
import Derived.Laws.IdiomStrings
import Derived.BigRegion
import Derived.Laws.AppendOwnNone
import Derived.Laws.ResultCell
set_option maxRecDepth 100000
set_option maxHeartbeats 4000000
open Go.Proofs.Tryz
open Go.Act renaming put → zP
open List renaming getElem_toArray → zA, getElem_cons_succ → zB, getElem_cons_zero → zC, setIfInBounds_toArray → zD, set_cons_succ → zE, set_cons_zero → zF
namespace Go.Proofs.YtcklgafpgdhnaaaGreatDoor
open Go.RowKit
def Q1C (L : List UInt8) (i : Nat) (B : List UInt8) : List UInt8 := splice L (i * 128) B
theorem Q1D (L : List UInt8) (o : Nat) (B : List UInt8) : splice (u8s L) o (u8s B) = u8s (splice L o B) := by
 simp [splice, u8s, List.map_take, List.map_drop]
theorem sblk : (prog.info? 92).map (·.size) = some 128 := by kernel_rfl
def lay (L : List UInt8) (q : List Wt) : List UInt8 := q.foldl (fun L x => Q1C L x.1 x.2) L
theorem Q1E (L : List UInt8) (q : List Wt) (x : Wt) : lay L (q ++ [x]) = Q1C (lay L q) x.1 x.2 := by simp [lay]
theorem Q1F (L B : List UInt8) (n i : Nat) (hL : L.length = n * 128) (hi : i < n) (hB : B.length = 128) : (Q1C L i B).length = n * 128 := by
 rw [Q1C, length_splice _ _ _ (by rw [hB, hL]; omega), hL]
theorem Q1G {n : Nat} {L : List UInt8} {q : List Wt} (hL : L.length = n * 128) (h : Fit n q) : (lay L q).length = n * 128 := by
 induction q generalizing L with
 | nil => exact hL
 | cons x r ih =>
  obtain ⟨h1, h2⟩ := h x (by simp)
  exact ih (L := Q1C L x.1 x.2) (Q1F L x.2 n x.1 hL h1 h2) fun y hy => h y (by simp [hy])
def Dv.flush (D : Dv) : Dv := { D.tick with L := lay D.L D.q, q := [] }
def Q1H (a : Nat) (bv : Value) (n : Nat) (cv : Value) (D : Dv) (w : World) (e : Ending) (w' : World) : Prop :=
 if D.bad then e = .returned eIO /\ DQ w' a bv n cv D.tick /\ Kept [a] w w' else e = .returned .nilIface /\ DQ w' a bv n (.slice none 0 0) D.flush /\ Kept (a :: bv.ownBlock.toList) w w'
def FlI (bv : Value) (n : Nat) (D : Dv) (w1 : World) (ix : Value) (wr : World) : Prop :=
 ∃ j : Nat, j <= D.q.length /\ ix = .int .i64 j /\ wr.ownsRow 0 92 128 bv n (u8s (lay D.L (D.q.take j))) /\ Kept bv.ownBlock.toList w1 wr
theorem Q1I (a : Nat) (bv : Value) (n : Nat) (cv : Value) (D : Dv) (w : World) (h : DQ w a bv n cv D) (_hn : n <= 1000) (hq : D.q.length <= 1000000) :
  Calls prog 221 #[.pointer (some ⟨a, 0, none⟩)] w (Q1H a bv n cv D w) := by
 go_enter func221, ntmps221
 go_wp2_with fail
 refine (Q0G a _ _ D w h.d).mono ?_
 rintro e w1 ⟨rfl, hd1, hk1, -⟩
 have h1 : DQ w1 a bv n cv D.tick := h.upd hk1 hd1 rfl rfl
 cases hb : D.bad with
 | true =>
  have FIN : Hid (Q1H a bv n cv D w (.returned eIO) w1) := by show Q1H _ _ _ _ _ _ _ _; unfold Q1H; rw [hb]; exact ⟨rfl, h1, hk1⟩
  go_wp2
  go_ret
  exact FIN.out
 | false =>
 obtain ⟨p, cap, rfl⟩ := Q0U h.o
 have c1 : w1.cell? ⟨a, 1, none⟩ = some (.slice p D.q.length cap) := Q02 hd1 rfl
 have hla := Q00 hd1
 go_wp2
 clear c1
 go_loopw [4, 13] (fun _ ix wr => FlI bv n D w1 ix wr) (fun _ ix _ => D.q.length - (intOf ix).toNat)
 case atStart => exact ⟨0, Nat.zero_le _, rfl, h1.b, Kept.refl _ _⟩
 case round =>
  obtain ⟨j, hj, rfl, hr, hkr⟩ := hrel
  have dr : DC wr a bv (.slice p D.q.length cap) D.tick := hkr.get hd1 (by intro hx; exact h.nb a (by simpa using hx) rfl)
  by_cases hlt : j < D.q.length
  ·have hlt' : (j : Int) < (D.q.length : Int) := by omega
   obtain ⟨x, hx⟩ : ∃ x, D.q[j]? = some x := ⟨_, List.getElem?_eq_getElem hlt⟩
   obtain ⟨x1, x2⟩ := h.q x (List.mem_of_getElem? hx)
   obtain ⟨b, cap', cur, e, hbq, hcur⟩ := h1.at_ hx
   cases e
   have hbq := hkr.get hbq (by intro hx; exact (h1.nq b rfl).2 (by simpa using hx))
   obtain ⟨g, bc, bcur, rfl, hbg, _, hb1, hb2, hb3, hb4⟩ := Q0V hr (by omega)
   have hwl : (wc x).length = 129 := by simp [wc, Q0N, Q08, x2]
   have hld := Q0r (P := prog) wr b (j * 129) 94 94 cur (wc x) (0, 0) _ hbq underlying94 rfl (by rw [Q0P, hwl]) hcur
   have hll := Q1G (q := D.q.take j) h.l fun y hy => h.q y (List.mem_of_mem_take hy)
   have hnext := Q1E D.L (D.q.take j) x
   rw [<- Q17 D.q j x hx] at hnext
   have HN : Hid _ := hnext
   clear hcur hnext
   go_wp2_with (first
    | (refine Q04 rfl _ _ (Q0v 89 (.tmp 11) (.tmp 13) rfl b 0 D.q.length cap j 129 rfl rfl 94 underlying89 Q0P hlt (j * 129) (by omega)) ?_)
    | (refine Q0t rfl 94 (.tmp 15) rfl ⟨b, j * 129, none⟩ rfl (.agg (wc x).toArray) hld ?_)
    | (refine Q0b rfl 94 rfl _ (Q0Q _) ?_; intro w5 hn5 hk5 _)
    | (refine Q0c rfl 94 (.tmp 4) (.tmp 16) rfl wr.heap.size (wc x).toArray rfl rfl 94 _ hn5 (by rw [Q0P]; simp [hwl]) (by simp [hwl, Q0N, zl]) (Q0M (Q0R x)) ?_; intro w6 hn6 hk6))
   have K6 : Kept [] wr w6 := hk5.trans2 hk6 (by intro y hy; simp at hy; subst hy; exact Or.inr (Nat.le_refl _))
   have d6 := K6.get dr (by simp)
   have r6 := K6.get hbg (by simp)
   have hS : (fun W : World => DC W a (.slice (some ⟨g, 0, none⟩) n bc) (.slice (some ⟨b, 0, none⟩) D.q.length cap) D.tick /\ W.heap[wr.heap.size]? = some (.cells (wc x).toArray 94 (0, 0))) w6.drew := ⟨d6, hn6⟩
   refine Q1i (fun W : World => DC W a (.slice (some ⟨g, 0, none⟩) n bc) (.slice (some ⟨b, 0, none⟩) D.q.length cap) D.tick /\ W.heap[wr.heap.size]? = some (.cells (wc x).toArray 94 (0, 0))) 9 (by kernel_rfl) ?_
   refine kt (i := 0) (v := .pointer (some ⟨a, 0, none⟩)) rfl (by kernel_rfl) (by kernel_rfl) (fun W hW => by kernel_rfl) (fun _ _ _ h => h) hS ?_
   refine kt (i := 1) (v := .pointer (some ⟨a, 0, none⟩)) rfl (by kernel_rfl) (by kernel_rfl) (fun W hW => by kernel_rfl) (fun _ _ _ h => h) hS ?_
   refine kt (i := 2) (v := .pointer (some ⟨a, 0, none⟩)) rfl (by kernel_rfl) (by kernel_rfl) (fun W hW => by kernel_rfl) (fun _ _ _ h => h) hS ?_
   refine kt (i := 4) (v := .pointer (some ⟨wr.heap.size, 0, none⟩)) rfl (by kernel_rfl) (by kernel_rfl) (fun W hW => by kernel_rfl) (fun _ _ _ h => h) hS ?_
   refine kt (i := 6) (v := .pointer (some ⟨wr.heap.size, 1, none⟩)) rfl (by kernel_rfl) (by kernel_rfl) (fun W hW => by kernel_rfl) (fun _ _ _ h => h) hS ?_
   simp only [zP, zA, zB, zC, zD, zE, zF]
   refine kt (i := 3) (v := .slice (some ⟨g, 0, none⟩) n bc) rfl (by kernel_rfl) (by kernel_rfl) (fun W hW => Q0l 88 (.tmp 19) rfl ⟨a, 0, none⟩ rfl _ (Q0p underlying88 rfl (Q02 hW.1 rfl))) (fun _ _ _ h => h) hS ?_
   refine kt (i := 5) (v := .int .i64 x.1) rfl (by kernel_rfl) (by kernel_rfl) (fun W hW => Q0l 3 (.tmp 21) rfl ⟨wr.heap.size, 0, none⟩ rfl _ (Q0p underlying3 rfl (Q02 hW.2 rfl))) (fun _ _ _ h => h) hS ?_
   refine kt (i := 7) (v := .agg (u8s x.2).toArray) rfl (by kernel_rfl) (by kernel_rfl) (fun W hW => Q0l 92 (.tmp 23) rfl ⟨wr.heap.size, 1, none⟩ rfl _ (Q0r W _ 1 _ _ (wc x) (u8s x.2) _ _ hW.2 underlying92 rfl (by rw [sblk, Q08, x2]) (by intro k u hu; rw [Nat.add_comm]; exact hu))) (fun _ _ _ h => h) hS ?_
   simp only [zP, zA, zB, zC, zD, zE, zF]
   refine kt (i := 8) (v := .pointer (some ⟨g, x.1 * 128, none⟩)) rfl (by kernel_rfl) (by kernel_rfl) (fun W _ => Q0v 88 (.tmp 20) (.tmp 22) rfl g 0 n bc x.1 128 rfl rfl 92 underlying88 sblk x1 _ (by simp)) (fun _ _ _ h => h) hS ?_
   simp only [zP, zA, zB, zC, zD, zE, zF]
   have hst := Q0s (P := prog) w6.drew g (x.1 * 128) 92 92 bcur (u8s x.2) r6 (by rw [sblk, Q08, x2]) (by rw [Q08, x2, hb3]; omega) (Q09 _)
   have k7 : Kept [g] w6 (w6.drew.setRow g (splice bcur (x.1 * 128) (u8s x.2)).toArray) := (Kept.refl _ _).drew.setRow (Or.inl (by simp)) _
   have r7 := Q0W (w := w6.drew.setRow g (splice bcur (x.1 * 128) (u8s x.2)).toArray) (base := 0) (size := 128) (xs := u8s (lay D.L (D.q.take (j + 1)))) (by rw [Q08, Q1G h.l fun y hy => h.q y (List.mem_of_mem_take hy)]) (setRow_heap w6.drew g _ _ 92 _ r6) (Nat.zero_le _) hb1 hb2 (by rw [length_splice _ _ _ (by rw [Q08, x2, hb3]; omega), hb3]) (by rw [Q0Y hb4 (by rw [Q08, x2]; omega) (by rw [hb3]; omega), Q1D, HN.out]; rfl)
   refine Q1g (i := 9) (by kernel_rfl) (Q0i rfl rfl _ (Q0m 92 (.tmp 25) (.tmp 24) rfl ⟨g, x.1 * 128, none⟩ rfl (.agg (u8s x.2).toArray) rfl hst) ⟨fun hx => absurd rfl hx, ?_⟩)
   simp only [zP, zA, zB, zC]
   refine Q1h (by kernel_rfl) ?_ _
   generalize w6.drew.setRow g (splice bcur (x.1 * 128) (u8s x.2)).toArray = w7 at *
   have K7 : Kept [g] w1 w7 := (hkr.trans2 K6 (by simp)).trans k7
   clear hst hS
   go_wp2
   go_roundw
   case rel => exact ⟨j + 1, by omega, by go_num, r7, K7⟩
   case measure => simp [intOf]; omega
  ·have hge : ¬ (j : Int) < (D.q.length : Int) := by omega
   have ej : j = D.q.length := by omega
   subst ej
   rw [List.take_length] at hr
   have e1 : wr.cell? ⟨a, 1, none⟩ = some (.slice p D.q.length cap) := Q02 dr rfl
   have f1 : wr.frozen? ⟨a, 1, none⟩ = false := frozen_of_row _ _ _ _ _ dr
   have d2 := Q03 (i := 1) (.slice none 0 0) dr
   have k2 : Kept [a] wr (wr.setCell ⟨a, 1, none⟩ (.slice none 0 0)) := (Kept.refl _ _).setCell (Or.inl (by simp)) _
   have FIN : Hid (Q1H a bv n (.slice p D.q.length cap) D w (.returned .nilIface) (wr.setCell ⟨a, 1, none⟩ (.slice none 0 0))) := by
    show Q1H _ _ _ _ _ _ _ _
    unfold Q1H
    rw [hb]
    exact ⟨rfl, ⟨d2, Q0T hr k2 fun y hy => by simpa using h.nb y hy, World.ownsRow_nil _ _ _ _, by simp [Fit, Dv.flush], fun _ => rfl⟩, ((hk1.mono (by simp)).trans2 hkr (by intro y hy; exact Or.inl (List.mem_cons_of_mem _ hy))).trans2 k2 (by simp)⟩
   clear d2
   go_wp2
   go_ret
   exact FIN.out
def nb (x : Int) : Nat := if x < 0 then 0 else (x % 1000).toNat
theorem Q1J (x : Int) : nb x < 1000 := by unfold nb; split <;> omega
theorem iblk : (prog.info? 92).map (fun i => (i.zero, i.size, i.bytes)) = some (some (.agg (zl 128).toArray), 128, 128) := by kernel_rfl
theorem Q1K (n j : Nat) (h : j < (zl n).length) : (zl n)[j] = .int .u8 0 := by simp [zl]
theorem Q1L (n : Nat) : madeCells (zl 128).toArray n = (u8s (List.replicate n 0)).toArray := by
 apply Array.ext'
 apply List.ext_getElem?
 intro j
 by_cases hj : j < n
 ·have h128 : j % 128 < (zl 128).length := by rw [Q0J]; omega
  simp only [madeCells, u8s, List.size_toArray, Q0J, Array.toList_map, Array.toList_range, List.getElem?_map, List.getElem?_range hj, Option.map_some, List.getElem?_replicate, if_pos hj]
  rw [List.getElem!_toArray, List.getElem!_eq_getElem?_getD, List.getElem?_eq_getElem h128, Q1K]
  rfl
 ·simp [madeCells, u8s, hj]
theorem Q1M (m : Nat) (hm : m < 1000) (w : World) : (Instr.makeSlice 88 (.int .i64 m) (.int .i64 m)).run prog w = .ok (.slice (some ⟨w.heap.size, 0, none⟩) m m) (w.alloc (.cells (u8s (List.replicate (m * 128) 0)).toArray 92)) := by
 obtain ⟨ie, hie, hz1, hz2, hz3⟩ := info_parts iblk
 have := run_make (P := prog) w 88 92 ie _ underlying88 hie hz1 .i64 .i64 m m (by omega) (by omega) (by rw [hz3]; omega) (by omega)
 rw [this, hz2]
 simp only [Int.toNat_natCast, Value.cells, Q1L]
def Dv.new (L : List UInt8) : Dv := ⟨L, [], 0, 0, 0, -1, 0, 0⟩
def Q1N (L : List UInt8) (n : Nat) (a : Nat) (bv : Value) (w w' : World) : Prop := DQ w' a bv n (.slice none 0 0) (.new L) /\ w.heap.size <= a /\ (∃ g, bv = .slice (some ⟨g, 0, none⟩) n n /\ w.heap.size <= g) /\ Kept [] w w'
def Q1O (L : List UInt8) (n : Nat) (w : World) (e : Ending) (w' : World) : Prop := ∃ a bv, e = .returned (.pointer (some ⟨a, 0, none⟩)) /\ Q1N L n a bv w w'
theorem Q1P {w w3 : World} {L : List UInt8} {m : Nat} (hL : L.length = m * 128) (hn3 : w3.heap[w.heap.size]? = some (.cells (u8s L).toArray 92 (0, 0))) (hk3 : Kept [] w w3) (hs : w3.heap.size = w.heap.size + 1) (hm : m <= 1000) :
  Q1N L m (w.heap.size + 1) (.slice (some ⟨w.heap.size, 0, none⟩) m m) w (w3.alloc (.cells #[.slice (some ⟨w.heap.size, 0, none⟩) m m, .slice none 0 0, .int .i64 0, .int .i64 0, .int .i64 0, .int .i64 (-1), .int .i64 0, .int .i64 0] 91)) := by
 have hk := (Kept.refl [] w3).alloc (.cells #[.slice (some ⟨w.heap.size, 0, none⟩) m m, .slice none 0 0, .int .i64 0, .int .i64 0, .int .i64 0, .int .i64 (-1), .int .i64 0, .int .i64 0] 91)
 refine ⟨⟨?_, Q0W (by rw [Q08]; exact hL) (hk.get hn3 (by simp)) (Nat.zero_le _) (Nat.le_refl _) (by unfold maxLen; omega) (by rw [Q08]; exact hL) (List.take_of_length_le (by rw [Q08]; exact Nat.le_of_eq hL)), World.ownsRow_nil _ _ _ _, by simp [Fit, Dv.new], fun _ => rfl⟩, by omega, ⟨_, rfl, Nat.le_refl _⟩, hk3.trans hk⟩
 rw [<- hs]; exact heap_alloc_new _ _
theorem Q1Q (x : Int) (w : World) : Calls prog 32 #[.int .i64 x] w (Q1O (List.replicate (nb x * 128) 0) (nb x) w) := by
 by_cases hx : x < 0
 ·have hnb : nb x = 0 := by unfold nb; rw [if_pos hx]
  rw [hnb]
  go_enter func32, ntmps32
  go_wp2_with (first
   | (at_make; refine Q07 rfl _ _ _ rfl _ _ rfl rfl _ _ (Q1M 0 (by omega) w) ?_; intro w3 hn3 hk3 hs3; have HS : Hid (w3.heap.size = w.heap.size + 1) := hs3))
  go_ret
  exact ⟨_, _, rfl, Q1P (by simp) hn3 hk3 HS.out (by omega)⟩
 ·have hlt := Q1J x
  have Hm : Hid (x % 1000 = nb x) := by show _ = _; unfold nb; rw [if_neg hx]; omega
  generalize nb x = m at *
  go_enter func32, ntmps32
  go_wp2_with (first
   | (at_make; rw [Hm.out]; refine Q07 rfl _ _ _ rfl _ _ rfl rfl _ _ (Q1M m hlt w) ?_; intro w3 hn3 hk3 hs3; have HS : Hid (w3.heap.size = w.heap.size + 1) := hs3))
  go_ret
  exact ⟨_, _, rfl, Q1P (by simp) hn3 hk3 HS.out (by omega)⟩
theorem Q1R {k : IntKind} {a b : Int} (h : a = b) : Ending.returned (.int k a) = .returned (.int k b) := by rw [h]
def pk (c : Int) (n : Nat) : Nat := if c < 0 then ((-(c + 1)) % n).toNat else (c % n).toNat
theorem Q1S (c : Int) (n : Nat) (hn : 0 < n) : pk c n < n := by
 unfold pk
 split
 ·have := Int.emod_lt_of_pos (-(c + 1)) (show (0 : Int) < n by omega); have := Int.emod_nonneg (-(c + 1)) (show (n : Int) ≠ 0 by omega); omega
 ·have := Int.emod_lt_of_pos c (show (0 : Int) < n by omega); have := Int.emod_nonneg c (show (n : Int) ≠ 0 by omega); omega
theorem Q1T (l : List UInt8) (k : Nat) (b : UInt8) : (u8s l).toArray.setIfInBounds k (.int .u8 b.toNat) = (u8s (l.set k b)).toArray := by
 simp [u8s, List.map_set]
theorem Q1U {w : World} {base base' e size n : Nat} {v : Value} {xs : List Value} (h : w.ownsRow base e size v n xs) (hb : base' <= base) : w.ownsRow base' e size v n xs := by
 obtain ⟨h1, h2⟩ := h
 refine ⟨h1, ?_⟩
 rcases h2 with h2 | ⟨g, cap, cur, rfl, hg, r⟩
 ·exact Or.inl h2
 ·exact Or.inr ⟨g, cap, cur, rfl, by omega, r⟩
structure Qt (D D' : Dv) : Prop where
 L : D'.L = D.L
 q : D'.q = D.q
 wr : D'.wr = D.wr
 t : D'.t = D.t
 off : D'.off = D.off
 fr : D'.fr = D.fr
 to : D'.to = D.to
def Good (D : Dv) : Prop := D.off = -1 /\ D.fr = 0 /\ D.to = 0
structure Er (D D' : Dv) : Prop where
 L : D'.L = D.L
 q : D'.q = D.q
 wr : D'.wr = D.wr
 t : D'.t = wrap64 (D.t + 1)
 off : D'.off = D.off
 fr : D'.fr = D.fr
 to : D'.to = D.to
 bad : ¬ Good D
structure Wn (D : Dv) (i : Nat) (B : List UInt8) (D' : Dv) : Prop where
 L : D'.L = D.L
 q : D'.q = D.q ++ [(i, B)]
 wr : D'.wr = wrap64 (D.wr + 1)
 t : D'.t = D.t
 off : D'.off = D.off
 fr : D'.fr = D.fr
 to : D'.to = D.to
structure Fl (D D' : Dv) : Prop where
 L : D'.L = lay D.L D.q
 q : D'.q = []
 wr : D'.wr = D.wr
 t : D'.t = D.t
 off : D'.off = D.off
 fr : D'.fr = D.fr
 to : D'.to = D.to
theorem Good.bad {D : Dv} (h : Good D) : D.bad = false := by
 obtain ⟨h1, h2, h3⟩ := h
 simp only [Dv.bad, h1, h2, h3]
 simp
theorem Qt.refl (D : Dv) : Qt D D := ⟨rfl, rfl, rfl, rfl, rfl, rfl, rfl⟩
theorem Qt.trans {D E F : Dv} (h : Qt D E) (g : Qt E F) : Qt D F :=
 ⟨g.L.trans h.L, g.q.trans h.q, g.wr.trans h.wr, g.t.trans h.t, g.off.trans h.off, g.fr.trans h.fr, g.to.trans h.to⟩
theorem Qt.good {D E : Dv} (h : Qt D E) : Good E ↔ Good D := by unfold Good; rw [h.off, h.fr, h.to]
theorem Qt.er {D E F : Dv} (h : Qt D E) (g : Er E F) : Er D F :=
 ⟨g.L.trans h.L, g.q.trans h.q, g.wr.trans h.wr, by rw [g.t, h.t], g.off.trans h.off, g.fr.trans h.fr, g.to.trans h.to, fun hg => g.bad (h.good.2 hg)⟩
theorem Qt.wn {D E F : Dv} {i : Nat} {B : List UInt8} (h : Qt D E) (g : Wn E i B F) : Wn D i B F :=
 ⟨g.L.trans h.L, by rw [g.q, h.q], by rw [g.wr, h.wr], g.t.trans h.t, g.off.trans h.off, g.fr.trans h.fr, g.to.trans h.to⟩
theorem Qt.view {D E : Dv} (h : Qt D E) (i : Nat) : E.view i = D.view i := by unfold Dv.view; rw [h.L, h.q]
theorem Qt.tick {D : Dv} (hb : D.bad = false) : Qt D D.tick := by
 refine ⟨rfl, rfl, rfl, ?_, rfl, rfl, rfl⟩
 simp [Dv.tick, hb]
theorem Er.tick {D : Dv} (hb : D.bad = true) : Er D D.tick := by
 refine ⟨rfl, rfl, rfl, ?_, rfl, rfl, rfl, fun hg => ?_⟩
 ·simp [Dv.tick, hb]
 ·rw [hg.bad] at hb; cases hb
theorem Wn.put {D : Dv} (hb : D.bad = false) (i : Nat) (B : List UInt8) : Wn D i B (D.put i B) := by
 refine ⟨rfl, rfl, rfl, ?_, rfl, rfl, rfl⟩
 simp [Dv.put, Dv.tick, hb]
theorem Fl.flush {D : Dv} (hb : D.bad = false) : Fl D D.flush := by
 refine ⟨rfl, rfl, rfl, ?_, rfl, rfl, rfl⟩
 simp [Dv.flush, Dv.tick, hb]
theorem Wn.good {D E : Dv} {i : Nat} {B : List UInt8} (h : Wn D i B E) : Good E ↔ Good D := by unfold Good; rw [h.off, h.fr, h.to]
theorem Fl.good {D E : Dv} (h : Fl D E) : Good E ↔ Good D := by unfold Good; rw [h.off, h.fr, h.to]
def Q1V : List UInt8 -> Nat
 | [] => 0
 | b :: r => b.toNat + 256 * Q1V r
theorem Q1W (l : List UInt8) (b : UInt8) : Q1V (l ++ [b]) = Q1V l + b.toNat * 2 ^ (8 * l.length) := by
 induction l with
 | nil => simp [Q1V]
 | cons a r ih =>
  simp only [List.cons_append, Q1V, ih, List.length_cons, Nat.mul_add, Nat.mul_one]
  rw [show 8 * r.length + 8 = 8 * r.length + 8 from rfl, Nat.pow_add]
  have : (2 : Nat) ^ 8 = 256 := rfl
  have e2 : 256 * (b.toNat * 2 ^ (8 * r.length)) = b.toNat * (2 ^ (8 * r.length) * 256) := by rw [Nat.mul_comm 256, Nat.mul_assoc]
  rw [this]
  omega
theorem Q1X (l : List UInt8) : Q1V l < 2 ^ (8 * l.length) := by
 induction l with
 | nil => simp [Q1V]
 | cons a r ih =>
  have ha := a.toNat_lt
  simp only [Q1V, List.length_cons, Nat.mul_add, Nat.mul_one, Nat.pow_add]
  have : (2 : Nat) ^ 8 = 256 := rfl
  omega
theorem Q1Y (a b k : Nat) (ha : a < 2 ^ (8 * k)) (hb : b < 256) (hk : k < 8) :
  bits .or .u64 (a : Int) (IntKind.u64.wrap (IntKind.u64.wrap (b : Int) * 2 ^ (8 * k))) = ((a + b * 2 ^ (8 * k) : Nat) : Int) := by
 have h2 : b * 2 ^ (8 * k) < 2 ^ (8 * (k + 1)) := by rw [Nat.mul_add, Nat.pow_add]; have : (2 : Nat) ^ (8 * 1) = 256 := rfl; rw [this, Nat.mul_comm]; exact Nat.mul_lt_mul_of_pos_left hb (Nat.two_pow_pos _)
 have h3 : 2 ^ (8 * (k + 1)) <= 2 ^ 64 := Nat.pow_le_pow_right (by omega) (by omega)
 have h4 : 2 ^ (8 * k) <= 2 ^ 64 := Nat.pow_le_pow_right (by omega) (by omega)
 have e64 : (2 : Nat) ^ 64 = 18446744073709551616 := by decide
 rw [e64] at h3 h4
 have w1 : IntKind.u64.wrap (b : Int) = b := by rw [IntKind.wrap_u64]; omega
 have e1 : (b : Int) * 2 ^ (8 * k) = ((b * 2 ^ (8 * k) : Nat) : Int) := by simp
 have w2 : IntKind.u64.wrap ((b * 2 ^ (8 * k) : Nat) : Int) = ((b * 2 ^ (8 * k) : Nat) : Int) := by rw [IntKind.wrap_u64]; omega
 rw [w1, e1, w2, u64_or_nat a (b * 2 ^ (8 * k)) (by omega) (by omega), Nat.mul_comm b, Nat.or_comm, <- Nat.two_pow_add_eq_or_of_lt ha, Nat.add_comm]
theorem Q1Z (s off cap : Nat) (cs : Array Value) (L : List UInt8) (t' : TypeId) (fr : Nat × Nat) (w : World) (h : w.heap[s]? = some (.cells cs t' fr)) (hl : L.length <= 8)
  (hc : ∀ j (hj : j < L.length), cs[off + j]? = some (.int .u8 (L[j].toNat : Int))) :
  Calls prog 154 #[.slice (some ⟨s, off, none⟩) L.length cap] w fun e w' => e = .returned (.int .u64 (Q1V L)) /\ w' = w := by
 go_enter func154, ntmps154
 go_wp2
 go_loop [3, 8] (fun v i => ∃ (k : Nat), k <= L.length /\ i = .int .i64 k /\ v = .int .u64 (Q1V (L.take k))) (fun _ i => L.length - (intOf i).toNat)
 case atStart => exact ⟨0, Nat.zero_le _, rfl, rfl⟩
 case round =>
  obtain ⟨k, hk, rfl, rfl⟩ := hrel
  by_cases hlt : k < L.length
  ·have hcx : w.cell? ⟨s, off + k, none⟩ = some (.int .u8 (L[k].toNat : Int)) := Q02 h (hc k hlt)
   have hlen : (L.take k).length = k := by rw [List.length_take]; omega
   have hst : bits .or .u64 (Q1V (L.take k) : Int) (IntKind.u64.wrap (IntKind.u64.wrap (L[k].toNat : Int) * 2 ^ (8 * k))) = (Q1V (L.take (k + 1)) : Int) := by
    rw [Q1Y _ _ _ (by have := Q1X (L.take k); rwa [hlen] at this) L[k].toNat_lt (by omega), List.take_succ_eq_append_getElem hlt, Q1W, hlen]
   have HS : Hid (bits .or .u64 (Q1V (L.take k) : Int) (IntKind.u64.wrap (IntKind.u64.wrap (L[k].toNat : Int) * 2 ^ (8 * k))) = (Q1V (L.take (k + 1)) : Int)) := hst
   clear hst hlen
   generalize Q1V (L.take k) = z at *
   go_wp2
   go_round
   case rel => exact ⟨k + 1, by omega, by go_num, congrArg (Value.int .u64) HS.out⟩
   case measure => simp [intOf]; omega
  ·have hkl : k = L.length := by omega
   subst hkl
   rw [List.take_length]
   go_wp2
   go_ret
   exact ⟨rfl, rfl⟩
def Q20 (n i : Nat) : UInt8 := UInt8.ofNat (n / 2 ^ (8 * i) % 256)
theorem Q21 (n i : Nat) : ((n : Int) / 2 ^ (8 * i) % 256) = ((Q20 n i).toNat : Int) := by
 have h : (Q20 n i).toNat = n / 2 ^ (8 * i) % 256 := by
  unfold Q20
  rw [UInt8.toNat_ofNat']
  exact Nat.mod_eq_of_lt (by have : (2 : Nat) ^ 8 = 256 := rfl; omega)
 rw [h]; simp
def Q22 (n len : Nat) : List UInt8 := (List.range len).map (Q20 n)
theorem Q23 (n len : Nat) : Q1V (Q22 n len) = n % 2 ^ (8 * len) := by
 induction len with
 | zero => simp [Q22, Q1V, Nat.mod_one]
 | succ k ih =>
  have e : Q22 n (k + 1) = Q22 n k ++ [Q20 n k] := by simp [Q22, List.range_succ]
  have hl : (Q22 n k).length = k := by simp [Q22]
  rw [e, Q1W, ih, hl]
  have hb : (Q20 n k).toNat = n / 2 ^ (8 * k) % 256 := by
   unfold Q20
   rw [UInt8.toNat_ofNat']
   exact Nat.mod_eq_of_lt (by have : (2 : Nat) ^ 8 = 256 := rfl; omega)
  rw [hb, Nat.mul_add, Nat.pow_add, Nat.mod_mul, Nat.mul_comm (2 ^ (8 * k))]
theorem Q24 (s off len cap : Nat) (cs : List UInt8) (n : Nat) (t' : TypeId) (w : World) (h : w.heap[s]? = some (.cells (u8s cs).toArray t' (0, 0))) (hl : len <= 8) (hfit : off + len <= cs.length) (_h1 : (n : Int) < 18446744073709551616) :
  Calls prog 151 #[.slice (some ⟨s, off, none⟩) len cap, .int .u64 n] w fun e w' => e = .returned (.tuple #[]) /\
   w'.heap[s]? = some (.cells (u8s (splice cs off (Q22 n len))).toArray t' (0, 0)) /\ Kept [s] w w' := by
 go_enter func151, ntmps151
 go_wp2
 go_loopw [7] (fun i wr => ∃ (k : Nat), k <= len /\ i = .int .i64 k /\ wr.heap[s]? = some (.cells (u8s (splice cs off (Q22 n k))).toArray t' (0, 0)) /\ Kept [s] w wr) (fun i _ => len - (intOf i).toNat)
 case atStart => exact ⟨0, Nat.zero_le _, rfl, by simpa [Q22, splice] using h, Kept.refl _ _⟩
 case round =>
  obtain ⟨k, hk, rfl, hc2, hkr⟩ := hrel
  by_cases hlt : k < len
  ·have hbl : (Q22 n k).length = k := by simp [Q22]
   have hsl : (splice cs off (Q22 n k)).length = cs.length := length_splice _ _ _ (by omega)
   obtain ⟨old, hold⟩ : ∃ old, wr.cell? ⟨s, off + k, none⟩ = some old := ⟨_, Q02 hc2 (Array.getElem?_eq_getElem (by simp only [List.size_toArray, Q08]; omega))⟩
   have hf : wr.frozen? ⟨s, off + k, none⟩ = false := frozen_of_row _ _ _ _ _ hc2
   have hset : (splice cs off (Q22 n k)).set (off + k) (Q20 n k) = splice cs off (Q22 n (k + 1)) := by
    have e : Q22 n (k + 1) = Q22 n k ++ [Q20 n k] := by simp [Q22, List.range_succ]
    have h0 : off + k < cs.length := by omega
    rw [e, splice, splice, List.length_append, hbl]
    rw [List.set_append_right _ _ (by simp; omega), List.set_append_right _ _ (by simp; omega)]
    have e2 : off + k - (List.take off cs).length - (Q22 n k).length = 0 := by rw [List.length_take, hbl]; omega
    rw [e2, List.drop_eq_getElem_cons h0, zF]
    simp [Nat.add_assoc]
   have H1 := Q03 (i := off + k) (.int .u8 ((Q20 n k).toNat : Int)) hc2
   rw [Q1T, hset] at H1
   have H2 : Kept [s] w (wr.setCell ⟨s, off + k, none⟩ (.int .u8 ((Q20 n k).toNat : Int))) := hkr.setCell (Or.inl (by simp)) _
   have HB : Hid ((n : Int) / 2 ^ (8 * k) % 256 = ((Q20 n k).toNat : Int)) := Q21 n k
   clear hset hsl hbl hc2 hkr
   go_wp2
   go_roundw
   case rel => rw [HB.out]; exact ⟨k + 1, by omega, by go_num, H1, H2⟩
   case measure => simp [intOf]; omega
  ·have hkl : k = len := by omega
   subst hkl
   go_wp2
   go_end0
   exact ⟨rfl, hc2, hkr⟩
def Q25 (y : Int) : Int := bits .xor .u32 (y / 2) (bits .and .u32 3988292384 (-bits .and .u32 y 1 % 4294967296))
def Q26 : Nat -> Int -> Int
 | 0, y => y
 | n + 1, y => Q25 (Q26 n y)
def Q27 (z : Int) (b : UInt8) : Int := Q26 8 (bits .xor .u32 z ((b.toNat : Int) % 4294967296))
def csum (L : List UInt8) : Int := L.foldl Q27 4294967295
theorem Q28 (L : List UInt8) (b : UInt8) : csum (L ++ [b]) = Q27 (csum L) b := by simp [csum]
def crc (L : List UInt8) : Nat := (bits .xor .u32 IntKind.u32.max (csum L)).toNat
theorem Q29 (L : List UInt8) : bits .xor .u32 IntKind.u32.max (csum L) = (crc L : Int) /\ crc L < 4294967296 := by
 have h : 0 <= bits .xor .u32 IntKind.u32.max (csum L) /\ bits .xor .u32 IntKind.u32.max (csum L) < 4294967296 := by
  unfold bits
  simp only [IntKind.wrap_u32]
  omega
 unfold crc
 omega
theorem Q2a (s off cap : Nat) (cs : Array Value) (L : List UInt8) (t' : TypeId) (fr : Nat × Nat) (w : World) (h : w.heap[s]? = some (.cells cs t' fr)) (hl : L.length <= 1000)
  (hc : ∀ j (hj : j < L.length), cs[off + j]? = some (.int .u8 (L[j].toNat : Int))) :
  Calls prog 172 #[.slice (some ⟨s, off, none⟩) L.length cap] w fun e w' => e = .returned (.int .u32 (crc L)) /\ w' = w := by
 go_enter func172, ntmps172
 go_wp2
 go_loop [3, 8] (fun v i => ∃ (k : Nat), k <= L.length /\ i = .int .i64 k /\ v = .int .u32 (csum (L.take k))) (fun _ i => L.length - (intOf i).toNat)
 case atStart => exact ⟨0, Nat.zero_le _, rfl, rfl⟩
 case round =>
  obtain ⟨k, hk, rfl, rfl⟩ := hrel
  by_cases hlt : k < L.length
  ·have hcx : w.cell? ⟨s, off + k, none⟩ = some (.int .u8 (L[k].toNat : Int)) := Q02 h (hc k hlt)
   have HS : Hid (Q26 8 (bits .xor .u32 (csum (L.take k)) ((L[k].toNat : Int) % 4294967296)) = csum (L.take (k + 1))) := by
    show _ = _
    rw [List.take_succ_eq_append_getElem hlt, Q28]; rfl
   generalize csum (L.take k) = z at *
   go_wp2
   go_loop [3, 16] (fun v i => ∃ (j : Nat), j <= 8 /\ i = .int .i64 j /\ v = .int .u32 (Q26 j (bits .xor .u32 z ((L[k].toNat : Int) % 4294967296)))) (fun _ i => 8 - (intOf i).toNat)
   case atStart => exact ⟨0, by omega, rfl, rfl⟩
   case round =>
    obtain ⟨j, hj, rfl, rfl⟩ := hrel
    by_cases hj8 : j < 8
    ·have HB : Hid (bits .xor .u32 (Q26 j (bits .xor .u32 z ((L[k].toNat : Int) % 4294967296)) / 2) (bits .and .u32 3988292384 (-bits .and .u32 (Q26 j (bits .xor .u32 z ((L[k].toNat : Int) % 4294967296))) 1 % 4294967296)) = Q26 (j + 1) (bits .xor .u32 z ((L[k].toNat : Int) % 4294967296))) := rfl
     generalize Q26 j (bits .xor .u32 z ((L[k].toNat : Int) % 4294967296)) = y at *
     go_wp2
     go_round
     case rel => exact ⟨j + 1, by omega, by go_num, congrArg (Value.int .u32) HB.out⟩
     case measure => simp [intOf]; omega
    ·have hj' : j = 8 := by omega
     subst hj'
     go_wp2
     go_round
     case rel => exact ⟨k + 1, by omega, by go_num, congrArg (Value.int .u32) HS.out⟩
     case measure => simp [intOf]; omega
  ·have hkl : k = L.length := by omega
   subst hkl
   rw [List.take_length]
   have HC : Hid (bits .xor .u32 IntKind.u32.max (csum L) = (crc L : Int)) := (Q29 L).1
   generalize csum L = z at *
   go_wp2
   go_ret
   exact ⟨Q1R HC.out, rfl⟩
def hc (t r : Nat) : Array Value := #[.int .u64 t, .int .i64 r]
def nxt (t : Nat) : Nat := (t + 1) % 18446744073709551616
def nwr (t u : Nat) : Bool := decide (0 < wrap64 (IntKind.u64.wrap ((t : Int) - u)))
theorem Q2b (t r : Nat) (w : World) : Calls prog 118 #[.agg #[.int .u64 t, .int .i64 r]] w fun e w' => e = .returned (.int .i64 (t % 2 : Nat)) /\ Kept [] w w' := by
 go_enter func118, ntmps118
 go_wp2
 go_ret
 exact ⟨Q1R (by omega), (Kept.refl _ _).alloc _⟩
theorem Q2c (t r : Nat) (w : World) : Calls prog 91 #[.agg #[.int .u64 t, .int .i64 r]] w fun e w' => e = .returned (.int .i64 r) /\ Kept [] w w' := by
 go_enter func91, ntmps91
 go_wp2
 go_ret
 exact ⟨rfl, (Kept.refl _ _).alloc _⟩
theorem Q2d (t r x : Nat) (w : World) : Calls prog 84 #[.agg #[.int .u64 t, .int .i64 r], .int .i64 x] w fun e w' => e = .returned (.agg #[.int .u64 (nxt t), .int .i64 x]) /\ Kept [] w w' := by
 go_enter func84, ntmps84
 go_wp2
 go_returns
 refine ⟨?_, ((Kept.refl _ _).alloc _).alloc _⟩
 simp [nxt, IntKind.wrap_u64]
theorem Q2e (t r u q : Nat) (w : World) : Calls prog 121 #[.agg #[.int .u64 t, .int .i64 r], .agg #[.int .u64 u, .int .i64 q]] w fun e w' => e = .returned (.bool (nwr t u)) /\ Kept [] w w' := by
 have HN : Hid (nwr t u = decide (0 < wrap64 (IntKind.u64.wrap ((t : Int) - u)))) := rfl
 go_enter func121, ntmps121
 go_wp2
 go_ret
 exact ⟨congrArg (fun b => Ending.returned (.bool b)) HN.out.symm, ((Kept.refl _ _).alloc _).alloc _⟩
end Go.Proofs.YtcklgafpgdhnaaaGreatDoor
