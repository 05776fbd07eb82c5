import Derived.Test.YtcklgafpgdhnaaaGreatDoorPtab
import Derived.Laws.IdiomStrings
import Derived.BigRegion
import Derived.Laws.AppendOwnNone
import Derived.Laws.ResultCell
set_option maxRecDepth 100000
set_option maxHeartbeats 4000000
open Go.Proofs.Tryz
open Go.Act renaming put → zP
open List renaming getElem_toArray → zA, getElem_cons_succ → zB, getElem_cons_zero → zC, setIfInBounds_toArray → zD, set_cons_succ → zE, set_cons_zero → zF
namespace Go.Proofs.YtcklgafpgdhnaaaGreatDoor
open Go.RowKit
def Q1F (L : List UInt8) (i : Nat) (B : List UInt8) : List UInt8 := splice L (i * 128) B
theorem Q1G (L : List UInt8) (o : Nat) (B : List UInt8) : splice (u8s L) o (u8s B) = u8s (splice L o B) := by
 simp [splice, u8s, List.map_take, List.map_drop]
theorem sblk : (prog.info? 92).map (·.size) = some 128 := by kernel_rfl
def lay (L : List UInt8) (q : List Wt) : List UInt8 := q.foldl (fun L x => Q1F L x.1 x.2) L
theorem Q1H (L : List UInt8) (q : List Wt) (x : Wt) : lay L (q ++ [x]) = Q1F (lay L q) x.1 x.2 := by simp [lay]
theorem Q1I (L B : List UInt8) (n i : Nat) (hL : L.length = n * 128) (hi : i < n) (hB : B.length = 128) : (Q1F L i B).length = n * 128 := by
 rw [Q1F, length_splice _ _ _ (by rw [hB, hL]; omega), hL]
theorem Q1J {n : Nat} {L : List UInt8} {q : List Wt} (hL : L.length = n * 128) (h : Fit n q) : (lay L q).length = n * 128 := by
 induction q generalizing L with
 | nil => exact hL
 | cons x r ih =>
  obtain ⟨h1, h2⟩ := h x (by simp)
  exact ih (L := Q1F L x.1 x.2) (Q1I L x.2 n x.1 hL h1 h2) fun y hy => h y (by simp [hy])
def Dv.flush (D : Dv) : Dv := { D.tick with L := lay D.L D.q, q := [] }
def Q1K (a : Nat) (bv : Value) (n : Nat) (cv : Value) (D : Dv) (w : World) (e : Ending) (w' : World) : Prop :=
 if D.bad then e = .returned eIO /\ DQ w' a bv n cv D.tick /\ Kept [a] w w' else e = .returned .nilIface /\ DQ w' a bv n (.slice none 0 0) D.flush /\ Kept (a :: bv.ownBlock.toList) w w'
def FlI (bv : Value) (n : Nat) (D : Dv) (w1 : World) (ix : Value) (wr : World) : Prop :=
 ∃ j : Nat, j <= D.q.length /\ ix = .int .i64 j /\ wr.ownsRow 0 92 128 bv n (u8s (lay D.L (D.q.take j))) /\ Kept bv.ownBlock.toList w1 wr
theorem Q1L (a : Nat) (bv : Value) (n : Nat) (cv : Value) (D : Dv) (w : World) (h : DQ w a bv n cv D) (_hn : n <= 1000) (hq : D.q.length <= 1000000) :
  Calls prog 221 #[.pointer (some ⟨a, 0, none⟩)] w (Q1K a bv n cv D w) := by
 go_enter func221, ntmps221
 go_wp2_with fail
 refine (Q0G a _ _ D w h.d).mono ?_
 rintro e w1 ⟨rfl, hd1, hk1, -⟩
 have h1 : DQ w1 a bv n cv D.tick := h.upd hk1 hd1 rfl rfl
 cases hb : D.bad with
 | true =>
  have FIN : Hid (Q1K a bv n cv D w (.returned eIO) w1) := by show Q1K _ _ _ _ _ _ _ _; unfold Q1K; rw [hb]; exact ⟨rfl, h1, hk1⟩
  go_wp2
  go_ret
  exact FIN.out
 | false =>
 obtain ⟨p, cap, rfl⟩ := Q0X h.o
 have c1 : w1.cell? ⟨a, 1, none⟩ = some (.slice p D.q.length cap) := Q02 hd1 rfl
 have hla := Q00 hd1
 go_wp2
 clear c1
 go_loopw [4, 13] (fun _ ix wr => FlI bv n D w1 ix wr) (fun _ ix _ => D.q.length - (intOf ix).toNat)
 case atStart => exact ⟨0, Nat.zero_le _, rfl, h1.b, Kept.refl _ _⟩
 case round =>
  obtain ⟨j, hj, rfl, hr, hkr⟩ := hrel
  have dr : DC wr a bv (.slice p D.q.length cap) D.tick := hkr.get hd1 (by intro hx; exact h.nb a (by simpa using hx) rfl)
  by_cases hlt : j < D.q.length
  ·have hlt' : (j : Int) < (D.q.length : Int) := by omega
   obtain ⟨x, hx⟩ : ∃ x, D.q[j]? = some x := ⟨_, List.getElem?_eq_getElem hlt⟩
   obtain ⟨x1, x2⟩ := h.q x (List.mem_of_getElem? hx)
   obtain ⟨b, cap', cur, e, hbq, hcur⟩ := h1.at_ hx
   cases e
   have hbq := hkr.get hbq (by intro hx; exact (h1.nq b rfl).2 (by simpa using hx))
   obtain ⟨g, bc, bcur, rfl, hbg, _, hb1, hb2, hb3, hb4⟩ := Q0Y hr (by omega)
   have hwl : (wc x).length = 129 := by simp [wc, Q0Q, Q08, x2]
   have hld := Q0r (P := prog) wr b (j * 129) 94 94 cur (wc x) (0, 0) _ hbq underlying94 rfl (by rw [Q0S, hwl]) hcur
   have hll := Q1J (q := D.q.take j) h.l fun y hy => h.q y (List.mem_of_mem_take hy)
   have hnext := Q1H D.L (D.q.take j) x
   rw [<- Q1a D.q j x hx] at hnext
   have HN : Hid _ := hnext
   clear hcur hnext
   go_wp2_with (first
    | (refine Q04 rfl _ _ (Q0v 89 (.tmp 11) (.tmp 13) rfl b 0 D.q.length cap j 129 rfl rfl 94 underlying89 Q0S hlt (j * 129) (by omega)) ?_)
    | (refine Q0t rfl 94 (.tmp 15) rfl ⟨b, j * 129, none⟩ rfl (.agg (wc x).toArray) hld ?_)
    | (refine Q0b rfl 94 rfl _ (Q0T _) ?_; intro w5 hn5 hk5 _)
    | (refine Q0c rfl 94 (.tmp 4) (.tmp 16) rfl wr.heap.size (wc x).toArray rfl rfl 94 _ hn5 (by rw [Q0S]; simp [hwl]) (by simp [hwl, Q0Q, zl]) (Q0P (Q0U x)) ?_; intro w6 hn6 hk6))
   have K6 : Kept [] wr w6 := hk5.trans2 hk6 (by intro y hy; simp at hy; subst hy; exact Or.inr (Nat.le_refl _))
   have d6 := K6.get dr (by simp)
   have r6 := K6.get hbg (by simp)
   have hS : (fun W : World => DC W a (.slice (some ⟨g, 0, none⟩) n bc) (.slice (some ⟨b, 0, none⟩) D.q.length cap) D.tick /\ W.heap[wr.heap.size]? = some (.cells (wc x).toArray 94 (0, 0))) w6.drew := ⟨d6, hn6⟩
   refine Q1l (fun W : World => DC W a (.slice (some ⟨g, 0, none⟩) n bc) (.slice (some ⟨b, 0, none⟩) D.q.length cap) D.tick /\ W.heap[wr.heap.size]? = some (.cells (wc x).toArray 94 (0, 0))) 9 (by kernel_rfl) ?_
   refine kt (i := 0) (v := .pointer (some ⟨a, 0, none⟩)) rfl (by kernel_rfl) (by kernel_rfl) (fun W hW => by kernel_rfl) (fun _ _ _ h => h) hS ?_
   refine kt (i := 1) (v := .pointer (some ⟨a, 0, none⟩)) rfl (by kernel_rfl) (by kernel_rfl) (fun W hW => by kernel_rfl) (fun _ _ _ h => h) hS ?_
   refine kt (i := 2) (v := .pointer (some ⟨a, 0, none⟩)) rfl (by kernel_rfl) (by kernel_rfl) (fun W hW => by kernel_rfl) (fun _ _ _ h => h) hS ?_
   refine kt (i := 4) (v := .pointer (some ⟨wr.heap.size, 0, none⟩)) rfl (by kernel_rfl) (by kernel_rfl) (fun W hW => by kernel_rfl) (fun _ _ _ h => h) hS ?_
   refine kt (i := 6) (v := .pointer (some ⟨wr.heap.size, 1, none⟩)) rfl (by kernel_rfl) (by kernel_rfl) (fun W hW => by kernel_rfl) (fun _ _ _ h => h) hS ?_
   simp only [zP, zA, zB, zC, zD, zE, zF]
   refine kt (i := 3) (v := .slice (some ⟨g, 0, none⟩) n bc) rfl (by kernel_rfl) (by kernel_rfl) (fun W hW => Q0l 88 (.tmp 19) rfl ⟨a, 0, none⟩ rfl _ (Q0p underlying88 rfl (Q02 hW.1 rfl))) (fun _ _ _ h => h) hS ?_
   refine kt (i := 5) (v := .int .i64 x.1) rfl (by kernel_rfl) (by kernel_rfl) (fun W hW => Q0l 3 (.tmp 21) rfl ⟨wr.heap.size, 0, none⟩ rfl _ (Q0p underlying3 rfl (Q02 hW.2 rfl))) (fun _ _ _ h => h) hS ?_
   refine kt (i := 7) (v := .agg (u8s x.2).toArray) rfl (by kernel_rfl) (by kernel_rfl) (fun W hW => Q0l 92 (.tmp 23) rfl ⟨wr.heap.size, 1, none⟩ rfl _ (Q0r W _ 1 _ _ (wc x) (u8s x.2) _ _ hW.2 underlying92 rfl (by rw [sblk, Q08, x2]) (by intro k u hu; rw [Nat.add_comm]; exact hu))) (fun _ _ _ h => h) hS ?_
   simp only [zP, zA, zB, zC, zD, zE, zF]
   refine kt (i := 8) (v := .pointer (some ⟨g, x.1 * 128, none⟩)) rfl (by kernel_rfl) (by kernel_rfl) (fun W _ => Q0v 88 (.tmp 20) (.tmp 22) rfl g 0 n bc x.1 128 rfl rfl 92 underlying88 sblk x1 _ (by simp)) (fun _ _ _ h => h) hS ?_
   simp only [zP, zA, zB, zC, zD, zE, zF]
   have hst := Q0s (P := prog) w6.drew g (x.1 * 128) 92 92 bcur (u8s x.2) r6 (by rw [sblk, Q08, x2]) (by rw [Q08, x2, hb3]; omega) (Q09 _)
   have k7 : Kept [g] w6 (w6.drew.setRow g (splice bcur (x.1 * 128) (u8s x.2)).toArray) := (Kept.refl _ _).drew.setRow (Or.inl (by simp)) _
   have r7 := Q0Z (w := w6.drew.setRow g (splice bcur (x.1 * 128) (u8s x.2)).toArray) (base := 0) (size := 128) (xs := u8s (lay D.L (D.q.take (j + 1)))) (by rw [Q08, Q1J h.l fun y hy => h.q y (List.mem_of_mem_take hy)]) (setRow_heap w6.drew g _ _ 92 _ r6) (Nat.zero_le _) hb1 hb2 (by rw [length_splice _ _ _ (by rw [Q08, x2, hb3]; omega), hb3]) (by rw [Q11 hb4 (by rw [Q08, x2]; omega) (by rw [hb3]; omega), Q1G, HN.out]; rfl)
   refine Q1j (i := 9) (by kernel_rfl) (Q0i rfl rfl _ (Q0m 92 (.tmp 25) (.tmp 24) rfl ⟨g, x.1 * 128, none⟩ rfl (.agg (u8s x.2).toArray) rfl hst) ⟨fun hx => absurd rfl hx, ?_⟩)
   simp only [zP, zA, zB, zC]
   refine Q1k (by kernel_rfl) ?_ _
   generalize w6.drew.setRow g (splice bcur (x.1 * 128) (u8s x.2)).toArray = w7 at *
   have K7 : Kept [g] w1 w7 := (hkr.trans2 K6 (by simp)).trans k7
   clear hst hS
   go_wp2
   go_roundw
   case rel => exact ⟨j + 1, by omega, by go_num, r7, K7⟩
   case measure => simp [intOf]; omega
  ·have hge : ¬ (j : Int) < (D.q.length : Int) := by omega
   have ej : j = D.q.length := by omega
   subst ej
   rw [List.take_length] at hr
   have e1 : wr.cell? ⟨a, 1, none⟩ = some (.slice p D.q.length cap) := Q02 dr rfl
   have f1 : wr.frozen? ⟨a, 1, none⟩ = false := frozen_of_row _ _ _ _ _ dr
   have d2 := Q03 (i := 1) (.slice none 0 0) dr
   have k2 : Kept [a] wr (wr.setCell ⟨a, 1, none⟩ (.slice none 0 0)) := (Kept.refl _ _).setCell (Or.inl (by simp)) _
   have FIN : Hid (Q1K a bv n (.slice p D.q.length cap) D w (.returned .nilIface) (wr.setCell ⟨a, 1, none⟩ (.slice none 0 0))) := by
    show Q1K _ _ _ _ _ _ _ _
    unfold Q1K
    rw [hb]
    exact ⟨rfl, ⟨d2, Q0W hr k2 fun y hy => by simpa using h.nb y hy, World.ownsRow_nil _ _ _ _, by simp [Fit, Dv.flush], fun _ => rfl⟩, ((hk1.mono (by simp)).trans2 hkr (by intro y hy; exact Or.inl (List.mem_cons_of_mem _ hy))).trans2 k2 (by simp)⟩
   clear d2
   go_wp2
   go_ret
   exact FIN.out
def nb (x : Int) : Nat := if x < 0 then 0 else (x % 1000).toNat
theorem Q1M (x : Int) : nb x < 1000 := by unfold nb; split <;> omega
theorem iblk : (prog.info? 92).map (fun i => (i.zero, i.size, i.bytes)) = some (some (.agg (zl 128).toArray), 128, 128) := by kernel_rfl
theorem Q1N (n j : Nat) (h : j < (zl n).length) : (zl n)[j] = .int .u8 0 := by simp [zl]
theorem Q1O (n : Nat) : madeCells (zl 128).toArray n = (u8s (List.replicate n 0)).toArray := by
 apply Array.ext'
 apply List.ext_getElem?
 intro j
 by_cases hj : j < n
 ·have h128 : j % 128 < (zl 128).length := by rw [Q0M]; omega
  simp only [madeCells, u8s, List.size_toArray, Q0M, Array.toList_map, Array.toList_range, List.getElem?_map, List.getElem?_range hj, Option.map_some, List.getElem?_replicate, if_pos hj]
  rw [List.getElem!_toArray, List.getElem!_eq_getElem?_getD, List.getElem?_eq_getElem h128, Q1N]
  rfl
 ·simp [madeCells, u8s, hj]
theorem Q1P (m : Nat) (hm : m < 1000) (w : World) : (Instr.makeSlice 88 (.int .i64 m) (.int .i64 m)).run prog w = .ok (.slice (some ⟨w.heap.size, 0, none⟩) m m) (w.alloc (.cells (u8s (List.replicate (m * 128) 0)).toArray 92)) := by
 obtain ⟨ie, hie, hz1, hz2, hz3⟩ := info_parts iblk
 have := run_make (P := prog) w 88 92 ie _ underlying88 hie hz1 .i64 .i64 m m (by omega) (by omega) (by rw [hz3]; omega) (by omega)
 rw [this, hz2]
 simp only [Int.toNat_natCast, Value.cells, Q1O]
def Dv.new (L : List UInt8) : Dv := ⟨L, [], 0, 0, 0, -1, 0, 0⟩
def Q1Q (L : List UInt8) (n : Nat) (a : Nat) (bv : Value) (w w' : World) : Prop := DQ w' a bv n (.slice none 0 0) (.new L) /\ w.heap.size <= a /\ (∃ g, bv = .slice (some ⟨g, 0, none⟩) n n /\ w.heap.size <= g) /\ Kept [] w w'
def Q1R (L : List UInt8) (n : Nat) (w : World) (e : Ending) (w' : World) : Prop := ∃ a bv, e = .returned (.pointer (some ⟨a, 0, none⟩)) /\ Q1Q L n a bv w w'
theorem Q1S {w w3 : World} {L : List UInt8} {m : Nat} (hL : L.length = m * 128) (hn3 : w3.heap[w.heap.size]? = some (.cells (u8s L).toArray 92 (0, 0))) (hk3 : Kept [] w w3) (hs : w3.heap.size = w.heap.size + 1) (hm : m <= 1000) :
  Q1Q L m (w.heap.size + 1) (.slice (some ⟨w.heap.size, 0, none⟩) m m) w (w3.alloc (.cells #[.slice (some ⟨w.heap.size, 0, none⟩) m m, .slice none 0 0, .int .i64 0, .int .i64 0, .int .i64 0, .int .i64 (-1), .int .i64 0, .int .i64 0] 91)) := by
 have hk := (Kept.refl [] w3).alloc (.cells #[.slice (some ⟨w.heap.size, 0, none⟩) m m, .slice none 0 0, .int .i64 0, .int .i64 0, .int .i64 0, .int .i64 (-1), .int .i64 0, .int .i64 0] 91)
 refine ⟨⟨?_, Q0Z (by rw [Q08]; exact hL) (hk.get hn3 (by simp)) (Nat.zero_le _) (Nat.le_refl _) (by unfold maxLen; omega) (by rw [Q08]; exact hL) (List.take_of_length_le (by rw [Q08]; exact Nat.le_of_eq hL)), World.ownsRow_nil _ _ _ _, by simp [Fit, Dv.new], fun _ => rfl⟩, by omega, ⟨_, rfl, Nat.le_refl _⟩, hk3.trans hk⟩
 rw [<- hs]; exact heap_alloc_new _ _
theorem Q1T (x : Int) (w : World) : Calls prog 32 #[.int .i64 x] w (Q1R (List.replicate (nb x * 128) 0) (nb x) w) := by
 by_cases hx : x < 0
 ·have hnb : nb x = 0 := by unfold nb; rw [if_pos hx]
  rw [hnb]
  go_enter func32, ntmps32
  go_wp2_with (first
   | (at_make; refine Q07 rfl _ _ _ rfl _ _ rfl rfl _ _ (Q1P 0 (by omega) w) ?_; intro w3 hn3 hk3 hs3; have HS : Hid (w3.heap.size = w.heap.size + 1) := hs3))
  go_ret
  exact ⟨_, _, rfl, Q1S (by simp) hn3 hk3 HS.out (by omega)⟩
 ·have hlt := Q1M x
  have Hm : Hid (x % 1000 = nb x) := by show _ = _; unfold nb; rw [if_neg hx]; omega
  generalize nb x = m at *
  go_enter func32, ntmps32
  go_wp2_with (first
   | (at_make; rw [Hm.out]; refine Q07 rfl _ _ _ rfl _ _ rfl rfl _ _ (Q1P m hlt w) ?_; intro w3 hn3 hk3 hs3; have HS : Hid (w3.heap.size = w.heap.size + 1) := hs3))
  go_ret
  exact ⟨_, _, rfl, Q1S (by simp) hn3 hk3 HS.out (by omega)⟩
theorem Q1U {k : IntKind} {a b : Int} (h : a = b) : Ending.returned (.int k a) = .returned (.int k b) := by rw [h]
def pk (c : Int) (n : Nat) : Nat := if c < 0 then ((-(c + 1)) % n).toNat else (c % n).toNat
theorem Q1V (c : Int) (n : Nat) (hn : 0 < n) : pk c n < n := by
 unfold pk
 split
 ·have := Int.emod_lt_of_pos (-(c + 1)) (show (0 : Int) < n by omega); have := Int.emod_nonneg (-(c + 1)) (show (n : Int) ≠ 0 by omega); omega
 ·have := Int.emod_lt_of_pos c (show (0 : Int) < n by omega); have := Int.emod_nonneg c (show (n : Int) ≠ 0 by omega); omega
theorem iu8 : (prog.info? 5).map (fun i => (i.zero, i.size, i.bytes)) = some (some (.int .u8 0), 1, 1) := by kernel_rfl
theorem Q1W (L : List UInt8) (k : Nat) : L.take (k * 128) ++ Q13 L k = L.take ((k + 1) * 128) := by
 rw [Q13, Nat.add_mul, Nat.one_mul, List.take_add]
theorem Q1X {w : World} {base : Nat} {v : Value} {l : List UInt8} (h : w.ownsRow base 5 1 v l.length (u8s l)) : (convert 60 9 v).run prog w = .ok (.string ⟨l.toArray⟩) w := by
 obtain ⟨hl, ⟨rfl, h0⟩ | ⟨g, cap, cur, rfl, hg, hh, h1, h2, h3, h4⟩⟩ := h
 ·have : l = [] := List.eq_nil_of_length_eq_zero h0
  subst this
  rw [run_convert_bytes_string w 60 9 5 none 0 0 underlying60 underlying5 underlying9]
  simp [Conv.bytesToString]; rfl
 ·refine run_convert_bytes_back (P := prog) w 60 9 5 ⟨g, 0, none⟩ cap l underlying60 underlying5 underlying9 ?_
  intro j hj
  rw [add_lit, cell_of_row _ _ _ _ _ _ hh]
  have := congrArg (fun x => x[j]?) h4
  simp only [List.getElem?_take, Nat.mul_one, hj, if_true, Q0a, List.getElem?_eq_getElem hj, Option.map_some] at this
  simpa using this
theorem Q1Y (a : Nat) (bv : Value) (n : Nat) (cv : Value) (D : Dv) (w : World) (h : DQ w a bv n cv D) (hn : n < 1000) :
  Calls prog 29 #[.pointer (some ⟨a, 0, none⟩)] w fun e w' => e = .returned (.string ⟨D.L.toArray⟩) /\ Kept [] w w' := by
 obtain ⟨bp, bc, rfl⟩ := Q0X h.b
 have c0 : w.cell? ⟨a, 0, none⟩ = some (.slice bp n bc) := Q02 h.d rfl
 have hla := Q00 h.d
 obtain ⟨ie, hie, hz1, hz2, hz3⟩ := info_parts iu8
 go_enter func29, ntmps29
 go_wp2_with (first
  | (at_make; refine wpList_make_own _ rfl _ _ 60 rfl w.heap.size 5 ie (.int .u8 0) 1 underlying60 hie hz1 hz2 .i64 .i64 _ (n * 128) rfl rfl (by omega) (by rw [hz3]; omega) (by unfold maxLen; omega) (Nat.le_refl _) ?_; intro w1 hown1 hgr1; have hk1 := Q1A hgr1 [] (by simp); have c01 : w1.cell? ⟨a, 0, none⟩ = some (.slice bp n bc) := Q02 (hk1.get h.d (by simp)) rfl))
 clear c0 c01
 go_loopw [3, 17] (fun v i wr => ∃ k : Nat, k <= n /\ i = .int .i64 k /\ wr.ownsRow w.heap.size 5 1 v (D.L.take (k * 128)).length (u8s (D.L.take (k * 128))) /\ Kept [] w wr) (fun _ i _ => n - (intOf i).toNat)
 case atStart => exact ⟨0, Nat.zero_le _, rfl, by simpa [u8s] using hown1, hk1⟩
 case round =>
  obtain ⟨k, hk, rfl, hown, hkr⟩ := hrel
  have hl := h.l
  by_cases hlt : k < n
  ·have hlen : (D.L.take (k * 128)).length = k * 128 := by rw [List.length_take, hl]; omega
   obtain ⟨g, bc', bcur, e, hbg, _, hb1, hb2, hb3, hb4⟩ := Q0Y (Q0W h.b hkr (by simp)) (by omega)
   cases e
   have c0 : wr.cell? ⟨a, 0, none⟩ = some (.slice (some ⟨g, 0, none⟩) n bc) := Q02 (hkr.get h.d (by simp)) rfl
   have hlb := Q14 D.L n k hl hlt
   rw [hlen] at hown
   go_wp2_with (first
    | (at_builtin; refine wpList_append_own _ rfl (.tmp 20) (.tmp 27) 60 rfl w.heap.size 5 ie (.int .u8 0) 1 1 underlying60 hie hz1 hz2 hz3 rfl (by decide) u3 (k * 128) _ rfl hown ⟨g, k * 128, none⟩ 128 128 (u8s (Q13 D.L k)) rfl (by rw [Q08, hlb]) (Q18 hbg fun j v hv => Q10 hb4 (Q17 D.L k j v hv)) (Q09 _) (by unfold maxLen; omega) (by omega) hkr.size ?_; intro v2 w2 hown2 hgr2 _))
   have hk2 : Kept [] w w2 := by
    refine hkr.trans2 (Q1A hgr2 u3.ownBlock.toList (by intro x hx; rw [hx]; simp)) ?_
    intro x hx
    have hx' : u3.ownBlock = some x := by cases hu : u3.ownBlock with | none => rw [hu] at hx; cases hx | some y => rw [hu] at hx; simp at hx; rw [hx]
    exact Or.inr (hown.lt x hx').1
   have hown3 : w2.ownsRow w.heap.size 5 1 v2 (D.L.take ((k + 1) * 128)).length (u8s (D.L.take ((k + 1) * 128))) := by
    have e : u8s (D.L.take (k * 128)) ++ u8s (Q13 D.L k) = u8s (D.L.take ((k + 1) * 128)) := by rw [<- Q1W]; simp [u8s]
    rw [e] at hown2
    have : (D.L.take ((k + 1) * 128)).length = k * 128 + 128 := by rw [List.length_take, hl]; omega
    rw [this]; exact hown2
   clear hown2 hgr2 hown c0
   go_roundw
   case rel => exact ⟨k + 1, by omega, by go_num, hown3, hk2⟩
   case measure => simp [intOf]; omega
  ·have hkn : k = n := by omega
   subst hkn
   have hLl : D.L.take (k * 128) = D.L := List.take_of_length_le (by omega)
   rw [hLl] at hown
   have hcv := Q1X hown
   clear hLl hl
   go_wp2
   go_ret
   exact ⟨rfl, hkr⟩
theorem Q1Z (l : List UInt8) (k : Nat) (b : UInt8) : (u8s l).toArray.setIfInBounds k (.int .u8 b.toNat) = (u8s (l.set k b)).toArray := by
 simp [u8s, List.map_set]
theorem Q20 {w : World} {base base' e size n : Nat} {v : Value} {xs : List Value} (h : w.ownsRow base e size v n xs) (hb : base' <= base) : w.ownsRow base' e size v n xs := by
 obtain ⟨h1, h2⟩ := h
 refine ⟨h1, ?_⟩
 rcases h2 with h2 | ⟨g, cap, cur, rfl, hg, r⟩
 ·exact Or.inl h2
 ·exact Or.inr ⟨g, cap, cur, rfl, by omega, r⟩
theorem Q21 {P : Program} {w : World} {ops : Array Oper} {rest : List Oper} {o : Oper} {a : Act} {Q : Exit -> Act -> World -> Prop} (hgd : o.guard = none) (s x : Operand) (t : TypeId)
  (ho : o.op = .call { callee := .builtin .append, args := #[s, x], argTypes := #[t, t] })
  (base : Nat) (e : TypeId) (i : TypeInfo) (z : Value) (size bytes : Nat) (ht : P.underlying t = some (.slice e)) (hi : P.info? e = some i) (hz : i.zero = some z)
  (hsize : i.size = size) (hby : i.bytes = bytes) (hzs : z.cells.size = size) (hsz : 0 < size)
  (v : Value) (n : Nat) (xs : List Value) (hs : a.eval s = v) (hown : w.ownsRow base e size v n xs)
  (y : Value) (base2 m : Nat) (ys : List Value) (hx : a.eval x = y) (hsrc : w.ownsRow base2 e size y m ys) (h1 : ∀ u ∈ ys, u.oneCell' = true)
  (h63 : n + m <= maxLen) (hbytes : (n + m) * bytes <= 140737488355328) (hbase : base <= w.heap.size)
  (h : ∀ v' w', w'.ownsRow base e size v' (n + m) (xs ++ ys) -> w.grownBy w' v.ownBlock -> wpList P ops Q rest (a.put o.dst v') w') : wpList P ops Q (o :: rest) a w := by
 obtain ⟨hl, ⟨rfl, rfl⟩ | ⟨g, cap, cur, rfl, hg, hh, h4, h5, h6, h7⟩⟩ := hsrc
 ·refine wpList_append_own_none hgd s x t ho base e i size ht hi v n xs hs hown hx ?_
  have : ys = [] := List.eq_nil_of_length_eq_zero (by simpa using hl)
  subst this
  exact h v w (by simpa using hown) (World.grownBy.refl _ _)
 ·refine wpList_append_own w hgd s x t ho base e i z size bytes ht hi hz hsize hby hzs hsz v n xs hs hown ⟨g, 0, none⟩ m cap ys hx hl ?_ h1 h63 hbytes hbase (fun v' w' ho' hg' _ => h v' w' ho' hg')
  intro j u hj
  rw [add_lit, Nat.zero_add, cell_of_row _ _ _ _ _ _ hh]
  rw [<- h7, List.getElem?_take] at hj
  by_cases hjn : j < m * size
  ·simpa [hjn] using hj
  ·simp [hjn] at hj
end Go.Proofs.YtcklgafpgdhnaaaGreatDoor
