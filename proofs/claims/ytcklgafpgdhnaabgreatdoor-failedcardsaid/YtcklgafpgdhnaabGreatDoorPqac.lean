import Derived.Test.YtcklgafpgdhnaabGreatDoorPqab
import Derived.Laws.IdiomStrings
import Derived.BigRegion
import Derived.Laws.AppendOwnNone
import Derived.Laws.ResultCell
set_option maxRecDepth 100000
set_option maxHeartbeats 4000000
open Go.Proofs.Tryz
open Go.Act renaming put → zP
open List renaming getElem_toArray → zA, getElem_cons_succ → zB, getElem_cons_zero → zC, setIfInBounds_toArray → zD, set_cons_succ → zE, set_cons_zero → zF
namespace Go.Proofs.YtcklgafpgdhnaabGreatDoor
open Go.RowKit
def qN (L : List UInt8) (i : Nat) (B : List UInt8) : List UInt8 := splice L (i * 128) B
theorem je (L : List UInt8) (o : Nat) (B : List UInt8) : splice (u8s L) o (u8s B) = u8s (splice L o B) := by
 simp [splice, u8s, List.map_take, List.map_drop]
theorem jF : (prog.info? 80).map (·.size) = some 128 := by kernel_rfl
def lay (L : List UInt8) (q : List Wt) : List UInt8 := q.foldl (fun L x => qN L x.1 x.2) L
theorem Q0C (L : List UInt8) (q : List Wt) (x : Wt) : lay L (q ++ [x]) = qN (lay L q) x.1 x.2 := by simp [lay]
theorem jG (L B : List UInt8) (n i : Nat) (hL : L.length = n * 128) (hi : i < n) (hB : B.length = 128) : (qN L i B).length = n * 128 := by
 rw [qN, length_splice _ _ _ (by rw [hB, hL]; omega), hL]
theorem qR {n : Nat} {L : List UInt8} {q : List Wt} (hL : L.length = n * 128) (h : Fit n q) : (lay L q).length = n * 128 := by
 induction q generalizing L with
 | nil => exact hL
 | cons x r ih =>
  obtain ⟨h1, h2⟩ := h x (by simp)
  exact ih (L := qN L x.1 x.2) (jG L x.2 n x.1 hL h1 h2) fun y hy => h y (by simp [hy])
def Dv.flush (D : Dv) : Dv := { D.tick with L := lay D.L D.q, q := [] }
def QC (a : Nat) (bv : Value) (n : Nat) (cv : Value) (D : Dv) (w : World) (e : Ending) (w' : World) : Prop :=
 if D.bad then e = .returned eIO /\ DQ w' a bv n cv D.tick /\ y5 [a] w w' else e = .returned .nilIface /\ DQ w' a bv n (.slice none 0 0) D.flush /\ y5 (a :: bv.ownBlock.toList) w w'
def FlI (bv : Value) (n : Nat) (D : Dv) (w1 : World) (ix : Value) (wr : World) : Prop :=
 ∃ j : Nat, j <= D.q.length /\ ix = .int .i64 j /\ wr.ownsRow 0 80 128 bv n (u8s (lay D.L (D.q.take j))) /\ y5 bv.ownBlock.toList w1 wr
theorem Q0D (a : Nat) (bv : Value) (n : Nat) (cv : Value) (D : Dv) (w : World) (h : DQ w a bv n cv D) (_hn : n <= 1000) (hq : D.q.length <= 1000000) :
  Calls prog 170 #[.pointer (some ⟨a, 0, none⟩)] w (QC a bv n cv D w) := by
 go_enter func170, ntmps170
 go_wp2_with fail
 refine (Q0a a _ _ D w h.d).mono ?_
 rintro e w1 ⟨rfl, hd1, hk1, -⟩
 have h1 : DQ w1 a bv n cv D.tick := h.upd hk1 hd1 rfl rfl
 cases hb : D.bad with
 | true =>
  have FIN : Hid (QC a bv n cv D w (.returned eIO) w1) := by show QC _ _ _ _ _ _ _ _; unfold QC; rw [hb]; exact ⟨rfl, h1, hk1⟩
  go_wp2
  go_ret
  exact FIN.out
 | false =>
 obtain ⟨p, cap, rfl⟩ := qF h.o
 have c1 : w1.cell? ⟨a, 1, none⟩ = some (.slice p D.q.length cap) := y6 hd1 rfl
 have hla := yt hd1
 go_wp2
 clear c1
 go_loopw [4, 13] (fun _ ix wr => FlI bv n D w1 ix wr) (fun _ ix _ => D.q.length - (intOf ix).toNat)
 case atStart => exact ⟨0, Nat.zero_le _, rfl, h1.b, y5.refl _ _⟩
 case round =>
  obtain ⟨j, hj, rfl, hr, hkr⟩ := hrel
  have dr : DC wr a bv (.slice p D.q.length cap) D.tick := hkr.get hd1 (by intro hx; exact h.nb a (by simpa using hx) rfl)
  by_cases hlt : j < D.q.length
  ·have hlt' : (j : Int) < (D.q.length : Int) := by omega
   obtain ⟨x, hx⟩ : ∃ x, D.q[j]? = some x := ⟨_, List.getElem?_eq_getElem hlt⟩
   obtain ⟨x1, x2⟩ := h.q x (List.mem_of_getElem? hx)
   obtain ⟨b, cap', cur, e, hbq, hcur⟩ := h1.at_ hx
   cases e
   have hbq := hkr.get hbq (by intro hx; exact (h1.nq b rfl).2 (by simpa using hx))
   obtain ⟨g, bc, bcur, rfl, hbg, _, hb1, hb2, hb3, hb4⟩ := jc hr (by omega)
   have hwl : (wc x).length = 129 := by simp [wc, qq, yd, x2]
   have hld := yV (P := prog) wr b (j * 129) 82 82 cur (wc x) (0, 0) _ hbq underlying82 rfl (by rw [gL, hwl]) hcur
   have hll := qR (q := D.q.take j) h.l fun y hy => h.q y (List.mem_of_mem_take hy)
   have hnext := Q0C D.L (D.q.take j) x
   rw [<- qr D.q j x hx] at hnext
   have HN : Hid _ := hnext
   clear hcur hnext
   go_wp2_with (first
    | (refine y8 rfl _ _ (ya 63 (.tmp 11) (.tmp 13) rfl b 0 D.q.length cap j 129 rfl rfl 82 underlying63 gL hlt (j * 129) (by omega)) ?_)
    | (refine ye rfl 82 (.tmp 15) rfl ⟨b, j * 129, none⟩ rfl (.agg (wc x).toArray) hld ?_)
    | (refine qx rfl 82 rfl _ (Q0i _) ?_; intro w5 hn5 hk5 _)
    | (refine yb rfl 82 (.tmp 4) (.tmp 16) rfl wr.heap.size (wc x).toArray rfl rfl 82 _ hn5 (by rw [gL]; simp [hwl]) (by simp [hwl, qq, zl]) (yU (Q0j x)) ?_; intro w6 hn6 hk6))
   have K6 : y5 [] wr w6 := hk5.trans2 hk6 (by intro y hy; simp at hy; subst hy; exact Or.inr (Nat.le_refl _))
   have d6 := K6.get dr (by simp)
   have r6 := K6.get hbg (by simp)
   have hS : (fun W : World => DC W a (.slice (some ⟨g, 0, none⟩) n bc) (.slice (some ⟨b, 0, none⟩) D.q.length cap) D.tick /\ W.heap[wr.heap.size]? = some (.cells (wc x).toArray 82 (0, 0))) w6.drew := ⟨d6, hn6⟩
   refine Q8 (fun W : World => DC W a (.slice (some ⟨g, 0, none⟩) n bc) (.slice (some ⟨b, 0, none⟩) D.q.length cap) D.tick /\ W.heap[wr.heap.size]? = some (.cells (wc x).toArray 82 (0, 0))) 9 (by kernel_rfl) ?_
   refine kt (i := 0) (v := .pointer (some ⟨a, 0, none⟩)) rfl (by kernel_rfl) (by kernel_rfl) (fun W hW => by kernel_rfl) (fun _ _ _ h => h) hS ?_
   refine kt (i := 1) (v := .pointer (some ⟨a, 0, none⟩)) rfl (by kernel_rfl) (by kernel_rfl) (fun W hW => by kernel_rfl) (fun _ _ _ h => h) hS ?_
   refine kt (i := 2) (v := .pointer (some ⟨a, 0, none⟩)) rfl (by kernel_rfl) (by kernel_rfl) (fun W hW => by kernel_rfl) (fun _ _ _ h => h) hS ?_
   refine kt (i := 4) (v := .pointer (some ⟨wr.heap.size, 0, none⟩)) rfl (by kernel_rfl) (by kernel_rfl) (fun W hW => by kernel_rfl) (fun _ _ _ h => h) hS ?_
   refine kt (i := 6) (v := .pointer (some ⟨wr.heap.size, 1, none⟩)) rfl (by kernel_rfl) (by kernel_rfl) (fun W hW => by kernel_rfl) (fun _ _ _ h => h) hS ?_
   simp only [zP, zA, zB, zC, zD, zE, zF]
   refine kt (i := 3) (v := .slice (some ⟨g, 0, none⟩) n bc) rfl (by kernel_rfl) (by kernel_rfl) (fun W hW => y9 62 (.tmp 19) rfl ⟨a, 0, none⟩ rfl _ (yh underlying62 rfl (y6 hW.1 rfl))) (fun _ _ _ h => h) hS ?_
   refine kt (i := 5) (v := .int .i64 x.1) rfl (by kernel_rfl) (by kernel_rfl) (fun W hW => y9 3 (.tmp 21) rfl ⟨wr.heap.size, 0, none⟩ rfl _ (yh underlying3 rfl (y6 hW.2 rfl))) (fun _ _ _ h => h) hS ?_
   refine kt (i := 7) (v := .agg (u8s x.2).toArray) rfl (by kernel_rfl) (by kernel_rfl) (fun W hW => y9 80 (.tmp 23) rfl ⟨wr.heap.size, 1, none⟩ rfl _ (yV W _ 1 _ _ (wc x) (u8s x.2) _ _ hW.2 underlying80 rfl (by rw [jF, yd, x2]) (by intro k u hu; rw [Nat.add_comm]; exact hu))) (fun _ _ _ h => h) hS ?_
   simp only [zP, zA, zB, zC, zD, zE, zF]
   refine kt (i := 8) (v := .pointer (some ⟨g, x.1 * 128, none⟩)) rfl (by kernel_rfl) (by kernel_rfl) (fun W _ => ya 62 (.tmp 20) (.tmp 22) rfl g 0 n bc x.1 128 rfl rfl 80 underlying62 jF x1 _ (by simp)) (fun _ _ _ h => h) hS ?_
   simp only [zP, zA, zB, zC, zD, zE, zF]
   have hst := yE (P := prog) w6.drew g (x.1 * 128) 80 80 bcur (u8s x.2) r6 (by rw [jF, yd, x2]) (by rw [yd, x2, hb3]; omega) (qv _)
   have k7 : y5 [g] w6 (w6.drew.setRow g (splice bcur (x.1 * 128) (u8s x.2)).toArray) := (y5.refl _ _).drew.setRow (Or.inl (by simp)) _
   have r7 := Q0k (w := w6.drew.setRow g (splice bcur (x.1 * 128) (u8s x.2)).toArray) (base := 0) (size := 128) (xs := u8s (lay D.L (D.q.take (j + 1)))) (by rw [yd, qR h.l fun y hy => h.q y (List.mem_of_mem_take hy)]) (setRow_heap w6.drew g _ _ 80 _ r6) (Nat.zero_le _) hb1 hb2 (by rw [length_splice _ _ _ (by rw [yd, x2, hb3]; omega), hb3]) (by rw [QY hb4 (by rw [yd, x2]; omega) (by rw [hb3]; omega), je, HN.out]; rfl)
   refine Qk (i := 9) (by kernel_rfl) (qo rfl rfl _ (yH 80 (.tmp 25) (.tmp 24) rfl ⟨g, x.1 * 128, none⟩ rfl (.agg (u8s x.2).toArray) rfl hst) ⟨fun hx => absurd rfl hx, ?_⟩)
   simp only [zP, zA, zB, zC]
   refine Q7 (by kernel_rfl) ?_ _
   generalize w6.drew.setRow g (splice bcur (x.1 * 128) (u8s x.2)).toArray = w7 at *
   have K7 : y5 [g] w1 w7 := (hkr.trans2 K6 (by simp)).trans k7
   clear hst hS
   go_wp2
   go_roundw
   case rel => exact ⟨j + 1, by omega, by go_num, r7, K7⟩
   case measure => simp [intOf]; omega
  ·have hge : ¬ (j : Int) < (D.q.length : Int) := by omega
   have ej : j = D.q.length := by omega
   subst ej
   rw [List.take_length] at hr
   have e1 : wr.cell? ⟨a, 1, none⟩ = some (.slice p D.q.length cap) := y6 dr rfl
   have f1 : wr.frozen? ⟨a, 1, none⟩ = false := frozen_of_row _ _ _ _ _ dr
   have d2 := yg (i := 1) (.slice none 0 0) dr
   have k2 : y5 [a] wr (wr.setCell ⟨a, 1, none⟩ (.slice none 0 0)) := (y5.refl _ _).setCell (Or.inl (by simp)) _
   have FIN : Hid (QC a bv n (.slice p D.q.length cap) D w (.returned .nilIface) (wr.setCell ⟨a, 1, none⟩ (.slice none 0 0))) := by
    show QC _ _ _ _ _ _ _ _
    unfold QC
    rw [hb]
    exact ⟨rfl, ⟨d2, yQ hr k2 fun y hy => by simpa using h.nb y hy, World.ownsRow_nil _ _ _ _, by simp [Fit, Dv.flush], fun _ => rfl⟩, ((hk1.mono (by simp)).trans2 hkr (by intro y hy; exact Or.inl (List.mem_cons_of_mem _ hy))).trans2 k2 (by simp)⟩
   clear d2
   go_wp2
   go_ret
   exact FIN.out
def nb (x : Int) : Nat := if x < 0 then 0 else (x % 1000).toNat
theorem Q0E (x : Int) : nb x < 1000 := by unfold nb; split <;> omega
theorem iblk : (prog.info? 80).map (fun i => (i.zero, i.size, i.bytes)) = some (some (.agg (zl 128).toArray), 128, 128) := by kernel_rfl
theorem Q0F (n j : Nat) (h : j < (zl n).length) : (zl n)[j] = .int .u8 0 := by simp [zl]
theorem Q0G (n : Nat) : madeCells (zl 128).toArray n = (u8s (List.replicate n 0)).toArray := by
 apply Array.ext'
 apply List.ext_getElem?
 intro j
 by_cases hj : j < n
 ·have h128 : j % 128 < (zl 128).length := by rw [Zi]; omega
  simp only [madeCells, u8s, List.size_toArray, Zi, Array.toList_map, Array.toList_range, List.getElem?_map, List.getElem?_range hj, Option.map_some, List.getElem?_replicate, if_pos hj]
  rw [List.getElem!_toArray, List.getElem!_eq_getElem?_getD, List.getElem?_eq_getElem h128, Q0F]
  rfl
 ·simp [madeCells, u8s, hj]
theorem Q0H (m : Nat) (hm : m < 1000) (w : World) : (Instr.makeSlice 62 (.int .i64 m) (.int .i64 m)).run prog w = .ok (.slice (some ⟨w.heap.size, 0, none⟩) m m) (w.alloc (.cells (u8s (List.replicate (m * 128) 0)).toArray 80)) := by
 obtain ⟨ie, hie, hz1, hz2, hz3⟩ := info_parts iblk
 have := run_make (P := prog) w 62 80 ie _ underlying62 hie hz1 .i64 .i64 m m (by omega) (by omega) (by rw [hz3]; omega) (by omega)
 rw [this, hz2]
 simp only [Int.toNat_natCast, Value.cells, Q0G]
def Dv.new (L : List UInt8) : Dv := ⟨L, [], 0, 0, 0, -1, 0, 0⟩
def Q0I (L : List UInt8) (n : Nat) (a : Nat) (bv : Value) (w w' : World) : Prop := DQ w' a bv n (.slice none 0 0) (.new L) /\ w.heap.size <= a /\ (∃ g, bv = .slice (some ⟨g, 0, none⟩) n n /\ w.heap.size <= g) /\ y5 [] w w'
def Q0J (L : List UInt8) (n : Nat) (w : World) (e : Ending) (w' : World) : Prop := ∃ a bv, e = .returned (.pointer (some ⟨a, 0, none⟩)) /\ Q0I L n a bv w w'
theorem Q0K {w w3 : World} {L : List UInt8} {m : Nat} (hL : L.length = m * 128) (hn3 : w3.heap[w.heap.size]? = some (.cells (u8s L).toArray 80 (0, 0))) (hk3 : y5 [] w w3) (hs : w3.heap.size = w.heap.size + 1) (hm : m <= 1000) :
  Q0I L m (w.heap.size + 1) (.slice (some ⟨w.heap.size, 0, none⟩) m m) w (w3.alloc (.cells #[.slice (some ⟨w.heap.size, 0, none⟩) m m, .slice none 0 0, .int .i64 0, .int .i64 0, .int .i64 0, .int .i64 (-1), .int .i64 0, .int .i64 0] 65)) := by
 have hk := (y5.refl [] w3).alloc (.cells #[.slice (some ⟨w.heap.size, 0, none⟩) m m, .slice none 0 0, .int .i64 0, .int .i64 0, .int .i64 0, .int .i64 (-1), .int .i64 0, .int .i64 0] 65)
 refine ⟨⟨?_, Q0k (by rw [yd]; exact hL) (hk.get hn3 (by simp)) (Nat.zero_le _) (Nat.le_refl _) (by unfold maxLen; omega) (by rw [yd]; exact hL) (List.take_of_length_le (by rw [yd]; exact Nat.le_of_eq hL)), World.ownsRow_nil _ _ _ _, by simp [Fit, Dv.new], fun _ => rfl⟩, by omega, ⟨_, rfl, Nat.le_refl _⟩, hk3.trans hk⟩
 rw [<- hs]; exact heap_alloc_new _ _
theorem Q0L (x : Int) (w : World) : Calls prog 26 #[.int .i64 x] w (Q0J (List.replicate (nb x * 128) 0) (nb x) w) := by
 by_cases hx : x < 0
 ·have hnb : nb x = 0 := by unfold nb; rw [if_pos hx]
  rw [hnb]
  go_enter func26, ntmps26
  go_wp2_with (first
   | (at_make; refine gJ rfl _ _ _ rfl _ _ rfl rfl _ _ (Q0H 0 (by omega) w) ?_; intro w3 hn3 hk3 hs3; have HS : Hid (w3.heap.size = w.heap.size + 1) := hs3))
  go_ret
  exact ⟨_, _, rfl, Q0K (by simp) hn3 hk3 HS.out (by omega)⟩
 ·have hlt := Q0E x
  have Hm : Hid (x % 1000 = nb x) := by show _ = _; unfold nb; rw [if_neg hx]; omega
  generalize nb x = m at *
  go_enter func26, ntmps26
  go_wp2_with (first
   | (at_make; rw [Hm.out]; refine gJ rfl _ _ _ rfl _ _ rfl rfl _ _ (Q0H m hlt w) ?_; intro w3 hn3 hk3 hs3; have HS : Hid (w3.heap.size = w.heap.size + 1) := hs3))
  go_ret
  exact ⟨_, _, rfl, Q0K (by simp) hn3 hk3 HS.out (by omega)⟩
theorem Q0M {k : IntKind} {a b : Int} (h : a = b) : Ending.returned (.int k a) = .returned (.int k b) := by rw [h]
def pk (c : Int) (n : Nat) : Nat := if c < 0 then ((-(c + 1)) % n).toNat else (c % n).toNat
theorem Q0N (c : Int) (n : Nat) (hn : 0 < n) : pk c n < n := by
 unfold pk
 split
 ·have := Int.emod_lt_of_pos (-(c + 1)) (show (0 : Int) < n by omega); have := Int.emod_nonneg (-(c + 1)) (show (n : Int) ≠ 0 by omega); omega
 ·have := Int.emod_lt_of_pos c (show (0 : Int) < n by omega); have := Int.emod_nonneg c (show (n : Int) ≠ 0 by omega); omega
theorem Q0O (l : List UInt8) (k : Nat) (b : UInt8) : (u8s l).toArray.setIfInBounds k (.int .u8 b.toNat) = (u8s (l.set k b)).toArray := by
 simp [u8s, List.map_set]
theorem Q0P {w : World} {base base' e size n : Nat} {v : Value} {xs : List Value} (h : w.ownsRow base e size v n xs) (hb : base' <= base) : w.ownsRow base' e size v n xs := by
 obtain ⟨h1, h2⟩ := h
 refine ⟨h1, ?_⟩
 rcases h2 with h2 | ⟨g, cap, cur, rfl, hg, r⟩
 ·exact Or.inl h2
 ·exact Or.inr ⟨g, cap, cur, rfl, by omega, r⟩
theorem Q0Q {P : Program} {w : World} {ops : Array Oper} {rest : List Oper} {o : Oper} {a : Act} {Q : Exit -> Act -> World -> Prop} (hgd : o.guard = none) (s x : Operand) (t : TypeId)
  (ho : o.op = .call { callee := .builtin .append, args := #[s, x], argTypes := #[t, t] })
  (base : Nat) (e : TypeId) (i : TypeInfo) (z : Value) (size bytes : Nat) (ht : P.underlying t = some (.slice e)) (hi : P.info? e = some i) (hz : i.zero = some z)
  (hsize : i.size = size) (hby : i.bytes = bytes) (hzs : z.cells.size = size) (hsz : 0 < size)
  (v : Value) (n : Nat) (xs : List Value) (hs : a.eval s = v) (hown : w.ownsRow base e size v n xs)
  (y : Value) (base2 m : Nat) (ys : List Value) (hx : a.eval x = y) (hsrc : w.ownsRow base2 e size y m ys) (h1 : ∀ u ∈ ys, u.oneCell' = true)
  (h63 : n + m <= maxLen) (hbytes : (n + m) * bytes <= 140737488355328) (hbase : base <= w.heap.size)
  (h : ∀ v' w', w'.ownsRow base e size v' (n + m) (xs ++ ys) -> w.grownBy w' v.ownBlock -> wpList P ops Q rest (a.put o.dst v') w') : wpList P ops Q (o :: rest) a w := by
 obtain ⟨hl, ⟨rfl, rfl⟩ | ⟨g, cap, cur, rfl, hg, hh, h4, h5, h6, h7⟩⟩ := hsrc
 ·refine wpList_append_own_none hgd s x t ho base e i size ht hi v n xs hs hown hx ?_
  have : ys = [] := List.eq_nil_of_length_eq_zero (by simpa using hl)
  subst this
  exact h v w (by simpa using hown) (World.grownBy.refl _ _)
 ·refine wpList_append_own w hgd s x t ho base e i z size bytes ht hi hz hsize hby hzs hsz v n xs hs hown ⟨g, 0, none⟩ m cap ys hx hl ?_ h1 h63 hbytes hbase (fun v' w' ho' hg' _ => h v' w' ho' hg')
  intro j u hj
  rw [add_lit, Nat.zero_add, cell_of_row _ _ _ _ _ _ hh]
  rw [<- h7, List.getElem?_take] at hj
  by_cases hjn : j < m * size
  ·simpa [hjn] using hj
  ·simp [hjn] at hj
def put1 (L : List UInt8) (x : Wt) (s : Nat) : List UInt8 := splice L (x.1 * 128 + s * 32) ((x.2.drop (s * 32)).take 32)
def svN (c : Nat -> Bool) (L : List UInt8) (x : Wt) : Nat -> List UInt8
 | 0 => L
 | s + 1 => if c s then put1 (svN c L x s) x s else svN c L x s
inductive Sr (L : List UInt8) : List Wt -> List UInt8 -> Prop
 | nil : Sr L [] L
 | snoc {q : List Wt} {L1 : List UInt8} (h : Sr L q L1) (x : Wt) (c : Nat -> Bool) : Sr L (q ++ [x]) (svN c L1 x 4)
theorem Q0R {c c' : Nat -> Bool} {L : List UInt8} {x : Wt} : ∀ s, (∀ k, k < s -> c k = c' k) -> svN c L x s = svN c' L x s
 | 0, _ => rfl
 | s + 1, h => by rw [svN, svN, Q0R s fun k hk => h k (by omega), h s (by omega)]
theorem Q0S (L : List UInt8) (x : Wt) : ∀ s, svN (fun _ => false) L x s = L
 | 0 => rfl
 | s + 1 => by rw [svN, Q0S L x s]; rfl
theorem Sr.rest {L L1 : List UInt8} {q : List Wt} (h : Sr L q L1) : ∀ r, Sr L (q ++ r) L1 := by
 intro r
 induction r generalizing q with
 | nil => simpa using h
 | cons x r ih =>
  have := h.snoc x fun _ => false
  rw [Q0S] at this
  simpa using ih this
theorem jf {c : Nat -> Bool} {L : List UInt8} {x : Wt} {n : Nat} (hL : L.length = n * 128) (hx : x.1 < n) (h2 : x.2.length = 128) : ∀ s, s <= 4 -> (svN c L x s).length = n * 128
 | 0, _ => hL
 | s + 1, hs => by
  have ih := jf (c := c) hL hx h2 s (by omega)
  rw [svN]
  split
  ·rw [put1, length_splice _ _ _ (by rw [List.length_take, List.length_drop]; omega), ih]
  ·exact ih
theorem Sr.len {L L1 : List UInt8} {q : List Wt} {n : Nat} (h : Sr L q L1) (hL : L.length = n * 128) (hq : Fit n q) : L1.length = n * 128 := by
 induction h with
 | nil => exact hL
 | snoc h x c ih => exact jf (ih fun y hy => hq y (by simp [hy])) (hq x (by simp)).1 (hq x (by simp)).2 4 (by omega)
def Q0T (c : Nat -> Bool) (s : Nat) (b : Bool) : Nat -> Bool := fun k => if k = s then b else c k
theorem Q0U (c : Nat -> Bool) (s : Nat) (b : Bool) (L : List UInt8) (x : Wt) : svN (Q0T c s b) L x (s + 1) = if b then put1 (svN c L x s) x s else svN c L x s := by
 rw [svN, Q0R (c := Q0T c s b) (c' := c) s fun k hk => by simp [Q0T]; omega]
 simp [Q0T]
theorem Q0V (x : Wt) (s : Nat) : ∀ k u, (u8s ((x.2.drop (s * 32)).take 32))[k]? = some u -> (wc x)[1 + s * 32 + k]? = some u := by
 intro k u hu
 rw [jL, List.getElem?_take] at hu
 split at hu
 ·rw [List.getElem?_drop] at hu
  rw [show 1 + s * 32 + k = s * 32 + k + 1 by omega, wc, qq, List.getElem?_cons_succ, jL]
  exact hu
 ·cases hu
def ints (ms : List Int) : List Value := ms.map (.int .i64)
structure Aft (L : List UInt8) (n a : Nat) (bv : Value) (w w' : World) : Prop where
 d : DQ w' a bv n (.slice none 0 0) (.new L)
 a : w.heap.size <= a
 b : ∀ y, bv.ownBlock = some y -> w.heap.size <= y
 k : y5 [] w w'
def AfI (D : Dv) (n a : Nat) (bv : Value) (w : World) (ix : Value) (wr : World) : Prop :=
 ∃ (j : Nat) (L1 : List UInt8), j <= D.q.length /\ ix = .int .i64 j /\ Sr D.L (D.q.take j) L1 /\ Aft L1 n a bv w wr
def AgI (L1 : List UInt8) (x : Wt) (n a : Nat) (bv : Value) (w : World) (lb : Nat) (sv : Value) (wr : World) : Prop :=
 ∃ (s : Nat) (c : Nat -> Bool), s <= 4 /\ sv = .int .i64 s /\ Aft (svN c L1 x s) n a bv w wr /\ wr.heap[lb]? = some (.cells (wc x).toArray 82 (0, 0))
def Q0W (D : Dv) (n : Nat) (w : World) (e : Ending) (w' : World) : Prop := ∃ L1 a bv, e = .returned (.pointer (some ⟨a, 0, none⟩)) /\ Sr D.L D.q L1 /\ Aft L1 n a bv w w'
theorem sint : (prog.info? 3).map (·.size) = some 1 := by kernel_rfl
theorem Q0X (a : Nat) (bv : Value) (n : Nat) (cv : Value) (D : Dv) (kv : Value) (ms : List Int) (w : World) (h : DQ w a bv n cv D) (hn : n < 1000) (hq : D.q.length <= 9223372036854775807) (hkv : w.ownsRow 0 3 1 kv ms.length (ints ms)) :
  Calls prog 14 #[.pointer (some ⟨a, 0, none⟩), kv] w (Q0W D n w) := by
 obtain ⟨bp, bc, rfl⟩ := qF h.b
 obtain ⟨p, cap, rfl⟩ := qF h.o
 have c0 : w.cell? ⟨a, 0, none⟩ = some (.slice bp n bc) := y6 h.d rfl
 have c1 : w.cell? ⟨a, 1, none⟩ = some (.slice p D.q.length cap) := y6 h.d rfl
 obtain ⟨kp, kc, rfl⟩ := qF hkv
 obtain ⟨ie, hie, hz1, hz2, hz3⟩ := info_parts iblk
 go_enter func14, ntmps14
 go_wp2_with (first
  | (at_builtin; refine Q0Q rfl _ (.tmp 12) 62 rfl w.heap.size 80 ie _ 128 128 underlying62 hie hz1 hz2 hz3 (by simp [Value.cells, zl]) (by omega) (.slice none 0 0) 0 [] rfl (World.ownsRow_nil _ _ _ _) (.slice bp n bc) 0 n (u8s D.L) rfl h.b (qv _) (by unfold maxLen; omega) (by omega) (Nat.le_refl _) ?_; intro bv1 w1 hown1 hgr1; rw [Nat.zero_add, List.nil_append] at hown1; have k1 := qL hgr1 [] (by simp [Value.ownBlock]); obtain ⟨bp1, bc1, rfl⟩ := qF hown1)
  | (refine yK rfl _ _ (gy 65 (.tmp 14) rfl (Q06 (.slice bp1 n bc1) (.slice none 0 0) (.new D.L)) rfl) ?_; intro w2 hn2 k2 _; have c12 : w2.cell? ⟨a, 1, none⟩ = some (.slice p D.q.length cap) := y6 ((k1.trans k2).get h.d (by simp)) rfl))
 have A0 : Aft D.L n w1.heap.size (.slice bp1 n bc1) w w2 := ⟨⟨hn2, Q0P (yQ hown1 k2 (by simp)) (Nat.zero_le _), World.ownsRow_nil _ _ _ _, by simp [Fit, Dv.new], fun _ => rfl⟩, k1.size, fun y hy => (hown1.lt y hy).1, k1.trans k2⟩
 clear c0 c1 c12 hn2
 go_loopw [6, 7, 8, 21] (fun _ _ _ ix wr => AfI D n w1.heap.size (.slice bp1 n bc1) w ix wr) (fun _ _ _ ix _ => D.q.length - (intOf ix).toNat)
 case atStart => exact ⟨0, D.L, Nat.zero_le _, rfl, Sr.nil, A0⟩
 case round =>
  obtain ⟨j, L1, hj, rfl, hsr, hA⟩ := hrel
  clear A0
  by_cases hlt : j < D.q.length
  ·have hlt' : (j : Int) < (D.q.length : Int) := by omega
   obtain ⟨x, hx⟩ : ∃ x, D.q[j]? = some x := ⟨_, List.getElem?_eq_getElem hlt⟩
   obtain ⟨x1, x2⟩ := h.q x (List.mem_of_getElem? hx)
   obtain ⟨b, cap', cur, e, hbq, hcur⟩ := (h.k0 hA.k).at_ hx
   cases e
   have hwl : (wc x).length = 129 := by simp [wc, qq, yd, x2]
   have hld := yV (P := prog) wr b (j * 129) 82 82 cur (wc x) (0, 0) _ hbq underlying82 rfl (by rw [gL, hwl]) hcur
   by_cases hjm : j < ms.length
   ·have hjm' : ¬ (ms.length : Int) <= (j : Int) := by omega
    go_wp2_with (first
     | (refine y8 rfl _ _ (ya 63 (.tmp 19) (.tmp 21) rfl b 0 D.q.length cap j 129 rfl rfl 82 underlying63 gL hlt (j * 129) (by omega)) ?_)
     | (refine ye rfl 82 (.tmp 24) rfl ⟨b, j * 129, none⟩ rfl (.agg (wc x).toArray) hld ?_)
     | (refine qx rfl 82 rfl _ (Q0i _) ?_; intro w5 hn5 hk5 _)
     | (refine yb rfl 82 (.tmp 7) (.tmp 25) rfl wr.heap.size (wc x).toArray rfl rfl 82 _ hn5 (by rw [gL]; simp [hwl]) (by simp [hwl, qq, zl]) (yU (Q0j x)) ?_; intro w6 hn6 hk6))
    have K6 : y5 [] wr w6 := hk5.trans2 hk6 (by intro y hy; simp at hy; subst hy; exact Or.inr (Nat.le_refl _))
    have A6 : Aft L1 n w1.heap.size (.slice bp1 n bc1) w w6 := ⟨hA.d.k0 K6, hA.a, hA.b, hA.k.trans K6⟩
    obtain ⟨kb, kc', kcur, ek, hkb, _, hk1, hk2, hk3, hk4⟩ := jc hkv (by omega)
    cases ek
    clear hld hcur hbq hn5 hk5 hk6
    generalize hlb : wr.heap.size = lb at *
    go_loopw [8] (fun sv wr' => AgI L1 x n w1.heap.size (.slice bp1 n bc1) w lb sv wr') (fun sv _ => 4 - (intOf sv).toNat)
    case atStart => exact ⟨0, fun _ => false, by omega, rfl, A6, hn6⟩
    case round =>
     obtain ⟨s, c, hs, rfl, hB, hloc⟩ := hrel
     by_cases hs4 : s < 4
     ·have hs4' : (s : Int) < 4 := by omega
      have hkb' := hB.k.get hkb (by simp)
      obtain ⟨m, hm⟩ : ∃ m, ms[j]? = some m := ⟨_, List.getElem?_eq_getElem hjm⟩
      have hcm : kcur[j]? = some (.int .i64 m) := QX hk4 (by simp [ints, hm])
      have cm := y6 hkb' (j := j) (by simpa using hcm)
      go_wp2_with (first
       | (refine y8 rfl _ _ (ya 22 (.tmp 34) (.tmp 35) rfl kb 0 ms.length kc j 1 rfl rfl 3 underlying22 sint hjm j (by omega)) ?_))
      ·obtain ⟨g1, bc', bcur, e1, hbg, _, hb1, hb2, hb3, hb4⟩ := jc hB.d.b (by omega)
       cases e1
       have hL := hB.d.l
       simp only [Dv.new] at hL
       have hsl : (u8s ((x.2.drop (s * 32)).take 32)).length = 32 := by rw [yd, List.length_take, List.length_drop, x2]; omega
       have hS : (fun W : World => DC W w1.heap.size (.slice (some ⟨g1, 0, none⟩) n bc1) (.slice none 0 0) (.new (svN c L1 x s)) /\ W.heap[lb]? = some (.cells (wc x).toArray 82 (0, 0))) wr.drew := ⟨hB.d.d, hloc⟩
       have hcp : ∀ ty, (Builtin.copy_ #[83, 83] ty #[.slice (some ⟨g1, x.1 * 128 + s * 32, none⟩) 32 (128 - s * 32), .slice (some ⟨lb, 1 + s * 32, none⟩) 32 (128 - s * 32)]).run prog wr.drew = .ok (goInt 32) (wr.drew.setRow g1 (splice bcur (x.1 * 128 + s * 32) (u8s ((x.2.drop (s * 32)).take 32))).toArray) := fun ty => by
        rw [run_copy_row (P := prog) wr.drew 83 83 ty 5 g1 (x.1 * 128 + s * 32) 32 (128 - s * 32) ⟨lb, 1 + s * 32, none⟩ 32 (128 - s * 32) bcur.toArray 80 (u8s ((x.2.drop (s * 32)).take 32)) underlying83 su8 hbg hsl (jd hloc (Q0V x s)) (by rw [hsl]; simp; omega) (qv _), hsl]
        simp [splice, hsl]
       have k7 : y5 [g1] wr (wr.drew.setRow g1 (splice bcur (x.1 * 128 + s * 32) (u8s ((x.2.drop (s * 32)).take 32))).toArray) := (y5.refl _ _).drew.setRow (Or.inl (by simp)) _
       have r7 := Q0k (w := wr.drew.setRow g1 (splice bcur (x.1 * 128 + s * 32) (u8s ((x.2.drop (s * 32)).take 32))).toArray) (base := 0) (size := 128) (xs := u8s (put1 (svN c L1 x s) x s)) (by rw [yd, put1, length_splice _ _ _ (by rw [<- yd, hsl]; omega), hL]) (setRow_heap wr.drew g1 _ _ 80 _ hbg) (Nat.zero_le _) hb1 hb2 (by rw [length_splice _ _ _ (by rw [hsl]; omega), hb3]) (by rw [QY hb4 (by rw [hsl]; omega) (by rw [hb3]; omega), je]; rfl)
       have hln : lb ≠ g1 := yP hloc hbg (by decide)
       have B7 : ∀ z : Int, z = (s : Int) + 1 -> AgI L1 x n w1.heap.size (.slice (some ⟨g1, 0, none⟩) n bc1) w lb (.int .i64 z) (wr.drew.setRow g1 (splice bcur (x.1 * 128 + s * 32) (u8s ((x.2.drop (s * 32)).take 32))).toArray) := by
        rintro z rfl
        refine ⟨s + 1, Q0T c s true, by omega, by simp, ?_, k7.get hloc (by simpa using hln)⟩
        rw [Q0U]
        exact ⟨⟨k7.get hB.d.d (by simpa using (hB.d.nb g1 rfl).symm), r7, World.ownsRow_nil _ _ _ _, by simp [Fit, Dv.new], fun _ => rfl⟩, hB.a, hB.b, hB.k.trans2 k7 (by intro y hy; simp at hy; subst hy; exact Or.inr (hB.b _ rfl))⟩
       have HB7 : Hid (∀ z : Int, _ -> AgI _ _ _ _ _ _ _ _ _) := B7
       have hS7 : Hid (DC (wr.drew.setRow g1 (splice bcur (x.1 * 128 + s * 32) (u8s ((x.2.drop (s * 32)).take 32))).toArray) w1.heap.size (.slice (some ⟨g1, 0, none⟩) n bc1) (.slice none 0 0) (.new (svN c L1 x s)) /\ _) := ⟨k7.get hB.d.d (by simpa using (hB.d.nb g1 rfl).symm), k7.get hloc (by simpa using hln)⟩
       clear B7 r7 k7
       generalize wr.drew.setRow g1 (splice bcur (x.1 * 128 + s * 32) (u8s ((x.2.drop (s * 32)).take 32))).toArray = w7 at *
       refine yj (fun W : World => DC W w1.heap.size (.slice (some ⟨g1, 0, none⟩) n bc1) (.slice none 0 0) (.new (svN c L1 x s)) /\ W.heap[lb]? = some (.cells (wc x).toArray 82 (0, 0))) (by kernel_rfl) ?_
       obtain rfl | rfl | rfl | rfl : s = 0 \/ s = 1 \/ s = 2 \/ s = 3 := by omega
       ·skip
        refine ht (i := 0) (v := .pointer (some ⟨w1.heap.size, 0, none⟩)) rfl (by kernel_rfl) (by kernel_rfl) (fun W hW => by kernel_rfl) (fun _ _ _ h => h) hS ?_
        refine ht (i := 1) (v := .pointer (some ⟨w1.heap.size, 0, none⟩)) rfl (by kernel_rfl) (by kernel_rfl) (fun W hW => by kernel_rfl) (fun _ _ _ h => h) hS ?_
        refine ht (i := 2) (v := .pointer (some ⟨w1.heap.size, 0, none⟩)) rfl (by kernel_rfl) (by kernel_rfl) (fun W hW => by kernel_rfl) (fun _ _ _ h => h) hS ?_
        refine ht (i := 3) (v := .slice (some ⟨g1, 0, none⟩) n bc1) rfl (by kernel_rfl) (by kernel_rfl) (fun W hW => y9 62 (.tmp 44) rfl ⟨w1.heap.size, 0, none⟩ (by kernel_rfl) _ (yh underlying62 rfl (y6 hW.1 rfl))) (fun _ _ _ h => h) hS ?_
        refine ht (i := 4) (v := .pointer (some ⟨lb, 0, none⟩)) rfl (by kernel_rfl) (by kernel_rfl) (fun W hW => by kernel_rfl) (fun _ _ _ h => h) hS ?_
        refine ht (i := 5) (v := .int .i64 x.1) rfl (by kernel_rfl) (by kernel_rfl) (fun W hW => y9 3 (.tmp 46) rfl ⟨lb, 0, none⟩ (by kernel_rfl) _ (yh underlying3 rfl (y6 hW.2 rfl))) (fun _ _ _ h => h) hS ?_
        refine ht (i := 6) (v := .pointer (some ⟨g1, x.1 * 128, none⟩)) rfl (by kernel_rfl) (by kernel_rfl) (fun W hW => ya 62 (.tmp 45) (.tmp 47) rfl g1 0 n bc1 x.1 128 (by kernel_rfl) (by kernel_rfl) 80 underlying62 jF x1 _ (by simp)) (fun _ _ _ h => h) hS ?_
        refine ht (i := 7) (v := .int .i64 ((0 : Nat) : Int)) rfl (by kernel_rfl) (by kernel_rfl) (fun W hW => by kernel_rfl) (fun _ _ _ h => h) hS ?_
        refine ht (i := 8) (v := .int .i64 (0 * 32)) rfl (by kernel_rfl) (by kernel_rfl) (fun W hW => by kernel_rfl) (fun _ _ _ h => h) hS ?_
        refine ht (i := 9) (v := .int .i64 ((0 : Nat) : Int)) rfl (by kernel_rfl) (by kernel_rfl) (fun W hW => by kernel_rfl) (fun _ _ _ h => h) hS ?_
        refine ht (i := 10) (v := .int .i64 (0 + 1)) rfl (by kernel_rfl) (by kernel_rfl) (fun W hW => by kernel_rfl) (fun _ _ _ h => h) hS ?_
        refine ht (i := 11) (v := .int .i64 ((0 + 1) * 32)) rfl (by kernel_rfl) (by kernel_rfl) (fun W hW => by kernel_rfl) (fun _ _ _ h => h) hS ?_
        refine ht (i := 12) (v := .slice (some ⟨g1, x.1 * 128 + 0 * 32, none⟩) 32 (128 - 0 * 32)) rfl (by kernel_rfl) (by kernel_rfl) (fun W hW => by kernel_rfl) (fun _ _ _ h => h) hS ?_
        refine ht (i := 13) (v := .pointer (some ⟨lb, 1, none⟩)) rfl (by kernel_rfl) (by kernel_rfl) (fun W hW => by kernel_rfl) (fun _ _ _ h => h) hS ?_
        refine ht (i := 14) (v := .int .i64 ((0 : Nat) : Int)) rfl (by kernel_rfl) (by kernel_rfl) (fun W hW => by kernel_rfl) (fun _ _ _ h => h) hS ?_
        refine ht (i := 15) (v := .int .i64 (0 * 32)) rfl (by kernel_rfl) (by kernel_rfl) (fun W hW => by kernel_rfl) (fun _ _ _ h => h) hS ?_
        refine ht (i := 16) (v := .int .i64 ((0 : Nat) : Int)) rfl (by kernel_rfl) (by kernel_rfl) (fun W hW => by kernel_rfl) (fun _ _ _ h => h) hS ?_
        refine ht (i := 17) (v := .int .i64 (0 + 1)) rfl (by kernel_rfl) (by kernel_rfl) (fun W hW => by kernel_rfl) (fun _ _ _ h => h) hS ?_
        refine ht (i := 18) (v := .int .i64 ((0 + 1) * 32)) rfl (by kernel_rfl) (by kernel_rfl) (fun W hW => by kernel_rfl) (fun _ _ _ h => h) hS ?_
        refine ht (i := 19) (v := .slice (some ⟨lb, 1 + 0 * 32, none⟩) 32 (128 - 0 * 32)) rfl (by kernel_rfl) (by kernel_rfl) (fun W hW => by kernel_rfl) (fun _ _ _ h => h) hS ?_
        refine yf (i := 20) (by kernel_rfl) (j0 rfl rfl _ _ (yT (.tmp 54) (.tmp 61) 83 83 rfl _ _ (by kernel_rfl) (by kernel_rfl) _ (hcp _)) ⟨hS7.out, ?_⟩)
        refine wpAnyH_done (by kernel_rfl) ?_ _
        simp only [zP, zA, zB, zC, zD, zE, zF]
        go_wp2
        go_roundw
        case rel => exact HB7.out _ (by decide)
        case measure => simp [intOf]
       ·skip
        refine ht (i := 0) (v := .pointer (some ⟨w1.heap.size, 0, none⟩)) rfl (by kernel_rfl) (by kernel_rfl) (fun W hW => by kernel_rfl) (fun _ _ _ h => h) hS ?_
        refine ht (i := 1) (v := .pointer (some ⟨w1.heap.size, 0, none⟩)) rfl (by kernel_rfl) (by kernel_rfl) (fun W hW => by kernel_rfl) (fun _ _ _ h => h) hS ?_
        refine ht (i := 2) (v := .pointer (some ⟨w1.heap.size, 0, none⟩)) rfl (by kernel_rfl) (by kernel_rfl) (fun W hW => by kernel_rfl) (fun _ _ _ h => h) hS ?_
        refine ht (i := 3) (v := .slice (some ⟨g1, 0, none⟩) n bc1) rfl (by kernel_rfl) (by kernel_rfl) (fun W hW => y9 62 (.tmp 44) rfl ⟨w1.heap.size, 0, none⟩ (by kernel_rfl) _ (yh underlying62 rfl (y6 hW.1 rfl))) (fun _ _ _ h => h) hS ?_
        refine ht (i := 4) (v := .pointer (some ⟨lb, 0, none⟩)) rfl (by kernel_rfl) (by kernel_rfl) (fun W hW => by kernel_rfl) (fun _ _ _ h => h) hS ?_
        refine ht (i := 5) (v := .int .i64 x.1) rfl (by kernel_rfl) (by kernel_rfl) (fun W hW => y9 3 (.tmp 46) rfl ⟨lb, 0, none⟩ (by kernel_rfl) _ (yh underlying3 rfl (y6 hW.2 rfl))) (fun _ _ _ h => h) hS ?_
        refine ht (i := 6) (v := .pointer (some ⟨g1, x.1 * 128, none⟩)) rfl (by kernel_rfl) (by kernel_rfl) (fun W hW => ya 62 (.tmp 45) (.tmp 47) rfl g1 0 n bc1 x.1 128 (by kernel_rfl) (by kernel_rfl) 80 underlying62 jF x1 _ (by simp)) (fun _ _ _ h => h) hS ?_
        refine ht (i := 7) (v := .int .i64 ((1 : Nat) : Int)) rfl (by kernel_rfl) (by kernel_rfl) (fun W hW => by kernel_rfl) (fun _ _ _ h => h) hS ?_
        refine ht (i := 8) (v := .int .i64 (1 * 32)) rfl (by kernel_rfl) (by kernel_rfl) (fun W hW => by kernel_rfl) (fun _ _ _ h => h) hS ?_
        refine ht (i := 9) (v := .int .i64 ((1 : Nat) : Int)) rfl (by kernel_rfl) (by kernel_rfl) (fun W hW => by kernel_rfl) (fun _ _ _ h => h) hS ?_
        refine ht (i := 10) (v := .int .i64 (1 + 1)) rfl (by kernel_rfl) (by kernel_rfl) (fun W hW => by kernel_rfl) (fun _ _ _ h => h) hS ?_
        refine ht (i := 11) (v := .int .i64 ((1 + 1) * 32)) rfl (by kernel_rfl) (by kernel_rfl) (fun W hW => by kernel_rfl) (fun _ _ _ h => h) hS ?_
        refine ht (i := 12) (v := .slice (some ⟨g1, x.1 * 128 + 1 * 32, none⟩) 32 (128 - 1 * 32)) rfl (by kernel_rfl) (by kernel_rfl) (fun W hW => by kernel_rfl) (fun _ _ _ h => h) hS ?_
        refine ht (i := 13) (v := .pointer (some ⟨lb, 1, none⟩)) rfl (by kernel_rfl) (by kernel_rfl) (fun W hW => by kernel_rfl) (fun _ _ _ h => h) hS ?_
        refine ht (i := 14) (v := .int .i64 ((1 : Nat) : Int)) rfl (by kernel_rfl) (by kernel_rfl) (fun W hW => by kernel_rfl) (fun _ _ _ h => h) hS ?_
        refine ht (i := 15) (v := .int .i64 (1 * 32)) rfl (by kernel_rfl) (by kernel_rfl) (fun W hW => by kernel_rfl) (fun _ _ _ h => h) hS ?_
        refine ht (i := 16) (v := .int .i64 ((1 : Nat) : Int)) rfl (by kernel_rfl) (by kernel_rfl) (fun W hW => by kernel_rfl) (fun _ _ _ h => h) hS ?_
        refine ht (i := 17) (v := .int .i64 (1 + 1)) rfl (by kernel_rfl) (by kernel_rfl) (fun W hW => by kernel_rfl) (fun _ _ _ h => h) hS ?_
        refine ht (i := 18) (v := .int .i64 ((1 + 1) * 32)) rfl (by kernel_rfl) (by kernel_rfl) (fun W hW => by kernel_rfl) (fun _ _ _ h => h) hS ?_
        refine ht (i := 19) (v := .slice (some ⟨lb, 1 + 1 * 32, none⟩) 32 (128 - 1 * 32)) rfl (by kernel_rfl) (by kernel_rfl) (fun W hW => by kernel_rfl) (fun _ _ _ h => h) hS ?_
        refine yf (i := 20) (by kernel_rfl) (j0 rfl rfl _ _ (yT (.tmp 54) (.tmp 61) 83 83 rfl _ _ (by kernel_rfl) (by kernel_rfl) _ (hcp _)) ⟨hS7.out, ?_⟩)
        refine wpAnyH_done (by kernel_rfl) ?_ _
        simp only [zP, zA, zB, zC, zD, zE, zF]
        go_wp2
        go_roundw
        case rel => exact HB7.out _ (by decide)
        case measure => simp [intOf]
       ·skip
        refine ht (i := 0) (v := .pointer (some ⟨w1.heap.size, 0, none⟩)) rfl (by kernel_rfl) (by kernel_rfl) (fun W hW => by kernel_rfl) (fun _ _ _ h => h) hS ?_
        refine ht (i := 1) (v := .pointer (some ⟨w1.heap.size, 0, none⟩)) rfl (by kernel_rfl) (by kernel_rfl) (fun W hW => by kernel_rfl) (fun _ _ _ h => h) hS ?_
        refine ht (i := 2) (v := .pointer (some ⟨w1.heap.size, 0, none⟩)) rfl (by kernel_rfl) (by kernel_rfl) (fun W hW => by kernel_rfl) (fun _ _ _ h => h) hS ?_
        refine ht (i := 3) (v := .slice (some ⟨g1, 0, none⟩) n bc1) rfl (by kernel_rfl) (by kernel_rfl) (fun W hW => y9 62 (.tmp 44) rfl ⟨w1.heap.size, 0, none⟩ (by kernel_rfl) _ (yh underlying62 rfl (y6 hW.1 rfl))) (fun _ _ _ h => h) hS ?_
        refine ht (i := 4) (v := .pointer (some ⟨lb, 0, none⟩)) rfl (by kernel_rfl) (by kernel_rfl) (fun W hW => by kernel_rfl) (fun _ _ _ h => h) hS ?_
        refine ht (i := 5) (v := .int .i64 x.1) rfl (by kernel_rfl) (by kernel_rfl) (fun W hW => y9 3 (.tmp 46) rfl ⟨lb, 0, none⟩ (by kernel_rfl) _ (yh underlying3 rfl (y6 hW.2 rfl))) (fun _ _ _ h => h) hS ?_
        refine ht (i := 6) (v := .pointer (some ⟨g1, x.1 * 128, none⟩)) rfl (by kernel_rfl) (by kernel_rfl) (fun W hW => ya 62 (.tmp 45) (.tmp 47) rfl g1 0 n bc1 x.1 128 (by kernel_rfl) (by kernel_rfl) 80 underlying62 jF x1 _ (by simp)) (fun _ _ _ h => h) hS ?_
        refine ht (i := 7) (v := .int .i64 ((2 : Nat) : Int)) rfl (by kernel_rfl) (by kernel_rfl) (fun W hW => by kernel_rfl) (fun _ _ _ h => h) hS ?_
        refine ht (i := 8) (v := .int .i64 (2 * 32)) rfl (by kernel_rfl) (by kernel_rfl) (fun W hW => by kernel_rfl) (fun _ _ _ h => h) hS ?_
        refine ht (i := 9) (v := .int .i64 ((2 : Nat) : Int)) rfl (by kernel_rfl) (by kernel_rfl) (fun W hW => by kernel_rfl) (fun _ _ _ h => h) hS ?_
        refine ht (i := 10) (v := .int .i64 (2 + 1)) rfl (by kernel_rfl) (by kernel_rfl) (fun W hW => by kernel_rfl) (fun _ _ _ h => h) hS ?_
        refine ht (i := 11) (v := .int .i64 ((2 + 1) * 32)) rfl (by kernel_rfl) (by kernel_rfl) (fun W hW => by kernel_rfl) (fun _ _ _ h => h) hS ?_
        refine ht (i := 12) (v := .slice (some ⟨g1, x.1 * 128 + 2 * 32, none⟩) 32 (128 - 2 * 32)) rfl (by kernel_rfl) (by kernel_rfl) (fun W hW => by kernel_rfl) (fun _ _ _ h => h) hS ?_
        refine ht (i := 13) (v := .pointer (some ⟨lb, 1, none⟩)) rfl (by kernel_rfl) (by kernel_rfl) (fun W hW => by kernel_rfl) (fun _ _ _ h => h) hS ?_
        refine ht (i := 14) (v := .int .i64 ((2 : Nat) : Int)) rfl (by kernel_rfl) (by kernel_rfl) (fun W hW => by kernel_rfl) (fun _ _ _ h => h) hS ?_
        refine ht (i := 15) (v := .int .i64 (2 * 32)) rfl (by kernel_rfl) (by kernel_rfl) (fun W hW => by kernel_rfl) (fun _ _ _ h => h) hS ?_
        refine ht (i := 16) (v := .int .i64 ((2 : Nat) : Int)) rfl (by kernel_rfl) (by kernel_rfl) (fun W hW => by kernel_rfl) (fun _ _ _ h => h) hS ?_
        refine ht (i := 17) (v := .int .i64 (2 + 1)) rfl (by kernel_rfl) (by kernel_rfl) (fun W hW => by kernel_rfl) (fun _ _ _ h => h) hS ?_
        refine ht (i := 18) (v := .int .i64 ((2 + 1) * 32)) rfl (by kernel_rfl) (by kernel_rfl) (fun W hW => by kernel_rfl) (fun _ _ _ h => h) hS ?_
        refine ht (i := 19) (v := .slice (some ⟨lb, 1 + 2 * 32, none⟩) 32 (128 - 2 * 32)) rfl (by kernel_rfl) (by kernel_rfl) (fun W hW => by kernel_rfl) (fun _ _ _ h => h) hS ?_
        refine yf (i := 20) (by kernel_rfl) (j0 rfl rfl _ _ (yT (.tmp 54) (.tmp 61) 83 83 rfl _ _ (by kernel_rfl) (by kernel_rfl) _ (hcp _)) ⟨hS7.out, ?_⟩)
        refine wpAnyH_done (by kernel_rfl) ?_ _
        simp only [zP, zA, zB, zC, zD, zE, zF]
        go_wp2
        go_roundw
        case rel => exact HB7.out _ (by decide)
        case measure => simp [intOf]
       ·skip
        refine ht (i := 0) (v := .pointer (some ⟨w1.heap.size, 0, none⟩)) rfl (by kernel_rfl) (by kernel_rfl) (fun W hW => by kernel_rfl) (fun _ _ _ h => h) hS ?_
        refine ht (i := 1) (v := .pointer (some ⟨w1.heap.size, 0, none⟩)) rfl (by kernel_rfl) (by kernel_rfl) (fun W hW => by kernel_rfl) (fun _ _ _ h => h) hS ?_
        refine ht (i := 2) (v := .pointer (some ⟨w1.heap.size, 0, none⟩)) rfl (by kernel_rfl) (by kernel_rfl) (fun W hW => by kernel_rfl) (fun _ _ _ h => h) hS ?_
        refine ht (i := 3) (v := .slice (some ⟨g1, 0, none⟩) n bc1) rfl (by kernel_rfl) (by kernel_rfl) (fun W hW => y9 62 (.tmp 44) rfl ⟨w1.heap.size, 0, none⟩ (by kernel_rfl) _ (yh underlying62 rfl (y6 hW.1 rfl))) (fun _ _ _ h => h) hS ?_
        refine ht (i := 4) (v := .pointer (some ⟨lb, 0, none⟩)) rfl (by kernel_rfl) (by kernel_rfl) (fun W hW => by kernel_rfl) (fun _ _ _ h => h) hS ?_
        refine ht (i := 5) (v := .int .i64 x.1) rfl (by kernel_rfl) (by kernel_rfl) (fun W hW => y9 3 (.tmp 46) rfl ⟨lb, 0, none⟩ (by kernel_rfl) _ (yh underlying3 rfl (y6 hW.2 rfl))) (fun _ _ _ h => h) hS ?_
        refine ht (i := 6) (v := .pointer (some ⟨g1, x.1 * 128, none⟩)) rfl (by kernel_rfl) (by kernel_rfl) (fun W hW => ya 62 (.tmp 45) (.tmp 47) rfl g1 0 n bc1 x.1 128 (by kernel_rfl) (by kernel_rfl) 80 underlying62 jF x1 _ (by simp)) (fun _ _ _ h => h) hS ?_
        refine ht (i := 7) (v := .int .i64 ((3 : Nat) : Int)) rfl (by kernel_rfl) (by kernel_rfl) (fun W hW => by kernel_rfl) (fun _ _ _ h => h) hS ?_
        refine ht (i := 8) (v := .int .i64 (3 * 32)) rfl (by kernel_rfl) (by kernel_rfl) (fun W hW => by kernel_rfl) (fun _ _ _ h => h) hS ?_
        refine ht (i := 9) (v := .int .i64 ((3 : Nat) : Int)) rfl (by kernel_rfl) (by kernel_rfl) (fun W hW => by kernel_rfl) (fun _ _ _ h => h) hS ?_
        refine ht (i := 10) (v := .int .i64 (3 + 1)) rfl (by kernel_rfl) (by kernel_rfl) (fun W hW => by kernel_rfl) (fun _ _ _ h => h) hS ?_
        refine ht (i := 11) (v := .int .i64 ((3 + 1) * 32)) rfl (by kernel_rfl) (by kernel_rfl) (fun W hW => by kernel_rfl) (fun _ _ _ h => h) hS ?_
        refine ht (i := 12) (v := .slice (some ⟨g1, x.1 * 128 + 3 * 32, none⟩) 32 (128 - 3 * 32)) rfl (by kernel_rfl) (by kernel_rfl) (fun W hW => by kernel_rfl) (fun _ _ _ h => h) hS ?_
        refine ht (i := 13) (v := .pointer (some ⟨lb, 1, none⟩)) rfl (by kernel_rfl) (by kernel_rfl) (fun W hW => by kernel_rfl) (fun _ _ _ h => h) hS ?_
        refine ht (i := 14) (v := .int .i64 ((3 : Nat) : Int)) rfl (by kernel_rfl) (by kernel_rfl) (fun W hW => by kernel_rfl) (fun _ _ _ h => h) hS ?_
        refine ht (i := 15) (v := .int .i64 (3 * 32)) rfl (by kernel_rfl) (by kernel_rfl) (fun W hW => by kernel_rfl) (fun _ _ _ h => h) hS ?_
        refine ht (i := 16) (v := .int .i64 ((3 : Nat) : Int)) rfl (by kernel_rfl) (by kernel_rfl) (fun W hW => by kernel_rfl) (fun _ _ _ h => h) hS ?_
        refine ht (i := 17) (v := .int .i64 (3 + 1)) rfl (by kernel_rfl) (by kernel_rfl) (fun W hW => by kernel_rfl) (fun _ _ _ h => h) hS ?_
        refine ht (i := 18) (v := .int .i64 ((3 + 1) * 32)) rfl (by kernel_rfl) (by kernel_rfl) (fun W hW => by kernel_rfl) (fun _ _ _ h => h) hS ?_
        refine ht (i := 19) (v := .slice (some ⟨lb, 1 + 3 * 32, none⟩) 32 (128 - 3 * 32)) rfl (by kernel_rfl) (by kernel_rfl) (fun W hW => by kernel_rfl) (fun _ _ _ h => h) hS ?_
        refine yf (i := 20) (by kernel_rfl) (j0 rfl rfl _ _ (yT (.tmp 54) (.tmp 61) 83 83 rfl _ _ (by kernel_rfl) (by kernel_rfl) _ (hcp _)) ⟨hS7.out, ?_⟩)
        refine wpAnyH_done (by kernel_rfl) ?_ _
        simp only [zP, zA, zB, zC, zD, zE, zF]
        go_wp2
        go_roundw
        case rel => exact HB7.out _ (by decide)
        case measure => simp [intOf]
      ·have HB7 : AgI L1 x n w1.heap.size (.slice bp1 n bc1) w lb (.int .i64 ((s : Int) + 1)) wr := by
        refine ⟨s + 1, Q0T c s false, by omega, by simp, ?_, hloc⟩
        rw [Q0U]
        exact hB
       exact ⟨HB7, by simp [intOf]; omega⟩
     ·have hs4' : ¬ (s : Int) < 4 := by omega
      have es : s = 4 := by omega
      subst es
      go_wp2
      go_roundw
      case rel =>
       refine ⟨j + 1, _, by omega, by go_num, ?_, hB⟩
       rw [qr D.q j x hx]
       exact hsr.snoc x c
      case measure => simp [intOf]; omega
   ·have hjm' : (ms.length : Int) <= (j : Int) := by omega
    go_wp2_with (first
     | (refine y8 rfl _ _ (ya 63 (.tmp 19) (.tmp 21) rfl b 0 D.q.length cap j 129 rfl rfl 82 underlying63 gL hlt (j * 129) (by omega)) ?_)
     | (refine ye rfl 82 (.tmp 24) rfl ⟨b, j * 129, none⟩ rfl (.agg (wc x).toArray) hld ?_)
     | (refine qx rfl 82 rfl _ (Q0i _) ?_; intro w5 hn5 hk5 _)
     | (refine yb rfl 82 (.tmp 7) (.tmp 25) rfl wr.heap.size (wc x).toArray rfl rfl 82 _ hn5 (by rw [gL]; simp [hwl]) (by simp [hwl, qq, zl]) (yU (Q0j x)) ?_; intro w6 hn6 hk6))
    have K6 : y5 [] wr w6 := hk5.trans2 hk6 (by intro y hy; simp at hy; subst hy; exact Or.inr (Nat.le_refl _))
    have hall := hsr.rest (D.q.drop j)
    rw [List.take_append_drop] at hall
    go_ret
    exact ⟨L1, _, _, rfl, hall, hA.d.k0 K6, hA.a, hA.b, hA.k.trans K6⟩
  ·have hge : ¬ (j : Int) < (D.q.length : Int) := by omega
   have ej : j = D.q.length := by omega
   subst ej
   rw [List.take_length] at hsr
   go_wp2
   go_ret
   exact ⟨L1, _, _, rfl, hsr, hA⟩
end Go.Proofs.YtcklgafpgdhnaabGreatDoor
