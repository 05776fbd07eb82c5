import Derived.Test.YtcklgafpgdhnaabGreatDoorPqaa
import Derived.Deep.DeepAppendRoom
set_option maxRecDepth 100000
set_option maxHeartbeats 4000000
open Go.Proofs.Tryz
open Go.Act renaming put → zP
open List renaming getElem_toArray → zA, getElem_cons_succ → zB, getElem_cons_zero → zC, setIfInBounds_toArray → zD, set_cons_succ → zE, set_cons_zero → zF
namespace Go.Proofs.YtcklgafpgdhnaabGreatDoor
open Go.RowKit
def zl (n : Nat) : List Value := List.replicate n (.int .u8 0)
theorem Zi (n : Nat) : (zl n).length = n := by simp [zl]
theorem Q0f (w : World) : (Instr.makeSlice 83 (.int .i64 128) (.int .i64 128)).run prog w = .ok (.slice (some ⟨w.heap.size, 0, none⟩) 128 128) (w.alloc (.cells (zl 128).toArray 5)) := by kernel_rfl
theorem su8 : (prog.info? 5).map (·.size) = some 1 := by kernel_rfl
theorem Q0g (n : Nat) : ∀ v ∈ zl n, v.oneCell' = true := by
 intro v hv; rw [List.eq_of_mem_replicate hv]; rfl
theorem yU {l : List Value} (h : ∀ v ∈ l, v.oneCell' = true) : l.toArray.all (·.oneCell') = true := by
 rw [Array.all_eq_true_iff_forall_mem]; intro v hv; exact h v (by simpa using hv)
def qq (i : Int) (B : List Value) : List Value := .int .i64 i :: B
theorem Q0h (i : Int) (l : List Value) (h : ∀ v ∈ l, v.oneCell' = true) : ∀ v ∈ qq i l, v.oneCell' = true := by
 intro v hv; rcases List.mem_cons.1 hv with rfl | hv; rfl; exact h v hv
theorem gL : (prog.info? 82).map (·.size) = some 129 := by kernel_rfl
theorem Q0i (w : World) : (Instr.alloc 82 true (.tuple #[])).run prog w = .ok (.pointer (some ⟨w.heap.size, 0, none⟩)) (w.alloc (.cells (qq 0 (zl 128)).toArray 82)) := by kernel_rfl
abbrev Wt := Nat × List UInt8
def wc (x : Wt) : List Value := qq x.1 (u8s x.2)
theorem Q0j (x : Wt) : ∀ v ∈ wc x, v.oneCell' = true := Q0h _ _ (qv _)
def Fit (n : Nat) (q : List Wt) : Prop := ∀ x ∈ q, x.1 < n /\ x.2.length = 128
theorem Fit.wd {n : Nat} {q : List Wt} (h : Fit n q) : Wd 129 (q.map wc) := by
 intro e he
 obtain ⟨x, hx, rfl⟩ := List.mem_map.1 he
 simp [wc, qq, yd, (h x hx).2]
theorem qy {w : World} {base e size n b : Nat} {v : Value} {xs : List Value} (h : w.ownsRow base e size v n xs) (hb : v.ownBlock = some b) : ∃ cs fr, w.heap[b]? = some (.cells cs e fr) := by
 obtain ⟨_, ⟨rfl, _⟩ | ⟨g, cap, cur, rfl, _, hh, _⟩⟩ := h
 ·cases hb
 ·cases hb; exact ⟨_, _, hh⟩
theorem yQ {S : List Nat} {w w' : World} {base e size n : Nat} {v : Value} {xs : List Value} (h : w.ownsRow base e size v n xs) (k : y5 S w w') (hS : ∀ b, v.ownBlock = some b -> b ∉ S) : w'.ownsRow base e size v n xs := by
 obtain ⟨h1, h2⟩ := h
 refine ⟨h1, ?_⟩
 rcases h2 with h2 | ⟨g, cap, cur, rfl, hg, hh, r⟩
 ·exact Or.inl h2
 ·exact Or.inr ⟨g, cap, cur, rfl, hg, k.get hh (hS g rfl), r⟩
theorem qF {w : World} {base e size n : Nat} {v : Value} {xs : List Value} (h : w.ownsRow base e size v n xs) : ∃ p q, v = .slice p n q := by
 obtain ⟨_, ⟨rfl, h0⟩ | ⟨g, cap, cur, rfl, _⟩⟩ := h
 ·exact ⟨none, 0, by rw [h0]⟩
 ·exact ⟨_, _, rfl⟩
theorem jc {w : World} {base e size n : Nat} {v : Value} {xs : List Value} (h : w.ownsRow base e size v n xs) (hn : 0 < n) : ∃ g cap cur, v = .slice (some ⟨g, 0, none⟩) n cap /\ w.heap[g]? = some (.cells (List.toArray cur) e (0, 0)) /\ base <= g /\ n <= cap /\ cap <= maxLen /\ cur.length = cap * size /\ cur.take (n * size) = xs := by
 obtain ⟨_, ⟨rfl, h0⟩ | ⟨g, cap, cur, rfl, hB, hh, h1, h2, h3, h4⟩⟩ := h
 ·omega
 ·exact ⟨g, cap, cur.toList, rfl, by simpa using hh, hB, h1, h2, by simpa using h3, h4⟩
theorem Q0k {w : World} {base e size n g cap : Nat} {xs cur : List Value} (hl : xs.length = n * size) (hg : w.heap[g]? = some (.cells (List.toArray cur) e (0, 0))) (hB : base <= g) (h1 : n <= cap) (h2 : cap <= maxLen) (h3 : cur.length = cap * size) (h4 : cur.take (n * size) = xs) : w.ownsRow base e size (.slice (some ⟨g, 0, none⟩) n cap) n xs :=
 ⟨hl, Or.inr ⟨g, cap, cur.toArray, rfl, hB, hg, h1, h2, by simpa using h3, h4⟩⟩
theorem QX {α : Type} {l xs : List α} {m : Nat} (h : l.take m = xs) {j : Nat} {u : α} (hj : xs[j]? = some u) : l[j]? = some u := by
 rw [<- h, List.getElem?_take] at hj
 split at hj
 ·exact hj
 ·cases hj
theorem QY {α : Type} {l xs cs : List α} {m o : Nat} (h : l.take m = xs) (ho : o + cs.length <= m) (hm : m <= l.length) : (splice l o cs).take m = splice xs o cs := by
 have hx : xs.length = m := by rw [<- h, List.length_take]; omega
 have e : splice (xs ++ l.drop m) o cs = splice xs o cs ++ l.drop m := by
  unfold splice
  rw [List.take_append_of_le_length (by omega), List.drop_append_of_le_length (by omega)]; simp
 have el : l = xs ++ l.drop m := by rw [<- h]; exact (List.take_append_drop m l).symm
 rw [el, e, List.take_append_of_le_length (by rw [length_splice _ _ _ (by omega)]; omega), List.take_of_length_le (by rw [length_splice _ _ _ (by omega)]; omega)]
structure DQ (w : World) (a : Nat) (bv : Value) (n : Nat) (cv : Value) (D : Dv) : Prop where
 d : DC w a bv cv D
 b : w.ownsRow 0 80 128 bv n (u8s D.L)
 o : w.ownsRow 0 82 129 cv D.q.length (fl (D.q.map wc))
 q : Fit n D.q
 z : D.q = [] -> cv = .slice none 0 0
def ym (a : Nat) (bv cv : Value) : List Nat := a :: (bv.ownBlock.toList ++ cv.ownBlock.toList)
section
variable {w : World} {a n : Nat} {bv cv : Value} {D : Dv}
theorem DQ.l (h : DQ w a bv n cv D) : D.L.length = n * 128 := by rw [<- h.b.1, yd]
theorem DQ.kept {S : List Nat} {w' : World} (h : DQ w a bv n cv D) (k : y5 S w w') (hS : ∀ y ∈ ym a bv cv, y ∉ S) : DQ w' a bv n cv D :=
 ⟨k.get h.d (hS _ (by simp [ym])), yQ h.b k fun b hb => hS b (by simp [ym, hb]), yQ h.o k fun b hb => hS b (by simp [ym, hb]), h.q, h.z⟩
theorem DQ.k0 {w' : World} (h : DQ w a bv n cv D) (k : y5 [] w w') : DQ w' a bv n cv D := h.kept k (by simp)
theorem DQ.nb (h : DQ w a bv n cv D) : ∀ b, bv.ownBlock = some b -> b ≠ a := by
 intro b hb
 obtain ⟨cs, fr, hh⟩ := qy h.b hb
 exact yP hh h.d (by decide)
theorem DQ.nq (h : DQ w a bv n cv D) : ∀ b, cv.ownBlock = some b -> b ≠ a /\ bv.ownBlock ≠ some b := by
 intro b hb
 obtain ⟨cs, fr, hh⟩ := qy h.o hb
 refine ⟨yP hh h.d (by decide), fun hx => ?_⟩
 obtain ⟨cs2, fr2, hh2⟩ := qy h.b hx
 exact yP hh hh2 (by decide) rfl
theorem DQ.lt (h : DQ w a bv n cv D) : ∀ y ∈ ym a bv cv, y < w.heap.size := by
 intro y hy
 simp only [ym, List.mem_cons, List.mem_append] at hy
 rcases hy with rfl | hy | hy
 ·exact yt h.d
 ·obtain ⟨cs, fr, hh⟩ := qy h.b (by simpa using hy); exact yt hh
 ·obtain ⟨cs, fr, hh⟩ := qy h.o (by simpa using hy); exact yt hh
theorem DQ.upd {w' : World} {D' : Dv} (h : DQ w a bv n cv D) (k : y5 [a] w w') (hd : DC w' a bv cv D') (e1 : D'.L = D.L) (e2 : D'.q = D.q) : DQ w' a bv n cv D' :=
 ⟨hd, by rw [e1]; exact yQ h.b k (fun b hb => by simpa using h.nb b hb), by rw [e2]; exact yQ h.o k (fun b hb => by simpa using (h.nq b hb).1), by rw [e2]; exact h.q, by rw [e2]; exact h.z⟩
theorem DQ.at_ (h : DQ w a bv n cv D) {j : Nat} {x : Wt} (hx : D.q[j]? = some x) : ∃ b cap cur, cv = .slice (some ⟨b, 0, none⟩) D.q.length cap /\ w.heap[b]? = some (.cells (List.toArray cur) 82 (0, 0)) /\
  ∀ (k : Nat) (u : Value), (wc x)[k]? = some u -> cur[j * 129 + k]? = some u := by
 have hj : j < D.q.length := (List.getElem?_eq_some_iff.1 hx).1
 obtain ⟨b, cap, cur, rfl, hh, _, h1, h2, h3, h4⟩ := jc h.o (by omega)
 exact ⟨b, cap, cur, rfl, hh, fun k u hu => QX h4 (Q03 h.q.wd j (wc x) (by rw [List.getElem?_map, hx]; rfl) k u hu)⟩
end
def yz (L : List UInt8) (i : Nat) : List UInt8 := (L.drop (i * 128)).take 128
theorem gx (L : List UInt8) (n i : Nat) (h : L.length = n * 128) (hi : i < n) : (yz L i).length = 128 := by
 simp [yz, h]; omega
def vf (b : List UInt8) (i : Nat) (q : List Wt) : List UInt8 := q.foldl (fun b x => if x.1 = i then x.2 else b) b
def Dv.view (D : Dv) (i : Nat) : List UInt8 := vf (yz D.L i) i D.q
theorem Q0l (b : List UInt8) (i : Nat) (q : List Wt) (x : Wt) : vf b i (q ++ [x]) = if x.1 = i then x.2 else vf b i q := by simp [vf]
theorem Q0m {b : List UInt8} {i n : Nat} {q : List Wt} (hb : b.length = 128) (h : Fit n q) : (vf b i q).length = 128 := by
 induction q generalizing b with
 | nil => exact hb
 | cons x r ih =>
  refine ih (b := if x.1 = i then x.2 else b) ?_ fun y hy => h y (by simp [hy])
  split
  ·exact (h x (by simp)).2
  ·exact hb
theorem Q0n (L : List UInt8) (i : Nat) : ∀ j v, (u8s (yz L i))[j]? = some v -> (u8s L)[i * 128 + j]? = some v := by
 intro j v hv
 rw [jL] at hv ⊢
 simp only [yz, List.getElem?_take] at hv
 by_cases hj : j < 128
 ·simp only [hj, if_true, List.getElem?_drop] at hv
  exact hv
 ·simp [hj] at hv
theorem jd {w : World} {s off : Nat} {l c : List Value} {t : TypeId} {fr : Nat × Nat} (h : w.heap[s]? = some (.cells c.toArray t fr)) (hl : ∀ j v, l[j]? = some v -> c[off + j]? = some v) : ∀ j v, l[j]? = some v -> w.cell? ((⟨s, off, none⟩ : Addr).add j) = some v := by
 intro j v hv
 rw [add_lit, cell_of_row _ _ _ _ _ _ h]; simpa using hl j v hv
theorem Zj {w : World} {s : Nat} {l : List Value} {t : TypeId} {fr : Nat × Nat} (h : w.heap[s]? = some (.cells l.toArray t fr)) : ∀ j v, l[j]? = some v -> w.cell? ((⟨s, 0, none⟩ : Addr).add j) = some v :=
 jd h fun j v hv => by rw [Nat.zero_add]; exact hv
theorem qr {α : Type} (l : List α) (j : Nat) (p : α) (h : l[j]? = some p) : l.take (j + 1) = l.take j ++ [p] := by
 rw [List.take_add_one, h]; rfl
def eIO : Value := .iface 44 (.int .i64 6)
def Q0o (a : Nat) (bv : Value) (n : Nat) (cv : Value) (D : Dv) (i : Nat) (w : World) (e : Ending) (w' : World) : Prop :=
 DQ w' a bv n cv D.tick /\ y5 [a] w w' /\ if D.bad then e = .returned (.tuple #[.slice none 0 0, eIO]) else
  ∃ r, e = .returned (.tuple #[.slice (some ⟨r, 0, none⟩) 128 128, .nilIface]) /\ w'.heap[r]? = some (.cells (u8s (D.view i)).toArray 5 (0, 0)) /\ w.heap.size <= r
def RdI (w1 : World) (b0 : List UInt8) (i : Nat) (q : List Wt) (ix : Value) (wr : World) : Prop :=
 ∃ j : Nat, j <= q.length /\ ix = .int .i64 j /\ wr.heap[w1.heap.size]? = some (.cells (u8s (vf b0 i (q.take j))).toArray 5 (0, 0)) /\ y5 [] w1 wr
theorem Q0p (a : Nat) (bv : Value) (n : Nat) (cv : Value) (D : Dv) (i : Nat) (w : World) (h : DQ w a bv n cv D) (hi : i < n) (_hn : n <= 1000) (hq : D.q.length <= 1000000) :
  Calls prog 171 #[.pointer (some ⟨a, 0, none⟩), .int .i64 i] w (Q0o a bv n cv D i w) := by
 have mk := Q0f
 go_enter func171, ntmps171
 go_wp2_with fail
 refine (Q0a a _ _ D w h.d).mono ?_
 rintro e w1 ⟨rfl, hd1, hk1, -⟩
 have h1 : DQ w1 a bv n cv D.tick := h.upd hk1 hd1 rfl rfl
 cases hb : D.bad with
 | true =>
  have FIN : Hid (Q0o a bv n cv D i w (.returned (.tuple #[.slice none 0 0, eIO])) w1) := ⟨h1, hk1, by rw [hb]; rfl⟩
  go_wp2
  go_ret2
  exact FIN.out
 | false =>
 obtain ⟨g, bc, bcur, rfl, hbg, _, hb1, hb2, hb3, hb4⟩ := jc h1.b (by omega)
 go_wp2_with fail
 refine (Q0b a _ n _ _ _ i w1 hd1 (by omega) (by omega)).mono ?_
 rintro e w2 ⟨rfl, rfl⟩
 obtain ⟨p, cap, rfl⟩ := qF h.o
 have c0 : w2.cell? ⟨a, 0, none⟩ = some (.slice (some ⟨g, 0, none⟩) n bc) := y6 hd1 rfl
 have hlb := gx D.L n i h.l hi
 have hsz := yt hd1
 have hsg := yt hbg
 go_wp2_with (first
  | (at_make; refine gJ rfl _ _ _ rfl _ _ rfl rfl _ _ (Q0f w2) ?_; intro w3 hn3 hk3 _; have h3 := h1.k0 hk3; have c03 : w3.cell? ⟨a, 0, none⟩ = some (.slice (some ⟨g, 0, none⟩) n bc) := y6 h3.d rfl; have hbg3 := hk3.get hbg (by simp))
  | (refine gQ 83 83 5 underlying83 su8 w2.heap.size 0 128 128 ⟨g, i * 128, none⟩ 128 128 (zl 128) 5 hn3 (u8s (yz D.L i)) (by rw [yd, hlb]; exact (Nat.min_self 128).symm) (jd hbg3 fun j v hv => QX hb4 (Q0n D.L i j v hv)) (by rw [yd, Zi, hlb]; omega) (qv _) ?_; intro w4 hg4 hk4; have hK4 : y5 [] w2 w4 := hk3.trans2 hk4 (by intro x hx; simp at hx; subst hx; exact Or.inr (Nat.le_refl _)); have h4 := h1.k0 hK4; have c04 : w4.cell? ⟨a, 1, none⟩ = some (.slice p D.q.length cap) := y6 h4.d rfl))
 rw [jM _ _ (by rw [Zi, yd, hlb])] at hg4
 clear c0 c03 h3
 go_loopw [8, 32] (fun _ ix wr => RdI w2 (yz D.L i) i D.q ix wr) (fun _ ix _ => D.q.length - (intOf ix).toNat)
 case atStart => exact ⟨0, Nat.zero_le _, rfl, hg4, hK4⟩
 case round =>
  obtain ⟨j, hj, rfl, hr, hkr⟩ := hrel
  by_cases hlt : j < D.q.length
  ·have hlt' : (j : Int) < (D.q.length : Int) := by omega
   obtain ⟨x, hx⟩ : ∃ x, D.q[j]? = some x := ⟨_, List.getElem?_eq_getElem hlt⟩
   obtain ⟨x1, x2⟩ := h.q x (List.mem_of_getElem? hx)
   obtain ⟨b, cap', cur, e, hbq, hcur⟩ := (h1.k0 hkr).at_ hx
   cases e
   have hwl : (wc x).length = 129 := by simp [wc, qq, yd, x2]
   have hld := yV (P := prog) wr b (j * 129) 82 82 cur (wc x) (0, 0) _ hbq underlying82 rfl (by rw [gL, hwl]) hcur
   have hvl := Q0m (i := i) hlb (q := D.q.take j) (n := n) fun y hy => h.q y (List.mem_of_mem_take hy)
   have hnext := Q0l (yz D.L i) i (D.q.take j) x
   rw [<- qr D.q j x hx] at hnext
   clear hcur
   by_cases hxi : x.1 = i
   ·rw [if_pos hxi] at hnext
    have HN : Hid _ := hnext
    clear hnext
    have hxi' : ((x.1 : Int) = (i : Int)) := by omega
    go_wp2_with (first
     | (refine y8 rfl _ _ (ya 63 (.tmp 30) (.tmp 32) rfl b 0 D.q.length cap j 129 rfl rfl 82 underlying63 gL hlt (j * 129) (by omega)) ?_)
     | (refine ye rfl 82 (.tmp 34) rfl ⟨b, j * 129, none⟩ rfl (.agg (wc x).toArray) hld ?_)
     | (refine qx rfl 82 rfl _ (Q0i _) ?_; intro w5 hn5 hk5 _)
     | (refine yb rfl 82 (.tmp 8) (.tmp 35) rfl wr.heap.size (wc x).toArray rfl rfl 82 _ hn5 (by rw [gL]; simp [hwl]) (by simp [hwl, qq, zl]) (yU (Q0j x)) ?_; intro w6 hn6 hk6; have c6 : w6.cell? ⟨wr.heap.size, 0, none⟩ = some (.int .i64 x.1) := y6 hn6 rfl)
     | (refine gQ 83 83 5 underlying83 su8 w2.heap.size 0 128 128 ⟨wr.heap.size, 1, none⟩ 128 128 (u8s (vf (yz D.L i) i (D.q.take j))) 5 (hk6.get (hk5.get hr (by simp)) (by have := yt hr; simp; omega)) (u8s x.2) (by rw [yd, x2]; exact (Nat.min_self 128).symm) (jd hn6 (by intro k u hu; rw [Nat.add_comm]; exact hu)) (by rw [yd, yd, x2, hvl]; omega) (qv _) ?_; intro w7 hg7 hk7))
    rw [jM _ _ (by rw [yd, yd, x2, hvl])] at hg7
    have K7 : y5 [] w2 w7 := ((hkr.trans hk5).trans2 hk6 (by intro y hy; simp at hy; subst hy; exact Or.inr hkr.size)).trans2 hk7 (by intro y hy; simp at hy; subst hy; exact Or.inr (Nat.le_refl _))
    go_roundw
    case rel => exact ⟨j + 1, by omega, by go_num, by rw [HN.out]; exact hg7, K7⟩
    case measure => simp [intOf]; omega
   ·rw [if_neg hxi] at hnext
    have HN : Hid _ := hnext
    clear hnext
    have hxi' : ¬ ((x.1 : Int) = (i : Int)) := by omega
    go_wp2_with (first
     | (refine y8 rfl _ _ (ya 63 (.tmp 30) (.tmp 32) rfl b 0 D.q.length cap j 129 rfl rfl 82 underlying63 gL hlt (j * 129) (by omega)) ?_)
     | (refine ye rfl 82 (.tmp 34) rfl ⟨b, j * 129, none⟩ rfl (.agg (wc x).toArray) hld ?_)
     | (refine qx rfl 82 rfl _ (Q0i _) ?_; intro w5 hn5 hk5 _)
     | (refine yb rfl 82 (.tmp 8) (.tmp 35) rfl wr.heap.size (wc x).toArray rfl rfl 82 _ hn5 (by rw [gL]; simp [hwl]) (by simp [hwl, qq, zl]) (yU (Q0j x)) ?_; intro w6 hn6 hk6; have c6 : w6.cell? ⟨wr.heap.size, 0, none⟩ = some (.int .i64 x.1) := y6 hn6 rfl))
    have hr6 := hk6.get (hk5.get hr (by simp)) (by have := yt hr; simp; omega)
    have K6 : y5 [] w2 w6 := (hkr.trans hk5).trans2 hk6 (by intro y hy; simp at hy; subst hy; exact Or.inr hkr.size)
    go_roundw
    case rel => exact ⟨j + 1, by omega, by go_num, by rw [HN.out]; exact hr6, K6⟩
    case measure => simp [intOf]; omega
  ·have hge : ¬ (j : Int) < (D.q.length : Int) := by omega
   have ej : j = D.q.length := by omega
   subst ej
   rw [List.take_length] at hr
   have FIN : Hid (Q0o a (.slice (some ⟨g, 0, none⟩) n bc) n (.slice p D.q.length cap) D i w (.returned (.tuple #[.slice (some ⟨w2.heap.size, 0, none⟩) 128 128, .nilIface])) wr) :=
    ⟨h1.k0 hkr, hk1.trans2 hkr (by simp), by rw [hb]; exact ⟨_, rfl, hr, hk1.size⟩⟩
   go_wp2
   go_ret2
   exact FIN.out
section
variable {P : Program} {ops : Array Oper} {Q : Exit -> Act -> World -> Prop} {md : Region.Mode} {S : World -> Prop} {k : Nat}
def jE (P : Program) (md : Region.Mode) (ops : Array Oper) (Q : Exit -> Act -> World -> Prop) (S : World -> Prop) (k : Nat) : Nat -> Array Bool -> Act -> World -> Prop
 | 0, listed, a, w => Region.ready md ops listed = [] /\ Q .normal a w
 | fuel + 1, listed, a, w =>
  (Region.ready md ops listed = [] -> Q .normal a w) /\
  ∀ i ∈ Region.ready md ops listed, wpOp P ops Q i (fun a' w' => (i ≠ k -> S w') /\ jE P md ops Q S k fuel (listed.setIfInBounds i true) a' w') a w
theorem Q0q : ∀ (fuel : Nat) (listed : Array Bool) (a : Act) (w : World), jE P md ops Q S k fuel listed a w -> wpAny P md ops Q fuel listed a w
 | 0, _, _, _, h => h
 | fuel + 1, _, _, _, h => ⟨h.1, fun i hi => wpOp_mono (fun a' w' h' => Q0q fuel _ a' w' h'.2) (h.2 i hi)⟩
theorem Q0r {i : Nat} {oi ok : Oper} {v : Value} (hi : ops[i]? = some oi) (hok : ops[k]? = some ok) (hwait : ∃ e ∈ ok.after, Region.binds md e = true /\ e.on = i) (hsel : ∀ (j : Nat) (o : Oper) cs b, ops[j]? = some o -> o.op ≠ .select cs b)
  (hQ : ∀ c a w, Q (.panic c) (a.put oi.dst v) w -> Q (.panic c) a w) :
  ∀ (fuel : Nat) (listed : Array Bool) (a : Act) (w : World),
   (∀ j oj, ops[j]? = some oj -> j ≠ i -> listed.getD j true = false -> (∀ e ∈ oj.after, Region.binds md e = true -> e.on ≠ i) -> oi.apart ops oj = true) ->
   i ∈ Region.ready md ops listed -> YieldsIf P ops S oi v a -> S w ->
   jE P md ops Q S k fuel (listed.setIfInBounds i true) (a.put oi.dst v) w -> jE P md ops Q S k (fuel + 1) listed a w := by
 intro fuel
 induction fuel with
 | zero =>
  intro listed a w _ hr hy hS H
  refine ⟨fun h => (by rw [h] at hr; cases hr), fun j hj => ?_⟩
  by_cases hji : j = i
  ·subst hji; exact hy.wpOp hi hS ⟨fun _ => hS, H⟩
  ·have := ready_mono hj hji
   rw [H.1] at this
   cases this
 | succ fuel ih =>
  intro listed a w hfree hr hy hS H
  refine ⟨fun h => (by rw [h] at hr; cases hr), fun j hj => ?_⟩
  by_cases hji : j = i
  ·subst hji; exact hy.wpOp hi hS ⟨fun _ => hS, H⟩
  ·have h1 := H.2 j (ready_mono hj hji)
   obtain ⟨hjun, oj, hoj, hall⟩ := mem_ready.1 hj
   have hnot : ∀ e ∈ oj.after, Region.binds md e = true -> e.on ≠ i := fun e he hb heq => by
    have h1 := hall e he hb
    have h0 := (mem_ready.1 hr).1
    rw [heq] at h1
    rcases Nat.lt_or_ge i listed.size with h' | h'
    ·simp [h'] at h0 h1; rw [h0] at h1; cases h1
    ·simp [Array.getElem?_eq_none h'] at h1
   have hjk : j ≠ k := by
    intro e
    subst e
    rw [hok] at hoj
    cases hoj
    obtain ⟨e, he, hb, hon⟩ := hwait
    exact hnot e he hb hon
   have h2 := wpOp_putIf hoj (hfree j oj hoj hji hjun hnot) (fun cs b => hsel i oi cs b hi) (fun cs b => hsel j oj cs b hoj) hQ hy h1
   have hfree' : ∀ k ok, ops[k]? = some ok -> k ≠ i -> (listed.setIfInBounds j true).getD k true = false ->
     (∀ e ∈ ok.after, Region.binds md e = true -> e.on ≠ i) -> oi.apart ops ok = true := fun k ok hk hki hun hno => by
    refine hfree k ok hk hki ?_ hno
    by_cases hjk : j = k
    ·subst hjk; exact hjun
    ·rw [getD_set_ne true hjk] at hun; exact hun
   refine wpOp_mono (fun a' w' h3 => ⟨h3.2.1, ih (listed.setIfInBounds j true) a' w' hfree' (ready_mono hr (Ne.symm hji)) h3.1 (h3.2.1 hjk) ?_⟩) h2
   rw [Array.setIfInBounds_comm _ _ hji]
   exact h3.2.2
def Q0s (md : Region.Mode) (ops : Array Oper) (k i : Nat) : Bool := match ops[k]? with
 | some o => o.after.any fun e => Region.binds md e && e.on == i
 | none => false
theorem Q0t {i : Nat} (h : Q0s md ops k i = true) : ∃ ok, ops[k]? = some ok /\ ∃ e ∈ ok.after, Region.binds md e = true /\ e.on = i := by
 unfold Q0s at h
 cases hk : ops[k]? with
 | none => rw [hk] at h; cases h
 | some o =>
  rw [hk] at h
  refine ⟨o, rfl, ?_⟩
  simp only [Array.any_eq_true] at h
  obtain ⟨j, hj, h⟩ := h
  simp only [Bool.and_eq_true, beq_iff_eq] at h
  exact ⟨o.after[j], Array.getElem_mem hj, h.1, h.2⟩
theorem Q6 {i : Nat} {oi : Oper} {v : Value} {fuel : Nat} {listed : Array Bool} {a : Act} {w : World} (hi : ops[i]? = some oi)
  (hs : Region.noSelect ops = true) (hf : Region.free md ops listed i = true) (hr : (Region.ready md ops listed).contains i = true) (hw : Q0s md ops k i = true)
  (hQ : ∀ c a w, Q (.panic c) (a.put oi.dst v) w -> Q (.panic c) a w) (hy : YieldsIf P ops S oi v a) (hS : S w)
  (h : jE P md ops Q S k fuel (listed.setIfInBounds i true) (a.put oi.dst v) w) : jE P md ops Q S k (fuel + 1) listed a w := by
 obtain ⟨ok, hok, hwait⟩ := Q0t hw
 exact Q0r hi hok hwait (Region.noSelect_spec hs) hQ fuel listed a w (Region.free_spec hi hf) (by simpa using hr) hy hS h
def okK (md : Region.Mode) (ops : Array Oper) (listed : Array Bool) (k i : Nat) : Bool := Region.noSelect ops && Region.free md ops listed i && (Region.ready md ops listed).contains i && Q0s md ops k i
theorem kt {i : Nat} {oi : Oper} {v : Value} {fuel : Nat} {listed : Array Bool} {a : Act} {w : World} (hi : ops[i]? = some oi) (hc : okK md ops listed k i = true) (hg : Region.wanted oi (yielded ops a.tmps) = true)
  (hy : ∀ W, S W -> (execOp a.eval oi).run P W = .ok (.value v) W) (hQ : ∀ c a w, Q (.panic c) (a.put oi.dst v) w -> Q (.panic c) a w) (hS : S w)
  (h : jE P md ops Q S k fuel (listed.setIfInBounds i true) (a.put oi.dst v) w) : jE P md ops Q S k (fuel + 1) listed a w := by
 simp only [okK, Bool.and_eq_true] at hc
 exact Q6 hi hc.1.1.1 hc.1.1.2 hc.1.2 hc.2 hQ (Or.inl ⟨hg, hy⟩) hS h
theorem Qk {i : Nat} {fuel : Nat} {listed : Array Bool} {a : Act} {w : World} (hr : Region.ready md ops listed = [i])
  (h : wpOp P ops Q i (fun a' w' => (i ≠ k -> S w') /\ jE P md ops Q S k fuel (listed.setIfInBounds i true) a' w') a w) : jE P md ops Q S k (fuel + 1) listed a w :=
 ⟨fun h0 => absurd (hr ▸ h0) (by simp), by intro j hj; rw [hr] at hj; simp at hj; subst hj; exact h⟩
theorem Q7 {listed : Array Bool} {a : Act} {w : World} (hr : Region.ready md ops listed = []) (h : Q .normal a w) :
  ∀ fuel, jE P md ops Q S k fuel listed a w
 | 0 => ⟨hr, h⟩
 | _ + 1 => ⟨fun _ => h, by rw [hr]; simp⟩
theorem Q8 {id : Nat} {a : Act} {w : World} (S : World -> Prop) (k : Nat) (hm : P.follows .mixedOrders = true)
  (h : jE P .any ops Q S k ops.size (Array.replicate ops.size false) a w.drew) : (Code.region id ops true).wp P Q a w :=
 wp_region_any hm (Q0q _ _ _ _ h)
end
theorem yj {P : Program} {ops : Array Oper} {Q : Exit -> Act -> World -> Prop} {id : Nat} {a : Act} {w : World} (S : World -> Prop) (hm : P.follows .mixedOrders = true)
  (h : wpAnyH P .any ops Q S ops.size (Array.replicate ops.size false) a w.drew) : (Code.region id ops true).wp P Q a w := wp_region_held hm h
theorem gy {P : Program} {o : Oper} {a : Act} {w : World} (t : TypeId) (x : Operand) (ho : o.op = .box t x) (cs : Array Value) (hx : a.eval x = .agg cs) :
  (execOp a.eval o).run P w = .ok (.value (.pointer (some ⟨w.heap.size, 0, none⟩))) (w.alloc (.cells cs t)) := by
 simp [execOp, ho, hx, Instr.box, newVar, newRow, Value.cells]
theorem ZM {P : Program} {o : Oper} {a : Act} {w : World} (t : TypeId) (x y : Operand) (i j : Nat) (ho : o.op = .build t #[(i, x), (j, y)]) (vx vy v : Value) (hx : a.eval x = vx) (hy : a.eval y = vy) (hr : (Instr.build t #[(i, vx), (j, vy)]).run P w = .ok v w) :
  (execOp a.eval o).run P w = .ok (.value v) w := by
 simp [execOp, ho, hx, hy, hr]
theorem yu {P : Program} {o : Oper} {a : Act} {w : World} (t : TypeId) (x : Operand) (lo hi mx : Option Operand) (ho : o.op = .slice t x lo hi mx) (vx : Value) (vl vh vm : Option Value) (hx : a.eval x = vx) (h1 : lo.map a.eval = vl) (h2 : hi.map a.eval = vh) (h3 : mx.map a.eval = vm) (r : Value) (hr : (Instr.sliceAt t vx vl vh vm).run P w = .ok r w) :
  (execOp a.eval o).run P w = .ok (.value r) w := by
 subst hx h1 h2 h3
 simp [execOp, ho, hr]
theorem yG {P : Program} {o : Oper} {a : Act} {w w' : World} (x y : Operand) (t u : TypeId) (ho : o.op = .call { callee := .builtin .append, args := #[x, y], argTypes := #[t, u] }) (vx vy : Value) (hx : a.eval x = vx) (hy : a.eval y = vy) (v : Value)
  (hrun : (Builtin.append_ #[t, u] o.type #[vx, vy]).run P w = .ok v w') : (execOp a.eval o).run P w = .ok (.value v) w' := by
 simp [execOp, ho, resolve, invoke, builtin, hx, hy, hrun, Result.andThen]
theorem jS {P : Program} {o : Oper} {a : Act} {w w' : World} (x : Operand) (t : TypeId) (ho : o.op = .call { callee := .builtin .clear, args := #[x], argTypes := #[t] }) (vx : Value) (hx : a.eval x = vx) (v : Value)
  (hrun : (Builtin.clear_ #[t] o.type #[vx]).run P w = .ok v w') : (execOp a.eval o).run P w = .ok (.value v) w' := by
 simp [execOp, ho, resolve, invoke, builtin, hx, hrun, Result.andThen]
theorem yT {P : Program} {o : Oper} {a : Act} {w w' : World} (x y : Operand) (t u : TypeId) (ho : o.op = .call { callee := .builtin .copy, args := #[x, y], argTypes := #[t, u] }) (vx vy : Value) (hx : a.eval x = vx) (hy : a.eval y = vy) (v : Value)
  (hrun : (Builtin.copy_ #[t, u] o.type #[vx, vy]).run P w = .ok v w') : (execOp a.eval o).run P w = .ok (.value v) w' := by
 simp [execOp, ho, resolve, invoke, builtin, hx, hy, hrun, Result.andThen]
theorem q0 {P : Program} {o : Oper} {a : Act} {w : World} (x : Operand) (t e : TypeId) (ho : o.op = .call { callee := .builtin .len, args := #[x], argTypes := #[t] }) (ao : Option Addr) (n cap : Nat) (hx : a.eval x = .slice ao n cap) (hu : P.underlying t = some (.slice e)) :
  (execOp a.eval o).run P w = .ok (.value (.int .i64 n)) w := by
 have hl : (Builtin.len_ #[t] o.type #[.slice ao n cap]).run P w = .ok (goInt n) w := by
  simp [Builtin.len_, run_underlying hu]
 simp [execOp, ho, resolve, invoke, builtin, hx, hl, goInt]
theorem yy {P : Program} {ops : Array Oper} {Q : Exit -> Act -> World -> Prop} {i : Nat} {o : Oper} {K : Act -> World -> Prop} {a : Act} {w : World} (ho : ops[i]? = some o) (hw : Region.wanted o (yielded ops a.tmps) = true) (v : Value) (w' : World)
  (hrun : (execOp a.eval o).run P w = .ok (.value v) w') (h : K (a.put o.dst v) w') : wpOp P ops Q i K a w :=
 wpOp_step ho fun K' hK => by rw [if_pos hw]; unfold Oper.wp; rw [hrun]; exact hK _ _ h
section
variable {P : Program} {ops : Array Oper} {Q : Exit -> Act -> World -> Prop} {md : Region.Mode} {S : World -> Prop}
def okH (md : Region.Mode) (ops : Array Oper) (listed : Array Bool) (i : Nat) : Bool := Region.noSelect ops && Region.free md ops listed i && (Region.ready md ops listed).contains i
theorem ht {i : Nat} {oi : Oper} {v : Value} {fuel : Nat} {listed : Array Bool} {a : Act} {w : World} (hi : ops[i]? = some oi) (hc : okH md ops listed i = true) (hg : Region.wanted oi (yielded ops a.tmps) = true)
  (hy : ∀ W, S W -> (execOp a.eval oi).run P W = .ok (.value v) W) (hQ : ∀ c a w, Q (.panic c) (a.put oi.dst v) w -> Q (.panic c) a w) (hS : S w)
  (h : wpAnyH P md ops Q S fuel (listed.setIfInBounds i true) (a.put oi.dst v) w) : wpAnyH P md ops Q S (fuel + 1) listed a w := by
 simp only [okH, Bool.and_eq_true] at hc
 exact wpAnyH_take hi hc.1.1 hc.1.2 hc.2 hQ (Or.inl ⟨hg, hy⟩) hS h
theorem hu (i : Nat) {oi : Oper} (v : Value) {fuel : Nat} {listed : Array Bool} {a : Act} {w : World} (hi : ops[i]? = some oi) (hy : ∀ W, S W -> (execOp a.eval oi).run P W = .ok (.value v) W) (hS : S w)
  (h : wpAnyH P md ops Q S fuel (listed.setIfInBounds i true) (a.put oi.dst v) w) (hc : okH md ops listed i = true := by kernel_rfl) (hg : Region.wanted oi (yielded ops a.tmps) = true := by rfl)
  (hQ : ∀ c a w, Q (.panic c) (a.put oi.dst v) w -> Q (.panic c) a w := by exact fun _ _ _ h => h) : wpAnyH P md ops Q S (fuel + 1) listed a w := ht hi hc hg hy hQ hS h
end
theorem Q0u : Tryz.zeroCells82 = (qq 0 (zl 128)).toArray := by kernel_rfl
theorem Q0v (i : Int) : Tryz.zeroCells82.setIfInBounds 0 (.int .i64 i) = (qq i (zl 128)).toArray := by rw [Q0u]; simp [qq]
theorem Q0w : (prog.info? 82).map (fun i => (i.zero, i.size, i.bytes)) = some (some (.agg (qq 0 (zl 128)).toArray), 129, 136) := by kernel_rfl
theorem Q0x : (prog.info? 63).map (·.size) = some 1 := by kernel_rfl
theorem Q0y (i : Int) (B : List UInt8) (h : B.length = 128) : splice (qq i (zl 128)) 1 (u8s B) = qq i (u8s B) := by
 simp [splice, qq, yd, h, zl]
theorem qL {w w' : World} {row : Option Nat} (h : w.grownBy w' row) (S : List Nat) (hr : ∀ k, row = some k -> k ∈ S) : y5 S w w' :=
 ⟨h.os, h.tape, h.output, h.size, fun k hk hn => h.block k hk fun e => hn (hr k e.symm)⟩
theorem Q0z {w : World} {base e size n : Nat} {v : Value} {xs : List Value} (h : w.ownsRow base e size v n xs) : v.oneCell' = true := by
 obtain ⟨_, ⟨rfl, _⟩ | ⟨g, cap, cur, rfl, _⟩⟩ := h <;> rfl
theorem Q0A {P : Program} (w : World) (t e : TypeId) (i : TypeInfo) (z : Value) (size bytes : Nat) (ht : P.underlying t = some (.slice e)) (hi : P.info? e = some i) (hz : i.zero = some z) (hs : i.size = size) (hb : i.bytes = bytes) (hzs : z.cells.size = size) (h0 : 0 < size)
  (v : Value) (n : Nat) (xs : List Value) (hown : w.ownsRow 0 e size v n xs) (a : Addr) (m c : Nat) (news : List Value) (hl : news.length = m * size) (hnews : ∀ j u, news[j]? = some u -> w.cell? (a.add j) = some u) (h1 : ∀ u ∈ news, u.oneCell' = true)
  (h63 : n + m <= maxLen) (hbytes : (n + m) * bytes <= 140737488355328) :
  ∃ v' w', (Builtin.append_ #[t, t] t #[v, .slice (some a) m c]).run P w = .ok v' w' /\ w'.ownsRow 0 e size v' (n + m) (xs ++ news) /\ y5 v.ownBlock.toList w w' /\ ∀ y, v'.ownBlock = some y -> v.ownBlock = some y \/ w.heap.size <= y := by
 obtain ⟨v', w', hr, ho, hg, _⟩ := run_append_own (P := P) w 0 t t e i z size bytes ht hi hz hs hb hzs h0 v n xs hown a m c news hl hnews h1 h63 hbytes (Nat.zero_le _)
 refine ⟨v', w', hr, ho, qL hg _ (by intro x hx; rw [hx]; simp), fun y hy => ?_⟩
 obtain ⟨hx, ⟨rfl, rfl⟩ | ⟨g, cap, cur, rfl, hB, hh, h2, h3, h4, h5⟩⟩ := hown
 ·have hnil : xs = [] := List.eq_nil_of_length_eq_zero (by rw [hx, Nat.zero_mul])
  obtain ⟨v2, w2, hr2, ho2, _⟩ := run_append_own (P := P) w w.heap.size t t e i z size bytes ht hi hz hs hb hzs h0 (.slice none 0 0) 0 [] (World.ownsRow_nil _ _ _ _) a m c news hl hnews h1 h63 hbytes (Nat.le_refl _)
  rw [hr] at hr2
  cases hr2
  exact Or.inr (ho2.lt y hy).1
 ·by_cases hroom : n + m <= cap
  ·obtain ⟨w2, hr2, _⟩ := run_append_own_spare (P := P) w 0 t t e i size ht hi hs g n cap xs ⟨hx, Or.inr ⟨g, cap, cur, rfl, hB, hh, h2, h3, h4, h5⟩⟩ a m c news hl hnews h1 hroom
   rw [hr] at hr2
   cases hr2
   exact Or.inl hy
  ·subst hs hb
   have holds : ∀ j u, xs[j]? = some u -> w.cell? ((⟨g, 0, none⟩ : Addr).add j) = some u := by
    intro j u hj
    rw [add_lit, cell_of_row _ _ _ _ _ _ hh]
    have hjl := (List.getElem?_eq_some_iff.1 hj).1
    rw [<- h5, List.getElem?_take, if_pos (by omega)] at hj
    simpa using hj
   have hr2 := run_append_grow (P := P) w t t e i z ht hi hz ⟨g, 0, none⟩ n cap xs hx holds a m c news hl hnews (by omega) (by unfold maxLen at h63; omega) (growslice_fits (by omega) hbytes)
   rw [hr] at hr2
   cases hr2
   simp only [Value.ownBlock, Option.some.injEq] at hy
   exact Or.inr (Nat.le_of_eq hy)
def Dv.put (D : Dv) (i : Nat) (B : List UInt8) : Dv := { D.tick with q := D.q ++ [(i, B)], wr := wrap64 (D.wr + 1) }
def QB (a : Nat) (bv : Value) (n : Nat) (cv : Value) (D : Dv) (i : Nat) (B : List UInt8) (w : World) (e : Ending) (w' : World) : Prop :=
 if D.bad then e = .returned eIO /\ DQ w' a bv n cv D.tick /\ y5 [a] w w' else
  e = .returned .nilIface /\ ∃ cv', DQ w' a bv n cv' (D.put i B) /\ y5 (ym a bv cv) w w' /\ ∀ y, cv'.ownBlock = some y -> cv.ownBlock = some y \/ w.heap.size <= y
theorem Q0B (a : Nat) (bv : Value) (n s : Nat) (cv : Value) (D : Dv) (B : List UInt8) (t' : TypeId) (i : Nat) (w : World) (h : DQ w a bv n cv D) (hi : i < n) (hB : B.length = 128)
  (hs : w.heap[s]? = some (.cells (u8s B).toArray t' (0, 0))) (hsa : s ≠ a) (hq : D.q.length <= 1000000) :
  Calls prog 172 #[.pointer (some ⟨a, 0, none⟩), .int .i64 i, .slice (some ⟨s, 0, none⟩) 128 128] w (QB a bv n cv D i B w) := by
 go_enter func172, ntmps172
 go_wp2_with fail
 refine (Q0a a _ _ D w h.d).mono ?_
 rintro e w1 ⟨rfl, hd1, hk1, -⟩
 have h1 : DQ w1 a bv n cv D.tick := h.upd hk1 hd1 rfl rfl
 cases hb : D.bad with
 | true =>
  have FIN : Hid (QB a bv n cv D i B w (.returned eIO) w1) := by show QB a bv n cv D i B w (.returned eIO) w1; unfold QB; rw [hb]; exact ⟨rfl, h1, hk1⟩
  go_wp2
  go_ret
  exact FIN.out
 | false =>
 obtain ⟨bp, bc, rfl⟩ := qF h.b
 go_wp2_with fail
 refine (Q0b a _ n _ _ _ i w1 hd1 (by omega) (by omega)).mono ?_
 rintro e w2 ⟨rfl, rfl⟩
 have hs2 := hk1.get hs (by simpa using hsa)
 have hla := yt hd1
 have hls := yt hs2
 go_wp2_with (first
  | (refine qx rfl 82 rfl _ (Q0i _) ?_; intro w3 hn3 hk3 _; have hs3 := hk3.get hs2 (by simp))
  | (refine yb rfl 82 (.tmp 7) (.tmp 17) rfl w2.heap.size (qq i (zl 128)).toArray rfl (by simp only [Act.eval]; exact congrArg Value.agg (Q0v i)) 82 _ hn3 (by rw [gL]; simp [qq, zl]) (by simp [qq, zl]) (yU (Q0h _ _ (Q0g _))) ?_; intro w4 hn4 hk4; have hs4 := hk4.get hs3 (by simp; omega))
  | (refine gQ 83 83 5 underlying83 su8 w2.heap.size 1 128 128 ⟨s, 0, none⟩ 128 128 (qq i (zl 128)) 82 hn4 (u8s B) (by rw [yd, hB]; exact (Nat.min_self 128).symm) (Zj hs4) (by simp [qq, zl, yd, hB]) (qv _) ?_; intro w5 hg5 hk5))
 rw [Q0y _ _ (by rw [hB])] at hg5
 have own : ∀ y ∈ [w2.heap.size], y ∈ ([] : List Nat) \/ w2.heap.size <= y := by intro y hy; simp at hy; subst hy; exact Or.inr (Nat.le_refl _)
 have K5 : y5 [] w2 w5 := (hk3.trans2 hk4 own).trans2 hk5 own
 have h5 : DQ w5 a (.slice bp n bc) n cv D.tick := h1.k0 K5
 have hwl : (wc (i, B)).length = 129 := by simp [wc, qq, yd, hB]
 have hS : w5.drew.heap[w2.heap.size]? = some (.cells (wc (i, B)).toArray 82 (0, 0)) /\ DC w5.drew a (.slice bp n bc) cv D.tick := ⟨hg5, h5.d⟩
 refine Q8 (fun W => W.heap[w2.heap.size]? = some (.cells (wc (i, B)).toArray 82 (0, 0)) /\ DC W a (.slice bp n bc) cv D.tick) 10 (by kernel_rfl) ?_
 refine kt (i := 0) (v := .pointer (some ⟨a, 0, none⟩)) rfl (by kernel_rfl) (by rfl) (fun W hW => by rfl) (fun _ _ _ h => h) hS ?_
 refine kt (i := 1) (v := .pointer (some ⟨a, 0, none⟩)) rfl (by kernel_rfl) (by rfl) (fun W hW => by rfl) (fun _ _ _ h => h) hS ?_
 refine kt (i := 2) (v := .pointer (some ⟨a, 0, none⟩)) rfl (by kernel_rfl) (by rfl) (fun W hW => by rfl) (fun _ _ _ h => h) hS ?_
 refine kt (i := 3) (v := .pointer (some ⟨a, 1, none⟩)) rfl (by kernel_rfl) (by rfl) (fun W hW => by rfl) (fun _ _ _ h => h) hS ?_
 refine kt (i := 4) (v := cv) rfl (by kernel_rfl) (by rfl) (fun W hW => y9 63 (.tmp 25) rfl ⟨a, 1, none⟩ rfl _ (yh underlying63 rfl (y6 hW.2 rfl))) (fun _ _ _ h => h) hS ?_
 refine kt (i := 5) (v := .agg (wc (i, B)).toArray) rfl (by kernel_rfl) (by rfl) (fun W hW => y9 82 (.tmp 7) rfl _ rfl _ (run_loadVar_row W _ _ _ _ _ _ hW.1 underlying82 rfl (by rw [gL]; simp [hwl]))) (fun _ _ _ h => h) hS ?_
 obtain ⟨ie, hie, hz1, hz2, hz3⟩ := info_parts Q0w
 have hbs := ZL (P := prog) w5.drew 63 82 (wc (i, B)).toArray ie _ underlying63 hie hz1 (by rw [hz2]; simp [hwl]) (by simp [hwl]) (by simp [hwl])
 have K6 : y5 [] w5 (w5.drew.alloc (.cells (wc (i, B)).toArray 82)) := (y5.refl [] w5).drew.alloc _
 have h6 := h5.k0 K6
 have n6 := heap_alloc_new w5.drew (.cells (wc (i, B)).toArray 82)
 have g6 := K6.get hg5 (by simp)
 obtain ⟨v', w8, hr8, hown8, k8, hwh⟩ := Q0A (P := prog) (w5.drew.alloc (.cells (wc (i, B)).toArray 82)) 63 82 ie _ 129 136 underlying63 hie hz1 hz2 hz3 (by simp [Value.cells, qq, zl]) (by omega) cv D.q.length (fl (D.q.map wc)) h6.o ⟨w5.heap.size, 0, none⟩ 1 1 (wc (i, B)) (by simp [hwl]) (Zj n6) (Q0j _) (by unfold maxLen; omega) (by omega)
 have nca := h6.nq
 have d8 : DC w8 a (.slice bp n bc) cv D.tick := k8.get h6.d (by intro hx; exact (nca a (by simpa using hx)).1 rfl)
 have b8 := yQ h6.b k8 (by intro y hy hx; exact (nca y (by simpa using hx)).2 hy)
 have ncb : ∀ y, cv.ownBlock = some y -> y < w2.heap.size := fun y hy => h1.lt y (by simp [ym, hy])
 have g8 := k8.get g6 (by intro hx; have := ncb w2.heap.size (by simpa using hx); omega)
 have v1 := Q0z hown8
 simp only [zP, zA, zB, zC, zD, zE, zF]
 refine Qk (i := 6) (by kernel_rfl) (j0 rfl rfl (.slice (some ⟨w5.heap.size, 0, none⟩) 1 1) _ (qf 63 1 (.tmp 27) rfl (.agg (wc (i, B)).toArray) rfl _ hbs) ⟨fun _ => ⟨g6, h6.d⟩, ?_⟩)
 simp only [zP, zA, zB, zC, zD, zE, zF]
 refine Qk (i := 7) (by kernel_rfl) (j0 rfl rfl v' w8 (Q5 (.tmp 26) (.tmp 28) 63 rfl cv (.slice (some ⟨w5.heap.size, 0, none⟩) 1 1) rfl rfl _ hr8) ⟨fun _ => ⟨g8, d8⟩, ?_⟩)
 simp only [zP, zA, zB, zC, zD, zE, zF]
 refine Qk (i := 8) (by kernel_rfl) (j0 rfl rfl (.pointer (some ⟨a, 0, none⟩)) w8 rfl ⟨fun _ => ⟨g8, d8⟩, ?_⟩)
 simp only [zP, zA, zB, zC, zD, zE, zF]
 refine Qk (i := 9) (by kernel_rfl) (j0 rfl rfl (.pointer (some ⟨a, 1, none⟩)) w8 rfl ⟨fun _ => ⟨g8, d8⟩, ?_⟩)
 simp only [zP, zA, zB, zC, zD, zE, zF]
 refine Qk (i := 10) (by kernel_rfl) (qo rfl rfl _ (yH 63 (.tmp 31) (.tmp 29) rfl ⟨a, 1, none⟩ rfl v' rfl (gK Q0x v1 d8 (by simp [Q06]))) ⟨fun hx => absurd rfl hx, ?_⟩)
 simp only [zP, zA, zB, zC]
 refine Q7 (by kernel_rfl) ?_ _
 have d9 := yg (i := 1) v' d8
 have k9 : y5 [a] w8 (w8.setCell ⟨a, 1, none⟩ v') := (y5.refl _ _).setCell (Or.inl (by simp)) _
 have nv : ∀ y, v'.ownBlock = some y -> y ≠ a := by
  intro y hy
  obtain ⟨cs, fr, hh⟩ := qy hown8 hy
  exact yP hh d8 (by decide)
 have o9 := yQ hown8 k9 fun y hy => by simpa using nv y hy
 have b9 := yQ b8 k9 fun y hy => by simpa using h.nb y hy
 generalize w8.setCell ⟨a, 1, none⟩ v' = w9 at *
 have e3 : w9.cell? ⟨a, 3, none⟩ = some (.int .i64 D.wr) := y6 d9 rfl
 have f3 : w9.frozen? ⟨a, 3, none⟩ = false := frozen_of_row _ _ _ _ _ d9
 have d10 := yg (i := 3) (.int .i64 (wrap64 (D.wr + 1))) d9
 have k10 : y5 [a] w9 (w9.setCell ⟨a, 3, none⟩ (.int .i64 (wrap64 (D.wr + 1)))) := (y5.refl _ _).setCell (Or.inl (by simp)) _
 have FIN : Hid (QB a (.slice bp n bc) n cv D i B w (.returned .nilIface) (w9.setCell ⟨a, 3, none⟩ (.int .i64 (wrap64 (D.wr + 1))))) := by
  show QB _ _ _ _ _ _ _ _ _ _
  unfold QB
  rw [hb]
  refine ⟨rfl, v', ⟨d10, yQ b9 k10 fun y hy => by simpa using h.nb y hy, ?_, ?_, fun e => by simp [Dv.put] at e⟩, ?_, ?_⟩
  ·have o10 := yQ o9 k10 fun y hy => by simpa using nv y hy
   have e1 : fl (D.q.map wc) ++ wc (i, B) = fl ((D.put i B).q.map wc) := by simp [Dv.put, fl]
   have e2 : D.q.length + 1 = (D.put i B).q.length := by simp [Dv.put]
   rw [e1, e2] at o10
   exact o10
  ·intro x hx
   simp only [Dv.put, List.mem_append, List.mem_singleton] at hx
   rcases hx with hx | rfl
   ·exact h.q x hx
   ·exact ⟨hi, hB⟩
  ·have sub : ∀ S : List Nat, (∀ y ∈ S, y ∈ ym a (.slice bp n bc) cv) -> ∀ y ∈ S, y ∈ ym a (.slice bp n bc) cv \/ w.heap.size <= y := fun S hS y hy => Or.inl (hS y hy)
   refine ((((hk1.mono (by simp [ym])).trans2 K5 (by simp)).trans2 K6 (by simp)).trans2 k8 (sub _ (by intro y hy; simp [ym] at hy ⊢; simp [hy]))).trans2 (k9.trans k10) (sub _ (by simp [ym]))
  ·intro y hy
   have := hk1.size; have := K5.size; have := K6.size
   exact (hwh y hy).imp id fun h => by omega
 clear d10
 go_wp2
 go_ret
 exact FIN.out
end Go.Proofs.YtcklgafpgdhnaabGreatDoor
