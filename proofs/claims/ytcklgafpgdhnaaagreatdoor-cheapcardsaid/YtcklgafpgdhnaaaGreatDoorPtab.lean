import Derived.Test.YtcklgafpgdhnaaaGreatDoorPtaa
import Derived.BigRegion
set_option maxRecDepth 100000
set_option maxHeartbeats 4000000
open List renaming getElem_toArray → zA, getElem_cons_succ → zB, getElem_cons_zero → zC, setIfInBounds_toArray → zD, set_cons_succ → zE, set_cons_zero → zF
namespace Go.Proofs.YtcklgafpgdhnaaaGreatDoor
open Go.RowKit

structure Dv where
 L : List UInt8
 q : List (Nat × List UInt8)
 c : Int
 wr : Int
 t : Int
 off : Int
 fr : Int
 to : Int
def dcells (bs cache : Value) (D : Dv) : Array Value :=
 #[bs, cache, .int .i64 D.c, .int .i64 D.wr, .int .i64 D.t, .int .i64 D.off, .int .i64 D.fr, .int .i64 D.to]
def Dv.bad (D : Dv) : Bool := (decide (0 ≤ D.off) && decide (D.off ≤ D.c)) || (decide (D.fr ≤ D.c) && decide (D.c < D.to))
def Dv.tick (D : Dv) : Dv := { D with c := wrap64 (D.c + 1), t := if D.bad then wrap64 (D.t + 1) else D.t }
def DC (w : World) (a : Nat) (bs cache : Value) (D : Dv) : Prop := w.heap[a]? = some (.cells (dcells bs cache D) 91 (0, 0))

def FailsR (a : Nat) (bs cache : Value) (D : Dv) (w : World) (e : Ending) (w' : World) : Prop :=
 e = .returned (.bool D.bad) ∧ DC w' a bs cache D.tick ∧ Kept [a] w w' ∧ w'.heap.size = w.heap.size
theorem fails_yes {a : Nat} {bs cache : Value} {D : Dv} {w : World} (h : DC w a bs cache D) (hb : D.bad = true) :
  FailsR a bs cache D w (.returned (.bool true)) ((w.setCell ⟨a, 2, none⟩ (.int .i64 (wrap64 (D.c + 1)))).setCell ⟨a, 4, none⟩ (.int .i64 (wrap64 (D.t + 1)))) := by
 have h2 := setCellAt (i := 4) (.int .i64 (wrap64 (D.t + 1))) (setCellAt (i := 2) (.int .i64 (wrap64 (D.c + 1))) h)
 refine ⟨by rw [hb], ?_, ((Kept.refl [a] w).setCell (Or.inl (by simp)) _).setCell (Or.inl (by simp)) _, by simp⟩
 unfold DC Dv.tick
 rw [hb]
 exact h2
theorem fails_no {a : Nat} {bs cache : Value} {D : Dv} {w : World} (h : DC w a bs cache D) (hb : D.bad = false) :
  FailsR a bs cache D w (.returned (.bool false)) (w.setCell ⟨a, 2, none⟩ (.int .i64 (wrap64 (D.c + 1)))) := by
 have h2 := setCellAt (i := 2) (.int .i64 (wrap64 (D.c + 1))) h
 refine ⟨by rw [hb], ?_, (Kept.refl [a] w).setCell (Or.inl (by simp)) _, by simp⟩
 unfold DC Dv.tick
 rw [hb]
 exact h2

theorem fails_any (a : Nat) (bs cache : Value) (D : Dv) (w : World) (h : DC w a bs cache D) :
  Calls Tryz.prog 224 #[.pointer (some ⟨a, 0, none⟩)] w (FailsR a bs cache D w) := by
 have c2 : w.cell? ⟨a, 2, none⟩ = some (.int .i64 D.c) := cellAt h rfl
 have c4 : w.cell? ⟨a, 4, none⟩ = some (.int .i64 D.t) := cellAt h rfl
 have c5 : w.cell? ⟨a, 5, none⟩ = some (.int .i64 D.off) := cellAt h rfl
 have c6 : w.cell? ⟨a, 6, none⟩ = some (.int .i64 D.fr) := cellAt h rfl
 have c7 : w.cell? ⟨a, 7, none⟩ = some (.int .i64 D.to) := cellAt h rfl
 have f2 : w.frozen? ⟨a, 2, none⟩ = false := frozen_of_row _ _ _ _ _ h
 have f4 : w.frozen? ⟨a, 4, none⟩ = false := frozen_of_row _ _ _ _ _ h
 have Y : Hid (D.bad = true → _) := fails_yes h
 have N : Hid (D.bad = false → _) := fails_no h
 clear h
 obtain ⟨L, q, c, wr, t, off, fr, to⟩ := D
 simp only at c2 c4 c5 c6 c7
 by_cases h1 : 0 ≤ off
 ·by_cases h2 : off ≤ c
  ·have Y' := Y.out (by simp [Dv.bad, h1, h2])
   have Y2 : Hid _ := Y'
   clear Y N Y'
   go_enter Tryz.func224, Tryz.ntmps224
   go_wp2
   go_ret
   exact Y2.out
  ·by_cases h3 : fr ≤ c
   ·by_cases h4 : c < to
    ·have Y' := Y.out (by simp [Dv.bad, h3, h4])
     have Y2 : Hid _ := Y'
     clear Y N Y'
     go_enter Tryz.func224, Tryz.ntmps224
     go_wp2
     go_ret
     exact Y2.out
    ·have N' := N.out (by simp [Dv.bad, h2, h4])
     have N2 : Hid _ := N'
     clear Y N N'
     go_enter Tryz.func224, Tryz.ntmps224
     go_wp2
     go_ret
     exact N2.out
   ·have N' := N.out (by simp [Dv.bad, h2, h3])
    have N2 : Hid _ := N'
    clear Y N N'
    go_enter Tryz.func224, Tryz.ntmps224
    go_wp2
    go_ret
    exact N2.out
 ·by_cases h3 : fr ≤ c
  ·by_cases h4 : c < to
   ·have Y' := Y.out (by simp [Dv.bad, h3, h4])
    have Y2 : Hid _ := Y'
    clear Y N Y'
    go_enter Tryz.func224, Tryz.ntmps224
    go_wp2
    go_ret
    exact Y2.out
   ·have N' := N.out (by simp [Dv.bad, h1, h4])
    have N2 : Hid _ := N'
    clear Y N N'
    go_enter Tryz.func224, Tryz.ntmps224
    go_wp2
    go_ret
    exact N2.out
  ·have N' := N.out (by simp [Dv.bad, h1, h3])
   have N2 : Hid _ := N'
   clear Y N N'
   go_enter Tryz.func224, Tryz.ntmps224
   go_wp2
   go_ret
   exact N2.out

theorem none_any (a : Nat) (ao : Option Addr) (n cap : Nat) (cache : Value) (D : Dv) (i : Int) (w : World)
  (h : DC w a (.slice ao n cap) cache D) (h0 : 0 ≤ i) (h1 : i < n) :
  Calls Tryz.prog 225 #[.pointer (some ⟨a, 0, none⟩), .int .i64 i] w fun e w' => e = .returned (.bool false) ∧ w' = w := by
 have c0 : w.cell? ⟨a, 0, none⟩ = some (.slice ao n cap) := cellAt h rfl
 have g0 : ¬ i < 0 := by omega
 clear h
 go_enter Tryz.func225, Tryz.ntmps225
 go_wp2
 all_goals
  go_ret
  exact ⟨rfl, rfl⟩

theorem Blocks_any (a : Nat) (ao : Option Addr) (n cap : Nat) (cache : Value) (D : Dv) (w : World) (h : DC w a (.slice ao n cap) cache D) :
  Calls Tryz.prog 220 #[.pointer (some ⟨a, 0, none⟩)] w fun e w' => e = .returned (.int .i64 n) ∧ w' = w := by
 have c0 : w.cell? ⟨a, 0, none⟩ = some (.slice ao n cap) := cellAt h rfl
 clear h
 go_enter Tryz.func220, Tryz.ntmps220
 go_wp2
 go_ret
 exact ⟨rfl, rfl⟩

theorem DWrites_any (a : Nat) (bs cache : Value) (D : Dv) (w : World) (h : DC w a bs cache D) :
  Calls Tryz.prog 30 #[.pointer (some ⟨a, 0, none⟩)] w fun e w' => e = .returned (.int .i64 D.wr) ∧ w' = w := by
 have c0 : w.cell? ⟨a, 3, none⟩ = some (.int .i64 D.wr) := cellAt h rfl
 clear h
 go_enter Tryz.func30, Tryz.ntmps30
 go_wp2
 go_ret
 exact ⟨rfl, rfl⟩

end Go.Proofs.YtcklgafpgdhnaaaGreatDoor

namespace Go.Proofs.YtcklgafpgdhnaaaGreatDoor
open Go.RowKit

def zl (n : Nat) : List Value := List.replicate n (.int .u8 0)
theorem length_zl (n : Nat) : (zl n).length = n := by simp [zl]
theorem mk128 (w : World) : (Instr.makeSlice 60 (.int .i64 128) (.int .i64 128)).run Tryz.prog w = .ok (.slice (some ⟨w.heap.size, 0, none⟩) 128 128) (w.alloc (.cells (zl 128).toArray 5)) := by kernel_rfl
theorem su8 : (Tryz.prog.info? 5).map (·.size) = some 1 := by kernel_rfl
theorem one_zl (n : Nat) : ∀ v ∈ zl n, v.oneCell' = true := by
 intro v hv; rw [List.eq_of_mem_replicate hv]; rfl
theorem all_of {l : List Value} (h : ∀ v ∈ l, v.oneCell' = true) : l.toArray.all (·.oneCell') = true := by
 rw [Array.all_eq_true_iff_forall_mem]; intro v hv; exact h v (by simpa using hv)

def wcells (i : Int) (B : List Value) : List Value := .int .i64 i :: B
theorem one_wcells (i : Int) (l : List Value) (h : ∀ v ∈ l, v.oneCell' = true) : ∀ v ∈ wcells i l, v.oneCell' = true := by
 intro v hv; rcases List.mem_cons.1 hv with rfl | hv; rfl; exact h v hv
theorem swrite : (Tryz.prog.info? 94).map (·.size) = some 129 := by kernel_rfl
theorem zwrite (w : World) : (Instr.alloc 94 true (.tuple #[])).run Tryz.prog w = .ok (.pointer (some ⟨w.heap.size, 0, none⟩)) (w.alloc (.cells (wcells 0 (zl 128)).toArray 94)) := by kernel_rfl
abbrev Wt := Nat × List UInt8
def wc (x : Wt) : List Value := wcells x.1 (u8s x.2)
theorem one_wc (x : Wt) : ∀ v ∈ wc x, v.oneCell' = true := one_wcells _ _ (one_u8s _)
def Fit (n : Nat) (q : List Wt) : Prop := ∀ x ∈ q, x.1 < n ∧ x.2.length = 128
theorem Fit.wd {n : Nat} {q : List Wt} (h : Fit n q) : Wd 129 (q.map wc) := by
 intro e he
 obtain ⟨x, hx, rfl⟩ := List.mem_map.1 he
 simp [wc, wcells, length_u8s, (h x hx).2]
theorem Fit.len {n : Nat} {q : List Wt} (h : Fit n q) : (fl (q.map wc)).length = q.length * 129 := by rw [fl_len h.wd, List.length_map]

theorem owns_tag {w : World} {base e size n b : Nat} {v : Value} {xs : List Value} (h : w.ownsRow base e size v n xs) (hb : v.ownBlock = some b) : ∃ cs fr, w.heap[b]? = some (.cells cs e fr) := by
 obtain ⟨_, ⟨rfl, _⟩ | ⟨g, cap, cur, rfl, _, hh, _⟩⟩ := h
 ·cases hb
 ·cases hb; exact ⟨_, _, hh⟩
theorem owns_kept {S : List Nat} {w w' : World} {base e size n : Nat} {v : Value} {xs : List Value} (h : w.ownsRow base e size v n xs) (k : Kept S w w') (hS : ∀ b, v.ownBlock = some b → b ∉ S) : w'.ownsRow base e size v n xs := by
 obtain ⟨h1, h2⟩ := h
 refine ⟨h1, ?_⟩
 rcases h2 with h2 | ⟨g, cap, cur, rfl, hg, hh, r⟩
 ·exact Or.inl h2
 ·exact Or.inr ⟨g, cap, cur, rfl, hg, k.get hh (hS g rfl), r⟩
theorem owns_slice {w : World} {base e size n : Nat} {v : Value} {xs : List Value} (h : w.ownsRow base e size v n xs) : ∃ p q, v = .slice p n q := by
 obtain ⟨_, ⟨rfl, h0⟩ | ⟨g, cap, cur, rfl, _⟩⟩ := h
 ·exact ⟨none, 0, by rw [h0]⟩
 ·exact ⟨_, _, rfl⟩
theorem owns_open {w : World} {base e size n : Nat} {v : Value} {xs : List Value} (h : w.ownsRow base e size v n xs) (hn : 0 < n) : ∃ g cap cur, v = .slice (some ⟨g, 0, none⟩) n cap ∧ w.heap[g]? = some (.cells (List.toArray cur) e (0, 0)) ∧ base ≤ g ∧ n ≤ cap ∧ cap ≤ maxLen ∧ cur.length = cap * size ∧ cur.take (n * size) = xs := by
 obtain ⟨_, ⟨rfl, h0⟩ | ⟨g, cap, cur, rfl, hB, hh, h1, h2, h3, h4⟩⟩ := h
 ·omega
 ·exact ⟨g, cap, cur.toList, rfl, by simpa using hh, hB, h1, h2, by simpa using h3, h4⟩
theorem owns_put {w : World} {base e size n g cap : Nat} {xs cur : List Value} (hl : xs.length = n * size) (hg : w.heap[g]? = some (.cells (List.toArray cur) e (0, 0))) (hB : base ≤ g) (h1 : n ≤ cap) (h2 : cap ≤ maxLen) (h3 : cur.length = cap * size) (h4 : cur.take (n * size) = xs) : w.ownsRow base e size (.slice (some ⟨g, 0, none⟩) n cap) n xs :=
 ⟨hl, Or.inr ⟨g, cap, cur.toArray, rfl, hB, hg, h1, h2, by simpa using h3, h4⟩⟩
theorem take_get {α : Type} {l xs : List α} {m : Nat} (h : l.take m = xs) {j : Nat} {u : α} (hj : xs[j]? = some u) : l[j]? = some u := by
 rw [← h, List.getElem?_take] at hj
 split at hj
 ·exact hj
 ·cases hj
theorem take_splice {α : Type} {l xs cs : List α} {m o : Nat} (h : l.take m = xs) (ho : o + cs.length ≤ m) (hm : m ≤ l.length) : (splice l o cs).take m = splice xs o cs := by
 have hx : xs.length = m := by rw [← h, List.length_take]; omega
 have e : splice (xs ++ l.drop m) o cs = splice xs o cs ++ l.drop m := by
  unfold splice
  rw [List.take_append_of_le_length (by omega), List.drop_append_of_le_length (by omega)]; simp
 have el : l = xs ++ l.drop m := by rw [← h]; exact (List.take_append_drop m l).symm
 rw [el, e, List.take_append_of_le_length (by rw [length_splice _ _ _ (by omega)]; omega), List.take_of_length_le (by rw [length_splice _ _ _ (by omega)]; omega)]

structure DQ (w : World) (a : Nat) (bv : Value) (n : Nat) (cv : Value) (D : Dv) : Prop where
 d : DC w a bv cv D
 b : w.ownsRow 0 92 128 bv n (u8s D.L)
 o : w.ownsRow 0 94 129 cv D.q.length (fl (D.q.map wc))
 q : Fit n D.q
 z : D.q = [] → cv = .slice none 0 0
def dfoot (a : Nat) (bv cv : Value) : List Nat := a :: (bv.ownBlock.toList ++ cv.ownBlock.toList)
section
variable {w : World} {a n : Nat} {bv cv : Value} {D : Dv}
theorem DQ.l (h : DQ w a bv n cv D) : D.L.length = n * 128 := by rw [← h.b.1, length_u8s]
theorem DQ.kept {S : List Nat} {w' : World} (h : DQ w a bv n cv D) (k : Kept S w w') (hS : ∀ y ∈ dfoot a bv cv, y ∉ S) : DQ w' a bv n cv D :=
 ⟨k.get h.d (hS _ (by simp [dfoot])), owns_kept h.b k fun b hb => hS b (by simp [dfoot, hb]), owns_kept h.o k fun b hb => hS b (by simp [dfoot, hb]), h.q, h.z⟩
theorem DQ.k0 {w' : World} (h : DQ w a bv n cv D) (k : Kept [] w w') : DQ w' a bv n cv D := h.kept k (by simp)
theorem DQ.nb (h : DQ w a bv n cv D) : ∀ b, bv.ownBlock = some b → b ≠ a := by
 intro b hb
 obtain ⟨cs, fr, hh⟩ := owns_tag h.b hb
 exact ne_tag hh h.d (by decide)
theorem DQ.nq (h : DQ w a bv n cv D) : ∀ b, cv.ownBlock = some b → b ≠ a ∧ bv.ownBlock ≠ some b := by
 intro b hb
 obtain ⟨cs, fr, hh⟩ := owns_tag h.o hb
 refine ⟨ne_tag hh h.d (by decide), fun hx => ?_⟩
 obtain ⟨cs2, fr2, hh2⟩ := owns_tag h.b hx
 exact ne_tag hh hh2 (by decide) rfl
theorem DQ.lt (h : DQ w a bv n cv D) : ∀ y ∈ dfoot a bv cv, y < w.heap.size := by
 intro y hy
 simp only [dfoot, List.mem_cons, List.mem_append] at hy
 rcases hy with rfl | hy | hy
 ·exact lt_heap h.d
 ·obtain ⟨cs, fr, hh⟩ := owns_tag h.b (by simpa using hy); exact lt_heap hh
 ·obtain ⟨cs, fr, hh⟩ := owns_tag h.o (by simpa using hy); exact lt_heap hh
theorem DQ.upd {w' : World} {D' : Dv} (h : DQ w a bv n cv D) (k : Kept [a] w w') (hd : DC w' a bv cv D') (e1 : D'.L = D.L) (e2 : D'.q = D.q) : DQ w' a bv n cv D' :=
 ⟨hd, by rw [e1]; exact owns_kept h.b k (fun b hb => by simpa using h.nb b hb), by rw [e2]; exact owns_kept h.o k (fun b hb => by simpa using (h.nq b hb).1), by rw [e2]; exact h.q, by rw [e2]; exact h.z⟩
theorem DQ.at_ (h : DQ w a bv n cv D) {j : Nat} {x : Wt} (hx : D.q[j]? = some x) : ∃ b cap cur, cv = .slice (some ⟨b, 0, none⟩) D.q.length cap ∧ w.heap[b]? = some (.cells (List.toArray cur) 94 (0, 0)) ∧
  ∀ (k : Nat) (u : Value), (wc x)[k]? = some u → cur[j * 129 + k]? = some u := by
 have hj : j < D.q.length := (List.getElem?_eq_some_iff.1 hx).1
 obtain ⟨b, cap, cur, rfl, hh, _, h1, h2, h3, h4⟩ := owns_open h.o (by omega)
 exact ⟨b, cap, cur, rfl, hh, fun k u hu => take_get h4 (fl_get h.q.wd j (wc x) (by rw [List.getElem?_map, hx]; rfl) k u hu)⟩
end

def blockOf (L : List UInt8) (i : Nat) : List UInt8 := (L.drop (i * 128)).take 128
theorem length_blockOf (L : List UInt8) (n i : Nat) (h : L.length = n * 128) (hi : i < n) : (blockOf L i).length = 128 := by
 simp [blockOf, h]; omega
def vf (b : List UInt8) (i : Nat) (q : List Wt) : List UInt8 := q.foldl (fun b x => if x.1 = i then x.2 else b) b
def Dv.view (D : Dv) (i : Nat) : List UInt8 := vf (blockOf D.L i) i D.q
theorem vf_snoc (b : List UInt8) (i : Nat) (q : List Wt) (x : Wt) : vf b i (q ++ [x]) = if x.1 = i then x.2 else vf b i q := by simp [vf]
theorem vf_len {b : List UInt8} {i n : Nat} {q : List Wt} (hb : b.length = 128) (h : Fit n q) : (vf b i q).length = 128 := by
 induction q generalizing b with
 | nil => exact hb
 | cons x r ih =>
  refine ih (b := if x.1 = i then x.2 else b) ?_ fun y hy => h y (by simp [hy])
  split
  ·exact (h x (by simp)).2
  ·exact hb

theorem block_get (L : List UInt8) (i : Nat) : ∀ j v, (u8s (blockOf L i))[j]? = some v → (u8s L)[i * 128 + j]? = some v := by
 intro j v hv
 rw [u8s_get] at hv ⊢
 simp only [blockOf, List.getElem?_take] at hv
 by_cases hj : j < 128
 ·simp only [hj, if_true, List.getElem?_drop] at hv
  exact hv
 ·simp [hj] at hv
theorem row_srcAt {w : World} {s off : Nat} {l c : List Value} {t : TypeId} {fr : Nat × Nat} (h : w.heap[s]? = some (.cells c.toArray t fr)) (hl : ∀ j v, l[j]? = some v → c[off + j]? = some v) : ∀ j v, l[j]? = some v → w.cell? ((⟨s, off, none⟩ : Addr).add j) = some v := by
 intro j v hv
 rw [add_lit, cell_of_row _ _ _ _ _ _ h]; simpa using hl j v hv
theorem row_src {w : World} {s : Nat} {l : List Value} {t : TypeId} {fr : Nat × Nat} (h : w.heap[s]? = some (.cells l.toArray t fr)) : ∀ j v, l[j]? = some v → w.cell? ((⟨s, 0, none⟩ : Addr).add j) = some v :=
 row_srcAt h fun j v hv => by rw [Nat.zero_add]; exact hv
theorem take_snoc {α : Type} (l : List α) (j : Nat) (p : α) (h : l[j]? = some p) : l.take (j + 1) = l.take j ++ [p] := by
 rw [List.take_add_one, h]; rfl

def eIO : Value := .iface 100 (.int .i64 6)
def ReadR (a : Nat) (bv : Value) (n : Nat) (cv : Value) (D : Dv) (i : Nat) (w : World) (e : Ending) (w' : World) : Prop :=
 DQ w' a bv n cv D.tick ∧ Kept [a] w w' ∧ if D.bad then e = .returned (.tuple #[.slice none 0 0, eIO]) else
  ∃ r, e = .returned (.tuple #[.slice (some ⟨r, 0, none⟩) 128 128, .nilIface]) ∧ w'.heap[r]? = some (.cells (u8s (D.view i)).toArray 5 (0, 0)) ∧ w.heap.size ≤ r

def RdI (w1 : World) (b0 : List UInt8) (i : Nat) (q : List Wt) (ix : Value) (wr : World) : Prop :=
 ∃ j : Nat, j ≤ q.length ∧ ix = .int .i64 j ∧ wr.heap[w1.heap.size]? = some (.cells (u8s (vf b0 i (q.take j))).toArray 5 (0, 0)) ∧ Kept [] w1 wr

theorem Read_any (a : Nat) (bv : Value) (n : Nat) (cv : Value) (D : Dv) (i : Nat) (w : World) (h : DQ w a bv n cv D) (hi : i < n) (_hn : n ≤ 1000) (hq : D.q.length ≤ 1000000) :
  Calls Tryz.prog 222 #[.pointer (some ⟨a, 0, none⟩), .int .i64 i] w (ReadR a bv n cv D i w) := by
 have mk := mk128
 go_enter Tryz.func222, Tryz.ntmps222
 go_wp2_with fail
 refine (fails_any a _ _ D w h.d).mono ?_
 rintro e w1 ⟨rfl, hd1, hk1, -⟩
 have h1 : DQ w1 a bv n cv D.tick := h.upd hk1 hd1 rfl rfl
 cases hb : D.bad with
 | true =>
  have FIN : Hid (ReadR a bv n cv D i w (.returned (.tuple #[.slice none 0 0, eIO])) w1) := ⟨h1, hk1, by rw [hb]; rfl⟩
  go_wp2
  go_ret2
  exact FIN.out
 | false =>
 obtain ⟨g, bc, bcur, rfl, hbg, _, hb1, hb2, hb3, hb4⟩ := owns_open h1.b (by omega)
 go_wp2_with fail
 refine (none_any a _ n _ _ _ i w1 hd1 (by omega) (by omega)).mono ?_
 rintro e w2 ⟨rfl, rfl⟩
 obtain ⟨p, cap, rfl⟩ := owns_slice h.o
 have c0 : w2.cell? ⟨a, 0, none⟩ = some (.slice (some ⟨g, 0, none⟩) n bc) := cellAt hd1 rfl
 have hlb := length_blockOf D.L n i h.l hi
 have hsz := lt_heap hd1
 have hsg := lt_heap hbg
 go_wp2_with (first
  | (at_make; refine wpList_make_k rfl _ _ _ rfl _ _ rfl rfl _ _ (mk128 w2) ?_; intro w3 hn3 hk3 _; have h3 := h1.k0 hk3; have c03 : w3.cell? ⟨a, 0, none⟩ = some (.slice (some ⟨g, 0, none⟩) n bc) := cellAt h3.d rfl; have hbg3 := hk3.get hbg (by simp))
  | (refine upon_copy_k 60 60 5 Tryz.underlying60 su8 w2.heap.size 0 128 128 ⟨g, i * 128, none⟩ 128 128 (zl 128) 5 hn3 (u8s (blockOf D.L i)) (by rw [length_u8s, hlb]; exact (Nat.min_self 128).symm) (row_srcAt hbg3 fun j v hv => take_get hb4 (block_get D.L i j v hv)) (by rw [length_u8s, length_zl, hlb]; omega) (one_u8s _) ?_; intro w4 hg4 hk4; have hK4 : Kept [] w2 w4 := hk3.trans2 hk4 (by intro x hx; simp at hx; subst hx; exact Or.inr (Nat.le_refl _)); have h4 := h1.k0 hK4; have c04 : w4.cell? ⟨a, 1, none⟩ = some (.slice p D.q.length cap) := cellAt h4.d rfl))
 rw [splice_whole _ _ (by rw [length_zl, length_u8s, hlb])] at hg4
 clear c0 c03 h3
 go_loopw [8, 32] (fun _ ix wr => RdI w2 (blockOf D.L i) i D.q ix wr) (fun _ ix _ => D.q.length - (intOf ix).toNat)
 case atStart => exact ⟨0, Nat.zero_le _, rfl, hg4, hK4⟩
 case round =>
  obtain ⟨j, hj, rfl, hr, hkr⟩ := hrel
  by_cases hlt : j < D.q.length
  ·have hlt' : (j : Int) < (D.q.length : Int) := by omega
   obtain ⟨x, hx⟩ : ∃ x, D.q[j]? = some x := ⟨_, List.getElem?_eq_getElem hlt⟩
   obtain ⟨x1, x2⟩ := h.q x (List.mem_of_getElem? hx)
   obtain ⟨b, cap', cur, e, hbq, hcur⟩ := (h1.k0 hkr).at_ hx
   cases e
   have hwl : (wc x).length = 129 := by simp [wc, wcells, length_u8s, x2]
   have hld := run_loadVar_seg (P := Tryz.prog) wr b (j * 129) 94 94 cur (wc x) (0, 0) _ hbq Tryz.underlying94 rfl (by rw [swrite, hwl]) hcur
   have hvl := vf_len (i := i) hlb (q := D.q.take j) (n := n) fun y hy => h.q y (List.mem_of_mem_take hy)
   have hnext := vf_snoc (blockOf D.L i) i (D.q.take j) x
   rw [← take_snoc D.q j x hx] at hnext
   clear hcur
   by_cases hxi : x.1 = i
   ·rw [if_pos hxi] at hnext
    have HN : Hid _ := hnext
    clear hnext
    have hxi' : ((x.1 : Int) = (i : Int)) := by omega
    go_wp2_with (first
     | (refine wpList_val rfl _ _ (exec_index 89 (.tmp 30) (.tmp 32) rfl b 0 D.q.length cap j 129 rfl rfl 94 Tryz.underlying89 swrite hlt (j * 129) (by omega)) ?_)
     | (refine wpList_load_seg rfl 94 (.tmp 34) rfl ⟨b, j * 129, none⟩ rfl (.agg (wc x).toArray) hld ?_)
     | (refine wpList_alloc_k rfl 94 rfl _ (zwrite _) ?_; intro w5 hn5 hk5 _)
     | (refine wpList_store_k rfl 94 (.tmp 8) (.tmp 35) rfl wr.heap.size (wc x).toArray rfl rfl 94 _ hn5 (by rw [swrite]; simp [hwl]) (by simp [hwl, wcells, zl]) (all_of (one_wc x)) ?_; intro w6 hn6 hk6; have c6 : w6.cell? ⟨wr.heap.size, 0, none⟩ = some (.int .i64 x.1) := cellAt hn6 rfl)
     | (refine upon_copy_k 60 60 5 Tryz.underlying60 su8 w2.heap.size 0 128 128 ⟨wr.heap.size, 1, none⟩ 128 128 (u8s (vf (blockOf D.L i) i (D.q.take j))) 5 (hk6.get (hk5.get hr (by simp)) (by have := lt_heap hr; simp; omega)) (u8s x.2) (by rw [length_u8s, x2]; exact (Nat.min_self 128).symm) (row_srcAt hn6 (by intro k u hu; rw [Nat.add_comm]; exact hu)) (by rw [length_u8s, length_u8s, x2, hvl]; omega) (one_u8s _) ?_; intro w7 hg7 hk7))
    rw [splice_whole _ _ (by rw [length_u8s, length_u8s, x2, hvl])] at hg7
    have K7 : Kept [] w2 w7 := ((hkr.trans hk5).trans2 hk6 (by intro y hy; simp at hy; subst hy; exact Or.inr hkr.size)).trans2 hk7 (by intro y hy; simp at hy; subst hy; exact Or.inr (Nat.le_refl _))
    go_roundw
    case rel => exact ⟨j + 1, by omega, by go_num, by rw [HN.out]; exact hg7, K7⟩
    case measure => simp [intOf]; omega
   ·rw [if_neg hxi] at hnext
    have HN : Hid _ := hnext
    clear hnext
    have hxi' : ¬ ((x.1 : Int) = (i : Int)) := by omega
    go_wp2_with (first
     | (refine wpList_val rfl _ _ (exec_index 89 (.tmp 30) (.tmp 32) rfl b 0 D.q.length cap j 129 rfl rfl 94 Tryz.underlying89 swrite hlt (j * 129) (by omega)) ?_)
     | (refine wpList_load_seg rfl 94 (.tmp 34) rfl ⟨b, j * 129, none⟩ rfl (.agg (wc x).toArray) hld ?_)
     | (refine wpList_alloc_k rfl 94 rfl _ (zwrite _) ?_; intro w5 hn5 hk5 _)
     | (refine wpList_store_k rfl 94 (.tmp 8) (.tmp 35) rfl wr.heap.size (wc x).toArray rfl rfl 94 _ hn5 (by rw [swrite]; simp [hwl]) (by simp [hwl, wcells, zl]) (all_of (one_wc x)) ?_; intro w6 hn6 hk6; have c6 : w6.cell? ⟨wr.heap.size, 0, none⟩ = some (.int .i64 x.1) := cellAt hn6 rfl))
    have hr6 := hk6.get (hk5.get hr (by simp)) (by have := lt_heap hr; simp; omega)
    have K6 : Kept [] w2 w6 := (hkr.trans hk5).trans2 hk6 (by intro y hy; simp at hy; subst hy; exact Or.inr hkr.size)
    go_roundw
    case rel => exact ⟨j + 1, by omega, by go_num, by rw [HN.out]; exact hr6, K6⟩
    case measure => simp [intOf]; omega
  ·have hge : ¬ (j : Int) < (D.q.length : Int) := by omega
   have ej : j = D.q.length := by omega
   subst ej
   rw [List.take_length] at hr
   have FIN : Hid (ReadR a (.slice (some ⟨g, 0, none⟩) n bc) n (.slice p D.q.length cap) D i w (.returned (.tuple #[.slice (some ⟨w2.heap.size, 0, none⟩) 128 128, .nilIface])) wr) :=
    ⟨h1.k0 hkr, hk1.trans2 hkr (by simp), by rw [hb]; exact ⟨_, rfl, hr, hk1.size⟩⟩
   go_wp2
   go_ret2
   exact FIN.out

end Go.Proofs.YtcklgafpgdhnaaaGreatDoor
