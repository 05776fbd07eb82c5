import Derived.Test.YtcklgafpgdhnaaaGreatDoorPtag
import Derived.Test.YtcklgafpgdhnaaaGreatDoorPtae
set_option maxRecDepth 100000
set_option maxHeartbeats 4000000
open List renaming getElem_toArray → zA, getElem_cons_succ → zB, getElem_cons_zero → zC, setIfInBounds_toArray → zD, set_cons_succ → zE, set_cons_zero → zF
namespace Go.Proofs.YtcklgafpgdhnaaaGreatDoor
open Go.RowKit

theorem flat2_append (a b : List Pr) : flat2 (a ++ b) = flat2 a ++ flat2 b := by simp [flat2]
theorem one_flat2 (l : List Pr) : ∀ u ∈ flat2 l, u.oneCell' = true := by
 intro u hu
 simp only [flat2, List.mem_flatMap] at hu
 obtain ⟨p, _, hp⟩ := hu
 exact one_pcells p u hp

theorem append_PL (ty : TypeId) (w : World) (v : Value) (l : List Pr) (hP : PL w 41 v l) (hl : l.length ≤ 50000) (nb : Nat) (ps : List Pr) (m c : Nat) (hm : ps.length = m) (hm5 : m ≤ 50000) (hnb : w.heap[nb]? = some (.cells (flat2 ps).toArray 41 (0, 0))) :
  ∃ v' w', (Builtin.append_ #[28, 28] ty #[v, .slice (some ⟨nb, 0, none⟩) m c]).run Tryz.prog w = .ok v' w' ∧ PL w' 41 v' (l ++ ps) ∧ PL w' 41 v l ∧ Kept v.ownBlock.toList w w' ∧ (v'.ownBlock = v.ownBlock ∨ v'.ownBlock = some w.heap.size) := by
 obtain ⟨ie, hie, hz1, hz2, hz3⟩ := info_parts iap
 have hnl : (flat2 ps).length = m * 2 := by rw [length_flat2, hm]
 obtain ⟨v', w', hr, ho, hg, _, hob⟩ := run_append_own_at (P := Tryz.prog) w 0 28 ty 41 ie _ 2 32 Tryz.underlying28 hie hz1 hz2 hz3 rfl (by decide) v l.length (flat2 l) hP ⟨nb, 0, none⟩ m c (flat2 ps) hnl (row_src hnb) (one_flat2 ps) (by unfold maxLen; omega) (by omega) (Nat.zero_le _)
 have kk := grown_kept hg v.ownBlock.toList (by intro y hy; rw [hy]; simp)
 refine ⟨v', w', hr, ?_, ?_, kk, hob⟩
 ·show World.ownsRow _ _ _ _ _ _ _
  rw [flat2_append, List.length_append, hm]; exact ho
 ·have hP' := hP
  obtain ⟨hlen, ⟨rfl, h0⟩ | ⟨g, cap, cur, rfl, hb, hh, hc, hmx, hsz, htk⟩⟩ := hP'
  ·exact ⟨hlen, Or.inl ⟨rfl, h0⟩⟩
  ·by_cases hroom : l.length + m ≤ cap
   ·have hfit : l.length * ie.size + (flat2 ps).length ≤ cur.size := by rw [hz2, hnl, hsz]; omega
    have hr2 := run_append_room (P := Tryz.prog) w 28 ty 41 ie Tryz.underlying28 hie g l.length cap cur hh ⟨nb, 0, none⟩ m c (flat2 ps) (by rw [hz2]; exact hnl) (row_src hnb) (one_flat2 ps) hroom hfit
    rw [hr2] at hr
    cases hr
    refine ⟨hlen, Or.inr ⟨g, cap, _, rfl, hb, setRow_heap w g _ _ _ _ hh, hc, hmx, ?_, ?_⟩⟩
    ·simp only [List.size_toArray, List.length_append, List.length_take, List.length_drop, Array.length_toList]
     omega
    ·rw [hz2, List.append_assoc, List.take_append_of_le_length (by rw [List.length_take]; simp; omega), List.take_take, Nat.min_self]
     exact htk
   ·have holds : ∀ j u, (flat2 l)[j]? = some u → w.cell? ((⟨g, 0, none⟩ : Addr).add j) = some u := World.ownsRow.cells hP (g := g) rfl
    have hr2 := run_append_grow (P := Tryz.prog) w 28 ty 41 ie _ Tryz.underlying28 hie hz1 ⟨g, 0, none⟩ l.length cap (flat2 l) (by rw [hz2]; exact hlen) holds ⟨nb, 0, none⟩ m c (flat2 ps) (by rw [hz2]; exact hnl) (row_src hnb) (by omega) (by omega) (growslice_fits (by omega) (by rw [hz3]; omega))
    rw [hr2] at hr
    cases hr
    exact ⟨hlen, Or.inr ⟨g, cap, cur, rfl, hb, ((Kept.refl [] w).drew.alloc _).get hh (by simp), hc, hmx, hsz, htk⟩⟩

theorem wpList_append_PL {w : World} {ops : Array Oper} {rest : List Oper} {o : Oper} {a : Act} {Q : Exit → Act → World → Prop} (hgd : o.guard = none) (s x : Operand) (ho : o.op = .call { callee := .builtin .append, args := #[s, x], argTypes := #[28, 28] })
  (v : Value) (l : List Pr) (hs : a.eval s = v) (hP : PL w 41 v l) (hl : l.length ≤ 50000) (nb : Nat) (ps : List Pr) (m c : Nat) (hx : a.eval x = .slice (some ⟨nb, 0, none⟩) m c) (hm : ps.length = m) (hm5 : m ≤ 50000) (hnb : w.heap[nb]? = some (.cells (flat2 ps).toArray 41 (0, 0)))
  (h : ∀ v' w', PL w' 41 v' (l ++ ps) → PL w' 41 v l → Kept v.ownBlock.toList w w' → (v'.ownBlock = v.ownBlock ∨ v'.ownBlock = some w.heap.size) → wpList Tryz.prog ops Q rest (a.put o.dst v') w') : wpList Tryz.prog ops Q (o :: rest) a w := by
 obtain ⟨v', w', hr, h1, h2, h3, h4⟩ := append_PL o.type w v l hP hl nb ps m c hm hm5 hnb
 exact wpList_val hgd v' w' (exec_append s x 28 ho v _ hs hx v' hr) (h v' w' h1 h2 h3 h4)

def KpI (v : Value) (n : Nat) (w : World) (i : Value) (wr : World) : Prop := ∃ (j : Nat) (l : List Pr), j ≤ n ∧ i = .int .i64 j ∧ l.length = n ∧ PL wr 41 v l ∧ Kept v.ownBlock.toList w wr

def KeepR (b : Nat) (px : Option Addr) (vl : Value) (f c : Bool) (mo ch : Int) (lv wv : Value) (xs : List HLd) (v : Value) (w : World) (e : Ending) (w' : World) : Prop :=
 e = .returned (.tuple #[]) ∧ ∃ lv' wv' xs', xs'.length = 2 ∧ OR w' b px vl f c mo ch lv' wv' ∧ HL w' lv' wv' (xs ++ xs') ∧ Kept (b :: (lv.ownBlock.toList ++ wv.ownBlock.toList ++ v.ownBlock.toList)) w w' ∧
  (∀ g, lv'.ownBlock = some g → lv.ownBlock = some g ∨ w.heap.size ≤ g) ∧ (∀ g, wv'.ownBlock = some g → wv.ownBlock = some g ∨ w.heap.size ≤ g) ∧
  (∀ x ∈ xs', (∀ g, x.v.ownBlock = some g → v.ownBlock = some g ∨ w.heap.size ≤ g) ∧ (∀ g, x.u.ownBlock = some g → w.heap.size ≤ g))

theorem keep_any (b : Nat) (px : Option Addr) (vl : Value) (f c : Bool) (mo ch : Int) (lv wv : Value) (xs : List HLd) (v : Value) (l : List Pr) (w : World) (hb : OR w b px vl f c mo ch lv wv) (h : HL w lv wv xs) (hn : xs.length ≤ 40000) (hv : PL w 41 v l) (hl : l.length ≤ 40000)
  (hap : ∀ x ∈ xs, (∀ g, x.v.ownBlock = some g → v.ownBlock ≠ some g) ∧ (∀ g, x.u.ownBlock = some g → v.ownBlock ≠ some g)) :
  Calls Tryz.prog 146 #[.pointer (some ⟨b, 0, none⟩), v] w (KeepR b px vl f c mo ch lv wv xs v w) := by
 obtain ⟨pl, cl, rfl⟩ := owns_len2 h.lists
 have c6 : w.cell? ⟨b, 6, none⟩ = some (.slice pl xs.length cl) := cellAt hb rfl
 obtain ⟨pv, cv, rfl⟩ := hv.shape
 have nbv : ∀ g, (Value.slice pv l.length cv).ownBlock = some g → g ≠ b := fun g hg => ne_rows (hv.tag hg) ⟨_, _, hb⟩ (by decide)
 go_enter Tryz.func146, Tryz.ntmps146
 go_wp2
 go_loopw [5] (fun i wr => KpI (.slice pv l.length cv) l.length w i wr) (fun i _ => l.length - (intOf i).toNat)
 case atStart => exact ⟨0, l, Nat.zero_le _, rfl, rfl, hv, Kept.refl _ _⟩
 case round =>
  obtain ⟨j, l', hj, rfl, hl', hP, hkr⟩ := hrel
  by_cases hlt : j < l.length
  ·obtain ⟨g, cap, cur, e, hg, hcur⟩ := hP.at_ (by omega)
   rw [hl'] at e
   cases e
   rw [← hl'] at hP
   go_wp2_with (first
    | (go_at_call 167; refine (mark_any _ _).mono ?_; rintro e w2 ⟨⟨sx, rfl⟩, hk2⟩; obtain ⟨w3, hst, hP3, hk3⟩ := (hP.kept hk2 (by simp)).set (i := j) (by omega) sap (sx, ⟨#[]⟩))
    | (refine wpList_val rfl _ _ (exec_index 28 (.tmp 26) (.tmp 27) rfl g 0 l.length cv j 2 rfl rfl 41 Tryz.underlying28 sap hlt (j * 2) (by omega)) ?_)
    | (refine wpList_store_seg rfl 41 (.tmp 30) (.tmp 29) rfl ⟨g, j * 2, none⟩ rfl _ rfl _ hst ?_))
   go_roundw
   case rel => exact ⟨j + 1, l'.set j (sx, ⟨#[]⟩), by omega, by go_num, by simpa using hl', by rw [hl'] at hP3; exact hP3, (hkr.trans (hk2.mono (by simp))).trans (hk3.mono (by simp [Value.ownBlock]))⟩
   case measure => simp [intOf]; omega
  ·have hge : ¬ (j : Int) < (l.length : Int) := by omega
   go_wp2_with (first
    | (go_at_call 167; refine (mark_any _ _).mono ?_; rintro e w2 ⟨⟨sx, rfl⟩, hk2⟩; have hP := hP.kept hk2 (by simp); have hkr := hkr.trans (hk2.mono (by simp)))
    | (at_builtin; (refine wpList_append_PL rfl (.tmp 37) (.tmp 42) rfl (.slice pv l.length cv) l' rfl (hP.kept ((Kept.refl [] _).alloc _) (by simp)) (by omega) w2.heap.size [(_, ⟨#[]⟩), (_, ⟨#[]⟩)] 2 2 rfl rfl (by omega) (heap_alloc_new _ _) ?_; intro gv w5 hG5 hP5 hk5 ho5; obtain ⟨pg, cg, rfl⟩ := hG5.shape; simp only [List.length_append, List.length_cons, List.length_nil, hl', Nat.zero_add, Nat.reduceAdd] at hG5 ho5)))
   have k05 : Kept (Value.slice pv l.length cv).ownBlock.toList w w5 := (hkr.trans (((Kept.refl [] _).alloc _).mono (by simp))).trans hk5
   have nbv' : b ∉ (Value.slice pv l.length cv).ownBlock.toList := fun hx => nbv b (by simpa using hx) rfl
   have hb5 : OR w5 b px vl f c mo ch (.slice pl xs.length cl) wv := k05.get hb nbv'
   have hH5 : HL w5 (.slice pl xs.length cl) wv xs := by
    refine h.kept k05 ?_ ?_ ?_
    ·intro g hg hx; simp only [Option.mem_toList] at hx; exact ne_rows (owns_tag h.lists hg) (hv.tag hx) (by decide) rfl
    ·intro g hg hx; simp only [Option.mem_toList] at hx; exact ne_rows (owns_tag h.want hg) (hv.tag hx) (by decide) rfl
    ·intro x hx
     refine ⟨fun g hg hy => ?_, fun g hg hy => ?_⟩
     ·simp only [Option.mem_toList] at hy; exact (hap x hx).1 g hg hy
     ·simp only [Option.mem_toList] at hy; exact (hap x hx).2 g hg hy
   have z5 : w.heap.size ≤ w5.heap.size := k05.size
   have z2 : w.heap.size ≤ w2.heap.size := hkr.size
   have tagP : ∀ {v : Value} {l : List Pr} {lw ww : Value} {xs : List HLd} {W : World}, PL W 41 v l → OR W b px vl f c mo ch lw ww → HL W lw ww xs → ∀ g, v.ownBlock = some g → g ∉ b :: (lw.ownBlock.toList ++ ww.ownBlock.toList) := by
    intro v l lw ww xs W hp ho hh g hg hx
    rcases List.mem_cons.1 hx with rfl | hx
    ·exact ne_rows (hp.tag hg) ⟨_, _, ho⟩ (by decide) rfl
    ·rcases List.mem_append.1 hx with hx | hx
     ·simp only [Option.mem_toList] at hx; exact ne_rows (hp.tag hg) (owns_tag hh.lists hx) (by decide) rfl
     ·simp only [Option.mem_toList] at hx; exact ne_rows (hp.tag hg) (owns_tag hh.want hx) (by decide) rfl
   refine (hold_any b px vl f c mo ch (.slice pl xs.length cl) wv xs _ l' w5 hb5 hH5 (by omega) hP5 (by omega)).mono ?_
   rintro e w6 ⟨rfl, lv6, wv6, u6', hb6, hH6, hk6, fl6, fw6, fu6⟩
   have hG6 := hG5.kept hk6 (tagP hG5 hb5 hH5)
   go_wp2_with fail
   have HH := hold_any b px vl f c mo ch lv6 wv6 _ _ _ w6 hb6 hH6 (by simp; omega) hG6 (by simp; omega)
   refine HH.mono ?_
   rintro e w7 ⟨rfl, lv7, wv7, u7', hb7, hH7, hk7, fl7, fw7, fu7⟩
   go_wp2
   go_end0
   have z6 : w5.heap.size ≤ w6.heap.size := hk6.size
   refine ⟨rfl, lv7, wv7, _, rfl, hb7, by simpa using hH7, ?_, ?_, ?_, ?_⟩
   ·have mv : ∀ x ∈ (Value.slice pv l.length cv).ownBlock.toList, x ∈ b :: ((Value.slice pl xs.length cl).ownBlock.toList ++ wv.ownBlock.toList ++ (Value.slice pv l.length cv).ownBlock.toList) := fun x hx => List.mem_cons_of_mem _ (List.mem_append_right _ hx)
    have ml : ∀ x ∈ b :: ((Value.slice pl xs.length cl).ownBlock.toList ++ wv.ownBlock.toList), x ∈ b :: ((Value.slice pl xs.length cl).ownBlock.toList ++ wv.ownBlock.toList ++ (Value.slice pv l.length cv).ownBlock.toList) := by
     intro x hx
     rcases List.mem_cons.1 hx with rfl | hx
     ·exact List.mem_cons_self
     ·exact List.mem_cons_of_mem _ (List.mem_append_left _ hx)
    refine ((k05.mono mv).trans (hk6.mono ml)).trans2 hk7 ?_
    intro x hx
    rcases List.mem_cons.1 hx with rfl | hx
    ·exact Or.inl List.mem_cons_self
    rcases List.mem_append.1 hx with hx | hx
    ·rcases fl6 x (by simpa using hx) with e | e
     ·exact Or.inl (ml x (List.mem_cons_of_mem _ (List.mem_append_left _ (by simpa using e))))
     ·right; omega
    ·rcases fw6 x (by simpa using hx) with e | e
     ·exact Or.inl (ml x (List.mem_cons_of_mem _ (List.mem_append_right _ (by simpa using e))))
     ·right; omega
   ·intro g hg
    rcases fl7 g hg with e | e
    ·rcases fl6 g e with e | e
     ·exact Or.inl e
     ·right; omega
    ·right; omega
   ·intro g hg
    rcases fw7 g hg with e | e
    ·rcases fw6 g e with e | e
     ·exact Or.inl e
     ·right; omega
    ·right; omega
   ·intro x hx
    simp only [List.mem_cons, List.not_mem_nil, or_false] at hx
    rcases hx with rfl | rfl
    ·exact ⟨fun g hg => Or.inl hg, fun g hg => by have := fu6 g hg; omega⟩
    ·refine ⟨fun g hg => ?_, fun g hg => by have := fu7 g hg; omega⟩
     rcases ho5 with e | e
     ·left; rw [← e]; exact hg
     ·right
      have hg' : (some _ : Option Nat) = some g := e.symm.trans hg
      cases hg'
      simp; omega

end Go.Proofs.YtcklgafpgdhnaaaGreatDoor

namespace Go.Proofs.YtcklgafpgdhnaaaGreatDoor
open Go.RowKit

def keyOk (k : ByteArray) : Prop := 1 ≤ k.size ∧ k.size ≤ 8
instance (k : ByteArray) : Decidable (keyOk k) := by unfold keyOk; infer_instance
def roomy (n mo k : Nat) : Prop := 3 * max mo k + 12 ≤ n

end Go.Proofs.YtcklgafpgdhnaaaGreatDoor

namespace Go.Proofs.YtcklgafpgdhnaaaGreatDoor
open Go.RowKit

structure Qt (D D' : Dv) : Prop where
 L : D'.L = D.L
 q : D'.q = D.q
 wr : D'.wr = D.wr
 t : D'.t = D.t
 off : D'.off = D.off
 fr : D'.fr = D.fr
 to : D'.to = D.to
def Good (D : Dv) : Prop := D.off = -1 ∧ D.fr = 0 ∧ D.to = 0
structure Er (D D' : Dv) : Prop where
 L : D'.L = D.L
 q : D'.q = D.q
 wr : D'.wr = D.wr
 t : D'.t = wrap64 (D.t + 1)
 off : D'.off = D.off
 fr : D'.fr = D.fr
 to : D'.to = D.to
 bad : ¬ Good D
structure Wn (D : Dv) (i : Nat) (B : List UInt8) (D' : Dv) : Prop where
 L : D'.L = D.L
 q : D'.q = D.q ++ [(i, B)]
 wr : D'.wr = wrap64 (D.wr + 1)
 t : D'.t = D.t
 off : D'.off = D.off
 fr : D'.fr = D.fr
 to : D'.to = D.to
structure Fl (D D' : Dv) : Prop where
 L : D'.L = lay D.L D.q
 q : D'.q = []
 wr : D'.wr = D.wr
 t : D'.t = D.t
 off : D'.off = D.off
 fr : D'.fr = D.fr
 to : D'.to = D.to

theorem Good.bad {D : Dv} (h : Good D) : D.bad = false := by
 obtain ⟨h1, h2, h3⟩ := h
 simp only [Dv.bad, h1, h2, h3]
 simp
theorem Qt.refl (D : Dv) : Qt D D := ⟨rfl, rfl, rfl, rfl, rfl, rfl, rfl⟩
theorem Qt.trans {D E F : Dv} (h : Qt D E) (g : Qt E F) : Qt D F :=
 ⟨g.L.trans h.L, g.q.trans h.q, g.wr.trans h.wr, g.t.trans h.t, g.off.trans h.off, g.fr.trans h.fr, g.to.trans h.to⟩
theorem Qt.good {D E : Dv} (h : Qt D E) : Good E ↔ Good D := by unfold Good; rw [h.off, h.fr, h.to]
theorem Qt.er {D E F : Dv} (h : Qt D E) (g : Er E F) : Er D F :=
 ⟨g.L.trans h.L, g.q.trans h.q, g.wr.trans h.wr, by rw [g.t, h.t], g.off.trans h.off, g.fr.trans h.fr, g.to.trans h.to, fun hg => g.bad (h.good.2 hg)⟩
theorem Qt.wn {D E F : Dv} {i : Nat} {B : List UInt8} (h : Qt D E) (g : Wn E i B F) : Wn D i B F :=
 ⟨g.L.trans h.L, by rw [g.q, h.q], by rw [g.wr, h.wr], g.t.trans h.t, g.off.trans h.off, g.fr.trans h.fr, g.to.trans h.to⟩
theorem Qt.fl {D E F : Dv} (h : Qt D E) (g : Fl E F) : Fl D F :=
 ⟨by rw [g.L, h.L, h.q], g.q, g.wr.trans h.wr, g.t.trans h.t, g.off.trans h.off, g.fr.trans h.fr, g.to.trans h.to⟩
theorem Qt.view {D E : Dv} (h : Qt D E) (i : Nat) : E.view i = D.view i := by unfold Dv.view; rw [h.L, h.q]
theorem Qt.tick {D : Dv} (hb : D.bad = false) : Qt D D.tick := by
 refine ⟨rfl, rfl, rfl, ?_, rfl, rfl, rfl⟩
 simp [Dv.tick, hb]
theorem Er.tick {D : Dv} (hb : D.bad = true) : Er D D.tick := by
 refine ⟨rfl, rfl, rfl, ?_, rfl, rfl, rfl, fun hg => ?_⟩
 ·simp [Dv.tick, hb]
 ·rw [hg.bad] at hb; cases hb
theorem Wn.put {D : Dv} (hb : D.bad = false) (i : Nat) (B : List UInt8) : Wn D i B (D.put i B) := by
 refine ⟨rfl, rfl, rfl, ?_, rfl, rfl, rfl⟩
 simp [Dv.put, Dv.tick, hb]
theorem Fl.flush {D : Dv} (hb : D.bad = false) : Fl D D.flush := by
 refine ⟨rfl, rfl, rfl, ?_, rfl, rfl, rfl⟩
 simp [Dv.flush, Dv.tick, hb]
theorem Wn.good {D E : Dv} {i : Nat} {B : List UInt8} (h : Wn D i B E) : Good E ↔ Good D := by unfold Good; rw [h.off, h.fr, h.to]
theorem Fl.good {D E : Dv} (h : Fl D E) : Good E ↔ Good D := by unfold Good; rw [h.off, h.fr, h.to]

end Go.Proofs.YtcklgafpgdhnaaaGreatDoor

namespace Go.Proofs.YtcklgafpgdhnaaaGreatDoor
open Go.RowKit

def Dq (L : List UInt8) (c wr t : Int) : Dv := ⟨L, [], c, wr, t, -1, 0, 0⟩
structure Dev (w : World) (a g n : Nat) (L : List UInt8) (c wr t : Int) : Prop where
 d : DC w a (.slice (some ⟨g, 0, none⟩) n n) (.slice none 0 0) (Dq L c wr t)
 b : w.heap[g]? = some (.cells (u8s L).toArray 92 (0, 0))
 l : L.length = n * 128
 m : n ≤ 1000
section
variable {w w' : World} {a g n : Nat} {L : List UInt8} {c wr t : Int}
theorem Dev.ne (h : Dev w a g n L c wr t) : a ≠ g := ne_tag h.d h.b (by decide)
theorem Dev.kept {S : List Nat} (h : Dev w a g n L c wr t) (k : Kept S w w') (ha : a ∉ S) (hg : g ∉ S) : Dev w' a g n L c wr t :=
 ⟨k.get h.d ha, k.get h.b hg, h.l, h.m⟩
theorem Dev.dq (h : Dev w a g n L c wr t) : DQ w a (.slice (some ⟨g, 0, none⟩) n n) n (.slice none 0 0) (Dq L c wr t) :=
 ⟨h.d, owns_put (by rw [length_u8s]; exact h.l) h.b (Nat.zero_le _) (Nat.le_refl _) (by have := h.m; unfold maxLen; omega) (by rw [length_u8s]; exact h.l) (List.take_of_length_le (by rw [length_u8s]; exact Nat.le_of_eq h.l)), World.ownsRow_nil _ _ _ _, by simp [Fit, Dq], fun _ => rfl⟩
theorem Dev.good (L : List UInt8) (c wr t : Int) : Good (Dq L c wr t) := ⟨rfl, rfl, rfl⟩
theorem DQ.dev {cv : Value} {D : Dv} (h : DQ w a (.slice (some ⟨g, 0, none⟩) n n) n cv D) (hq : D.q = []) (hg : Good D) (hn : n ≤ 1000) : Dev w a g n D.L D.c D.wr D.t := by
 obtain rfl := h.z hq
 have e : D = Dq D.L D.c D.wr D.t := by
  obtain ⟨h1, h2, h3⟩ := hg
  obtain ⟨L, q, c, wr, t, o, f, u⟩ := D
  simp only at hq h1 h2 h3
  subst hq h1 h2 h3
  rfl
 refine ⟨by rw [← e]; exact h.d, ?_, h.l, hn⟩
 obtain ⟨hl, h | ⟨g', cap, cur, e, _, hh, h1, h2, h3, h4⟩⟩ := h.b
 ·exact absurd h.1 (by simp)
 ·simp only [Value.slice.injEq, Option.some.injEq, Addr.mk.injEq] at e
  obtain ⟨⟨rfl, -⟩, -, rfl⟩ := e
  rw [hh]
  congr 1
  congr 1
  rw [← h4, List.take_of_length_le (by simpa using Nat.le_of_eq h3)]
end
theorem DTold_o (a : Nat) (bs cache : Value) (L : List UInt8) (c wr t : Int) (w : World) (h : DC w a bs cache (Dq L c wr t)) : Calls Tryz.prog 130 #[.pointer (some ⟨a, 0, none⟩)] w fun e w' => e = .returned (.int .i64 t) ∧ w' = w := DTold_any a bs cache _ w h
theorem DWrites_o (a : Nat) (bs cache : Value) (L : List UInt8) (c wr t : Int) (w : World) (h : DC w a bs cache (Dq L c wr t)) : Calls Tryz.prog 30 #[.pointer (some ⟨a, 0, none⟩)] w fun e w' => e = .returned (.int .i64 wr) ∧ w' = w := DWrites_any a bs cache _ w h
theorem DPending_o (a : Nat) (bs : Value) (ao : Option Addr) (n cap : Nat) (L : List UInt8) (c wr t : Int) (w : World) (h : DC w a bs (.slice ao n cap) (Dq L c wr t)) : Calls Tryz.prog 31 #[.pointer (some ⟨a, 0, none⟩)] w fun e w' => e = .returned (.int .i64 n) ∧ w' = w := DPending_any a bs ao n cap _ w h
theorem NewDisk_o (x : Int) (w : World) : Calls Tryz.prog 32 #[.int .i64 x] w fun e w' => ∃ a g, e = .returned (.pointer (some ⟨a, 0, none⟩)) ∧ Dev w' a g (nb x) (List.replicate (nb x * 128) 0) 0 0 0 ∧ w.heap.size ≤ a ∧ w.heap.size ≤ g ∧ Kept [] w w' := by
 refine (NewDisk_any x w).mono ?_
 rintro e w' ⟨a, bv, h1, h2, h3, ⟨g, rfl, h4⟩, h5⟩
 exact ⟨a, g, h1, h2.dev rfl ⟨rfl, rfl, rfl⟩ (Nat.le_of_lt (nb_lt x)), h3, h4, h5⟩
theorem Laid_o (n : Nat) (L : List UInt8) (w : World) (hn : n < 1000) (hL : L.length = n * 128) : Calls Tryz.prog 128 #[.int .i64 n, .string ⟨L.toArray⟩] w fun e w' => ∃ a g, e = .returned (.pointer (some ⟨a, 0, none⟩)) ∧ Dev w' a g n L 0 0 0 ∧ w.heap.size ≤ a ∧ w.heap.size ≤ g ∧ Kept [] w w' := by
 have hnb : nb n = n := by unfold nb; rw [if_neg (by omega)]; omega
 refine (Laid_any n ⟨L.toArray⟩ w (by show L.toArray.size ≤ _; simp; omega)).mono ?_
 rintro e w' ⟨a, bv, h1, h2, h3, ⟨g, rfl, h4⟩, h5⟩
 rw [hnb] at h2
 have e1 : laidL n L = L := laidL_of n L hL
 have h6 := h2.dev rfl ⟨rfl, rfl, rfl⟩ (by omega)
 simp only [Dv.new] at h6
 rw [e1] at h6
 exact ⟨a, g, h1, h6, h3, h4, h5⟩
theorem Bytes_o (a g n : Nat) (L : List UInt8) (c wr t : Int) (w : World) (h : Dev w a g n L c wr t) (hn : n < 1000) : Calls Tryz.prog 29 #[.pointer (some ⟨a, 0, none⟩)] w fun e w' => e = .returned (.string ⟨L.toArray⟩) ∧ Kept [] w w' := Bytes_any a _ n _ _ w h.dq hn

end Go.Proofs.YtcklgafpgdhnaaaGreatDoor
