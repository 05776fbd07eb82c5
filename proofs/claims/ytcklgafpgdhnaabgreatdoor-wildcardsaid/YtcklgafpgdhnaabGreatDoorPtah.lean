import Derived.Test.YtcklgafpgdhnaabGreatDoorPtag
import Derived.BigQuiet
import Derived.Deep.QuietTactic
import Derived.Test.YtcklgafpgdhnaabGreatDoorPtaf
import Derived.Maps.AppendAt
set_option maxRecDepth 100000
set_option maxHeartbeats 4000000
open List renaming getElem_toArray → zA, getElem_cons_succ → zB, getElem_cons_zero → zC, setIfInBounds_toArray → zD, set_cons_succ → zE, set_cons_zero → zF
namespace Go.Proofs.YtcklgafpgdhnaabGreatDoor
open Go.RowKit

theorem getL_drop (k : ByteArray) (l : List Pr) (j : Nat) (p : Pr) (h : l[j]? = some p) : getL k (l.drop j) = if be p.1 k then some p.2 else getL k (l.drop (j + 1)) := by
 have hlt : j < l.length := (List.getElem?_eq_some_iff.1 h).1
 rw [List.drop_eq_getElem_cons hlt, (List.getElem?_eq_some_iff.1 h).2]
 rfl

def GetR (l : List Pr) (k : ByteArray) (w : World) (e : Ending) (w' : World) : Prop :=
 e = .returned (.tuple #[.string ((getL k l).getD ⟨#[]⟩), .bool (getL k l).isSome]) ∧ Kept [] w w'

def mst (m : Int) : Nat := m.toNat
def ListR (t : TypeId) (l : List Pr) (w : World) (e : Ending) (w' : World) : Prop := ∃ v, e = .returned v ∧ PL w' t v l ∧ (∀ b, v.ownBlock = some b → w.heap.size ≤ b) ∧ Kept [] w w'

end Go.Proofs.YtcklgafpgdhnaabGreatDoor

namespace Go.Proofs.YtcklgafpgdhnaabGreatDoor
open Go.RowKit

theorem Kept.drewN {S : List Nat} {a b : World} (h : Kept S a b) (n : Nat) : Kept S a (b.drewN n) := ⟨h.os, h.tape, h.output, h.size, h.block⟩

theorem w64 (n : Int) (h : -9223372036854775808 ≤ n ∧ n ≤ 9223372036854775807) : wrap64 n = n := by unfold wrap64; omega

def scells (vl : Value) (f c : Bool) (mo ch : Int) : Array Value := #[vl, .bool f, .bool c, .int .i64 mo, .int .i64 ch]

def chg (cl f : Bool) (k v : ByteArray) : Int := if cl then 5 else if f then 4 else if ¬ (1 ≤ k.size ∧ k.size ≤ 8) then 1 else if 12 < v.size then 2 else 0

theorem run_index {P : Program} {w : World} (t : TypeId) (g off n cap i k : Nat) (e : TypeId) (hu : P.underlying t = some (.slice e)) (hs : (P.info? e).map (·.size) = some k) (hi : i < n) (p : Nat) (hp : p = off + i * k) :
  (Instr.indexAt t (.slice (some ⟨g, off, none⟩) n cap) (.int .i64 i)).run P w = .ok (.pointer (some ⟨g, p, none⟩)) w := by
 cases hq : P.info? e with
 | none => simp [hq] at hs
 | some ie =>
  have hsz : ie.size = k := by simpa [hq] using hs
  subst hp
  rw [← add_lit]
  simp [Instr.indexAt, asIntOf, run_underlying hu, sizeOf, typeInfo, hq, hsz, Result.andThen, hi]

def SameI (w : World) (la lb : List Pr) (i : Value) (wr : World) : Prop := ∃ (j : Nat), j ≤ la.length ∧ i = .int .i64 j ∧ la.take j = lb.take j ∧ Kept [] w wr

end Go.Proofs.YtcklgafpgdhnaabGreatDoor

namespace Go.Proofs.YtcklgafpgdhnaabGreatDoor
open Go.RowKit






def PrS (g : Nat) (cur : Array Value) (W : World) : Prop := W.heap[g]? = some (.cells cur 52 (0, 0))

end Go.Proofs.YtcklgafpgdhnaabGreatDoor

namespace Go.Proofs.YtcklgafpgdhnaabGreatDoor
open Go.RowKit

def opnc (px : Option Addr) (vl : Value) (f c : Bool) (mo ch : Int) (lv wv : Value) : Array Value := #[.pointer px, vl, .bool f, .bool c, .int .i64 mo, .int .i64 ch, lv, wv]
structure HLd where
 v : Value
 u : Value
 l : List Pr

structure HL (w : World) (lv wv : Value) (xs : List HLd) : Prop where
 lists : w.ownsRow 0 25 1 lv xs.length (xs.map HLd.v)
 want : w.ownsRow 0 25 1 wv xs.length (xs.map HLd.u)
 apart : ∀ g, lv.ownBlock = some g → wv.ownBlock ≠ some g
 all : ∀ x ∈ xs, PL w 52 x.v x.l ∧ PL w 52 x.u x.l ∧ x.l.length ≤ 50000

theorem row1_get {w : World} {base n : Nat} {t : TypeId} {v : Value} {vs : List Value} (h : w.ownsRow base t 1 v n vs) (hl : 0 < n) : ∃ g cap cur, v = .slice (some ⟨g, 0, none⟩) n cap ∧ w.heap[g]? = some (.cells cur t (0, 0)) ∧ ∀ (i : Nat) (x : Value), vs[i]? = some x → cur[i]? = some x := by
 obtain ⟨hl, ⟨_, h0⟩ | ⟨g, cap, cur, e, _, hh, _, _, _, htk⟩⟩ := h
 ·omega
 refine ⟨g, cap, cur, e, hh, ?_⟩
 intro i x hi
 have hil : i < vs.length := (List.getElem?_eq_some_iff.1 hi).1
 rw [← htk, List.getElem?_take, if_pos (by omega)] at hi
 simpa using hi

theorem spairs : (Tryz.prog.info? 25).map (·.size) = some 1 := by kernel_rfl

def LoI (n : Nat) (w : World) (i : Value) (wr : World) : Prop := ∃ (j : Nat), j ≤ n ∧ i = .int .i64 j ∧ Kept [] w wr

end Go.Proofs.YtcklgafpgdhnaabGreatDoor

namespace Go.Proofs.YtcklgafpgdhnaabGreatDoor
open Go.RowKit

def StrR (w : World) (e : Ending) (w' : World) : Prop := (∃ s, e = .returned (.string s)) ∧ Kept [] w w'

theorem run_copy_wide {P : Program} (w : World) (dT sT ty elem : TypeId) (g o dLen dCap k : Nat) (a : Addr) (sLen sCap : Nat) (cur : Array Value) (t : TypeId) (cs : List Value)
  (hu : P.underlying dT = some (.slice elem)) (hs : (P.info? elem).map (·.size) = some k)
  (hg : w.heap[g]? = some (.cells cur t (0, 0))) (hn : cs.length = Nat.min sLen dLen * k)
  (hsrc : ∀ j v, cs[j]? = some v → w.cell? (a.add j) = some v) (hfit : o + cs.length ≤ cur.size) (h1 : ∀ v ∈ cs, v.oneCell' = true) :
  (Builtin.copy_ #[dT, sT] ty #[.slice (some ⟨g, o, none⟩) dLen dCap, .slice (some a) sLen sCap]).run P w =
   .ok (goInt (Nat.min sLen dLen)) (w.setRow g (cur.toList.take o ++ cs ++ cur.toList.drop (o + cs.length)).toArray) := by
 have hl := run_loadCells_list (P := P) w a cs hsrc
 have hst := run_storeCells_at P g o t cs 0 cur w hg (by simpa using hfit) h1
 cases hq : P.info? elem with
 | none => simp [hq] at hs
 | some i =>
  have hi : i.size = k := by simpa [hq] using hs
  rw [hn] at hl
  simp [Builtin.copy_, run_underlying hu, Builtin.lenOf, Builtin.firstCells, sizeOf, typeInfo, hq, hi, hl, hst]

theorem mkpairs (m : Nat) (hm : m ≤ 100000) (w : World) : ∃ z : List Value, z.length = m * 2 ∧ (Instr.makeSlice 25 (.int .i64 m) (.int .i64 m)).run Tryz.prog w = .ok (.slice (some ⟨w.heap.size, 0, none⟩) m m) (w.alloc (.cells z.toArray 52)) := by
 obtain ⟨ie, hie, hz1, hz2, hz3⟩ := info_parts iap
 obtain ⟨z, hz⟩ : ∃ z : Value, ie.zero = some z := ⟨_, hz1⟩
 have := run_make (P := Tryz.prog) w 25 52 ie z Tryz.underlying25 hie hz .i64 .i64 m m (by omega) (by omega) (by rw [hz3]; omega) (by omega)
 refine ⟨(Array.map (fun x => z.cells[x % z.cells.size]!) (Array.range (m * ie.size))).toList, ?_, ?_⟩
 ·simp [hz2]
 ·rw [this]; rfl

theorem run_buildS {P : Program} (w : World) (t e : TypeId) (v : Value) (ie : TypeInfo) (z : Value) (hu : P.underlying t = some (.slice e)) (hi : P.info? e = some ie) (hz : ie.zero = some z) (hzc : z.cells = #[z]) (hs : ie.size = 1) (h1 : v.cells = #[v]) :
  (Instr.buildSlice t 1 #[(0, v)]).run P w = .ok (.slice (some ⟨w.heap.size, 0, none⟩) 1 1) (w.alloc (.cells #[v] e)) := by
 have hr : (Array.range 1).map (fun i => (z.cells)[i % z.cells.size]!) = #[z] := by
  rw [hzc]
  apply Array.ext
  ·simp
  ·intro i _ h2
   simp at h2
   subst h2
   simp
 have hf : Instr.fill (fun i => some (i, 1)) #[z] [(0, v)] = some #[v] := by
  simp [Instr.fill, h1]
 simp [Instr.buildSlice, run_underlying hu, sizeOf, typeInfo, hi, zeroValue, hz, newRow, hs, hr, hf]


theorem ipairs : (Tryz.prog.info? 25).map (fun i => (i.zero, i.size, i.bytes)) = some (some (.slice none 0 0), 1, 24) := by kernel_rfl

end Go.Proofs.YtcklgafpgdhnaabGreatDoor

namespace Go.Proofs.YtcklgafpgdhnaabGreatDoor
open Go.RowKit

theorem HL.kept {S : List Nat} {w w' : World} {lv wv : Value} {xs : List HLd} (h : HL w lv wv xs) (k : Kept S w w') (h1 : ∀ g, lv.ownBlock = some g → g ∉ S) (h2 : ∀ g, wv.ownBlock = some g → g ∉ S) (h3 : ∀ x ∈ xs, (∀ g, x.v.ownBlock = some g → g ∉ S) ∧ (∀ g, x.u.ownBlock = some g → g ∉ S)) : HL w' lv wv xs :=
 ⟨owns_kept h.lists k h1, owns_kept h.want k h2, h.apart, fun x hx => by
  obtain ⟨a, b, c⟩ := h.all x hx
  exact ⟨a.kept k (h3 x hx).1, b.kept k (h3 x hx).2, c⟩⟩

theorem HL.fresh {w w' : World} {lv wv : Value} {xs : List HLd} (h : HL w lv wv xs) (k : Kept [] w w') : HL w' lv wv xs := h.kept k (by simp) (by simp) (by simp)

theorem PL.tag {w : World} {t : TypeId} {v : Value} {l : List Pr} (h : PL w t v l) {g : Nat} (hg : v.ownBlock = some g) : ∃ cs fr, w.heap[g]? = some (.cells cs t fr) := by
 obtain ⟨_, ⟨rfl, _⟩ | ⟨g', cap, cur, rfl, _, hh, _⟩⟩ := h
 ·cases hg
 ·cases hg; exact ⟨_, _, hh⟩
theorem ne_rows {w : World} {a b : Nat} {t1 t2 : TypeId} (h1 : ∃ cs fr, w.heap[a]? = some (.cells cs t1 fr)) (h2 : ∃ cs fr, w.heap[b]? = some (.cells cs t2 fr)) (ht : t1 ≠ t2) : a ≠ b := by
 obtain ⟨_, _, h1⟩ := h1
 obtain ⟨_, _, h2⟩ := h2
 exact ne_tag h1 h2 ht

def Cop (w : World) (l : List Pr) (W : World) : Prop := W.heap[w.heap.size]? = some (.cells (flat2 l).toArray 52 (0, 0)) ∧ Kept [] w W

end Go.Proofs.YtcklgafpgdhnaabGreatDoor

namespace Go.Proofs.YtcklgafpgdhnaabGreatDoor
open Go.RowKit

theorem wpList_store_seg {P : Program} {ops : Array Oper} {Q : Exit → Act → World → Prop} {rest : List Oper} {o : Oper} {a : Act} {w : World} (hgd : o.guard = none) (ty : TypeId) (x y : Operand) (ho : o.op = .store ty x y) (ad : Addr) (hx : a.eval x = .pointer (some ad)) (v : Value) (hy : a.eval y = v) (w' : World)
  (hrun : (storeVar ty ad v).run P w = .ok () w') (h : wpList P ops Q rest (a.put o.dst undef) w') : wpList P ops Q (o :: rest) a w :=
 wpList_skip hgd w' (exec_store ty x y ho ad hx v hy hrun) h

theorem take_splice0 {α : Type} (L cs : List α) (off n : Nat) (h : off + cs.length ≤ n) (h2 : n ≤ L.length) : (splice L off cs).take n = splice (L.take n) off cs := by
 have e1 : (L.take off).length = off := by rw [List.length_take]; omega
 simp only [splice]
 rw [List.take_append, List.take_append, List.take_take, e1, List.take_of_length_le (l := cs) (by omega), List.take_take, Nat.min_eq_right (by omega), Nat.min_eq_left (by omega), List.drop_take]
 rw [show n - off - cs.length = n - (off + cs.length) by omega]

theorem flat2_set (l : List Pr) (i : Nat) (p : Pr) (h : i < l.length) : splice (flat2 l) (i * 2) (pcells p) = flat2 (l.set i p) := by
 induction l generalizing i with
 | nil => simp at h
 | cons x r ih =>
  cases i with
  | zero => simp [splice, flat2, pcells]
  | succ i =>
   have hi : i < r.length := by simpa using h
   have := ih i hi
   have e1 : flat2 (x :: r) = pcells x ++ flat2 r := rfl
   have e2 : flat2 ((x :: r).set (i + 1) p) = pcells x ++ flat2 (r.set i p) := rfl
   rw [e1, e2, ← this]
   simp only [splice, length_pcells]
   rw [show (i + 1) * 2 = 2 + i * 2 by omega, show (2 + i * 2 + 2) = 2 + (i * 2 + 2) by omega]
   simp [pcells, List.take_succ_cons, show 2 + i * 2 = i * 2 + 1 + 1 by omega, show 2 + (i * 2 + 2) = (i * 2 + 2) + 1 + 1 by omega]

theorem PL.set {w : World} {t ty : TypeId} {g cap i : Nat} {l : List Pr} {P : Program} (h : PL w t (.slice (some ⟨g, 0, none⟩) l.length cap) l) (hi : i < l.length) (hs : (P.info? ty).map (·.size) = some 2) (p : Pr) :
  ∃ W, (storeVar ty ⟨g, i * 2, none⟩ (.agg #[.string p.1, .string p.2])).run P w = .ok () W ∧ PL W t (.slice (some ⟨g, 0, none⟩) l.length cap) (l.set i p) ∧ Kept [g] w W := by
 obtain ⟨hlen, ⟨e, _⟩ | ⟨g', cap', cur, e, hb, hh, hc, hm, hsz, htk⟩⟩ := h
 ·cases e
 cases e
 have hr := run_storeVar_seg (P := P) w g (i * 2) t ty cur.toList (pcells p) (by simpa using hh) hs (by rw [length_pcells]; simp; omega) (one_pcells p)
 refine ⟨_, hr, ⟨by rw [length_flat2, List.length_set], Or.inr ⟨g, cap, _, by rw [List.length_set], hb, setRow_heap w g _ _ t _ hh, by simpa using hc, hm, ?_, ?_⟩⟩, (Kept.refl _ _).setRow (Or.inl (by simp)) _⟩
 ·simp only [List.size_toArray]
  rw [length_splice _ _ _ (by rw [length_pcells]; simp; omega)]
  simpa using hsz
 ·rw [← flat2_set l i p hi, ← htk, List.length_set]
  exact take_splice0 _ _ _ _ (by rw [length_pcells]; omega) (by simp; have := Nat.mul_le_mul_right 2 hc; omega)

end Go.Proofs.YtcklgafpgdhnaabGreatDoor

namespace Go.Proofs.YtcklgafpgdhnaabGreatDoor
open Go.RowKit

theorem flat2_append (a b : List Pr) : flat2 (a ++ b) = flat2 a ++ flat2 b := by simp [flat2]
theorem one_flat2 (l : List Pr) : ∀ u ∈ flat2 l, u.oneCell' = true := by
 intro u hu
 simp only [flat2, List.mem_flatMap] at hu
 obtain ⟨p, _, hp⟩ := hu
 exact one_pcells p u hp

theorem append_PL (ty : TypeId) (w : World) (v : Value) (l : List Pr) (hP : PL w 52 v l) (hl : l.length ≤ 50000) (nb : Nat) (ps : List Pr) (m c : Nat) (hm : ps.length = m) (hm5 : m ≤ 50000) (hnb : w.heap[nb]? = some (.cells (flat2 ps).toArray 52 (0, 0))) :
  ∃ v' w', (Builtin.append_ #[25, 25] ty #[v, .slice (some ⟨nb, 0, none⟩) m c]).run Tryz.prog w = .ok v' w' ∧ PL w' 52 v' (l ++ ps) ∧ PL w' 52 v l ∧ Kept v.ownBlock.toList w w' ∧ (v'.ownBlock = v.ownBlock ∨ v'.ownBlock = some w.heap.size) := by
 obtain ⟨ie, hie, hz1, hz2, hz3⟩ := info_parts iap
 have hnl : (flat2 ps).length = m * 2 := by rw [length_flat2, hm]
 obtain ⟨v', w', hr, ho, hg, _, hob⟩ := run_append_own_at (P := Tryz.prog) w 0 25 ty 52 ie _ 2 32 Tryz.underlying25 hie hz1 hz2 hz3 rfl (by decide) v l.length (flat2 l) hP ⟨nb, 0, none⟩ m c (flat2 ps) hnl (row_src hnb) (one_flat2 ps) (by unfold maxLen; omega) (by omega) (Nat.zero_le _)
 have kk := grown_kept hg v.ownBlock.toList (by intro y hy; rw [hy]; simp)
 refine ⟨v', w', hr, ?_, ?_, kk, hob⟩
 ·show World.ownsRow _ _ _ _ _ _ _
  rw [flat2_append, List.length_append, hm]; exact ho
 ·have hP' := hP
  obtain ⟨hlen, ⟨rfl, h0⟩ | ⟨g, cap, cur, rfl, hb, hh, hc, hmx, hsz, htk⟩⟩ := hP'
  ·exact ⟨hlen, Or.inl ⟨rfl, h0⟩⟩
  ·by_cases hroom : l.length + m ≤ cap
   ·have hfit : l.length * ie.size + (flat2 ps).length ≤ cur.size := by rw [hz2, hnl, hsz]; omega
    have hr2 := run_append_room (P := Tryz.prog) w 25 ty 52 ie Tryz.underlying25 hie g l.length cap cur hh ⟨nb, 0, none⟩ m c (flat2 ps) (by rw [hz2]; exact hnl) (row_src hnb) (one_flat2 ps) hroom hfit
    rw [hr2] at hr
    cases hr
    refine ⟨hlen, Or.inr ⟨g, cap, _, rfl, hb, setRow_heap w g _ _ _ _ hh, hc, hmx, ?_, ?_⟩⟩
    ·simp only [List.size_toArray, List.length_append, List.length_take, List.length_drop, Array.length_toList]
     omega
    ·rw [hz2, List.append_assoc, List.take_append_of_le_length (by rw [List.length_take]; simp; omega), List.take_take, Nat.min_self]
     exact htk
   ·have holds : ∀ j u, (flat2 l)[j]? = some u → w.cell? ((⟨g, 0, none⟩ : Addr).add j) = some u := World.ownsRow.cells hP (g := g) rfl
    have hr2 := run_append_grow (P := Tryz.prog) w 25 ty 52 ie _ Tryz.underlying25 hie hz1 ⟨g, 0, none⟩ l.length cap (flat2 l) (by rw [hz2]; exact hlen) holds ⟨nb, 0, none⟩ m c (flat2 ps) (by rw [hz2]; exact hnl) (row_src hnb) (by omega) (by omega) (growslice_fits (by omega) (by rw [hz3]; omega))
    rw [hr2] at hr
    cases hr
    exact ⟨hlen, Or.inr ⟨g, cap, cur, rfl, hb, ((Kept.refl [] w).drew.alloc _).get hh (by simp), hc, hmx, hsz, htk⟩⟩

theorem wpList_append_PL {w : World} {ops : Array Oper} {rest : List Oper} {o : Oper} {a : Act} {Q : Exit → Act → World → Prop} (hgd : o.guard = none) (s x : Operand) (ho : o.op = .call { callee := .builtin .append, args := #[s, x], argTypes := #[25, 25] })
  (v : Value) (l : List Pr) (hs : a.eval s = v) (hP : PL w 52 v l) (hl : l.length ≤ 50000) (nb : Nat) (ps : List Pr) (m c : Nat) (hx : a.eval x = .slice (some ⟨nb, 0, none⟩) m c) (hm : ps.length = m) (hm5 : m ≤ 50000) (hnb : w.heap[nb]? = some (.cells (flat2 ps).toArray 52 (0, 0)))
  (h : ∀ v' w', PL w' 52 v' (l ++ ps) → PL w' 52 v l → Kept v.ownBlock.toList w w' → (v'.ownBlock = v.ownBlock ∨ v'.ownBlock = some w.heap.size) → wpList Tryz.prog ops Q rest (a.put o.dst v') w') : wpList Tryz.prog ops Q (o :: rest) a w := by
 obtain ⟨v', w', hr, h1, h2, h3, h4⟩ := append_PL o.type w v l hP hl nb ps m c hm hm5 hnb
 exact wpList_val hgd v' w' (exec_append s x 25 ho v _ hs hx v' hr) (h v' w' h1 h2 h3 h4)

def KpI (v : Value) (n : Nat) (w : World) (i : Value) (wr : World) : Prop := ∃ (j : Nat) (l : List Pr), j ≤ n ∧ i = .int .i64 j ∧ l.length = n ∧ PL wr 52 v l ∧ Kept v.ownBlock.toList w wr

end Go.Proofs.YtcklgafpgdhnaabGreatDoor

namespace Go.Proofs.YtcklgafpgdhnaabGreatDoor
open Go.RowKit

def keyOk (k : ByteArray) : Prop := 1 ≤ k.size ∧ k.size ≤ 8
instance (k : ByteArray) : Decidable (keyOk k) := by unfold keyOk; infer_instance
def roomy (n mo k : Nat) : Prop := 3 * max mo k + 12 ≤ n

end Go.Proofs.YtcklgafpgdhnaabGreatDoor

namespace Go.Proofs.YtcklgafpgdhnaabGreatDoor


def ge (a b : ByteArray) : Prop := bl a b = false
theorem ge_refl (a : ByteArray) : ge a a := bl_irrefl a
theorem lt_ge {a b : ByteArray} (h : bl a b = true) : ge b a := by
 unfold ge
 cases hb : bl b a with
 | false => rfl
 | true => have := bl_trans h hb; rw [bl_irrefl] at this; cases this
theorem lt_of_lt_ge {a b c : ByteArray} (h : bl a b = true) (hc : ge c b) : bl a c = true := by
 rcases bl_total b c with h' | rfl | h'
 ·exact bl_trans h h'
 ·exact h
 ·unfold ge at hc; rw [hc] at h'; cases h'
theorem lt_of_ge_lt {a b c : ByteArray} (h : ge b a) (hc : bl b c = true) : bl a c = true := by
 rcases bl_total a b with h' | rfl | h'
 ·exact bl_trans h' hc
 ·exact hc
 ·unfold ge at h; rw [h] at h'; cases h'
theorem ge_trans {a b c : ByteArray} (h1 : ge a b) (h2 : ge b c) : ge a c := by
 unfold ge
 cases h : bl a c with
 | false => rfl
 | true => have := lt_of_lt_ge h h2; unfold ge at h1; rw [h1] at this; cases this
theorem ne_of_lt {a b : ByteArray} (h : bl a b = true) : be a b = false := by
 rw [be_false]; rintro rfl; rw [bl_irrefl] at h; cases h
theorem be_comm (a b : ByteArray) : be a b = be b a := by
 cases h : be a b with
 | true => rw [(be_iff a b).1 h, be_refl]
 | false => symm; rw [be_false]; rw [be_false] at h; exact fun e => h e.symm

def Srt (l : List Pr) : Prop := l.Pairwise fun p q => bl p.1 q.1 = true

theorem withGo_true (k v : ByteArray) (l : List Pr) : withGo k v true l = withoutL k l := by
 induction l with
 | nil => rfl
 | cons p r ih =>
  rw [withGo_cons]
  simp only [Bool.not_true, Bool.false_and, Bool.false_eq_true, if_false, List.nil_append, Bool.true_or, ih, withoutL, List.filter_cons]
  cases be p.1 k <;> simp
theorem without_id (k : ByteArray) (l : List Pr) (h : ∀ p ∈ l, be p.1 k = false) : withoutL k l = l := by
 rw [withoutL, List.filter_eq_self]
 intro p hp; simp [h p hp]
theorem with_app_lt (k v : ByteArray) (A l : List Pr) (h : ∀ p ∈ A, bl p.1 k = true) : withL k v (A ++ l) = A ++ withL k v l := by
 induction A with
 | nil => rfl
 | cons p r ih =>
  have hp := h p (by simp)
  have := ih fun q hq => h q (by simp [hq])
  unfold withL at this ⊢
  rw [List.cons_append, withGo_cons, hp, ne_of_lt hp]
  simp [this]
theorem withGo_app_gt (k v : ByteArray) (b : Bool) (l B : List Pr) (h : ∀ p ∈ B, bl k p.1 = true) : withGo k v b (l ++ B) = withGo k v b l ++ B := by
 induction l generalizing b with
 | nil =>
  have hB : withoutL k B = B := without_id k B fun p hp => by rw [be_comm]; exact ne_of_lt (h p hp)
  cases b with
  | true => rw [List.nil_append, withGo_true, hB, withGo_nil]; rfl
  | false =>
   cases B with
   | nil => simp
   | cons q r =>
    have hq := h q (by simp)
    have hr : withoutL k r = r := without_id k r fun p hp => by rw [be_comm]; exact ne_of_lt (h p (by simp [hp]))
    have hlt : bl q.1 k = false := lt_ge hq
    have hne : be q.1 k = false := by rw [be_comm]; exact ne_of_lt hq
    rw [List.nil_append, withGo_cons, hlt, hne]
    simp [withGo_true, hr, withGo_nil]
 | cons p r ih =>
  rw [List.cons_append, withGo_cons, withGo_cons, ih]
  simp
theorem with_app_gt (k v : ByteArray) (l B : List Pr) (h : ∀ p ∈ B, bl k p.1 = true) : withL k v (l ++ B) = withL k v l ++ B := withGo_app_gt k v false l B h
theorem without_app (k : ByteArray) (A B : List Pr) : withoutL k (A ++ B) = withoutL k A ++ withoutL k B := List.filter_append ..
theorem without_lt (k : ByteArray) (A : List Pr) (h : ∀ p ∈ A, bl p.1 k = true) : withoutL k A = A := without_id k A fun p hp => ne_of_lt (h p hp)
theorem without_gt (k : ByteArray) (A : List Pr) (h : ∀ p ∈ A, bl k p.1 = true) : withoutL k A = A := without_id k A fun p hp => by rw [be_comm]; exact ne_of_lt (h p hp)

theorem mem_withGo {k v : ByteArray} {b : Bool} {l : List Pr} {p : Pr} (h : p ∈ withGo k v b l) : p = (k, v) ∨ p ∈ l := by
 induction l generalizing b with
 | nil => cases b <;> simp [withGo] at h; exact Or.inl h
 | cons q r ih =>
  rw [withGo_cons] at h
  simp only [List.mem_append] at h
  rcases h with (h | h) | h
  ·split at h
   ·simp at h; exact Or.inl h
   ·cases h
  ·split at h
   ·cases h
   ·simp at h; subst h; exact Or.inr (by simp)
  ·rcases ih h with h | h
   ·exact Or.inl h
   ·exact Or.inr (by simp [h])
theorem mem_without {k : ByteArray} {l : List Pr} {p : Pr} (h : p ∈ withoutL k l) : p ∈ l := (List.mem_filter.1 h).1
theorem srt_without {k : ByteArray} {l : List Pr} (h : Srt l) : Srt (withoutL k l) := List.Pairwise.filter _ h
theorem srt_with (k v : ByteArray) (l : List Pr) (h : Srt l) : Srt (withL k v l) := by
 induction l with
 | nil => simp [withL, withGo, Srt]
 | cons p r ih =>
  have hr : Srt r := (List.pairwise_cons.1 h).2
  have hp := (List.pairwise_cons.1 h).1
  rcases bl_total p.1 k with hl | he | hl
  ·have e : withL k v (p :: r) = p :: withL k v r := with_app_lt k v [p] r (by simp [hl])
   rw [e]
   refine List.pairwise_cons.2 ⟨?_, ih hr⟩
   intro q hq
   rcases mem_withGo hq with rfl | hq
   ·exact hl
   ·exact hp q hq
  ·have e : withL k v (p :: r) = (k, v) :: r := by
    have hr' : withoutL k r = r := without_gt k r fun q hq => by rw [← he]; exact hp q hq
    unfold withL
    rw [withGo_cons, he, bl_irrefl, be_refl]
    simp [withGo_true, hr']
   rw [e]
   exact List.pairwise_cons.2 ⟨fun q hq => by rw [← he]; exact hp q hq, hr⟩
  ·have hg : ∀ q ∈ p :: r, bl k q.1 = true := by
    intro q hq
    rcases List.mem_cons.1 hq with rfl | hq
    ·exact hl
    ·exact bl_trans hl (hp q hq)
   have e : withL k v (p :: r) = (k, v) :: p :: r := by
    have := with_app_gt k v [] (p :: r) hg
    simpa [withL, withGo] using this
   rw [e]
   exact List.pairwise_cons.2 ⟨hg, h⟩

end Go.Proofs.YtcklgafpgdhnaabGreatDoor
