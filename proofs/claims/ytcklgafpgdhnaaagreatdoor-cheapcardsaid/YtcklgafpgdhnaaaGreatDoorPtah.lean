import Derived.Test.YtcklgafpgdhnaaaGreatDoorPtag
import Derived.Lib.Bytealg
import Derived.Test.YtcklgafpgdhnaaaGreatDoorPtae
import Derived.BigQuiet
import Derived.Deep.QuietTactic
import Derived.Maps.AppendAt
set_option maxRecDepth 100000
set_option maxHeartbeats 4000000
open List renaming getElem_toArray → zA, getElem_cons_succ → zB, getElem_cons_zero → zC, setIfInBounds_toArray → zD, set_cons_succ → zE, set_cons_zero → zF
namespace Go.Proofs.YtcklgafpgdhnaaaGreatDoor
open Go.RowKit

abbrev Pr := ByteArray × ByteArray
def pcells (p : Pr) : List Value := [.string p.1, .string p.2]
def flat2 (l : List Pr) : List Value := l.flatMap pcells
theorem length_pcells (p : Pr) : (pcells p).length = 2 := rfl
theorem length_flat2 (l : List Pr) : (flat2 l).length = l.length * 2 := by
 induction l with
 | nil => rfl
 | cons o r ih =>
  have : flat2 (o :: r) = pcells o ++ flat2 r := rfl
  rw [this, List.length_append, ih, length_pcells, List.length_cons]
  omega
theorem flat2_get (l : List Pr) : ∀ (i : Nat) (p : Pr), l[i]? = some p → ∀ (j : Nat) (v : Value), (pcells p)[j]? = some v → (flat2 l)[i * 2 + j]? = some v := by
 induction l with
 | nil => intro i o h; simp at h
 | cons x r ih =>
  intro i o h j v hv
  have hj : j < 2 := by have := (List.getElem?_eq_some_iff.1 hv).1; rwa [length_pcells] at this
  have e : flat2 (x :: r) = pcells x ++ flat2 r := rfl
  rw [e]
  cases i with
  | zero =>
   simp at h; subst h
   rw [List.getElem?_append_left (by rw [length_pcells]; omega)]
   simpa using hv
  | succ i =>
   rw [List.getElem?_append_right (by rw [length_pcells]; omega), length_pcells]
   have := ih i o (by simpa using h) j v hv
   rw [show (i + 1) * 2 + j - 2 = i * 2 + j by omega]
   exact this
theorem one_pcells (p : Pr) : ∀ v ∈ pcells p, v.oneCell' = true := by
 intro v hv
 simp only [pcells, List.mem_cons, List.not_mem_nil, or_false] at hv
 rcases hv with rfl | rfl <;> rfl

def PL (w : World) (t : TypeId) (v : Value) (l : List Pr) : Prop := w.ownsRow 0 t 2 v l.length (flat2 l)

theorem PL.nil (w : World) (t : TypeId) : PL w t (.slice none 0 0) [] := World.ownsRow_nil _ _ _ _

theorem PL.shape {w : World} {t : TypeId} {v : Value} {l : List Pr} (h : PL w t v l) : ∃ p cap, v = .slice p l.length cap := by
 obtain ⟨_, ⟨rfl, h0⟩ | ⟨g, cap, cur, rfl, _⟩⟩ := h
 ·exact ⟨none, 0, by rw [h0]⟩
 ·exact ⟨_, _, rfl⟩

theorem PL.at_ {w : World} {t : TypeId} {v : Value} {l : List Pr} (h : PL w t v l) (hl : 0 < l.length) : ∃ g cap cur, v = .slice (some ⟨g, 0, none⟩) l.length cap ∧ w.heap[g]? = some (.cells cur t (0, 0)) ∧
  (∀ (i : Nat) (p : Pr), l[i]? = some p → cur[i * 2]? = some (.string p.1) ∧ cur[i * 2 + 1]? = some (.string p.2)) := by
 obtain ⟨_, ⟨_, h0⟩ | ⟨g, cap, cur, e, _, hh, _, _, _, htk⟩⟩ := h
 ·omega
 refine ⟨g, cap, cur, e, hh, ?_⟩
 intro i p hi
 have hil : i < l.length := (List.getElem?_eq_some_iff.1 hi).1
 have h0 := flat2_get l i p hi 0 _ rfl
 have h1 := flat2_get l i p hi 1 _ rfl
 rw [← htk, List.getElem?_take, if_pos (by omega)] at h0 h1
 exact ⟨by simpa using h0, by simpa using h1⟩

theorem PL.load {w : World} {t ty : TypeId} {g i : Nat} {cur : Array Value} {p : Pr} (fs : _) {P : Program} (hg : w.heap[g]? = some (.cells cur t (0, 0))) (hc : cur[i * 2]? = some (.string p.1) ∧ cur[i * 2 + 1]? = some (.string p.2))
  (hu : P.underlying ty = some (.struct fs)) (hi : (P.info? ty).map (·.size) = some 2) :
  (loadVar ty ⟨g, i * 2, none⟩).run P w = .ok (.agg #[.string p.1, .string p.2]) w := by
 refine run_loadVar_seg (P := P) w g (i * 2) t ty cur.toList [.string p.1, .string p.2] (0, 0) _ (by simpa using hg) hu rfl hi ?_
 intro j v hv
 rcases j with _ | _ | j
 ·simp at hv; subst hv; simpa using hc.1
 ·simp at hv; subst hv; simpa using hc.2
 ·simp at hv

theorem PL.kept {S : List Nat} {w w' : World} {t : TypeId} {v : Value} {l : List Pr} (h : PL w t v l) (k : Kept S w w') (hS : ∀ b, v.ownBlock = some b → b ∉ S) : PL w' t v l := owns_kept h k hS


def bl (a b : ByteArray) : Bool := Op.bytesLess a.toList b.toList
def be (a b : ByteArray) : Bool := a.toList == b.toList

theorem toList_of (s : ByteArray) : s.toList = s.data.toList := ByteArray.toList_eq s
theorem lessL : ∀ (x y : List UInt8), Op.bytesLess x y = decide (x < y)
 | [], [] => by simp [Op.bytesLess]
 | _ :: _, [] => by simp [Op.bytesLess]
 | [], _ :: _ => by simp [Op.bytesLess]
 | a :: x, b :: y => by
  have ih := lessL x y
  unfold Op.bytesLess
  rw [ih]
  by_cases h1 : a < b <;> by_cases h2 : a = b <;> by_cases h3 : x < y <;> simp [List.cons_lt_cons_iff, h1, h2, h3]
theorem bl_def (a b : ByteArray) : bl a b = decide (a.data.toList < b.data.toList) := by rw [bl, lessL, toList_of, toList_of]
theorem be_iff (a b : ByteArray) : be a b = true ↔ a = b := by
 rw [be, toList_of, toList_of, beq_iff_eq]
 constructor
 ·intro h
  cases a; cases b
  simp only [ByteArray.mk.injEq]
  exact Array.toList_inj.1 h
 ·rintro rfl; rfl
theorem be_false (a b : ByteArray) : be a b = false ↔ a ≠ b := by
 have := be_iff a b
 cases h : be a b <;> simp_all
theorem be_refl (a : ByteArray) : be a a = true := (be_iff a a).2 rfl
theorem bl_irrefl (a : ByteArray) : bl a a = false := by rw [bl_def]; simp [List.lt_irrefl]
theorem bl_trans {a b c : ByteArray} (h1 : bl a b = true) (h2 : bl b c = true) : bl a c = true := by
 rw [bl_def, decide_eq_true_eq] at *; exact List.lt_trans h1 h2
theorem bl_total (a b : ByteArray) : bl a b = true ∨ a = b ∨ bl b a = true := by
 simp only [bl_def, decide_eq_true_eq]
 rcases Decidable.em (a.data.toList < b.data.toList) with h | h
 ·exact Or.inl h
 rcases Decidable.em (b.data.toList < a.data.toList) with h' | h'
 ·exact Or.inr (Or.inr h')
 right; left
 have := List.le_antisymm (List.not_lt.1 h') (List.not_lt.1 h)
 cases a; cases b
 simp only [ByteArray.mk.injEq]
 exact Array.toList_inj.1 this

def withGo (k v : ByteArray) : Bool → List Pr → List Pr
 | b, [] => if b then [] else [(k, v)]
 | b, p :: r => (if !b && !bl p.1 k then [(k, v)] else []) ++ (if be p.1 k then [] else [p]) ++ withGo k v (b || !bl p.1 k) r
def withL (k v : ByteArray) (l : List Pr) : List Pr := withGo k v false l
def withoutL (k : ByteArray) (l : List Pr) : List Pr := l.filter fun p => !be p.1 k
def getL (k : ByteArray) : List Pr → Option ByteArray
 | [] => none
 | p :: r => if be p.1 k then some p.2 else getL k r
end Go.Proofs.YtcklgafpgdhnaaaGreatDoor

namespace Go.Proofs.YtcklgafpgdhnaaaGreatDoor
open Go.RowKit

def tx (s : ByteArray) : List UInt8 := UInt8.ofNat s.size :: s.data.toList
def pkP (p : Pr) : List UInt8 := tx p.1 ++ tx p.2
def pkK (k : ByteArray × Nat) : List UInt8 := tx k.1 ++ (List.replicate (8 - k.1.size) 0 ++ bytesOf k.2 2)
def sealed (B : List UInt8) : List UInt8 := B ++ bytesOf (crc B) 4
def padTo (k : Nat) (l : List UInt8) : List UInt8 := l ++ List.replicate (k - l.length) 0
def encI (kind : UInt8) (n : Nat) (items : List UInt8) : List UInt8 := sealed (padTo 124 (kind :: UInt8.ofNat n :: items))
def encL (l : List Pr) : List UInt8 := encI 76 l.length (l.flatMap pkP)
def encB (ks : List (ByteArray × Nat)) : List UInt8 := encI 66 ks.length (ks.flatMap pkK)

theorem length_tx (s : ByteArray) : (tx s).length = 1 + s.size := by simp [tx]; omega
theorem length_pkP (p : Pr) : (pkP p).length = 2 + p.1.size + p.2.size := by simp [pkP, length_tx]; omega
theorem length_bytesOf' (n k : Nat) : (bytesOf n k).length = k := by simp [bytesOf]
theorem length_pkK (k : ByteArray × Nat) (h : k.1.size ≤ 8) : (pkK k).length = 11 := by simp [pkK, length_tx, length_bytesOf']; omega

inductive Nb where
 | leaf (l : List Pr)
 | branch (ks : List (ByteArray × Nat))
def encN : Nb → List UInt8
 | .leaf l => encL l
 | .branch ks => encB ks
def fitsN : Nb → Prop
 | .leaf l => (∀ p ∈ l, p.1.size ≤ 8 ∧ p.2.size ≤ 12) ∧ (l.map fun p => 2 + p.1.size + p.2.size).sum ≤ 122
 | .branch ks => (∀ k ∈ ks, k.1.size ≤ 8 ∧ k.2 < 65536) ∧ 11 * ks.length ≤ 122

theorem length_flatP (l : List Pr) : (l.flatMap pkP).length = (l.map fun p => 2 + p.1.size + p.2.size).sum := by
 induction l with
 | nil => rfl
 | cons p l ih => simp only [List.flatMap_cons, List.length_append, length_pkP, ih, List.map_cons, List.sum_cons]
theorem length_flatB (ks : List (ByteArray × Nat)) (h : ∀ k ∈ ks, k.1.size ≤ 8) : (ks.flatMap pkK).length = 11 * ks.length := by
 induction ks with
 | nil => rfl
 | cons p l ih =>
  rw [List.flatMap_cons, List.length_append, length_pkK p (h p (by simp)), ih fun k hk => h k (by simp [hk]), List.length_cons]
  omega
theorem length_padTo (k : Nat) (l : List UInt8) (h : l.length ≤ k) : (padTo k l).length = k := by simp [padTo]; omega
theorem length_sealed (B : List UInt8) : (sealed B).length = B.length + 4 := by simp [sealed, length_bytesOf']
theorem length_encI (c : UInt8) (n : Nat) (i : List UInt8) (h : i.length ≤ 122) : (encI c n i).length = 128 := by
 rw [encI, length_sealed, length_padTo _ _ (by simp; omega)]
theorem sum_ge2 (l : List Pr) : 2 * l.length ≤ (l.map fun p => 2 + p.1.size + p.2.size).sum := by
 induction l with
 | nil => simp
 | cons p l ih => simp only [List.length_cons, List.map_cons, List.sum_cons]; omega
theorem length_encN {n : Nb} (h : fitsN n) : (encN n).length = 128 := by
 cases n with
 | leaf l => exact length_encI _ _ _ (by rw [length_flatP]; exact h.2)
 | branch ks => exact length_encI _ _ _ (by rw [length_flatB _ fun k hk => (h.1 k hk).1]; exact h.2)

end Go.Proofs.YtcklgafpgdhnaaaGreatDoor

namespace Go.Proofs.YtcklgafpgdhnaaaGreatDoor
open Go.RowKit

theorem own_ge {w : World} {base e size n : Nat} {v : Value} {xs : List Value} (h : w.ownsRow base e size v n xs) : ∀ y ∈ v.ownBlock.toList, base ≤ y := by
 intro y hy
 simp at hy
 exact (h.lt y hy).1
theorem own_lt {w : World} {base e size n : Nat} {v : Value} {xs : List Value} (h : w.ownsRow base e size v n xs) : ∀ y ∈ v.ownBlock.toList, y < w.heap.size := by
 intro y hy
 simp at hy
 exact (h.lt y hy).2

theorem withGo_nil (k v : ByteArray) (b : Bool) : withGo k v b [] = if b then [] else [(k, v)] := rfl
theorem withGo_cons (k v : ByteArray) (b : Bool) (p : Pr) (r : List Pr) : withGo k v b (p :: r) = (if !b && !bl p.1 k then [(k, v)] else []) ++ (if be p.1 k then [] else [p]) ++ withGo k v (b || !bl p.1 k) r := rfl

end Go.Proofs.YtcklgafpgdhnaaaGreatDoor

namespace Go.Proofs.YtcklgafpgdhnaaaGreatDoor
open Go.RowKit

theorem Kept.drewN {S : List Nat} {a b : World} (h : Kept S a b) (n : Nat) : Kept S a (b.drewN n) := ⟨h.os, h.tape, h.output, h.size, h.block⟩

theorem w64 (n : Int) (h : -9223372036854775808 ≤ n ∧ n ≤ 9223372036854775807) : wrap64 n = n := by unfold wrap64; omega

def chg (cl f : Bool) (k v : ByteArray) : Int := if cl then 5 else if f then 4 else if ¬ (1 ≤ k.size ∧ k.size ≤ 8) then 1 else if 12 < v.size then 2 else 0

theorem run_index {P : Program} {w : World} (t : TypeId) (g off n cap i k : Nat) (e : TypeId) (hu : P.underlying t = some (.slice e)) (hs : (P.info? e).map (·.size) = some k) (hi : i < n) (p : Nat) (hp : p = off + i * k) :
  (Instr.indexAt t (.slice (some ⟨g, off, none⟩) n cap) (.int .i64 i)).run P w = .ok (.pointer (some ⟨g, p, none⟩)) w := by
 cases hq : P.info? e with
 | none => simp [hq] at hs
 | some ie =>
  have hsz : ie.size = k := by simpa [hq] using hs
  subst hp
  rw [← add_lit]
  simp [Instr.indexAt, asIntOf, run_underlying hu, sizeOf, typeInfo, hq, hsz, Result.andThen, hi]

end Go.Proofs.YtcklgafpgdhnaaaGreatDoor

namespace Go.Proofs.YtcklgafpgdhnaaaGreatDoor
open Go.RowKit

structure HLd where
 v : Value
 u : Value
 l : List Pr

structure HL (w : World) (lv wv : Value) (xs : List HLd) : Prop where
 lists : w.ownsRow 0 28 1 lv xs.length (xs.map HLd.v)
 want : w.ownsRow 0 28 1 wv xs.length (xs.map HLd.u)
 apart : ∀ g, lv.ownBlock = some g → wv.ownBlock ≠ some g
 all : ∀ x ∈ xs, PL w 41 x.v x.l ∧ PL w 41 x.u x.l ∧ x.l.length ≤ 50000

end Go.Proofs.YtcklgafpgdhnaaaGreatDoor

namespace Go.Proofs.YtcklgafpgdhnaaaGreatDoor
open Go.RowKit

theorem run_copy_wide {P : Program} (w : World) (dT sT ty elem : TypeId) (g o dLen dCap k : Nat) (a : Addr) (sLen sCap : Nat) (cur : Array Value) (t : TypeId) (cs : List Value)
  (hu : P.underlying dT = some (.slice elem)) (hs : (P.info? elem).map (·.size) = some k)
  (hg : w.heap[g]? = some (.cells cur t (0, 0))) (hn : cs.length = Nat.min sLen dLen * k)
  (hsrc : ∀ j v, cs[j]? = some v → w.cell? (a.add j) = some v) (hfit : o + cs.length ≤ cur.size) (h1 : ∀ v ∈ cs, v.oneCell' = true) :
  (Builtin.copy_ #[dT, sT] ty #[.slice (some ⟨g, o, none⟩) dLen dCap, .slice (some a) sLen sCap]).run P w =
   .ok (goInt (Nat.min sLen dLen)) (w.setRow g (cur.toList.take o ++ cs ++ cur.toList.drop (o + cs.length)).toArray) := by
 have hl := run_loadCells_list (P := P) w a cs hsrc
 have hst := run_storeCells_at P g o t cs 0 cur w hg (by simpa using hfit) h1
 cases hq : P.info? elem with
 | none => simp [hq] at hs
 | some i =>
  have hi : i.size = k := by simpa [hq] using hs
  rw [hn] at hl
  simp [Builtin.copy_, run_underlying hu, Builtin.lenOf, Builtin.firstCells, sizeOf, typeInfo, hq, hi, hl, hst]

end Go.Proofs.YtcklgafpgdhnaaaGreatDoor

namespace Go.Proofs.YtcklgafpgdhnaaaGreatDoor
open Go.RowKit

theorem HL.kept {S : List Nat} {w w' : World} {lv wv : Value} {xs : List HLd} (h : HL w lv wv xs) (k : Kept S w w') (h1 : ∀ g, lv.ownBlock = some g → g ∉ S) (h2 : ∀ g, wv.ownBlock = some g → g ∉ S) (h3 : ∀ x ∈ xs, (∀ g, x.v.ownBlock = some g → g ∉ S) ∧ (∀ g, x.u.ownBlock = some g → g ∉ S)) : HL w' lv wv xs :=
 ⟨owns_kept h.lists k h1, owns_kept h.want k h2, h.apart, fun x hx => by
  obtain ⟨a, b, c⟩ := h.all x hx
  exact ⟨a.kept k (h3 x hx).1, b.kept k (h3 x hx).2, c⟩⟩

theorem HL.fresh {w w' : World} {lv wv : Value} {xs : List HLd} (h : HL w lv wv xs) (k : Kept [] w w') : HL w' lv wv xs := h.kept k (by simp) (by simp) (by simp)

theorem PL.tag {w : World} {t : TypeId} {v : Value} {l : List Pr} (h : PL w t v l) {g : Nat} (hg : v.ownBlock = some g) : ∃ cs fr, w.heap[g]? = some (.cells cs t fr) := by
 obtain ⟨_, ⟨rfl, _⟩ | ⟨g', cap, cur, rfl, _, hh, _⟩⟩ := h
 ·cases hg
 ·cases hg; exact ⟨_, _, hh⟩
end Go.Proofs.YtcklgafpgdhnaaaGreatDoor

namespace Go.Proofs.YtcklgafpgdhnaaaGreatDoor
open Go.RowKit

theorem take_splice0 {α : Type} (L cs : List α) (off n : Nat) (h : off + cs.length ≤ n) (h2 : n ≤ L.length) : (splice L off cs).take n = splice (L.take n) off cs := by
 have e1 : (L.take off).length = off := by rw [List.length_take]; omega
 simp only [splice]
 rw [List.take_append, List.take_append, List.take_take, e1, List.take_of_length_le (l := cs) (by omega), List.take_take, Nat.min_eq_right (by omega), Nat.min_eq_left (by omega), List.drop_take]
 rw [show n - off - cs.length = n - (off + cs.length) by omega]

theorem flat2_set (l : List Pr) (i : Nat) (p : Pr) (h : i < l.length) : splice (flat2 l) (i * 2) (pcells p) = flat2 (l.set i p) := by
 induction l generalizing i with
 | nil => simp at h
 | cons x r ih =>
  cases i with
  | zero => simp [splice, flat2, pcells]
  | succ i =>
   have hi : i < r.length := by simpa using h
   have := ih i hi
   have e1 : flat2 (x :: r) = pcells x ++ flat2 r := rfl
   have e2 : flat2 ((x :: r).set (i + 1) p) = pcells x ++ flat2 (r.set i p) := rfl
   rw [e1, e2, ← this]
   simp only [splice, length_pcells]
   rw [show (i + 1) * 2 = 2 + i * 2 by omega, show (2 + i * 2 + 2) = 2 + (i * 2 + 2) by omega]
   simp [pcells, List.take_succ_cons, show 2 + i * 2 = i * 2 + 1 + 1 by omega, show 2 + (i * 2 + 2) = (i * 2 + 2) + 1 + 1 by omega]

theorem PL.set {w : World} {t ty : TypeId} {g cap i : Nat} {l : List Pr} {P : Program} (h : PL w t (.slice (some ⟨g, 0, none⟩) l.length cap) l) (hi : i < l.length) (hs : (P.info? ty).map (·.size) = some 2) (p : Pr) :
  ∃ W, (storeVar ty ⟨g, i * 2, none⟩ (.agg #[.string p.1, .string p.2])).run P w = .ok () W ∧ PL W t (.slice (some ⟨g, 0, none⟩) l.length cap) (l.set i p) ∧ Kept [g] w W := by
 obtain ⟨hlen, ⟨e, _⟩ | ⟨g', cap', cur, e, hb, hh, hc, hm, hsz, htk⟩⟩ := h
 ·cases e
 cases e
 have hr := run_storeVar_seg (P := P) w g (i * 2) t ty cur.toList (pcells p) (by simpa using hh) hs (by rw [length_pcells]; simp; omega) (one_pcells p)
 refine ⟨_, hr, ⟨by rw [length_flat2, List.length_set], Or.inr ⟨g, cap, _, by rw [List.length_set], hb, setRow_heap w g _ _ t _ hh, by simpa using hc, hm, ?_, ?_⟩⟩, (Kept.refl _ _).setRow (Or.inl (by simp)) _⟩
 ·simp only [List.size_toArray]
  rw [length_splice _ _ _ (by rw [length_pcells]; simp; omega)]
  simpa using hsz
 ·rw [← flat2_set l i p hi, ← htk, List.length_set]
  exact take_splice0 _ _ _ _ (by rw [length_pcells]; omega) (by simp; have := Nat.mul_le_mul_right 2 hc; omega)

end Go.Proofs.YtcklgafpgdhnaaaGreatDoor

namespace Go.Proofs.YtcklgafpgdhnaaaGreatDoor
open Go.RowKit

def keyOk (k : ByteArray) : Prop := 1 ≤ k.size ∧ k.size ≤ 8
instance (k : ByteArray) : Decidable (keyOk k) := by unfold keyOk; infer_instance
end Go.Proofs.YtcklgafpgdhnaaaGreatDoor

namespace Go.Proofs.YtcklgafpgdhnaaaGreatDoor


def ge (a b : ByteArray) : Prop := bl a b = false
theorem ge_refl (a : ByteArray) : ge a a := bl_irrefl a
theorem lt_ge {a b : ByteArray} (h : bl a b = true) : ge b a := by
 unfold ge
 cases hb : bl b a with
 | false => rfl
 | true => have := bl_trans h hb; rw [bl_irrefl] at this; cases this
theorem lt_of_lt_ge {a b c : ByteArray} (h : bl a b = true) (hc : ge c b) : bl a c = true := by
 rcases bl_total b c with h' | rfl | h'
 ·exact bl_trans h h'
 ·exact h
 ·unfold ge at hc; rw [hc] at h'; cases h'
theorem lt_of_ge_lt {a b c : ByteArray} (h : ge b a) (hc : bl b c = true) : bl a c = true := by
 rcases bl_total a b with h' | rfl | h'
 ·exact bl_trans h' hc
 ·exact hc
 ·unfold ge at h; rw [h] at h'; cases h'
theorem ge_trans {a b c : ByteArray} (h1 : ge a b) (h2 : ge b c) : ge a c := by
 unfold ge
 cases h : bl a c with
 | false => rfl
 | true => have := lt_of_lt_ge h h2; unfold ge at h1; rw [h1] at this; cases this
theorem ne_of_lt {a b : ByteArray} (h : bl a b = true) : be a b = false := by
 rw [be_false]; rintro rfl; rw [bl_irrefl] at h; cases h
theorem be_comm (a b : ByteArray) : be a b = be b a := by
 cases h : be a b with
 | true => rw [(be_iff a b).1 h, be_refl]
 | false => symm; rw [be_false]; rw [be_false] at h; exact fun e => h e.symm

def Srt (l : List Pr) : Prop := l.Pairwise fun p q => bl p.1 q.1 = true

theorem withGo_true (k v : ByteArray) (l : List Pr) : withGo k v true l = withoutL k l := by
 induction l with
 | nil => rfl
 | cons p r ih =>
  rw [withGo_cons]
  simp only [Bool.not_true, Bool.false_and, Bool.false_eq_true, if_false, List.nil_append, Bool.true_or, ih, withoutL, List.filter_cons]
  cases be p.1 k <;> simp
theorem without_id (k : ByteArray) (l : List Pr) (h : ∀ p ∈ l, be p.1 k = false) : withoutL k l = l := by
 rw [withoutL, List.filter_eq_self]
 intro p hp; simp [h p hp]
theorem with_app_lt (k v : ByteArray) (A l : List Pr) (h : ∀ p ∈ A, bl p.1 k = true) : withL k v (A ++ l) = A ++ withL k v l := by
 induction A with
 | nil => rfl
 | cons p r ih =>
  have hp := h p (by simp)
  have := ih fun q hq => h q (by simp [hq])
  unfold withL at this ⊢
  rw [List.cons_append, withGo_cons, hp, ne_of_lt hp]
  simp [this]
theorem withGo_app_gt (k v : ByteArray) (b : Bool) (l B : List Pr) (h : ∀ p ∈ B, bl k p.1 = true) : withGo k v b (l ++ B) = withGo k v b l ++ B := by
 induction l generalizing b with
 | nil =>
  have hB : withoutL k B = B := without_id k B fun p hp => by rw [be_comm]; exact ne_of_lt (h p hp)
  cases b with
  | true => rw [List.nil_append, withGo_true, hB, withGo_nil]; rfl
  | false =>
   cases B with
   | nil => simp
   | cons q r =>
    have hq := h q (by simp)
    have hr : withoutL k r = r := without_id k r fun p hp => by rw [be_comm]; exact ne_of_lt (h p (by simp [hp]))
    have hlt : bl q.1 k = false := lt_ge hq
    have hne : be q.1 k = false := by rw [be_comm]; exact ne_of_lt hq
    rw [List.nil_append, withGo_cons, hlt, hne]
    simp [withGo_true, hr, withGo_nil]
 | cons p r ih =>
  rw [List.cons_append, withGo_cons, withGo_cons, ih]
  simp
theorem with_app_gt (k v : ByteArray) (l B : List Pr) (h : ∀ p ∈ B, bl k p.1 = true) : withL k v (l ++ B) = withL k v l ++ B := withGo_app_gt k v false l B h
theorem without_app (k : ByteArray) (A B : List Pr) : withoutL k (A ++ B) = withoutL k A ++ withoutL k B := List.filter_append ..
theorem without_lt (k : ByteArray) (A : List Pr) (h : ∀ p ∈ A, bl p.1 k = true) : withoutL k A = A := without_id k A fun p hp => ne_of_lt (h p hp)
theorem without_gt (k : ByteArray) (A : List Pr) (h : ∀ p ∈ A, bl k p.1 = true) : withoutL k A = A := without_id k A fun p hp => by rw [be_comm]; exact ne_of_lt (h p hp)

theorem mem_withGo {k v : ByteArray} {b : Bool} {l : List Pr} {p : Pr} (h : p ∈ withGo k v b l) : p = (k, v) ∨ p ∈ l := by
 induction l generalizing b with
 | nil => cases b <;> simp [withGo] at h; exact Or.inl h
 | cons q r ih =>
  rw [withGo_cons] at h
  simp only [List.mem_append] at h
  rcases h with (h | h) | h
  ·split at h
   ·simp at h; exact Or.inl h
   ·cases h
  ·split at h
   ·cases h
   ·simp at h; subst h; exact Or.inr (by simp)
  ·rcases ih h with h | h
   ·exact Or.inl h
   ·exact Or.inr (by simp [h])
theorem mem_without {k : ByteArray} {l : List Pr} {p : Pr} (h : p ∈ withoutL k l) : p ∈ l := (List.mem_filter.1 h).1
theorem srt_without {k : ByteArray} {l : List Pr} (h : Srt l) : Srt (withoutL k l) := List.Pairwise.filter _ h
theorem srt_with (k v : ByteArray) (l : List Pr) (h : Srt l) : Srt (withL k v l) := by
 induction l with
 | nil => simp [withL, withGo, Srt]
 | cons p r ih =>
  have hr : Srt r := (List.pairwise_cons.1 h).2
  have hp := (List.pairwise_cons.1 h).1
  rcases bl_total p.1 k with hl | he | hl
  ·have e : withL k v (p :: r) = p :: withL k v r := with_app_lt k v [p] r (by simp [hl])
   rw [e]
   refine List.pairwise_cons.2 ⟨?_, ih hr⟩
   intro q hq
   rcases mem_withGo hq with rfl | hq
   ·exact hl
   ·exact hp q hq
  ·have e : withL k v (p :: r) = (k, v) :: r := by
    have hr' : withoutL k r = r := without_gt k r fun q hq => by rw [← he]; exact hp q hq
    unfold withL
    rw [withGo_cons, he, bl_irrefl, be_refl]
    simp [withGo_true, hr']
   rw [e]
   exact List.pairwise_cons.2 ⟨fun q hq => by rw [← he]; exact hp q hq, hr⟩
  ·have hg : ∀ q ∈ p :: r, bl k q.1 = true := by
    intro q hq
    rcases List.mem_cons.1 hq with rfl | hq
    ·exact hl
    ·exact bl_trans hl (hp q hq)
   have e : withL k v (p :: r) = (k, v) :: p :: r := by
    have := with_app_gt k v [] (p :: r) hg
    simpa [withL, withGo] using this
   rw [e]
   exact List.pairwise_cons.2 ⟨hg, h⟩

end Go.Proofs.YtcklgafpgdhnaaaGreatDoor
