import Derived.Test.YtcklgafpgdhnaaaGreatDoorPsae
import Derived.Lib.Bytealg
import Derived.Test.YtcklgafpgdhnaaaGreatDoorPsac
import Derived.BigQuiet
import Derived.Deep.QuietTactic
import Derived.Maps.AppendAt
set_option maxRecDepth 100000
set_option maxHeartbeats 4000000
open Go.Proofs.Tryz
namespace Go.Proofs.YtcklgafpgdhnaaaGreatDoor
open Go.RowKit
abbrev Pr := ByteArray × ByteArray
def Q3c (p : Pr) : List Value := [.string p.1, .string p.2]
def Q3d (l : List Pr) : List Value := l.flatMap Q3c
theorem Q3e (p : Pr) : (Q3c p).length = 2 := rfl
theorem Q3f (l : List Pr) : ∀ (i : Nat) (p : Pr), l[i]? = some p -> ∀ (j : Nat) (v : Value), (Q3c p)[j]? = some v -> (Q3d l)[i * 2 + j]? = some v := by
 induction l with
 | nil => intro i o h; simp at h
 | cons x r ih =>
  intro i o h j v hv
  have hj : j < 2 := by have := (List.getElem?_eq_some_iff.1 hv).1; rwa [Q3e] at this
  have e : Q3d (x :: r) = Q3c x ++ Q3d r := rfl
  rw [e]
  cases i with
  | zero =>
   simp at h; subst h
   rw [List.getElem?_append_left (by rw [Q3e]; omega)]
   simpa using hv
  | succ i =>
   rw [List.getElem?_append_right (by rw [Q3e]; omega), Q3e]
   have := ih i o (by simpa using h) j v hv
   rw [show (i + 1) * 2 + j - 2 = i * 2 + j by omega]
   exact this
theorem Q3g (l : List Pr) (p : Pr) : Q3d l ++ Q3c p = Q3d (l ++ [p]) := by simp [Q3d]
def PL (w : World) (t : TypeId) (v : Value) (l : List Pr) : Prop := w.ownsRow 0 t 2 v l.length (Q3d l)
theorem PL.shape {w : World} {t : TypeId} {v : Value} {l : List Pr} (h : PL w t v l) : ∃ p cap, v = .slice p l.length cap := by
 obtain ⟨_, ⟨rfl, h0⟩ | ⟨g, cap, cur, rfl, _⟩⟩ := h
 ·exact ⟨none, 0, by rw [h0]⟩
 ·exact ⟨_, _, rfl⟩
theorem PL.at_ {w : World} {t : TypeId} {v : Value} {l : List Pr} (h : PL w t v l) (hl : 0 < l.length) : ∃ g cap cur, v = .slice (some ⟨g, 0, none⟩) l.length cap /\ w.heap[g]? = some (.cells cur t (0, 0)) /\
  (∀ (i : Nat) (p : Pr), l[i]? = some p -> cur[i * 2]? = some (.string p.1) /\ cur[i * 2 + 1]? = some (.string p.2)) := by
 obtain ⟨_, ⟨_, h0⟩ | ⟨g, cap, cur, e, _, hh, _, _, _, htk⟩⟩ := h
 ·omega
 refine ⟨g, cap, cur, e, hh, ?_⟩
 intro i p hi
 have hil : i < l.length := (List.getElem?_eq_some_iff.1 hi).1
 have h0 := Q3f l i p hi 0 _ rfl
 have h1 := Q3f l i p hi 1 _ rfl
 rw [<- htk, List.getElem?_take, if_pos (by omega)] at h0 h1
 exact ⟨by simpa using h0, by simpa using h1⟩
theorem PL.load {w : World} {t ty : TypeId} {g i : Nat} {cur : Array Value} {p : Pr} (fs : _) {P : Program} (hg : w.heap[g]? = some (.cells cur t (0, 0))) (hc : cur[i * 2]? = some (.string p.1) /\ cur[i * 2 + 1]? = some (.string p.2))
  (hu : P.underlying ty = some (.struct fs)) (hi : (P.info? ty).map (·.size) = some 2) :
  (loadVar ty ⟨g, i * 2, none⟩).run P w = .ok (.agg #[.string p.1, .string p.2]) w := by
 refine Q0r (P := P) w g (i * 2) t ty cur.toList [.string p.1, .string p.2] (0, 0) _ (by simpa using hg) hu rfl hi ?_
 intro j v hv
 rcases j with _ | _ | j
 ·simp at hv; subst hv; simpa using hc.1
 ·simp at hv; subst hv; simpa using hc.2
 ·simp at hv
theorem PL.kept {S : List Nat} {w w' : World} {t : TypeId} {v : Value} {l : List Pr} (h : PL w t v l) (k : Kept S w w') (hS : ∀ b, v.ownBlock = some b -> b ∉ S) : PL w' t v l := Q0T h k hS
theorem sap : (prog.info? 41).map (·.size) = some 2 := by kernel_rfl
def bl (a b : ByteArray) : Bool := Op.bytesLess a.toList b.toList
def be (a b : ByteArray) : Bool := a.toList == b.toList
theorem Q3h (s : ByteArray) : s.toList = s.data.toList := ByteArray.toList_eq s
theorem Q3i : ∀ (x y : List UInt8), Op.bytesLess x y = decide (x < y)
 | [], [] => by simp [Op.bytesLess]
 | _ :: _, [] => by simp [Op.bytesLess]
 | [], _ :: _ => by simp [Op.bytesLess]
 | a :: x, b :: y => by
  have ih := Q3i x y
  unfold Op.bytesLess
  rw [ih]
  by_cases h1 : a < b <;> by_cases h2 : a = b <;> by_cases h3 : x < y <;> simp [List.cons_lt_cons_iff, h1, h2, h3]
theorem Q3j (a b : ByteArray) : bl a b = decide (a.data.toList < b.data.toList) := by rw [bl, Q3i, Q3h, Q3h]
theorem Q3k (a b : ByteArray) : be a b = true ↔ a = b := by
 rw [be, Q3h, Q3h, beq_iff_eq]
 constructor
 ·intro h
  cases a; cases b
  simp only [ByteArray.mk.injEq]
  exact Array.toList_inj.1 h
 ·rintro rfl; rfl
theorem Q3l (a b : ByteArray) : be a b = false ↔ a ≠ b := by
 have := Q3k a b
 cases h : be a b <;> simp_all
theorem Q3m (a : ByteArray) : be a a = true := (Q3k a a).2 rfl
theorem Q3n (a : ByteArray) : bl a a = false := by rw [Q3j]; simp [List.lt_irrefl]
theorem Q3o {a b c : ByteArray} (h1 : bl a b = true) (h2 : bl b c = true) : bl a c = true := by
 rw [Q3j, decide_eq_true_eq] at *; exact List.lt_trans h1 h2
theorem Q3p (a b : ByteArray) : bl a b = true \/ a = b \/ bl b a = true := by
 simp only [Q3j, decide_eq_true_eq]
 rcases Decidable.em (a.data.toList < b.data.toList) with h | h
 ·exact Or.inl h
 rcases Decidable.em (b.data.toList < a.data.toList) with h' | h'
 ·exact Or.inr (Or.inr h')
 right; left
 have := List.le_antisymm (List.not_lt.1 h') (List.not_lt.1 h)
 cases a; cases b
 simp only [ByteArray.mk.injEq]
 exact Array.toList_inj.1 this
def Q3q (k v : ByteArray) : Bool -> List Pr -> List Pr
 | b, [] => if b then [] else [(k, v)]
 | b, p :: r => (if !b && !bl p.1 k then [(k, v)] else []) ++ (if be p.1 k then [] else [p]) ++ Q3q k v (b || !bl p.1 k) r
def Q3r (k v : ByteArray) (l : List Pr) : List Pr := Q3q k v false l
def Q3s (k : ByteArray) (l : List Pr) : List Pr := l.filter fun p => !be p.1 k
def getL (k : ByteArray) : List Pr -> Option ByteArray
 | [] => none
 | p :: r => if be p.1 k then some p.2 else getL k r
def inR (lo hi : ByteArray) (p : Pr) : Bool := !bl p.1 lo && bl p.1 hi
def Q3t (lo hi : ByteArray) (m : Nat) (l : List Pr) : List Pr := (l.filter (inR lo hi)).take m
def tx (s : ByteArray) : List UInt8 := UInt8.ofNat s.size :: s.data.toList
def pkP (p : Pr) : List UInt8 := tx p.1 ++ tx p.2
def pkK (k : ByteArray × Nat) : List UInt8 := tx k.1 ++ (List.replicate (8 - k.1.size) 0 ++ Q22 k.2 2)
def Q3u (B : List UInt8) : List UInt8 := B ++ Q22 (crc B) 4
def Q3v (k : Nat) (l : List UInt8) : List UInt8 := l ++ List.replicate (k - l.length) 0
def encI (kind : UInt8) (n : Nat) (items : List UInt8) : List UInt8 := Q3u (Q3v 124 (kind :: UInt8.ofNat n :: items))
def encL (l : List Pr) : List UInt8 := encI 76 l.length (l.flatMap pkP)
def encB (ks : List (ByteArray × Nat)) : List UInt8 := encI 66 ks.length (ks.flatMap pkK)
theorem Q3w (s : ByteArray) : (tx s).length = 1 + s.size := by simp [tx]; omega
theorem Q3x (p : Pr) : (pkP p).length = 2 + p.1.size + p.2.size := by simp [pkP, Q3w]; omega
theorem Q3y (n k : Nat) : (Q22 n k).length = k := by simp [Q22]
theorem Q3z (k : ByteArray × Nat) (h : k.1.size <= 8) : (pkK k).length = 11 := by simp [pkK, Q3w, Q3y]; omega
inductive Nb where
 | leaf (l : List Pr)
 | branch (ks : List (ByteArray × Nat))
def encN : Nb -> List UInt8
 | .leaf l => encL l
 | .branch ks => encB ks
def Q3A : Nb -> Prop
 | .leaf l => (∀ p ∈ l, p.1.size <= 8 /\ p.2.size <= 12) /\ (l.map fun p => 2 + p.1.size + p.2.size).sum <= 122
 | .branch ks => (∀ k ∈ ks, k.1.size <= 8 /\ k.2 < 65536) /\ 11 * ks.length <= 122
theorem Q3B (l : List Pr) : (l.flatMap pkP).length = (l.map fun p => 2 + p.1.size + p.2.size).sum := by
 induction l with
 | nil => rfl
 | cons p l ih => simp only [List.flatMap_cons, List.length_append, Q3x, ih, List.map_cons, List.sum_cons]
theorem Q3C (ks : List (ByteArray × Nat)) (h : ∀ k ∈ ks, k.1.size <= 8) : (ks.flatMap pkK).length = 11 * ks.length := by
 induction ks with
 | nil => rfl
 | cons p l ih =>
  rw [List.flatMap_cons, List.length_append, Q3z p (h p (by simp)), ih fun k hk => h k (by simp [hk]), List.length_cons]
  omega
theorem Q3D (k : Nat) (l : List UInt8) (h : l.length <= k) : (Q3v k l).length = k := by simp [Q3v]; omega
theorem Q3E (B : List UInt8) : (Q3u B).length = B.length + 4 := by simp [Q3u, Q3y]
theorem Q3F (c : UInt8) (n : Nat) (i : List UInt8) (h : i.length <= 122) : (encI c n i).length = 128 := by
 rw [encI, Q3E, Q3D _ _ (by simp; omega)]
theorem Q3G (l : List Pr) : 2 * l.length <= (l.map fun p => 2 + p.1.size + p.2.size).sum := by
 induction l with
 | nil => simp
 | cons p l ih => simp only [List.length_cons, List.map_cons, List.sum_cons]; omega
theorem Q3H {n : Nb} (h : Q3A n) : (encN n).length = 128 := by
 cases n with
 | leaf l => exact Q3F _ _ _ (by rw [Q3B]; exact h.2)
 | branch ks => exact Q3F _ _ _ (by rw [Q3C _ fun k hk => (h.1 k hk).1]; exact h.2)
theorem Q3I {w : World} {base e size n : Nat} {v : Value} {xs : List Value} (h : w.ownsRow base e size v n xs) : ∀ y ∈ v.ownBlock.toList, base <= y := by
 intro y hy
 simp at hy
 exact (h.lt y hy).1
theorem Q3J {w : World} {base e size n : Nat} {v : Value} {xs : List Value} (h : w.ownsRow base e size v n xs) : ∀ y ∈ v.ownBlock.toList, y < w.heap.size := by
 intro y hy
 simp at hy
 exact (h.lt y hy).2
theorem Q3K (k v : ByteArray) (b : Bool) : Q3q k v b [] = if b then [] else [(k, v)] := rfl
theorem Q3L (k v : ByteArray) (b : Bool) (p : Pr) (r : List Pr) : Q3q k v b (p :: r) = (if !b && !bl p.1 k then [(k, v)] else []) ++ (if be p.1 k then [] else [p]) ++ Q3q k v (b || !bl p.1 k) r := rfl
def mst (m : Int) : Nat := m.toNat
theorem Kept.drewN {S : List Nat} {a b : World} (h : Kept S a b) (n : Nat) : Kept S a (b.drewN n) := ⟨h.os, h.tape, h.output, h.size, h.block⟩
theorem w64 (n : Int) (h : -9223372036854775808 <= n /\ n <= 9223372036854775807) : wrap64 n = n := by unfold wrap64; omega
theorem Q3M {P : Program} {w : World} (t : TypeId) (g off n cap i k : Nat) (e : TypeId) (hu : P.underlying t = some (.slice e)) (hs : (P.info? e).map (·.size) = some k) (hi : i < n) (p : Nat) (hp : p = off + i * k) :
  (Instr.indexAt t (.slice (some ⟨g, off, none⟩) n cap) (.int .i64 i)).run P w = .ok (.pointer (some ⟨g, p, none⟩)) w := by
 cases hq : P.info? e with
 | none => simp [hq] at hs
 | some ie =>
  have hsz : ie.size = k := by simpa [hq] using hs
  subst hp
  rw [<- add_lit]
  simp [Instr.indexAt, asIntOf, run_underlying hu, sizeOf, typeInfo, hq, hsz, Result.andThen, hi]
structure HLd where
 v : Value
 u : Value
 l : List Pr
structure HL (w : World) (lv wv : Value) (xs : List HLd) : Prop where
 lists : w.ownsRow 0 28 1 lv xs.length (xs.map HLd.v)
 want : w.ownsRow 0 28 1 wv xs.length (xs.map HLd.u)
 apart : ∀ g, lv.ownBlock = some g -> wv.ownBlock ≠ some g
 all : ∀ x ∈ xs, PL w 41 x.v x.l /\ PL w 41 x.u x.l /\ x.l.length <= 50000
theorem Q3N {P : Program} (w : World) (dT sT ty elem : TypeId) (g o dLen dCap k : Nat) (a : Addr) (sLen sCap : Nat) (cur : Array Value) (t : TypeId) (cs : List Value)
  (hu : P.underlying dT = some (.slice elem)) (hs : (P.info? elem).map (·.size) = some k)
  (hg : w.heap[g]? = some (.cells cur t (0, 0))) (hn : cs.length = Nat.min sLen dLen * k)
  (hsrc : ∀ j v, cs[j]? = some v -> w.cell? (a.add j) = some v) (hfit : o + cs.length <= cur.size) (h1 : ∀ v ∈ cs, v.oneCell' = true) :
  (Builtin.copy_ #[dT, sT] ty #[.slice (some ⟨g, o, none⟩) dLen dCap, .slice (some a) sLen sCap]).run P w =
   .ok (goInt (Nat.min sLen dLen)) (w.setRow g (cur.toList.take o ++ cs ++ cur.toList.drop (o + cs.length)).toArray) := by
 have hl := run_loadCells_list (P := P) w a cs hsrc
 have hst := run_storeCells_at P g o t cs 0 cur w hg (by simpa using hfit) h1
 cases hq : P.info? elem with
 | none => simp [hq] at hs
 | some i =>
  have hi : i.size = k := by simpa [hq] using hs
  rw [hn] at hl
  simp [Builtin.copy_, run_underlying hu, Builtin.lenOf, Builtin.firstCells, sizeOf, typeInfo, hq, hi, hl, hst]
theorem PL.tag {w : World} {t : TypeId} {v : Value} {l : List Pr} (h : PL w t v l) {g : Nat} (hg : v.ownBlock = some g) : ∃ cs fr, w.heap[g]? = some (.cells cs t fr) := by
 obtain ⟨_, ⟨rfl, _⟩ | ⟨g', cap, cur, rfl, _, hh, _⟩⟩ := h
 ·cases hg
 ·cases hg; exact ⟨_, _, hh⟩
def Q3O (k : ByteArray) : Prop := 1 <= k.size /\ k.size <= 8
instance (k : ByteArray) : Decidable (Q3O k) := by unfold Q3O; infer_instance
end Go.Proofs.YtcklgafpgdhnaaaGreatDoor
namespace Go.Proofs.YtcklgafpgdhnaaaGreatDoor
def ge (a b : ByteArray) : Prop := bl a b = false
theorem Q3P (a : ByteArray) : ge a a := Q3n a
theorem Q3Q {a b : ByteArray} (h : bl a b = true) : ge b a := by
 unfold ge
 cases hb : bl b a with
 | false => rfl
 | true => have := Q3o h hb; rw [Q3n] at this; cases this
theorem Q3R {a b c : ByteArray} (h : bl a b = true) (hc : ge c b) : bl a c = true := by
 rcases Q3p b c with h' | rfl | h'
 ·exact Q3o h h'
 ·exact h
 ·unfold ge at hc; rw [hc] at h'; cases h'
theorem Q3S {a b c : ByteArray} (h : ge b a) (hc : bl b c = true) : bl a c = true := by
 rcases Q3p a b with h' | rfl | h'
 ·exact Q3o h' hc
 ·exact hc
 ·unfold ge at h; rw [h] at h'; cases h'
theorem Q3T {a b c : ByteArray} (h1 : ge a b) (h2 : ge b c) : ge a c := by
 unfold ge
 cases h : bl a c with
 | false => rfl
 | true => have := Q3R h h2; unfold ge at h1; rw [h1] at this; cases this
theorem Q3U {a b : ByteArray} (h : bl a b = true) : be a b = false := by
 rw [Q3l]; rintro rfl; rw [Q3n] at h; cases h
theorem Q3V (a b : ByteArray) : be a b = be b a := by
 cases h : be a b with
 | true => rw [(Q3k a b).1 h, Q3m]
 | false => symm; rw [Q3l]; rw [Q3l] at h; exact fun e => h e.symm
def Srt (l : List Pr) : Prop := l.Pairwise fun p q => bl p.1 q.1 = true
theorem Q3W (k v : ByteArray) (l : List Pr) : Q3q k v true l = Q3s k l := by
 induction l with
 | nil => rfl
 | cons p r ih =>
  rw [Q3L]
  simp only [Bool.not_true, Bool.false_and, Bool.false_eq_true, if_false, List.nil_append, Bool.true_or, ih, Q3s, List.filter_cons]
  cases be p.1 k <;> simp
theorem Q3X (k : ByteArray) (l : List Pr) (h : ∀ p ∈ l, be p.1 k = false) : Q3s k l = l := by
 rw [Q3s, List.filter_eq_self]
 intro p hp; simp [h p hp]
theorem Q3Y (k v : ByteArray) (A l : List Pr) (h : ∀ p ∈ A, bl p.1 k = true) : Q3r k v (A ++ l) = A ++ Q3r k v l := by
 induction A with
 | nil => rfl
 | cons p r ih =>
  have hp := h p (by simp)
  have := ih fun q hq => h q (by simp [hq])
  unfold Q3r at this ⊢
  rw [List.cons_append, Q3L, hp, Q3U hp]
  simp [this]
theorem Q3Z (k v : ByteArray) (b : Bool) (l B : List Pr) (h : ∀ p ∈ B, bl k p.1 = true) : Q3q k v b (l ++ B) = Q3q k v b l ++ B := by
 induction l generalizing b with
 | nil =>
  have hB : Q3s k B = B := Q3X k B fun p hp => by rw [Q3V]; exact Q3U (h p hp)
  cases b with
  | true => rw [List.nil_append, Q3W, hB, Q3K]; rfl
  | false =>
   cases B with
   | nil => simp
   | cons q r =>
    have hq := h q (by simp)
    have hr : Q3s k r = r := Q3X k r fun p hp => by rw [Q3V]; exact Q3U (h p (by simp [hp]))
    have hlt : bl q.1 k = false := Q3Q hq
    have hne : be q.1 k = false := by rw [Q3V]; exact Q3U hq
    rw [List.nil_append, Q3L, hlt, hne]
    simp [Q3W, hr, Q3K]
 | cons p r ih =>
  rw [List.cons_append, Q3L, Q3L, ih]
  simp
theorem Q40 (k v : ByteArray) (l B : List Pr) (h : ∀ p ∈ B, bl k p.1 = true) : Q3r k v (l ++ B) = Q3r k v l ++ B := Q3Z k v false l B h
theorem Q41 (k : ByteArray) (A B : List Pr) : Q3s k (A ++ B) = Q3s k A ++ Q3s k B := List.filter_append ..
theorem Q42 (k : ByteArray) (A : List Pr) (h : ∀ p ∈ A, bl p.1 k = true) : Q3s k A = A := Q3X k A fun p hp => Q3U (h p hp)
theorem Q43 (k : ByteArray) (A : List Pr) (h : ∀ p ∈ A, bl k p.1 = true) : Q3s k A = A := Q3X k A fun p hp => by rw [Q3V]; exact Q3U (h p hp)
theorem Q44 {k v : ByteArray} {b : Bool} {l : List Pr} {p : Pr} (h : p ∈ Q3q k v b l) : p = (k, v) \/ p ∈ l := by
 induction l generalizing b with
 | nil => cases b <;> simp [Q3q] at h; exact Or.inl h
 | cons q r ih =>
  rw [Q3L] at h
  simp only [List.mem_append] at h
  rcases h with (h | h) | h
  ·split at h
   ·simp at h; exact Or.inl h
   ·cases h
  ·split at h
   ·cases h
   ·simp at h; subst h; exact Or.inr (by simp)
  ·rcases ih h with h | h
   ·exact Or.inl h
   ·exact Or.inr (by simp [h])
theorem Q45 {k : ByteArray} {l : List Pr} {p : Pr} (h : p ∈ Q3s k l) : p ∈ l := (List.mem_filter.1 h).1
theorem Q46 {k : ByteArray} {l : List Pr} (h : Srt l) : Srt (Q3s k l) := List.Pairwise.filter _ h
theorem Q47 (k v : ByteArray) (l : List Pr) (h : Srt l) : Srt (Q3r k v l) := by
 induction l with
 | nil => simp [Q3r, Q3q, Srt]
 | cons p r ih =>
  have hr : Srt r := (List.pairwise_cons.1 h).2
  have hp := (List.pairwise_cons.1 h).1
  rcases Q3p p.1 k with hl | he | hl
  ·have e : Q3r k v (p :: r) = p :: Q3r k v r := Q3Y k v [p] r (by simp [hl])
   rw [e]
   refine List.pairwise_cons.2 ⟨?_, ih hr⟩
   intro q hq
   rcases Q44 hq with rfl | hq
   ·exact hl
   ·exact hp q hq
  ·have e : Q3r k v (p :: r) = (k, v) :: r := by
    have hr' : Q3s k r = r := Q43 k r fun q hq => by rw [<- he]; exact hp q hq
    unfold Q3r
    rw [Q3L, he, Q3n, Q3m]
    simp [Q3W, hr']
   rw [e]
   exact List.pairwise_cons.2 ⟨fun q hq => by rw [<- he]; exact hp q hq, hr⟩
  ·have hg : ∀ q ∈ p :: r, bl k q.1 = true := by
    intro q hq
    rcases List.mem_cons.1 hq with rfl | hq
    ·exact hl
    ·exact Q3o hl (hp q hq)
   have e : Q3r k v (p :: r) = (k, v) :: p :: r := by
    have := Q40 k v [] (p :: r) hg
    simpa [Q3r, Q3q] using this
   rw [e]
   exact List.pairwise_cons.2 ⟨hg, h⟩
structure Q48 (α : Type) where
 fr : ByteArray
 nd : α
 pl : Nat
def Nd : Nat -> Type
 | 0 => List Pr
 | h + 1 => List (Q48 (Nd h))
abbrev Kid (h : Nat) := Q48 (Nd h)
def Q49 : (h : Nat) -> Nd h -> List Pr
 | 0, l => l
 | h + 1, ks => List.flatMap (fun k : Kid h => Q49 h k.2) ks
def psz (p : Pr) : Nat := 2 + p.1.size + p.2.size
def Q4a : (h : Nat) -> Nd h -> Nat
 | 0, l => (List.map psz l).sum
 | h + 1, ks => 11 * List.length (α := Kid h) ks
def cntN : (h : Nat) -> Nd h -> Nat
 | 0, _ => 1
 | h + 1, ks => 1 + (List.map (fun k : Kid h => cntN h k.2) ks).sum
def Q4b (h : Nat) (ks : List (Kid h)) : List Pr := ks.flatMap fun k => Q49 h k.2
theorem Q4c (h : Nat) (ks : List (Kid h)) : Q49 (h + 1) ks = Q4b h ks := rfl
theorem Q4d (h : Nat) (A B : List (Kid h)) : Q4b h (A ++ B) = Q4b h A ++ Q4b h B := by simp [Q4b]
theorem Q4e (h : Nat) (a : Kid h) (B : List (Kid h)) : Q4b h (a :: B) = Q49 h a.2 ++ Q4b h B := by simp [Q4b]
theorem Q4f {h : Nat} {ks : List (Kid h)} {p : Pr} : p ∈ Q4b h ks ↔ ∃ a ∈ ks, p ∈ Q49 h a.2 := by simp [Q4b]
def okp (p : Pr) : Prop := 1 <= p.1.size /\ p.1.size <= 8 /\ p.2.size <= 12
theorem Q4g {p : Pr} (h : okp p) : psz p <= 22 := by unfold psz; obtain ⟨_, a, b⟩ := h; omega
theorem Q4h (p : Pr) : 0 < psz p := by unfold psz; omega
def Bef (h : Nat) (a b : Kid h) : Prop := bl a.1 b.1 = true /\ ∀ p ∈ Q49 h a.2, bl p.1 b.1 = true
def WFN : (h : Nat) -> ByteArray -> Nd h -> Prop
 | 0, f, l => Srt l /\ ∀ p : Pr, List.Mem p l -> ge p.1 f /\ okp p
 | h + 1, f, ks => (∃ (n : Nd h) (x : Nat) (r : List (Kid h)), ks = ⟨f, n, x⟩ :: r) /\ List.Pairwise (Bef h) ks /\ ∀ a : Kid h, List.Mem a ks -> WFN h a.1 a.2
structure KW (h : Nat) (ks : List (Kid h)) : Prop where
 ord : ks.Pairwise (Bef h)
 all : ∀ a ∈ ks, WFN h a.1 a.2
theorem Q4i (h : Nat) (f : ByteArray) (ks : List (Kid h)) : WFN (h + 1) f ks ↔ (∃ n x r, ks = ⟨f, n, x⟩ :: r) /\ KW h ks :=
 ⟨fun ⟨a, b, c⟩ => ⟨a, ⟨b, c⟩⟩, fun ⟨a, b⟩ => ⟨a, b.ord, b.all⟩⟩
def Rt (h : Nat) (n : Nd h) : Prop := 40 <= Q4a h n /\ Q4a h n <= 122
def Q4j : (h : Nat) -> Nd h -> Prop
 | 0, _ => True
 | h + 1, ks => ∀ a : Kid h, List.Mem a ks -> Rt h a.2 /\ Q4j h a.2
theorem Q4k (h : Nat) (ks : List (Kid h)) : Q4j (h + 1) ks ↔ ∀ a ∈ ks, Rt h a.2 /\ Q4j h a.2 := Iff.rfl
theorem WFN.keys : ∀ {h : Nat} {f : ByteArray} {n : Nd h}, WFN h f n -> ∀ p ∈ Q49 h n, ge p.1 f /\ okp p
 | 0, _, _, hw, p, hp => hw.2 p hp
 | h + 1, f, ks, hw, p, hp => by
  obtain ⟨⟨n, x, r, e⟩, hk⟩ := (Q4i h f ks).1 hw
  obtain ⟨a, ha, hp⟩ := Q4f.1 (show p ∈ Q4b h ks from hp)
  obtain ⟨h1, h2⟩ := WFN.keys (hk.all a ha) p hp
  refine ⟨?_, h2⟩
  subst e
  rcases List.mem_cons.1 ha with rfl | ha
  ·exact h1
  ·have := (List.pairwise_cons.1 hk.ord).1 a ha
   exact Q3T h1 (Q3Q this.1)
theorem KW.froms {h : Nat} {a : Kid h} {ks : List (Kid h)} (hk : KW h (a :: ks)) : ∀ b ∈ a :: ks, ge b.1 a.1 := by
 intro b hb
 rcases List.mem_cons.1 hb with rfl | hb
 ·exact Q3P _
 ·exact Q3Q ((List.pairwise_cons.1 hk.ord).1 b hb).1
theorem KW.srt {h : Nat} {ks : List (Kid h)} (hk : KW h ks) (hs : ∀ a ∈ ks, Srt (Q49 h a.2)) : Srt (Q4b h ks) := by
 induction ks with
 | nil => simp [Q4b, Srt]
 | cons a r ih =>
  rw [Q4e]
  have hr : KW h r := ⟨(List.pairwise_cons.1 hk.ord).2, fun b hb => hk.all b (by simp [hb])⟩
  refine List.pairwise_append.2 ⟨hs a (by simp), ih hr fun b hb => hs b (by simp [hb]), ?_⟩
  intro p hp q hq
  obtain ⟨b, hb, hq⟩ := Q4f.1 hq
  have h1 := ((List.pairwise_cons.1 hk.ord).1 b hb).2 p hp
  exact Q3R h1 (WFN.keys (hr.all b hb) q hq).1
theorem WFN.srt : ∀ {h : Nat} {f : ByteArray} {n : Nd h}, WFN h f n -> Srt (Q49 h n)
 | 0, _, _, hw => hw.1
 | h + 1, f, ks, hw => by
  obtain ⟨_, hk⟩ := (Q4i h f ks).1 hw
  exact hk.srt fun a ha => WFN.srt (hk.all a ha)
theorem Q4l : ∀ {h : Nat} {n : Nd h}, 0 < Q4a h n -> Q4j h n -> Q49 h n ≠ []
 | 0, l, hs, _, e => by
  have e' : l = [] := e
  subst e'; simp [Q4a] at hs
 | h + 1, ks, hs, hf, e => by
  cases hks : (ks : List (Kid h)) with
  | nil => rw [hks] at hs; simp [Q4a] at hs
  | cons a r =>
   rw [hks, Q4c, Q4e] at e
   have ha := (Q4k h ks).1 hf a (by rw [hks]; simp)
   exact Q4l (by have := ha.1.1; omega) ha.2 (List.append_eq_nil_iff.1 e).1
def cutI {α : Type} (sz : α -> Nat) (whole : Nat) : Nat -> List α -> Nat
 | _, [] => 0
 | part, x :: r => if 2 * part < whole then cutI sz whole (part + sz x) r + 1 else 0
theorem Q4m {α : Type} (sz : α -> Nat) (whole b : Nat) (l : List α) (hb : ∀ x ∈ l, sz x <= b) : ∀ part, 2 * part < whole + 2 * b -> part + (l.map sz).sum ≥ whole - whole / 2 ->
  whole <= 2 * (part + ((l.take (cutI sz whole part l)).map sz).sum) /\ 2 * (part + ((l.take (cutI sz whole part l)).map sz).sum) < whole + 2 * b \/ whole <= 2 * part := by
 induction l with
 | nil =>
  intro part h1 h2
  simp [cutI] at h2 ⊢
  omega
 | cons x r ih =>
  intro part h1 h2
  rw [cutI]
  split
  ·rename_i hlt
   have hx := hb x (by simp)
   have := ih (fun y hy => hb y (by simp [hy])) (part + sz x) (by omega) (by simp at h2; omega)
   rw [List.take_succ_cons, List.map_cons, List.sum_cons]
   rcases this with ⟨a, c⟩ | a
   ·left; omega
   ·have hz : cutI sz whole (part + sz x) r = 0 := by
     cases r with
     | nil => rfl
     | cons y t => rw [cutI, if_neg (by omega)]
    rw [hz]
    simp
    omega
  ·right; omega
def Q4n {α : Type} (sz : α -> Nat) (l : List α) : Nat := cutI sz (l.map sz).sum 0 l
theorem Q4o {α : Type} (sz : α -> Nat) (l : List α) (i : Nat) : ((l.take i).map sz).sum + ((l.drop i).map sz).sum = (l.map sz).sum := by
 rw [<- List.sum_append, <- List.map_append, List.take_append_drop]
theorem Q4p {α : Type} (sz : α -> Nat) (b : Nat) (l : List α) (hb : ∀ x ∈ l, sz x <= b) (h0 : 0 < (l.map sz).sum) (hbp : 0 < b) :
  (l.map sz).sum <= 2 * ((l.take (Q4n sz l)).map sz).sum /\ 2 * ((l.take (Q4n sz l)).map sz).sum < (l.map sz).sum + 2 * b := by
 have := Q4m sz (l.map sz).sum b l hb 0 (by omega) (by omega)
 simp only [Nat.zero_add] at this
 unfold Q4n
 rcases this with h | h
 ·exact h
 ·omega
end Go.Proofs.YtcklgafpgdhnaaaGreatDoor
