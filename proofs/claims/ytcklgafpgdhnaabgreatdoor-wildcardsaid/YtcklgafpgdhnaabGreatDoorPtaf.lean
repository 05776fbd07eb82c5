import Derived.Test.YtcklgafpgdhnaabGreatDoorPtae
import Derived.Lib.Bytealg
import Derived.Test.YtcklgafpgdhnaabGreatDoorPtac
set_option maxRecDepth 100000
set_option maxHeartbeats 4000000
open List renaming getElem_toArray → zA, getElem_cons_succ → zB, getElem_cons_zero → zC, setIfInBounds_toArray → zD, set_cons_succ → zE, set_cons_zero → zF
namespace Go.Proofs.YtcklgafpgdhnaabGreatDoor
open Go.RowKit

abbrev Pr := ByteArray × ByteArray
def pcells (p : Pr) : List Value := [.string p.1, .string p.2]
def flat2 (l : List Pr) : List Value := l.flatMap pcells
theorem length_pcells (p : Pr) : (pcells p).length = 2 := rfl
theorem length_flat2 (l : List Pr) : (flat2 l).length = l.length * 2 := by
 induction l with
 | nil => rfl
 | cons o r ih =>
  have : flat2 (o :: r) = pcells o ++ flat2 r := rfl
  rw [this, List.length_append, ih, length_pcells, List.length_cons]
  omega
theorem flat2_get (l : List Pr) : ∀ (i : Nat) (p : Pr), l[i]? = some p → ∀ (j : Nat) (v : Value), (pcells p)[j]? = some v → (flat2 l)[i * 2 + j]? = some v := by
 induction l with
 | nil => intro i o h; simp at h
 | cons x r ih =>
  intro i o h j v hv
  have hj : j < 2 := by have := (List.getElem?_eq_some_iff.1 hv).1; rwa [length_pcells] at this
  have e : flat2 (x :: r) = pcells x ++ flat2 r := rfl
  rw [e]
  cases i with
  | zero =>
   simp at h; subst h
   rw [List.getElem?_append_left (by rw [length_pcells]; omega)]
   simpa using hv
  | succ i =>
   rw [List.getElem?_append_right (by rw [length_pcells]; omega), length_pcells]
   have := ih i o (by simpa using h) j v hv
   rw [show (i + 1) * 2 + j - 2 = i * 2 + j by omega]
   exact this
theorem flat2_snoc (l : List Pr) (p : Pr) : flat2 l ++ pcells p = flat2 (l ++ [p]) := by simp [flat2]
theorem one_pcells (p : Pr) : ∀ v ∈ pcells p, v.oneCell' = true := by
 intro v hv
 simp only [pcells, List.mem_cons, List.not_mem_nil, or_false] at hv
 rcases hv with rfl | rfl <;> rfl

def PL (w : World) (t : TypeId) (v : Value) (l : List Pr) : Prop := w.ownsRow 0 t 2 v l.length (flat2 l)

theorem PL.nil (w : World) (t : TypeId) : PL w t (.slice none 0 0) [] := World.ownsRow_nil _ _ _ _

theorem PL.shape {w : World} {t : TypeId} {v : Value} {l : List Pr} (h : PL w t v l) : ∃ p cap, v = .slice p l.length cap := by
 obtain ⟨_, ⟨rfl, h0⟩ | ⟨g, cap, cur, rfl, _⟩⟩ := h
 ·exact ⟨none, 0, by rw [h0]⟩
 ·exact ⟨_, _, rfl⟩

theorem PL.at_ {w : World} {t : TypeId} {v : Value} {l : List Pr} (h : PL w t v l) (hl : 0 < l.length) : ∃ g cap cur, v = .slice (some ⟨g, 0, none⟩) l.length cap ∧ w.heap[g]? = some (.cells cur t (0, 0)) ∧
  (∀ (i : Nat) (p : Pr), l[i]? = some p → cur[i * 2]? = some (.string p.1) ∧ cur[i * 2 + 1]? = some (.string p.2)) := by
 obtain ⟨_, ⟨_, h0⟩ | ⟨g, cap, cur, e, _, hh, _, _, _, htk⟩⟩ := h
 ·omega
 refine ⟨g, cap, cur, e, hh, ?_⟩
 intro i p hi
 have hil : i < l.length := (List.getElem?_eq_some_iff.1 hi).1
 have h0 := flat2_get l i p hi 0 _ rfl
 have h1 := flat2_get l i p hi 1 _ rfl
 rw [← htk, List.getElem?_take, if_pos (by omega)] at h0 h1
 exact ⟨by simpa using h0, by simpa using h1⟩

theorem PL.load {w : World} {t ty : TypeId} {g i : Nat} {cur : Array Value} {p : Pr} (fs : _) {P : Program} (hg : w.heap[g]? = some (.cells cur t (0, 0))) (hc : cur[i * 2]? = some (.string p.1) ∧ cur[i * 2 + 1]? = some (.string p.2))
  (hu : P.underlying ty = some (.struct fs)) (hi : (P.info? ty).map (·.size) = some 2) :
  (loadVar ty ⟨g, i * 2, none⟩).run P w = .ok (.agg #[.string p.1, .string p.2]) w := by
 refine run_loadVar_seg (P := P) w g (i * 2) t ty cur.toList [.string p.1, .string p.2] (0, 0) _ (by simpa using hg) hu rfl hi ?_
 intro j v hv
 rcases j with _ | _ | j
 ·simp at hv; subst hv; simpa using hc.1
 ·simp at hv; subst hv; simpa using hc.2
 ·simp at hv

theorem PL.kept {S : List Nat} {w w' : World} {t : TypeId} {v : Value} {l : List Pr} (h : PL w t v l) (k : Kept S w w') (hS : ∀ b, v.ownBlock = some b → b ∉ S) : PL w' t v l := owns_kept h k hS

theorem iap : (Tryz.prog.info? 52).map (fun i => (i.zero, i.size, i.bytes)) = some (some (.agg #[.string ⟨#[]⟩, .string ⟨#[]⟩]), 2, 32) := by kernel_rfl
theorem sap : (Tryz.prog.info? 52).map (·.size) = some 2 := by kernel_rfl

def bl (a b : ByteArray) : Bool := Op.bytesLess a.toList b.toList
def be (a b : ByteArray) : Bool := a.toList == b.toList

theorem toList_of (s : ByteArray) : s.toList = s.data.toList := ByteArray.toList_eq s
theorem lessL : ∀ (x y : List UInt8), Op.bytesLess x y = decide (x < y)
 | [], [] => by simp [Op.bytesLess]
 | _ :: _, [] => by simp [Op.bytesLess]
 | [], _ :: _ => by simp [Op.bytesLess]
 | a :: x, b :: y => by
  have ih := lessL x y
  unfold Op.bytesLess
  rw [ih]
  by_cases h1 : a < b <;> by_cases h2 : a = b <;> by_cases h3 : x < y <;> simp [List.cons_lt_cons_iff, h1, h2, h3]
theorem bl_def (a b : ByteArray) : bl a b = decide (a.data.toList < b.data.toList) := by rw [bl, lessL, toList_of, toList_of]
theorem be_iff (a b : ByteArray) : be a b = true ↔ a = b := by
 rw [be, toList_of, toList_of, beq_iff_eq]
 constructor
 ·intro h
  cases a; cases b
  simp only [ByteArray.mk.injEq]
  exact Array.toList_inj.1 h
 ·rintro rfl; rfl
theorem be_false (a b : ByteArray) : be a b = false ↔ a ≠ b := by
 have := be_iff a b
 cases h : be a b <;> simp_all
theorem be_refl (a : ByteArray) : be a a = true := (be_iff a a).2 rfl
theorem bl_irrefl (a : ByteArray) : bl a a = false := by rw [bl_def]; simp [List.lt_irrefl]
theorem bl_trans {a b c : ByteArray} (h1 : bl a b = true) (h2 : bl b c = true) : bl a c = true := by
 rw [bl_def, decide_eq_true_eq] at *; exact List.lt_trans h1 h2
theorem bl_total (a b : ByteArray) : bl a b = true ∨ a = b ∨ bl b a = true := by
 simp only [bl_def, decide_eq_true_eq]
 rcases Decidable.em (a.data.toList < b.data.toList) with h | h
 ·exact Or.inl h
 rcases Decidable.em (b.data.toList < a.data.toList) with h' | h'
 ·exact Or.inr (Or.inr h')
 right; left
 have := List.le_antisymm (List.not_lt.1 h') (List.not_lt.1 h)
 cases a; cases b
 simp only [ByteArray.mk.injEq]
 exact Array.toList_inj.1 this

def withGo (k v : ByteArray) : Bool → List Pr → List Pr
 | b, [] => if b then [] else [(k, v)]
 | b, p :: r => (if !b && !bl p.1 k then [(k, v)] else []) ++ (if be p.1 k then [] else [p]) ++ withGo k v (b || !bl p.1 k) r
def withL (k v : ByteArray) (l : List Pr) : List Pr := withGo k v false l
def withoutL (k : ByteArray) (l : List Pr) : List Pr := l.filter fun p => !be p.1 k
def getL (k : ByteArray) : List Pr → Option ByteArray
 | [] => none
 | p :: r => if be p.1 k then some p.2 else getL k r
def inR (lo hi : ByteArray) (p : Pr) : Bool := !bl p.1 lo && bl p.1 hi
def scanL (lo hi : ByteArray) (m : Nat) (l : List Pr) : List Pr := (l.filter (inR lo hi)).take m

end Go.Proofs.YtcklgafpgdhnaabGreatDoor

namespace Go.Proofs.YtcklgafpgdhnaabGreatDoor
open Go.RowKit

def tx (s : ByteArray) : List UInt8 := UInt8.ofNat s.size :: s.data.toList
def pkP (p : Pr) : List UInt8 := tx p.1 ++ tx p.2
def pkK (k : ByteArray × Nat) : List UInt8 := tx k.1 ++ (List.replicate (8 - k.1.size) 0 ++ bytesOf k.2 2)
def sealed (B : List UInt8) : List UInt8 := B ++ bytesOf (crc B) 4
def padTo (k : Nat) (l : List UInt8) : List UInt8 := l ++ List.replicate (k - l.length) 0
def encI (kind : UInt8) (n : Nat) (items : List UInt8) : List UInt8 := sealed (padTo 124 (kind :: UInt8.ofNat n :: items))
def encL (l : List Pr) : List UInt8 := encI 76 l.length (l.flatMap pkP)
def encB (ks : List (ByteArray × Nat)) : List UInt8 := encI 66 ks.length (ks.flatMap pkK)

def tText (m : Nat) : List UInt8 → Option (ByteArray × List UInt8)
 | [] => none
 | c :: r => if c.toNat ≤ m ∧ c.toNat ≤ r.length then some (⟨(r.take c.toNat).toArray⟩, r.drop c.toNat) else none
def tPair (r : List UInt8) : Option (Pr × List UInt8) := match tText 8 r with
 | none => none
 | some (k, r1) => match tText 12 r1 with
  | none => none
  | some (v, r2) => some ((k, v), r2)
def tKid (r : List UInt8) : Option ((ByteArray × Nat) × List UInt8) := match tText 8 r with
 | none => none
 | some (k, r1) => if 8 - k.size + 2 ≤ r1.length then some ((k, leNum ((r1.drop (8 - k.size)).take 2)), r1.drop (8 - k.size + 2)) else none
def tMany {α : Type} (t : List UInt8 → Option (α × List UInt8)) : Nat → List UInt8 → Option (List α × List UInt8)
 | 0, r => some ([], r)
 | n + 1, r => match t r with
  | none => none
  | some (a, r1) => match tMany t n r1 with
   | none => none
   | some (l, r2) => some (a :: l, r2)

theorem size_data (s : ByteArray) : s.data.toList.length = s.size := Array.length_toList
theorem byte_small (n : Nat) (h : n < 256) : (UInt8.ofNat n).toNat = n := by
 rw [UInt8.toNat_ofNat']
 exact Nat.mod_eq_of_lt h
theorem length_tx (s : ByteArray) : (tx s).length = 1 + s.size := by simp [tx]; omega
theorem length_pkP (p : Pr) : (pkP p).length = 2 + p.1.size + p.2.size := by simp [pkP, length_tx]; omega
theorem length_bytesOf' (n k : Nat) : (bytesOf n k).length = k := by simp [bytesOf]
theorem length_pkK (k : ByteArray × Nat) (h : k.1.size ≤ 8) : (pkK k).length = 11 := by simp [pkK, length_tx, length_bytesOf']; omega

theorem tText_tx (m : Nat) (s : ByteArray) (r : List UInt8) (h : s.size ≤ m) (hm : m < 256) : tText m (tx s ++ r) = some (s, r) := by
 have e : (UInt8.ofNat s.size).toNat = s.size := byte_small _ (by omega)
 simp only [tx, List.cons_append, tText, e]
 have h1 : s.size = s.data.toList.length := (size_data s).symm
 rw [if_pos ⟨h, by rw [List.length_append, size_data]; omega⟩]
 rw [h1, List.take_left' rfl, List.drop_left' rfl]
theorem tText_some {m : Nat} {r r' : List UInt8} {s : ByteArray} (h : tText m r = some (s, r')) : r = tx s ++ r' ∧ s.size ≤ m := by
 cases r with
 | nil => simp [tText] at h
 | cons c r =>
  simp only [tText] at h
  split at h
  ·rename_i hc
   simp only [Option.some.injEq, Prod.mk.injEq] at h
   obtain ⟨rfl, rfl⟩ := h
   have hl : (r.take c.toNat).length = c.toNat := by rw [List.length_take]; omega
   have hs : (ByteArray.mk (r.take c.toNat).toArray).size = c.toNat := by rw [← size_data]; simpa using hl
   refine ⟨?_, by rw [hs]; exact hc.1⟩
   rw [tx, hs]
   have : UInt8.ofNat c.toNat = c := by simp
   rw [this]
   simp
  ·cases h
theorem tPair_pk (p : Pr) (r : List UInt8) (h1 : p.1.size ≤ 8) (h2 : p.2.size ≤ 12) : tPair (pkP p ++ r) = some (p, r) := by
 simp only [tPair, pkP, List.append_assoc, tText_tx 8 p.1 _ h1 (by omega), tText_tx 12 p.2 _ h2 (by omega)]
theorem tPair_some {r r' : List UInt8} {p : Pr} (h : tPair r = some (p, r')) : r = pkP p ++ r' ∧ p.1.size ≤ 8 ∧ p.2.size ≤ 12 := by
 unfold tPair at h
 split at h
 ·cases h
 ·rename_i k r1 e1
  split at h
  ·cases h
  ·rename_i v r2 e2
   simp only [Option.some.injEq, Prod.mk.injEq] at h
   obtain ⟨rfl, rfl⟩ := h
   obtain ⟨a1, a2⟩ := tText_some e1
   obtain ⟨b1, b2⟩ := tText_some e2
   exact ⟨by rw [a1, b1, pkP, List.append_assoc], a2, b2⟩
theorem leNum_two (n : Nat) (h : n < 65536) : leNum (bytesOf n 2) = n := by
 rw [leNum_bytesOf]
 exact Nat.mod_eq_of_lt h
theorem tKid_pk (k : ByteArray × Nat) (r : List UInt8) (h1 : k.1.size ≤ 8) (h2 : k.2 < 65536) : tKid (pkK k ++ r) = some (k, r) := by
 have hz : (List.replicate (8 - k.1.size) (0 : UInt8)).length = 8 - k.1.size := by simp
 simp only [tKid, pkK, List.append_assoc, tText_tx 8 k.1 _ h1 (by omega)]
 rw [if_pos (by simp [length_bytesOf'])]
 have e1 : (List.replicate (8 - k.1.size) (0 : UInt8) ++ (bytesOf k.2 2 ++ r)).drop (8 - k.1.size) = bytesOf k.2 2 ++ r := List.drop_left' hz
 have e2 : (bytesOf k.2 2 ++ r).take 2 = bytesOf k.2 2 := List.take_left' (length_bytesOf' _ _)
 have e3 : (List.replicate (8 - k.1.size) (0 : UInt8) ++ (bytesOf k.2 2 ++ r)).drop (8 - k.1.size + 2) = r := by
  rw [← List.drop_drop, e1]
  exact List.drop_left' (length_bytesOf' _ _)
 rw [e1, e2, e3, leNum_two _ h2]
theorem tKid_some {r r' : List UInt8} {k : ByteArray × Nat} (h : tKid r = some (k, r')) : k.1.size ≤ 8 ∧ k.2 < 65536 ∧ r.length = 11 + r'.length := by
 unfold tKid at h
 split at h
 ·cases h
 ·rename_i f r1 e1
  split at h
  ·rename_i hl
   simp only [Option.some.injEq, Prod.mk.injEq] at h
   obtain ⟨rfl, rfl⟩ := h
   obtain ⟨a1, a2⟩ := tText_some e1
   refine ⟨a2, ?_, ?_⟩
   ·have := leNum_lt ((r1.drop (8 - f.size)).take 2)
    have hl2 : ((r1.drop (8 - f.size)).take 2).length = 2 := by rw [List.length_take, List.length_drop]; omega
    rw [hl2] at this
    exact this
   ·rw [a1, List.length_append, length_tx, List.length_drop]
    omega
  ·cases h
theorem tMany_pk {α : Type} (t : List UInt8 → Option (α × List UInt8)) (pk : α → List UInt8) (l : List α) (r : List UInt8) (h : ∀ a ∈ l, ∀ r, t (pk a ++ r) = some (a, r)) : tMany t l.length (l.flatMap pk ++ r) = some (l, r) := by
 induction l with
 | nil => rfl
 | cons a l ih =>
  simp only [List.length_cons, tMany, List.flatMap_cons, List.append_assoc, h a (by simp)]
  rw [ih fun b hb => h b (by simp [hb])]
theorem tMany_len {α : Type} {t : List UInt8 → Option (α × List UInt8)} {n : Nat} {r r' : List UInt8} {l : List α} (h : tMany t n r = some (l, r')) : l.length = n := by
 induction n generalizing r l with
 | zero => simp only [tMany, Option.some.injEq, Prod.mk.injEq] at h; rw [← h.1]; rfl
 | succ n ih =>
  simp only [tMany] at h
  split at h
  ·cases h
  ·rename_i a r1 e1
   split at h
   ·cases h
   ·rename_i l2 r2 e2
    simp only [Option.some.injEq, Prod.mk.injEq] at h
    obtain ⟨rfl, rfl⟩ := h
    simp [ih e2]
theorem tMany_all {α : Type} {t : List UInt8 → Option (α × List UInt8)} {G : α → Prop} {sz : α → Nat} (ht : ∀ r a r', t r = some (a, r') → G a ∧ r.length = sz a + r'.length) {n : Nat} {r r' : List UInt8} {l : List α} (h : tMany t n r = some (l, r')) :
  (∀ a ∈ l, G a) ∧ r.length = (l.map sz).sum + r'.length := by
 induction n generalizing r l with
 | zero =>
  simp only [tMany, Option.some.injEq, Prod.mk.injEq] at h
  obtain ⟨rfl, rfl⟩ := h
  simp
 | succ n ih =>
  simp only [tMany] at h
  split at h
  ·cases h
  ·rename_i a r1 e1
   split at h
   ·cases h
   ·rename_i l2 r2 e2
    simp only [Option.some.injEq, Prod.mk.injEq] at h
    obtain ⟨rfl, rfl⟩ := h
    obtain ⟨g1, g2⟩ := ht _ _ _ e1
    obtain ⟨i1, i2⟩ := ih e2
    refine ⟨?_, ?_⟩
    ·intro b hb
     rcases List.mem_cons.1 hb with rfl | hb
     ·exact g1
     ·exact i1 b hb
    ·rw [g2, i2]; simp; omega

inductive Nb where
 | leaf (l : List Pr)
 | branch (ks : List (ByteArray × Nat))
def encN : Nb → List UInt8
 | .leaf l => encL l
 | .branch ks => encB ks
def decN (b : List UInt8) : Option Nb :=
 if b[0]? = some 76 then match tMany tPair ((b[1]?).getD 0).toNat ((b.drop 2).take 122) with
  | none => none
  | some (l, _) => if encL l = b then some (.leaf l) else none
 else if b[0]? = some 66 then match tMany tKid ((b[1]?).getD 0).toNat ((b.drop 2).take 122) with
  | none => none
  | some (ks, _) => if encB ks = b then some (.branch ks) else none
 else none
def fitsN : Nb → Prop
 | .leaf l => (∀ p ∈ l, p.1.size ≤ 8 ∧ p.2.size ≤ 12) ∧ (l.map fun p => 2 + p.1.size + p.2.size).sum ≤ 122
 | .branch ks => (∀ k ∈ ks, k.1.size ≤ 8 ∧ k.2 < 65536) ∧ 11 * ks.length ≤ 122

theorem decN_enc {b : List UInt8} {n : Nb} (h : decN b = some n) : encN n = b ∧ fitsN n := by
 have hl : ((b.drop 2).take 122).length ≤ 122 := by rw [List.length_take]; omega
 unfold decN at h
 split at h
 ·split at h
  ·cases h
  ·rename_i l r e
   split at h
   ·rename_i he
    simp only [Option.some.injEq] at h
    subst h
    obtain ⟨h1, h2⟩ := tMany_all (G := fun p : Pr => p.1.size ≤ 8 ∧ p.2.size ≤ 12) (sz := fun p : Pr => 2 + p.1.size + p.2.size) (fun r a r' h => by obtain ⟨a1, a2⟩ := tPair_some h; exact ⟨a2, by rw [a1, List.length_append, length_pkP]⟩) e
    exact ⟨he, h1, by omega⟩
   ·cases h
 ·split at h
  ·split at h
   ·cases h
   ·rename_i l r e
    split at h
    ·rename_i he
     simp only [Option.some.injEq] at h
     subst h
     obtain ⟨h1, h2⟩ := tMany_all (G := fun k : ByteArray × Nat => k.1.size ≤ 8 ∧ k.2 < 65536) (sz := fun _ => 11) (fun r a r' h => by obtain ⟨a1, a2, a3⟩ := tKid_some h; exact ⟨⟨a1, a2⟩, a3⟩) e
     have h3 : (l.map fun _ => 11).sum = 11 * l.length := by
      clear e h1 h2 he
      induction l with
      | nil => rfl
      | cons a l ih => simp [ih]; omega
     exact ⟨he, h1, by omega⟩
    ·cases h
  ·cases h

theorem length_flatP (l : List Pr) : (l.flatMap pkP).length = (l.map fun p => 2 + p.1.size + p.2.size).sum := by
 induction l with
 | nil => rfl
 | cons p l ih => simp only [List.flatMap_cons, List.length_append, length_pkP, ih, List.map_cons, List.sum_cons]
theorem length_flatB (ks : List (ByteArray × Nat)) (h : ∀ k ∈ ks, k.1.size ≤ 8) : (ks.flatMap pkK).length = 11 * ks.length := by
 induction ks with
 | nil => rfl
 | cons p l ih =>
  rw [List.flatMap_cons, List.length_append, length_pkK p (h p (by simp)), ih fun k hk => h k (by simp [hk]), List.length_cons]
  omega
theorem length_padTo (k : Nat) (l : List UInt8) (h : l.length ≤ k) : (padTo k l).length = k := by simp [padTo]; omega
theorem length_sealed (B : List UInt8) : (sealed B).length = B.length + 4 := by simp [sealed, length_bytesOf']
theorem length_encI (c : UInt8) (n : Nat) (i : List UInt8) (h : i.length ≤ 122) : (encI c n i).length = 128 := by
 rw [encI, length_sealed, length_padTo _ _ (by simp; omega)]
theorem encI_at (c : UInt8) (n : Nat) (i : List UInt8) (h : i.length ≤ 122) : (encI c n i)[0]? = some c ∧ (encI c n i)[1]? = some (UInt8.ofNat n) ∧ ∃ z, ((encI c n i).drop 2).take 122 = i ++ z := by
 refine ⟨by simp [encI, sealed, padTo], by simp [encI, sealed, padTo], List.replicate (122 - i.length) 0, ?_⟩
 have e : encI c n i = c :: UInt8.ofNat n :: ((i ++ List.replicate (122 - i.length) 0) ++ bytesOf (crc (padTo 124 (c :: UInt8.ofNat n :: i))) 4) := by
  simp [encI, sealed, padTo]
 rw [e, List.drop_succ_cons, List.drop_succ_cons, List.drop_zero]
 exact List.take_left' (by simp; omega)
theorem sum_ge2 (l : List Pr) : 2 * l.length ≤ (l.map fun p => 2 + p.1.size + p.2.size).sum := by
 induction l with
 | nil => simp
 | cons p l ih => simp only [List.length_cons, List.map_cons, List.sum_cons]; omega
theorem decN_of {n : Nb} (h : fitsN n) : decN (encN n) = some n := by
 cases n with
 | leaf l =>
  obtain ⟨h1, h2⟩ := h
  have hl := length_flatP l
  obtain ⟨e0, e1, z, e2⟩ := encI_at 76 l.length (l.flatMap pkP) (by omega)
  have hc : (UInt8.ofNat l.length).toNat = l.length := byte_small _ (by have := sum_ge2 l; omega)
  simp only [decN, encN, encL, e0, e1, e2, if_true, Option.getD_some, hc]
  rw [tMany_pk tPair pkP l z fun p hp r => tPair_pk p r (h1 p hp).1 (h1 p hp).2]
  simp
 | branch ks =>
  obtain ⟨h1, h2⟩ := h
  have hl := length_flatB ks fun k hk => (h1 k hk).1
  obtain ⟨e0, e1, z, e2⟩ := encI_at 66 ks.length (ks.flatMap pkK) (by omega)
  have hc : (UInt8.ofNat ks.length).toNat = ks.length := byte_small _ (by omega)
  simp only [decN, encN, encB, e0, e1, e2, if_true, Option.getD_some, hc]
  rw [if_neg (by decide), tMany_pk tKid pkK ks z fun k hk r => tKid_pk k r (h1 k hk).1 (h1 k hk).2]
  simp
theorem length_encN {n : Nb} (h : fitsN n) : (encN n).length = 128 := by
 cases n with
 | leaf l => exact length_encI _ _ _ (by rw [length_flatP]; exact h.2)
 | branch ks => exact length_encI _ _ _ (by rw [length_flatB _ fun k hk => (h.1 k hk).1]; exact h.2)

end Go.Proofs.YtcklgafpgdhnaabGreatDoor

namespace Go.Proofs.YtcklgafpgdhnaabGreatDoor
open Go.RowKit

section
variable {P : Program} {ops : Array Oper} {Q : Exit → Act → World → Prop}
theorem wpOp_call {i : Nat} {o : Oper} {K : Act → World → Prop} {a : Act} {w : World} (ho : ops[i]? = some o) (hw : Region.wanted o (yielded ops a.tmps) = true) (f : FuncId) (args : Array Value)
  (hrun : (execOp a.eval o).run P w = .ok (.enter f args) w) (R : Ending → World → Prop) (hc : Calls P f args w R) (h : ∀ e w', R e w' → ∃ v, e = .returned v ∧ K (a.put o.dst v) w') : wpOp P ops Q i K a w :=
 wpOp_step ho fun K' hK => by
  rw [if_pos hw]; unfold Oper.wp; rw [hrun, Oper.upon_enter]
  refine hc.mono ?_
  intro e w' hR
  obtain ⟨v, rfl, hk⟩ := h e w' hR
  exact hK _ _ hk
end

theorem wpOp_callB {P : Program} {ops : Array Oper} {Q : Exit → Act → World → Prop} {i : Nat} {o : Oper} {K : Act → World → Prop} {a : Act} {w : World} (ho : ops[i]? = some o) (hw : Region.wanted o (yielded ops a.tmps) = true) (f : FuncId) (args : Array Value)
  (hrun : (execOp a.eval o).run P w = .ok (.enter f args) w) (R : Ending → World → Prop) (hc : Calls P f args w R) (h : ∀ e w', R e w' → (∃ v, e = .returned v ∧ K (a.put o.dst v) w') ∨ ∃ c, e = .panicked c ∧ Q (.panic c) a w') : wpOp P ops Q i K a w :=
 wpOp_step ho fun K' hK => by
  rw [if_pos hw]; unfold Oper.wp; rw [hrun, Oper.upon_enter]
  refine hc.mono ?_
  intro e w' hR
  rcases h e w' hR with ⟨v, rfl, hk⟩ | ⟨c, rfl, hk⟩
  ·exact hK _ _ hk
  ·exact hk
theorem enters {P : Program} {f : FuncId} {fn : Func} (hf : P.funcs[f]? = some fn) (hname : (fn.name == "runtime.NumGoroutine") = false) (hb : fn.body.isNone = false) (args : Array Value) (w : World) : (callFunc f args).run P w = .ok (.enter f args) w := by
 have h1 : ¬ fn.name = "runtime.NumGoroutine" := by simpa using hname
 have h2 : ¬ fn.body = none := by intro h; rw [h] at hb; cases hb
 simp [callFunc, hf, h1, h2]
theorem exec_call {P : Program} {o : Oper} {a : Act} {w : World} (f : FuncId) (xs : Array Operand) (ts : Array TypeId) (ho : o.op = .call { callee := .value (.func f), args := xs, argTypes := ts }) (vs : Array Value) (hv : xs.map a.eval = vs) (he : (callFunc f vs).run P w = .ok (.enter f vs) w) :
  (execOp a.eval o).run P w = .ok (.enter f vs) w := by
 subst hv
 simp [execOp, ho, resolve, Deferred.ofValue, invoke, Act.eval, he]

theorem exec_fieldL {P : Program} {o : Oper} {a : Act} {w : World} (t : TypeId) (x : Operand) (i : Nat) (ho : o.op = .fieldAddr t x i) (g b : Nat) (hx : a.eval x = .pointer (some ⟨g, b, none⟩)) (off : Nat) (hr : (Instr.fieldAt t (.pointer (some ⟨g, b, none⟩)) i).run P w = .ok (.pointer (some ⟨g, b + off, none⟩)) w) :
  (execOp a.eval o).run P w = .ok (.value (.pointer (some ⟨g, b + off, none⟩))) w := by
 simp [execOp, ho, hx, hr]


theorem exec_conv {P : Program} {o : Oper} {a : Act} {w : World} (t u : TypeId) (x : Operand) (ho : o.op = .convert t u x) (k k' : IntKind) (d : TypeDesc) (n : Int) (hx : a.eval x = .int k n) (ht : P.underlying t = some d) (hu : P.underlying u = some (.int k')) :
  (execOp a.eval o).run P w = .ok (.value (.int k' (k'.wrap n))) w := by
 simp [execOp, ho, hx, convert, run_underlying ht, run_underlying hu, Conv.intToInt]

end Go.Proofs.YtcklgafpgdhnaabGreatDoor
