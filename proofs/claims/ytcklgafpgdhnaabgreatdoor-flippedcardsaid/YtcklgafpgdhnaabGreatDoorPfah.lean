import Derived.Test.YtcklgafpgdhnaabGreatDoorPfag
import Derived.BigQuiet
import Derived.Deep.QuietTactic
import Derived.Test.YtcklgafpgdhnaabGreatDoorPfaf
import Derived.Maps.AppendAt
set_option maxRecDepth 100000
set_option maxHeartbeats 4000000
namespace Go.Proofs.YtcklgafpgdhnaabGreatDoor
open Go.RowKit
def tx (s : ByteArray) : List UInt8 := UInt8.ofNat s.size :: s.data.toList
def pkP (p : Pr) : List UInt8 := tx p.1 ++ tx p.2
def pkK (k : ByteArray × Nat) : List UInt8 := tx k.1 ++ (List.replicate (8 - k.1.size) 0 ++ Q2f k.2 2)
def Q4q (B : List UInt8) : List UInt8 := B ++ Q2f (crc B) 4
def Q4r (k : Nat) (l : List UInt8) : List UInt8 := l ++ List.replicate (k - l.length) 0
def encI (kind : UInt8) (n : Nat) (items : List UInt8) : List UInt8 := Q4q (Q4r 124 (kind :: UInt8.ofNat n :: items))
def encL (l : List Pr) : List UInt8 := encI 76 l.length (l.flatMap pkP)
def encB (ks : List (ByteArray × Nat)) : List UInt8 := encI 66 ks.length (ks.flatMap pkK)
def Q4s (m : Nat) : List UInt8 -> Option (ByteArray × List UInt8)
 | [] => none
 | c :: r => if c.toNat <= m /\ c.toNat <= r.length then some (⟨(r.take c.toNat).toArray⟩, r.drop c.toNat) else none
def Q4t (r : List UInt8) : Option (Pr × List UInt8) := match Q4s 8 r with
 | none => none
 | some (k, r1) => match Q4s 12 r1 with
  | none => none
  | some (v, r2) => some ((k, v), r2)
def tKid (r : List UInt8) : Option ((ByteArray × Nat) × List UInt8) := match Q4s 8 r with
 | none => none
 | some (k, r1) => if 8 - k.size + 2 <= r1.length then some ((k, Q28 ((r1.drop (8 - k.size)).take 2)), r1.drop (8 - k.size + 2)) else none
def Q4u {α : Type} (t : List UInt8 -> Option (α × List UInt8)) : Nat -> List UInt8 -> Option (List α × List UInt8)
 | 0, r => some ([], r)
 | n + 1, r => match t r with
  | none => none
  | some (a, r1) => match Q4u t n r1 with
   | none => none
   | some (l, r2) => some (a :: l, r2)
theorem Q4v (s : ByteArray) : s.data.toList.length = s.size := Array.length_toList
theorem Q4w (n : Nat) (h : n < 256) : (UInt8.ofNat n).toNat = n := by
 rw [UInt8.toNat_ofNat']
 exact Nat.mod_eq_of_lt h
theorem Q4x (s : ByteArray) : (tx s).length = 1 + s.size := by simp [tx]; omega
theorem Q4y (p : Pr) : (pkP p).length = 2 + p.1.size + p.2.size := by simp [pkP, Q4x]; omega
theorem Q4z (n k : Nat) : (Q2f n k).length = k := by simp [Q2f]
theorem Q4A (k : ByteArray × Nat) (h : k.1.size <= 8) : (pkK k).length = 11 := by simp [pkK, Q4x, Q4z]; omega
theorem Q4B (m : Nat) (s : ByteArray) (r : List UInt8) (h : s.size <= m) (hm : m < 256) : Q4s m (tx s ++ r) = some (s, r) := by
 have e : (UInt8.ofNat s.size).toNat = s.size := Q4w _ (by omega)
 simp only [tx, List.cons_append, Q4s, e]
 have h1 : s.size = s.data.toList.length := (Q4v s).symm
 rw [if_pos ⟨h, by rw [List.length_append, Q4v]; omega⟩]
 rw [h1, List.take_left' rfl, List.drop_left' rfl]
theorem Q4C {m : Nat} {r r' : List UInt8} {s : ByteArray} (h : Q4s m r = some (s, r')) : r = tx s ++ r' /\ s.size <= m := by
 cases r with
 | nil => simp [Q4s] at h
 | cons c r =>
  simp only [Q4s] at h
  split at h
  ·rename_i hc
   simp only [Option.some.injEq, Prod.mk.injEq] at h
   obtain ⟨rfl, rfl⟩ := h
   have hl : (r.take c.toNat).length = c.toNat := by rw [List.length_take]; omega
   have hs : (ByteArray.mk (r.take c.toNat).toArray).size = c.toNat := by rw [<- Q4v]; simpa using hl
   refine ⟨?_, by rw [hs]; exact hc.1⟩
   rw [tx, hs]
   have : UInt8.ofNat c.toNat = c := by simp
   rw [this]
   simp
  ·cases h
theorem Q4D (p : Pr) (r : List UInt8) (h1 : p.1.size <= 8) (h2 : p.2.size <= 12) : Q4t (pkP p ++ r) = some (p, r) := by
 simp only [Q4t, pkP, List.append_assoc, Q4B 8 p.1 _ h1 (by omega), Q4B 12 p.2 _ h2 (by omega)]
theorem Q4E {r r' : List UInt8} {p : Pr} (h : Q4t r = some (p, r')) : r = pkP p ++ r' /\ p.1.size <= 8 /\ p.2.size <= 12 := by
 unfold Q4t at h
 split at h
 ·cases h
 ·rename_i k r1 e1
  split at h
  ·cases h
  ·rename_i v r2 e2
   simp only [Option.some.injEq, Prod.mk.injEq] at h
   obtain ⟨rfl, rfl⟩ := h
   obtain ⟨a1, a2⟩ := Q4C e1
   obtain ⟨b1, b2⟩ := Q4C e2
   exact ⟨by rw [a1, b1, pkP, List.append_assoc], a2, b2⟩
theorem Q4F (n : Nat) (h : n < 65536) : Q28 (Q2f n 2) = n := by
 rw [Q2g]
 exact Nat.mod_eq_of_lt h
theorem Q4G (k : ByteArray × Nat) (r : List UInt8) (h1 : k.1.size <= 8) (h2 : k.2 < 65536) : tKid (pkK k ++ r) = some (k, r) := by
 have hz : (List.replicate (8 - k.1.size) (0 : UInt8)).length = 8 - k.1.size := by simp
 simp only [tKid, pkK, List.append_assoc, Q4B 8 k.1 _ h1 (by omega)]
 rw [if_pos (by simp [Q4z])]
 have e1 : (List.replicate (8 - k.1.size) (0 : UInt8) ++ (Q2f k.2 2 ++ r)).drop (8 - k.1.size) = Q2f k.2 2 ++ r := List.drop_left' hz
 have e2 : (Q2f k.2 2 ++ r).take 2 = Q2f k.2 2 := List.take_left' (Q4z _ _)
 have e3 : (List.replicate (8 - k.1.size) (0 : UInt8) ++ (Q2f k.2 2 ++ r)).drop (8 - k.1.size + 2) = r := by
  rw [<- List.drop_drop, e1]
  exact List.drop_left' (Q4z _ _)
 rw [e1, e2, e3, Q4F _ h2]
theorem Q4H {r r' : List UInt8} {k : ByteArray × Nat} (h : tKid r = some (k, r')) : k.1.size <= 8 /\ k.2 < 65536 /\ r.length = 11 + r'.length := by
 unfold tKid at h
 split at h
 ·cases h
 ·rename_i f r1 e1
  split at h
  ·rename_i hl
   simp only [Option.some.injEq, Prod.mk.injEq] at h
   obtain ⟨rfl, rfl⟩ := h
   obtain ⟨a1, a2⟩ := Q4C e1
   refine ⟨a2, ?_, ?_⟩
   ·have := Q2a ((r1.drop (8 - f.size)).take 2)
    have hl2 : ((r1.drop (8 - f.size)).take 2).length = 2 := by rw [List.length_take, List.length_drop]; omega
    rw [hl2] at this
    exact this
   ·rw [a1, List.length_append, Q4x, List.length_drop]
    omega
  ·cases h
theorem Q4I {α : Type} (t : List UInt8 -> Option (α × List UInt8)) (pk : α -> List UInt8) (l : List α) (r : List UInt8) (h : ∀ a ∈ l, ∀ r, t (pk a ++ r) = some (a, r)) : Q4u t l.length (l.flatMap pk ++ r) = some (l, r) := by
 induction l with
 | nil => rfl
 | cons a l ih =>
  simp only [List.length_cons, Q4u, List.flatMap_cons, List.append_assoc, h a (by simp)]
  rw [ih fun b hb => h b (by simp [hb])]
theorem Q4J {α : Type} {t : List UInt8 -> Option (α × List UInt8)} {n : Nat} {r r' : List UInt8} {l : List α} (h : Q4u t n r = some (l, r')) : l.length = n := by
 induction n generalizing r l with
 | zero => simp only [Q4u, Option.some.injEq, Prod.mk.injEq] at h; rw [<- h.1]; rfl
 | succ n ih =>
  simp only [Q4u] at h
  split at h
  ·cases h
  ·rename_i a r1 e1
   split at h
   ·cases h
   ·rename_i l2 r2 e2
    simp only [Option.some.injEq, Prod.mk.injEq] at h
    obtain ⟨rfl, rfl⟩ := h
    simp [ih e2]
theorem Q4K {α : Type} {t : List UInt8 -> Option (α × List UInt8)} {G : α -> Prop} {sz : α -> Nat} (ht : ∀ r a r', t r = some (a, r') -> G a /\ r.length = sz a + r'.length) {n : Nat} {r r' : List UInt8} {l : List α} (h : Q4u t n r = some (l, r')) :
  (∀ a ∈ l, G a) /\ r.length = (l.map sz).sum + r'.length := by
 induction n generalizing r l with
 | zero =>
  simp only [Q4u, Option.some.injEq, Prod.mk.injEq] at h
  obtain ⟨rfl, rfl⟩ := h
  simp
 | succ n ih =>
  simp only [Q4u] at h
  split at h
  ·cases h
  ·rename_i a r1 e1
   split at h
   ·cases h
   ·rename_i l2 r2 e2
    simp only [Option.some.injEq, Prod.mk.injEq] at h
    obtain ⟨rfl, rfl⟩ := h
    obtain ⟨g1, g2⟩ := ht _ _ _ e1
    obtain ⟨i1, i2⟩ := ih e2
    refine ⟨?_, ?_⟩
    ·intro b hb
     rcases List.mem_cons.1 hb with rfl | hb
     ·exact g1
     ·exact i1 b hb
    ·rw [g2, i2]; simp; omega
inductive Nb where
 | leaf (l : List Pr)
 | branch (ks : List (ByteArray × Nat))
def encN : Nb -> List UInt8
 | .leaf l => encL l
 | .branch ks => encB ks
def decN (b : List UInt8) : Option Nb :=
 if b[0]? = some 76 then match Q4u Q4t ((b[1]?).getD 0).toNat ((b.drop 2).take 122) with
  | none => none
  | some (l, _) => if encL l = b then some (.leaf l) else none
 else if b[0]? = some 66 then match Q4u tKid ((b[1]?).getD 0).toNat ((b.drop 2).take 122) with
  | none => none
  | some (ks, _) => if encB ks = b then some (.branch ks) else none
 else none
def Q4L : Nb -> Prop
 | .leaf l => (∀ p ∈ l, p.1.size <= 8 /\ p.2.size <= 12) /\ (l.map fun p => 2 + p.1.size + p.2.size).sum <= 122
 | .branch ks => (∀ k ∈ ks, k.1.size <= 8 /\ k.2 < 65536) /\ 11 * ks.length <= 122
theorem Q4M {b : List UInt8} {n : Nb} (h : decN b = some n) : encN n = b /\ Q4L n := by
 have hl : ((b.drop 2).take 122).length <= 122 := by rw [List.length_take]; omega
 unfold decN at h
 split at h
 ·split at h
  ·cases h
  ·rename_i l r e
   split at h
   ·rename_i he
    simp only [Option.some.injEq] at h
    subst h
    obtain ⟨h1, h2⟩ := Q4K (G := fun p : Pr => p.1.size <= 8 /\ p.2.size <= 12) (sz := fun p : Pr => 2 + p.1.size + p.2.size) (fun r a r' h => by obtain ⟨a1, a2⟩ := Q4E h; exact ⟨a2, by rw [a1, List.length_append, Q4y]⟩) e
    exact ⟨he, h1, by omega⟩
   ·cases h
 ·split at h
  ·split at h
   ·cases h
   ·rename_i l r e
    split at h
    ·rename_i he
     simp only [Option.some.injEq] at h
     subst h
     obtain ⟨h1, h2⟩ := Q4K (G := fun k : ByteArray × Nat => k.1.size <= 8 /\ k.2 < 65536) (sz := fun _ => 11) (fun r a r' h => by obtain ⟨a1, a2, a3⟩ := Q4H h; exact ⟨⟨a1, a2⟩, a3⟩) e
     have h3 : (l.map fun _ => 11).sum = 11 * l.length := by
      clear e h1 h2 he
      induction l with
      | nil => rfl
      | cons a l ih => simp [ih]; omega
     exact ⟨he, h1, by omega⟩
    ·cases h
  ·cases h
theorem Q4N (l : List Pr) : (l.flatMap pkP).length = (l.map fun p => 2 + p.1.size + p.2.size).sum := by
 induction l with
 | nil => rfl
 | cons p l ih => simp only [List.flatMap_cons, List.length_append, Q4y, ih, List.map_cons, List.sum_cons]
theorem Q4O (ks : List (ByteArray × Nat)) (h : ∀ k ∈ ks, k.1.size <= 8) : (ks.flatMap pkK).length = 11 * ks.length := by
 induction ks with
 | nil => rfl
 | cons p l ih =>
  rw [List.flatMap_cons, List.length_append, Q4A p (h p (by simp)), ih fun k hk => h k (by simp [hk]), List.length_cons]
  omega
theorem Q4P (k : Nat) (l : List UInt8) (h : l.length <= k) : (Q4r k l).length = k := by simp [Q4r]; omega
theorem Q4Q (B : List UInt8) : (Q4q B).length = B.length + 4 := by simp [Q4q, Q4z]
theorem Q4R (c : UInt8) (n : Nat) (i : List UInt8) (h : i.length <= 122) : (encI c n i).length = 128 := by
 rw [encI, Q4Q, Q4P _ _ (by simp; omega)]
theorem Q4S (c : UInt8) (n : Nat) (i : List UInt8) (h : i.length <= 122) : (encI c n i)[0]? = some c /\ (encI c n i)[1]? = some (UInt8.ofNat n) /\ ∃ z, ((encI c n i).drop 2).take 122 = i ++ z := by
 refine ⟨by simp [encI, Q4q, Q4r], by simp [encI, Q4q, Q4r], List.replicate (122 - i.length) 0, ?_⟩
 have e : encI c n i = c :: UInt8.ofNat n :: ((i ++ List.replicate (122 - i.length) 0) ++ Q2f (crc (Q4r 124 (c :: UInt8.ofNat n :: i))) 4) := by
  simp [encI, Q4q, Q4r]
 rw [e, List.drop_succ_cons, List.drop_succ_cons, List.drop_zero]
 exact List.take_left' (by simp; omega)
theorem Q4T (l : List Pr) : 2 * l.length <= (l.map fun p => 2 + p.1.size + p.2.size).sum := by
 induction l with
 | nil => simp
 | cons p l ih => simp only [List.length_cons, List.map_cons, List.sum_cons]; omega
theorem Q4U {n : Nb} (h : Q4L n) : decN (encN n) = some n := by
 cases n with
 | leaf l =>
  obtain ⟨h1, h2⟩ := h
  have hl := Q4N l
  obtain ⟨e0, e1, z, e2⟩ := Q4S 76 l.length (l.flatMap pkP) (by omega)
  have hc : (UInt8.ofNat l.length).toNat = l.length := Q4w _ (by have := Q4T l; omega)
  simp only [decN, encN, encL, e0, e1, e2, if_true, Option.getD_some, hc]
  rw [Q4I Q4t pkP l z fun p hp r => Q4D p r (h1 p hp).1 (h1 p hp).2]
  simp
 | branch ks =>
  obtain ⟨h1, h2⟩ := h
  have hl := Q4O ks fun k hk => (h1 k hk).1
  obtain ⟨e0, e1, z, e2⟩ := Q4S 66 ks.length (ks.flatMap pkK) (by omega)
  have hc : (UInt8.ofNat ks.length).toNat = ks.length := Q4w _ (by omega)
  simp only [decN, encN, encB, e0, e1, e2, if_true, Option.getD_some, hc]
  rw [if_neg (by decide), Q4I tKid pkK ks z fun k hk r => Q4G k r (h1 k hk).1 (h1 k hk).2]
  simp
theorem Q4V {n : Nb} (h : Q4L n) : (encN n).length = 128 := by
 cases n with
 | leaf l => exact Q4R _ _ _ (by rw [Q4N]; exact h.2)
 | branch ks => exact Q4R _ _ _ (by rw [Q4O _ fun k hk => (h.1 k hk).1]; exact h.2)
theorem Q4W {w : World} {base e size n : Nat} {v : Value} {xs : List Value} (h : w.ownsRow base e size v n xs) : ∀ y ∈ v.ownBlock.toList, base <= y := by
 intro y hy
 simp at hy
 exact (h.lt y hy).1
theorem Q4X {w : World} {base e size n : Nat} {v : Value} {xs : List Value} (h : w.ownsRow base e size v n xs) : ∀ y ∈ v.ownBlock.toList, y < w.heap.size := by
 intro y hy
 simp at hy
 exact (h.lt y hy).2
theorem Q4Y (k v : ByteArray) (b : Bool) : Q4m k v b [] = if b then [] else [(k, v)] := rfl
theorem Q4Z (k v : ByteArray) (b : Bool) (p : Pr) (r : List Pr) : Q4m k v b (p :: r) = (if !b && !bl p.1 k then [(k, v)] else []) ++ (if be p.1 k then [] else [p]) ++ Q4m k v (b || !bl p.1 k) r := rfl
def mst (m : Int) : Nat := m.toNat
theorem Kept.drewN {S : List Nat} {a b : World} (h : Kept S a b) (n : Nat) : Kept S a (b.drewN n) := ⟨h.os, h.tape, h.output, h.size, h.block⟩
theorem w64 (n : Int) (h : -9223372036854775808 <= n /\ n <= 9223372036854775807) : wrap64 n = n := by unfold wrap64; omega
theorem Q50 {P : Program} {w : World} (t : TypeId) (g off n cap i k : Nat) (e : TypeId) (hu : P.underlying t = some (.slice e)) (hs : (P.info? e).map (·.size) = some k) (hi : i < n) (p : Nat) (hp : p = off + i * k) :
  (Instr.indexAt t (.slice (some ⟨g, off, none⟩) n cap) (.int .i64 i)).run P w = .ok (.pointer (some ⟨g, p, none⟩)) w := by
 cases hq : P.info? e with
 | none => simp [hq] at hs
 | some ie =>
  have hsz : ie.size = k := by simpa [hq] using hs
  subst hp
  rw [<- add_lit]
  simp [Instr.indexAt, asIntOf, run_underlying hu, sizeOf, typeInfo, hq, hsz, Result.andThen, hi]
structure HLd where
 v : Value
 u : Value
 l : List Pr
structure HL (w : World) (lv wv : Value) (xs : List HLd) : Prop where
 lists : w.ownsRow 0 25 1 lv xs.length (xs.map HLd.v)
 want : w.ownsRow 0 25 1 wv xs.length (xs.map HLd.u)
 apart : ∀ g, lv.ownBlock = some g -> wv.ownBlock ≠ some g
 all : ∀ x ∈ xs, PL w 52 x.v x.l /\ PL w 52 x.u x.l /\ x.l.length <= 50000
theorem Q51 {P : Program} (w : World) (dT sT ty elem : TypeId) (g o dLen dCap k : Nat) (a : Addr) (sLen sCap : Nat) (cur : Array Value) (t : TypeId) (cs : List Value)
  (hu : P.underlying dT = some (.slice elem)) (hs : (P.info? elem).map (·.size) = some k)
  (hg : w.heap[g]? = some (.cells cur t (0, 0))) (hn : cs.length = Nat.min sLen dLen * k)
  (hsrc : ∀ j v, cs[j]? = some v -> w.cell? (a.add j) = some v) (hfit : o + cs.length <= cur.size) (h1 : ∀ v ∈ cs, v.oneCell' = true) :
  (Builtin.copy_ #[dT, sT] ty #[.slice (some ⟨g, o, none⟩) dLen dCap, .slice (some a) sLen sCap]).run P w =
   .ok (goInt (Nat.min sLen dLen)) (w.setRow g (cur.toList.take o ++ cs ++ cur.toList.drop (o + cs.length)).toArray) := by
 have hl := run_loadCells_list (P := P) w a cs hsrc
 have hst := run_storeCells_at P g o t cs 0 cur w hg (by simpa using hfit) h1
 cases hq : P.info? elem with
 | none => simp [hq] at hs
 | some i =>
  have hi : i.size = k := by simpa [hq] using hs
  rw [hn] at hl
  simp [Builtin.copy_, run_underlying hu, Builtin.lenOf, Builtin.firstCells, sizeOf, typeInfo, hq, hi, hl, hst]
theorem PL.tag {w : World} {t : TypeId} {v : Value} {l : List Pr} (h : PL w t v l) {g : Nat} (hg : v.ownBlock = some g) : ∃ cs fr, w.heap[g]? = some (.cells cs t fr) := by
 obtain ⟨_, ⟨rfl, _⟩ | ⟨g', cap, cur, rfl, _, hh, _⟩⟩ := h
 ·cases hg
 ·cases hg; exact ⟨_, _, hh⟩
def Q52 (k : ByteArray) : Prop := 1 <= k.size /\ k.size <= 8
instance (k : ByteArray) : Decidable (Q52 k) := by unfold Q52; infer_instance
end Go.Proofs.YtcklgafpgdhnaabGreatDoor
namespace Go.Proofs.YtcklgafpgdhnaabGreatDoor
def ge (a b : ByteArray) : Prop := bl a b = false
theorem Q53 (a : ByteArray) : ge a a := Q4j a
theorem Q54 {a b : ByteArray} (h : bl a b = true) : ge b a := by
 unfold ge
 cases hb : bl b a with
 | false => rfl
 | true => have := Q4k h hb; rw [Q4j] at this; cases this
theorem Q55 {a b c : ByteArray} (h : bl a b = true) (hc : ge c b) : bl a c = true := by
 rcases Q4l b c with h' | rfl | h'
 ·exact Q4k h h'
 ·exact h
 ·unfold ge at hc; rw [hc] at h'; cases h'
theorem Q56 {a b c : ByteArray} (h : ge b a) (hc : bl b c = true) : bl a c = true := by
 rcases Q4l a b with h' | rfl | h'
 ·exact Q4k h' hc
 ·exact hc
 ·unfold ge at h; rw [h] at h'; cases h'
theorem Q57 {a b c : ByteArray} (h1 : ge a b) (h2 : ge b c) : ge a c := by
 unfold ge
 cases h : bl a c with
 | false => rfl
 | true => have := Q55 h h2; unfold ge at h1; rw [h1] at this; cases this
theorem Q58 {a b : ByteArray} (h : bl a b = true) : be a b = false := by
 rw [Q4h]; rintro rfl; rw [Q4j] at h; cases h
theorem Q59 (a b : ByteArray) : be a b = be b a := by
 cases h : be a b with
 | true => rw [(Q4g a b).1 h, Q4i]
 | false => symm; rw [Q4h]; rw [Q4h] at h; exact fun e => h e.symm
def Srt (l : List Pr) : Prop := l.Pairwise fun p q => bl p.1 q.1 = true
theorem Q5a (k v : ByteArray) (l : List Pr) : Q4m k v true l = Q4o k l := by
 induction l with
 | nil => rfl
 | cons p r ih =>
  rw [Q4Z]
  simp only [Bool.not_true, Bool.false_and, Bool.false_eq_true, if_false, List.nil_append, Bool.true_or, ih, Q4o, List.filter_cons]
  cases be p.1 k <;> simp
theorem Q5b (k : ByteArray) (l : List Pr) (h : ∀ p ∈ l, be p.1 k = false) : Q4o k l = l := by
 rw [Q4o, List.filter_eq_self]
 intro p hp; simp [h p hp]
theorem Q5c (k v : ByteArray) (A l : List Pr) (h : ∀ p ∈ A, bl p.1 k = true) : Q4n k v (A ++ l) = A ++ Q4n k v l := by
 induction A with
 | nil => rfl
 | cons p r ih =>
  have hp := h p (by simp)
  have := ih fun q hq => h q (by simp [hq])
  unfold Q4n at this ⊢
  rw [List.cons_append, Q4Z, hp, Q58 hp]
  simp [this]
theorem Q5d (k v : ByteArray) (b : Bool) (l B : List Pr) (h : ∀ p ∈ B, bl k p.1 = true) : Q4m k v b (l ++ B) = Q4m k v b l ++ B := by
 induction l generalizing b with
 | nil =>
  have hB : Q4o k B = B := Q5b k B fun p hp => by rw [Q59]; exact Q58 (h p hp)
  cases b with
  | true => rw [List.nil_append, Q5a, hB, Q4Y]; rfl
  | false =>
   cases B with
   | nil => simp
   | cons q r =>
    have hq := h q (by simp)
    have hr : Q4o k r = r := Q5b k r fun p hp => by rw [Q59]; exact Q58 (h p (by simp [hp]))
    have hlt : bl q.1 k = false := Q54 hq
    have hne : be q.1 k = false := by rw [Q59]; exact Q58 hq
    rw [List.nil_append, Q4Z, hlt, hne]
    simp [Q5a, hr, Q4Y]
 | cons p r ih =>
  rw [List.cons_append, Q4Z, Q4Z, ih]
  simp
theorem Q5e (k v : ByteArray) (l B : List Pr) (h : ∀ p ∈ B, bl k p.1 = true) : Q4n k v (l ++ B) = Q4n k v l ++ B := Q5d k v false l B h
theorem Q5f (k : ByteArray) (A B : List Pr) : Q4o k (A ++ B) = Q4o k A ++ Q4o k B := List.filter_append ..
theorem Q5g (k : ByteArray) (A : List Pr) (h : ∀ p ∈ A, bl p.1 k = true) : Q4o k A = A := Q5b k A fun p hp => Q58 (h p hp)
theorem Q5h (k : ByteArray) (A : List Pr) (h : ∀ p ∈ A, bl k p.1 = true) : Q4o k A = A := Q5b k A fun p hp => by rw [Q59]; exact Q58 (h p hp)
theorem Q5i {k v : ByteArray} {b : Bool} {l : List Pr} {p : Pr} (h : p ∈ Q4m k v b l) : p = (k, v) \/ p ∈ l := by
 induction l generalizing b with
 | nil => cases b <;> simp [Q4m] at h; exact Or.inl h
 | cons q r ih =>
  rw [Q4Z] at h
  simp only [List.mem_append] at h
  rcases h with (h | h) | h
  ·split at h
   ·simp at h; exact Or.inl h
   ·cases h
  ·split at h
   ·cases h
   ·simp at h; subst h; exact Or.inr (by simp)
  ·rcases ih h with h | h
   ·exact Or.inl h
   ·exact Or.inr (by simp [h])
theorem Q5j {k : ByteArray} {l : List Pr} {p : Pr} (h : p ∈ Q4o k l) : p ∈ l := (List.mem_filter.1 h).1
theorem Q5k {k : ByteArray} {l : List Pr} (h : Srt l) : Srt (Q4o k l) := List.Pairwise.filter _ h
theorem Q5l (k v : ByteArray) (l : List Pr) (h : Srt l) : Srt (Q4n k v l) := by
 induction l with
 | nil => simp [Q4n, Q4m, Srt]
 | cons p r ih =>
  have hr : Srt r := (List.pairwise_cons.1 h).2
  have hp := (List.pairwise_cons.1 h).1
  rcases Q4l p.1 k with hl | he | hl
  ·have e : Q4n k v (p :: r) = p :: Q4n k v r := Q5c k v [p] r (by simp [hl])
   rw [e]
   refine List.pairwise_cons.2 ⟨?_, ih hr⟩
   intro q hq
   rcases Q5i hq with rfl | hq
   ·exact hl
   ·exact hp q hq
  ·have e : Q4n k v (p :: r) = (k, v) :: r := by
    have hr' : Q4o k r = r := Q5h k r fun q hq => by rw [<- he]; exact hp q hq
    unfold Q4n
    rw [Q4Z, he, Q4j, Q4i]
    simp [Q5a, hr']
   rw [e]
   exact List.pairwise_cons.2 ⟨fun q hq => by rw [<- he]; exact hp q hq, hr⟩
  ·have hg : ∀ q ∈ p :: r, bl k q.1 = true := by
    intro q hq
    rcases List.mem_cons.1 hq with rfl | hq
    ·exact hl
    ·exact Q4k hl (hp q hq)
   have e : Q4n k v (p :: r) = (k, v) :: p :: r := by
    have := Q5e k v [] (p :: r) hg
    simpa [Q4n, Q4m] using this
   rw [e]
   exact List.pairwise_cons.2 ⟨hg, h⟩
structure Q5m (α : Type) where
 fr : ByteArray
 nd : α
 pl : Nat
def Nd : Nat -> Type
 | 0 => List Pr
 | h + 1 => List (Q5m (Nd h))
abbrev Kid (h : Nat) := Q5m (Nd h)
def Q5n : (h : Nat) -> Nd h -> List Pr
 | 0, l => l
 | h + 1, ks => List.flatMap (fun k : Kid h => Q5n h k.2) ks
def psz (p : Pr) : Nat := 2 + p.1.size + p.2.size
def Q5o : (h : Nat) -> Nd h -> Nat
 | 0, l => (List.map psz l).sum
 | h + 1, ks => 11 * List.length (α := Kid h) ks
def cntN : (h : Nat) -> Nd h -> Nat
 | 0, _ => 1
 | h + 1, ks => 1 + (List.map (fun k : Kid h => cntN h k.2) ks).sum
def Q5p (h : Nat) (ks : List (Kid h)) : List Pr := ks.flatMap fun k => Q5n h k.2
theorem Q5q (h : Nat) (ks : List (Kid h)) : Q5n (h + 1) ks = Q5p h ks := rfl
theorem Q5r (h : Nat) (A B : List (Kid h)) : Q5p h (A ++ B) = Q5p h A ++ Q5p h B := by simp [Q5p]
theorem Q5s (h : Nat) (a : Kid h) (B : List (Kid h)) : Q5p h (a :: B) = Q5n h a.2 ++ Q5p h B := by simp [Q5p]
theorem Q5t {h : Nat} {ks : List (Kid h)} {p : Pr} : p ∈ Q5p h ks ↔ ∃ a ∈ ks, p ∈ Q5n h a.2 := by simp [Q5p]
def okp (p : Pr) : Prop := 1 <= p.1.size /\ p.1.size <= 8 /\ p.2.size <= 12
theorem Q5u {p : Pr} (h : okp p) : psz p <= 22 := by unfold psz; obtain ⟨_, a, b⟩ := h; omega
theorem Q5v (p : Pr) : 0 < psz p := by unfold psz; omega
def Bef (h : Nat) (a b : Kid h) : Prop := bl a.1 b.1 = true /\ ∀ p ∈ Q5n h a.2, bl p.1 b.1 = true
def WFN : (h : Nat) -> ByteArray -> Nd h -> Prop
 | 0, f, l => Srt l /\ ∀ p : Pr, List.Mem p l -> ge p.1 f /\ okp p
 | h + 1, f, ks => (∃ (n : Nd h) (x : Nat) (r : List (Kid h)), ks = ⟨f, n, x⟩ :: r) /\ List.Pairwise (Bef h) ks /\ ∀ a : Kid h, List.Mem a ks -> WFN h a.1 a.2
structure KW (h : Nat) (ks : List (Kid h)) : Prop where
 ord : ks.Pairwise (Bef h)
 all : ∀ a ∈ ks, WFN h a.1 a.2
theorem Q5w (h : Nat) (f : ByteArray) (ks : List (Kid h)) : WFN (h + 1) f ks ↔ (∃ n x r, ks = ⟨f, n, x⟩ :: r) /\ KW h ks :=
 ⟨fun ⟨a, b, c⟩ => ⟨a, ⟨b, c⟩⟩, fun ⟨a, b⟩ => ⟨a, b.ord, b.all⟩⟩
def Rt (h : Nat) (n : Nd h) : Prop := 40 <= Q5o h n /\ Q5o h n <= 122
def Q5x : (h : Nat) -> Nd h -> Prop
 | 0, _ => True
 | h + 1, ks => ∀ a : Kid h, List.Mem a ks -> Rt h a.2 /\ Q5x h a.2
theorem Q5y (h : Nat) (ks : List (Kid h)) : Q5x (h + 1) ks ↔ ∀ a ∈ ks, Rt h a.2 /\ Q5x h a.2 := Iff.rfl
theorem WFN.keys : ∀ {h : Nat} {f : ByteArray} {n : Nd h}, WFN h f n -> ∀ p ∈ Q5n h n, ge p.1 f /\ okp p
 | 0, _, _, hw, p, hp => hw.2 p hp
 | h + 1, f, ks, hw, p, hp => by
  obtain ⟨⟨n, x, r, e⟩, hk⟩ := (Q5w h f ks).1 hw
  obtain ⟨a, ha, hp⟩ := Q5t.1 (show p ∈ Q5p h ks from hp)
  obtain ⟨h1, h2⟩ := WFN.keys (hk.all a ha) p hp
  refine ⟨?_, h2⟩
  subst e
  rcases List.mem_cons.1 ha with rfl | ha
  ·exact h1
  ·have := (List.pairwise_cons.1 hk.ord).1 a ha
   exact Q57 h1 (Q54 this.1)
theorem KW.froms {h : Nat} {a : Kid h} {ks : List (Kid h)} (hk : KW h (a :: ks)) : ∀ b ∈ a :: ks, ge b.1 a.1 := by
 intro b hb
 rcases List.mem_cons.1 hb with rfl | hb
 ·exact Q53 _
 ·exact Q54 ((List.pairwise_cons.1 hk.ord).1 b hb).1
theorem KW.srt {h : Nat} {ks : List (Kid h)} (hk : KW h ks) (hs : ∀ a ∈ ks, Srt (Q5n h a.2)) : Srt (Q5p h ks) := by
 induction ks with
 | nil => simp [Q5p, Srt]
 | cons a r ih =>
  rw [Q5s]
  have hr : KW h r := ⟨(List.pairwise_cons.1 hk.ord).2, fun b hb => hk.all b (by simp [hb])⟩
  refine List.pairwise_append.2 ⟨hs a (by simp), ih hr fun b hb => hs b (by simp [hb]), ?_⟩
  intro p hp q hq
  obtain ⟨b, hb, hq⟩ := Q5t.1 hq
  have h1 := ((List.pairwise_cons.1 hk.ord).1 b hb).2 p hp
  exact Q55 h1 (WFN.keys (hr.all b hb) q hq).1
theorem WFN.srt : ∀ {h : Nat} {f : ByteArray} {n : Nd h}, WFN h f n -> Srt (Q5n h n)
 | 0, _, _, hw => hw.1
 | h + 1, f, ks, hw => by
  obtain ⟨_, hk⟩ := (Q5w h f ks).1 hw
  exact hk.srt fun a ha => WFN.srt (hk.all a ha)
theorem Q5z : ∀ {h : Nat} {n : Nd h}, 0 < Q5o h n -> Q5x h n -> Q5n h n ≠ []
 | 0, l, hs, _, e => by
  have e' : l = [] := e
  subst e'; simp [Q5o] at hs
 | h + 1, ks, hs, hf, e => by
  cases hks : (ks : List (Kid h)) with
  | nil => rw [hks] at hs; simp [Q5o] at hs
  | cons a r =>
   rw [hks, Q5q, Q5s] at e
   have ha := (Q5y h ks).1 hf a (by rw [hks]; simp)
   exact Q5z (by have := ha.1.1; omega) ha.2 (List.append_eq_nil_iff.1 e).1
def cutI {α : Type} (sz : α -> Nat) (whole : Nat) : Nat -> List α -> Nat
 | _, [] => 0
 | part, x :: r => if 2 * part < whole then cutI sz whole (part + sz x) r + 1 else 0
theorem Q5A {α : Type} (sz : α -> Nat) (whole b : Nat) (l : List α) (hb : ∀ x ∈ l, sz x <= b) : ∀ part, 2 * part < whole + 2 * b -> part + (l.map sz).sum ≥ whole - whole / 2 ->
  whole <= 2 * (part + ((l.take (cutI sz whole part l)).map sz).sum) /\ 2 * (part + ((l.take (cutI sz whole part l)).map sz).sum) < whole + 2 * b \/ whole <= 2 * part := by
 induction l with
 | nil =>
  intro part h1 h2
  simp [cutI] at h2 ⊢
  omega
 | cons x r ih =>
  intro part h1 h2
  rw [cutI]
  split
  ·rename_i hlt
   have hx := hb x (by simp)
   have := ih (fun y hy => hb y (by simp [hy])) (part + sz x) (by omega) (by simp at h2; omega)
   rw [List.take_succ_cons, List.map_cons, List.sum_cons]
   rcases this with ⟨a, c⟩ | a
   ·left; omega
   ·have hz : cutI sz whole (part + sz x) r = 0 := by
     cases r with
     | nil => rfl
     | cons y t => rw [cutI, if_neg (by omega)]
    rw [hz]
    simp
    omega
  ·right; omega
def Q5B {α : Type} (sz : α -> Nat) (l : List α) : Nat := cutI sz (l.map sz).sum 0 l
theorem Q5C {α : Type} (sz : α -> Nat) (l : List α) (i : Nat) : ((l.take i).map sz).sum + ((l.drop i).map sz).sum = (l.map sz).sum := by
 rw [<- List.sum_append, <- List.map_append, List.take_append_drop]
theorem Q5D {α : Type} (sz : α -> Nat) (b : Nat) (l : List α) (hb : ∀ x ∈ l, sz x <= b) (h0 : 0 < (l.map sz).sum) (hbp : 0 < b) :
  (l.map sz).sum <= 2 * ((l.take (Q5B sz l)).map sz).sum /\ 2 * ((l.take (Q5B sz l)).map sz).sum < (l.map sz).sum + 2 * b := by
 have := Q5A sz (l.map sz).sum b l hb 0 (by omega) (by omega)
 simp only [Nat.zero_add] at this
 unfold Q5B
 rcases this with h | h
 ·exact h
 ·omega
end Go.Proofs.YtcklgafpgdhnaabGreatDoor
