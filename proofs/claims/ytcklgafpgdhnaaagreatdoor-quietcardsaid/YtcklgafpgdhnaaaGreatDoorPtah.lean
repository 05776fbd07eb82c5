import Derived.Test.YtcklgafpgdhnaaaGreatDoorPtae
import Derived.Test.YtcklgafpgdhnaaaGreatDoorPtag
import Derived.BigQuiet
import Derived.Deep.QuietTactic
import Derived.Maps.AppendAt
set_option maxRecDepth 100000
set_option maxHeartbeats 4000000
namespace Go.Proofs.YtcklgafpgdhnaaaGreatDoor
open Go.RowKit
def tx (s : ByteArray) : List UInt8 := UInt8.ofNat s.size :: s.data.toList
def pkP (p : Pr) : List UInt8 := tx p.1 ++ tx p.2
def pkK (k : ByteArray × Nat) : List UInt8 := tx k.1 ++ (List.replicate (8 - k.1.size) 0 ++ Q2h k.2 2)
def Q3L (B : List UInt8) : List UInt8 := B ++ Q2h (crc B) 4
def Q3M (k : Nat) (l : List UInt8) : List UInt8 := l ++ List.replicate (k - l.length) 0
def encI (kind : UInt8) (n : Nat) (items : List UInt8) : List UInt8 := Q3L (Q3M 124 (kind :: UInt8.ofNat n :: items))
def encL (l : List Pr) : List UInt8 := encI 76 l.length (l.flatMap pkP)
def encB (ks : List (ByteArray × Nat)) : List UInt8 := encI 66 ks.length (ks.flatMap pkK)
def Q3N (m : Nat) : List UInt8 -> Option (ByteArray × List UInt8)
 | [] => none
 | c :: r => if c.toNat <= m /\ c.toNat <= r.length then some (⟨(r.take c.toNat).toArray⟩, r.drop c.toNat) else none
def Q3O (r : List UInt8) : Option (Pr × List UInt8) := match Q3N 8 r with
 | none => none
 | some (k, r1) => match Q3N 12 r1 with
  | none => none
  | some (v, r2) => some ((k, v), r2)
def tKid (r : List UInt8) : Option ((ByteArray × Nat) × List UInt8) := match Q3N 8 r with
 | none => none
 | some (k, r1) => if 8 - k.size + 2 <= r1.length then some ((k, Q2a ((r1.drop (8 - k.size)).take 2)), r1.drop (8 - k.size + 2)) else none
def Q3P {α : Type} (t : List UInt8 -> Option (α × List UInt8)) : Nat -> List UInt8 -> Option (List α × List UInt8)
 | 0, r => some ([], r)
 | n + 1, r => match t r with
  | none => none
  | some (a, r1) => match Q3P t n r1 with
   | none => none
   | some (l, r2) => some (a :: l, r2)
theorem Q3Q (s : ByteArray) : s.data.toList.length = s.size := Array.length_toList
theorem Q3R (n : Nat) (h : n < 256) : (UInt8.ofNat n).toNat = n := by
 rw [UInt8.toNat_ofNat']
 exact Nat.mod_eq_of_lt h
theorem Q3S (s : ByteArray) : (tx s).length = 1 + s.size := by simp [tx]; omega
theorem Q3T (p : Pr) : (pkP p).length = 2 + p.1.size + p.2.size := by simp [pkP, Q3S]; omega
theorem Q3U (n k : Nat) : (Q2h n k).length = k := by simp [Q2h]
theorem Q3V (k : ByteArray × Nat) (h : k.1.size <= 8) : (pkK k).length = 11 := by simp [pkK, Q3S, Q3U]; omega
theorem Q3W (m : Nat) (s : ByteArray) (r : List UInt8) (h : s.size <= m) (hm : m < 256) : Q3N m (tx s ++ r) = some (s, r) := by
 have e : (UInt8.ofNat s.size).toNat = s.size := Q3R _ (by omega)
 simp only [tx, List.cons_append, Q3N, e]
 have h1 : s.size = s.data.toList.length := (Q3Q s).symm
 rw [if_pos ⟨h, by rw [List.length_append, Q3Q]; omega⟩]
 rw [h1, List.take_left' rfl, List.drop_left' rfl]
theorem Q3X {m : Nat} {r r' : List UInt8} {s : ByteArray} (h : Q3N m r = some (s, r')) : r = tx s ++ r' /\ s.size <= m := by
 cases r with
 | nil => simp [Q3N] at h
 | cons c r =>
  simp only [Q3N] at h
  split at h
  ·rename_i hc
   simp only [Option.some.injEq, Prod.mk.injEq] at h
   obtain ⟨rfl, rfl⟩ := h
   have hl : (r.take c.toNat).length = c.toNat := by rw [List.length_take]; omega
   have hs : (ByteArray.mk (r.take c.toNat).toArray).size = c.toNat := by rw [<- Q3Q]; simpa using hl
   refine ⟨?_, by rw [hs]; exact hc.1⟩
   rw [tx, hs]
   have : UInt8.ofNat c.toNat = c := by simp
   rw [this]
   simp
  ·cases h
theorem Q3Y (p : Pr) (r : List UInt8) (h1 : p.1.size <= 8) (h2 : p.2.size <= 12) : Q3O (pkP p ++ r) = some (p, r) := by
 simp only [Q3O, pkP, List.append_assoc, Q3W 8 p.1 _ h1 (by omega), Q3W 12 p.2 _ h2 (by omega)]
theorem Q3Z {r r' : List UInt8} {p : Pr} (h : Q3O r = some (p, r')) : r = pkP p ++ r' /\ p.1.size <= 8 /\ p.2.size <= 12 := by
 unfold Q3O at h
 split at h
 ·cases h
 ·rename_i k r1 e1
  split at h
  ·cases h
  ·rename_i v r2 e2
   simp only [Option.some.injEq, Prod.mk.injEq] at h
   obtain ⟨rfl, rfl⟩ := h
   obtain ⟨a1, a2⟩ := Q3X e1
   obtain ⟨b1, b2⟩ := Q3X e2
   exact ⟨by rw [a1, b1, pkP, List.append_assoc], a2, b2⟩
theorem Q40 (n : Nat) (h : n < 65536) : Q2a (Q2h n 2) = n := by
 rw [Q2i]
 exact Nat.mod_eq_of_lt h
theorem Q41 (k : ByteArray × Nat) (r : List UInt8) (h1 : k.1.size <= 8) (h2 : k.2 < 65536) : tKid (pkK k ++ r) = some (k, r) := by
 have hz : (List.replicate (8 - k.1.size) (0 : UInt8)).length = 8 - k.1.size := by simp
 simp only [tKid, pkK, List.append_assoc, Q3W 8 k.1 _ h1 (by omega)]
 rw [if_pos (by simp [Q3U])]
 have e1 : (List.replicate (8 - k.1.size) (0 : UInt8) ++ (Q2h k.2 2 ++ r)).drop (8 - k.1.size) = Q2h k.2 2 ++ r := List.drop_left' hz
 have e2 : (Q2h k.2 2 ++ r).take 2 = Q2h k.2 2 := List.take_left' (Q3U _ _)
 have e3 : (List.replicate (8 - k.1.size) (0 : UInt8) ++ (Q2h k.2 2 ++ r)).drop (8 - k.1.size + 2) = r := by
  rw [<- List.drop_drop, e1]
  exact List.drop_left' (Q3U _ _)
 rw [e1, e2, e3, Q40 _ h2]
theorem Q42 {r r' : List UInt8} {k : ByteArray × Nat} (h : tKid r = some (k, r')) : k.1.size <= 8 /\ k.2 < 65536 /\ r.length = 11 + r'.length := by
 unfold tKid at h
 split at h
 ·cases h
 ·rename_i f r1 e1
  split at h
  ·rename_i hl
   simp only [Option.some.injEq, Prod.mk.injEq] at h
   obtain ⟨rfl, rfl⟩ := h
   obtain ⟨a1, a2⟩ := Q3X e1
   refine ⟨a2, ?_, ?_⟩
   ·have := Q2c ((r1.drop (8 - f.size)).take 2)
    have hl2 : ((r1.drop (8 - f.size)).take 2).length = 2 := by rw [List.length_take, List.length_drop]; omega
    rw [hl2] at this
    exact this
   ·rw [a1, List.length_append, Q3S, List.length_drop]
    omega
  ·cases h
theorem Q43 {α : Type} (t : List UInt8 -> Option (α × List UInt8)) (pk : α -> List UInt8) (l : List α) (r : List UInt8) (h : ∀ a ∈ l, ∀ r, t (pk a ++ r) = some (a, r)) : Q3P t l.length (l.flatMap pk ++ r) = some (l, r) := by
 induction l with
 | nil => rfl
 | cons a l ih =>
  simp only [List.length_cons, Q3P, List.flatMap_cons, List.append_assoc, h a (by simp)]
  rw [ih fun b hb => h b (by simp [hb])]
theorem Q44 {α : Type} {t : List UInt8 -> Option (α × List UInt8)} {n : Nat} {r r' : List UInt8} {l : List α} (h : Q3P t n r = some (l, r')) : l.length = n := by
 induction n generalizing r l with
 | zero => simp only [Q3P, Option.some.injEq, Prod.mk.injEq] at h; rw [<- h.1]; rfl
 | succ n ih =>
  simp only [Q3P] at h
  split at h
  ·cases h
  ·rename_i a r1 e1
   split at h
   ·cases h
   ·rename_i l2 r2 e2
    simp only [Option.some.injEq, Prod.mk.injEq] at h
    obtain ⟨rfl, rfl⟩ := h
    simp [ih e2]
theorem Q45 {α : Type} {t : List UInt8 -> Option (α × List UInt8)} {G : α -> Prop} {sz : α -> Nat} (ht : ∀ r a r', t r = some (a, r') -> G a /\ r.length = sz a + r'.length) {n : Nat} {r r' : List UInt8} {l : List α} (h : Q3P t n r = some (l, r')) :
  (∀ a ∈ l, G a) /\ r.length = (l.map sz).sum + r'.length := by
 induction n generalizing r l with
 | zero =>
  simp only [Q3P, Option.some.injEq, Prod.mk.injEq] at h
  obtain ⟨rfl, rfl⟩ := h
  simp
 | succ n ih =>
  simp only [Q3P] at h
  split at h
  ·cases h
  ·rename_i a r1 e1
   split at h
   ·cases h
   ·rename_i l2 r2 e2
    simp only [Option.some.injEq, Prod.mk.injEq] at h
    obtain ⟨rfl, rfl⟩ := h
    obtain ⟨g1, g2⟩ := ht _ _ _ e1
    obtain ⟨i1, i2⟩ := ih e2
    refine ⟨?_, ?_⟩
    ·intro b hb
     rcases List.mem_cons.1 hb with rfl | hb
     ·exact g1
     ·exact i1 b hb
    ·rw [g2, i2]; simp; omega
inductive Nb where
 | leaf (l : List Pr)
 | branch (ks : List (ByteArray × Nat))
def encN : Nb -> List UInt8
 | .leaf l => encL l
 | .branch ks => encB ks
def decN (b : List UInt8) : Option Nb :=
 if b[0]? = some 76 then match Q3P Q3O ((b[1]?).getD 0).toNat ((b.drop 2).take 122) with
  | none => none
  | some (l, _) => if encL l = b then some (.leaf l) else none
 else if b[0]? = some 66 then match Q3P tKid ((b[1]?).getD 0).toNat ((b.drop 2).take 122) with
  | none => none
  | some (ks, _) => if encB ks = b then some (.branch ks) else none
 else none
def Q46 : Nb -> Prop
 | .leaf l => (∀ p ∈ l, p.1.size <= 8 /\ p.2.size <= 12) /\ (l.map fun p => 2 + p.1.size + p.2.size).sum <= 122
 | .branch ks => (∀ k ∈ ks, k.1.size <= 8 /\ k.2 < 65536) /\ 11 * ks.length <= 122
theorem Q47 {b : List UInt8} {n : Nb} (h : decN b = some n) : encN n = b /\ Q46 n := by
 have hl : ((b.drop 2).take 122).length <= 122 := by rw [List.length_take]; omega
 unfold decN at h
 split at h
 ·split at h
  ·cases h
  ·rename_i l r e
   split at h
   ·rename_i he
    simp only [Option.some.injEq] at h
    subst h
    obtain ⟨h1, h2⟩ := Q45 (G := fun p : Pr => p.1.size <= 8 /\ p.2.size <= 12) (sz := fun p : Pr => 2 + p.1.size + p.2.size) (fun r a r' h => by obtain ⟨a1, a2⟩ := Q3Z h; exact ⟨a2, by rw [a1, List.length_append, Q3T]⟩) e
    exact ⟨he, h1, by omega⟩
   ·cases h
 ·split at h
  ·split at h
   ·cases h
   ·rename_i l r e
    split at h
    ·rename_i he
     simp only [Option.some.injEq] at h
     subst h
     obtain ⟨h1, h2⟩ := Q45 (G := fun k : ByteArray × Nat => k.1.size <= 8 /\ k.2 < 65536) (sz := fun _ => 11) (fun r a r' h => by obtain ⟨a1, a2, a3⟩ := Q42 h; exact ⟨⟨a1, a2⟩, a3⟩) e
     have h3 : (l.map fun _ => 11).sum = 11 * l.length := by
      clear e h1 h2 he
      induction l with
      | nil => rfl
      | cons a l ih => simp [ih]; omega
     exact ⟨he, h1, by omega⟩
    ·cases h
  ·cases h
theorem Q48 (l : List Pr) : (l.flatMap pkP).length = (l.map fun p => 2 + p.1.size + p.2.size).sum := by
 induction l with
 | nil => rfl
 | cons p l ih => simp only [List.flatMap_cons, List.length_append, Q3T, ih, List.map_cons, List.sum_cons]
theorem Q49 (ks : List (ByteArray × Nat)) (h : ∀ k ∈ ks, k.1.size <= 8) : (ks.flatMap pkK).length = 11 * ks.length := by
 induction ks with
 | nil => rfl
 | cons p l ih =>
  rw [List.flatMap_cons, List.length_append, Q3V p (h p (by simp)), ih fun k hk => h k (by simp [hk]), List.length_cons]
  omega
theorem Q4a (k : Nat) (l : List UInt8) (h : l.length <= k) : (Q3M k l).length = k := by simp [Q3M]; omega
theorem Q4b (B : List UInt8) : (Q3L B).length = B.length + 4 := by simp [Q3L, Q3U]
theorem Q4c (c : UInt8) (n : Nat) (i : List UInt8) (h : i.length <= 122) : (encI c n i).length = 128 := by
 rw [encI, Q4b, Q4a _ _ (by simp; omega)]
theorem Q4d (c : UInt8) (n : Nat) (i : List UInt8) (h : i.length <= 122) : (encI c n i)[0]? = some c /\ (encI c n i)[1]? = some (UInt8.ofNat n) /\ ∃ z, ((encI c n i).drop 2).take 122 = i ++ z := by
 refine ⟨by simp [encI, Q3L, Q3M], by simp [encI, Q3L, Q3M], List.replicate (122 - i.length) 0, ?_⟩
 have e : encI c n i = c :: UInt8.ofNat n :: ((i ++ List.replicate (122 - i.length) 0) ++ Q2h (crc (Q3M 124 (c :: UInt8.ofNat n :: i))) 4) := by
  simp [encI, Q3L, Q3M]
 rw [e, List.drop_succ_cons, List.drop_succ_cons, List.drop_zero]
 exact List.take_left' (by simp; omega)
theorem Q4e (l : List Pr) : 2 * l.length <= (l.map fun p => 2 + p.1.size + p.2.size).sum := by
 induction l with
 | nil => simp
 | cons p l ih => simp only [List.length_cons, List.map_cons, List.sum_cons]; omega
theorem Q4f {n : Nb} (h : Q46 n) : decN (encN n) = some n := by
 cases n with
 | leaf l =>
  obtain ⟨h1, h2⟩ := h
  have hl := Q48 l
  obtain ⟨e0, e1, z, e2⟩ := Q4d 76 l.length (l.flatMap pkP) (by omega)
  have hc : (UInt8.ofNat l.length).toNat = l.length := Q3R _ (by have := Q4e l; omega)
  simp only [decN, encN, encL, e0, e1, e2, if_true, Option.getD_some, hc]
  rw [Q43 Q3O pkP l z fun p hp r => Q3Y p r (h1 p hp).1 (h1 p hp).2]
  simp
 | branch ks =>
  obtain ⟨h1, h2⟩ := h
  have hl := Q49 ks fun k hk => (h1 k hk).1
  obtain ⟨e0, e1, z, e2⟩ := Q4d 66 ks.length (ks.flatMap pkK) (by omega)
  have hc : (UInt8.ofNat ks.length).toNat = ks.length := Q3R _ (by omega)
  simp only [decN, encN, encB, e0, e1, e2, if_true, Option.getD_some, hc]
  rw [if_neg (by decide), Q43 tKid pkK ks z fun k hk r => Q41 k r (h1 k hk).1 (h1 k hk).2]
  simp
theorem Q4g {n : Nb} (h : Q46 n) : (encN n).length = 128 := by
 cases n with
 | leaf l => exact Q4c _ _ _ (by rw [Q48]; exact h.2)
 | branch ks => exact Q4c _ _ _ (by rw [Q49 _ fun k hk => (h.1 k hk).1]; exact h.2)
theorem Q4h {w : World} {base e size n : Nat} {v : Value} {xs : List Value} (h : w.ownsRow base e size v n xs) : ∀ y ∈ v.ownBlock.toList, base <= y := by
 intro y hy
 simp at hy
 exact (h.lt y hy).1
theorem Q4i {w : World} {base e size n : Nat} {v : Value} {xs : List Value} (h : w.ownsRow base e size v n xs) : ∀ y ∈ v.ownBlock.toList, y < w.heap.size := by
 intro y hy
 simp at hy
 exact (h.lt y hy).2
theorem Q4j (k v : ByteArray) (b : Bool) : Q3H k v b [] = if b then [] else [(k, v)] := rfl
theorem Q4k (k v : ByteArray) (b : Bool) (p : Pr) (r : List Pr) : Q3H k v b (p :: r) = (if !b && !bl p.1 k then [(k, v)] else []) ++ (if be p.1 k then [] else [p]) ++ Q3H k v (b || !bl p.1 k) r := rfl
def mst (m : Int) : Nat := m.toNat
theorem Kept.drewN {S : List Nat} {a b : World} (h : Kept S a b) (n : Nat) : Kept S a (b.drewN n) := ⟨h.os, h.tape, h.output, h.size, h.block⟩
theorem w64 (n : Int) (h : -9223372036854775808 <= n /\ n <= 9223372036854775807) : wrap64 n = n := by unfold wrap64; omega
theorem Q4l {P : Program} {w : World} (t : TypeId) (g off n cap i k : Nat) (e : TypeId) (hu : P.underlying t = some (.slice e)) (hs : (P.info? e).map (·.size) = some k) (hi : i < n) (p : Nat) (hp : p = off + i * k) :
  (Instr.indexAt t (.slice (some ⟨g, off, none⟩) n cap) (.int .i64 i)).run P w = .ok (.pointer (some ⟨g, p, none⟩)) w := by
 cases hq : P.info? e with
 | none => simp [hq] at hs
 | some ie =>
  have hsz : ie.size = k := by simpa [hq] using hs
  subst hp
  rw [<- add_lit]
  simp [Instr.indexAt, asIntOf, run_underlying hu, sizeOf, typeInfo, hq, hsz, Result.andThen, hi]
structure HLd where
 v : Value
 u : Value
 l : List Pr
structure HL (w : World) (lv wv : Value) (xs : List HLd) : Prop where
 lists : w.ownsRow 0 28 1 lv xs.length (xs.map HLd.v)
 want : w.ownsRow 0 28 1 wv xs.length (xs.map HLd.u)
 apart : ∀ g, lv.ownBlock = some g -> wv.ownBlock ≠ some g
 all : ∀ x ∈ xs, PL w 41 x.v x.l /\ PL w 41 x.u x.l /\ x.l.length <= 50000
theorem Q4m {P : Program} (w : World) (dT sT ty elem : TypeId) (g o dLen dCap k : Nat) (a : Addr) (sLen sCap : Nat) (cur : Array Value) (t : TypeId) (cs : List Value)
  (hu : P.underlying dT = some (.slice elem)) (hs : (P.info? elem).map (·.size) = some k)
  (hg : w.heap[g]? = some (.cells cur t (0, 0))) (hn : cs.length = Nat.min sLen dLen * k)
  (hsrc : ∀ j v, cs[j]? = some v -> w.cell? (a.add j) = some v) (hfit : o + cs.length <= cur.size) (h1 : ∀ v ∈ cs, v.oneCell' = true) :
  (Builtin.copy_ #[dT, sT] ty #[.slice (some ⟨g, o, none⟩) dLen dCap, .slice (some a) sLen sCap]).run P w =
   .ok (goInt (Nat.min sLen dLen)) (w.setRow g (cur.toList.take o ++ cs ++ cur.toList.drop (o + cs.length)).toArray) := by
 have hl := run_loadCells_list (P := P) w a cs hsrc
 have hst := run_storeCells_at P g o t cs 0 cur w hg (by simpa using hfit) h1
 cases hq : P.info? elem with
 | none => simp [hq] at hs
 | some i =>
  have hi : i.size = k := by simpa [hq] using hs
  rw [hn] at hl
  simp [Builtin.copy_, run_underlying hu, Builtin.lenOf, Builtin.firstCells, sizeOf, typeInfo, hq, hi, hl, hst]
theorem PL.tag {w : World} {t : TypeId} {v : Value} {l : List Pr} (h : PL w t v l) {g : Nat} (hg : v.ownBlock = some g) : ∃ cs fr, w.heap[g]? = some (.cells cs t fr) := by
 obtain ⟨_, ⟨rfl, _⟩ | ⟨g', cap, cur, rfl, _, hh, _⟩⟩ := h
 ·cases hg
 ·cases hg; exact ⟨_, _, hh⟩
def Q4n (k : ByteArray) : Prop := 1 <= k.size /\ k.size <= 8
instance (k : ByteArray) : Decidable (Q4n k) := by unfold Q4n; infer_instance
end Go.Proofs.YtcklgafpgdhnaaaGreatDoor
namespace Go.Proofs.YtcklgafpgdhnaaaGreatDoor
def ge (a b : ByteArray) : Prop := bl a b = false
theorem Q4o (a : ByteArray) : ge a a := Q3E a
theorem Q4p {a b : ByteArray} (h : bl a b = true) : ge b a := by
 unfold ge
 cases hb : bl b a with
 | false => rfl
 | true => have := Q3F h hb; rw [Q3E] at this; cases this
theorem Q4q {a b c : ByteArray} (h : bl a b = true) (hc : ge c b) : bl a c = true := by
 rcases Q3G b c with h' | rfl | h'
 ·exact Q3F h h'
 ·exact h
 ·unfold ge at hc; rw [hc] at h'; cases h'
theorem Q4r {a b c : ByteArray} (h : ge b a) (hc : bl b c = true) : bl a c = true := by
 rcases Q3G a b with h' | rfl | h'
 ·exact Q3F h' hc
 ·exact hc
 ·unfold ge at h; rw [h] at h'; cases h'
theorem Q4s {a b c : ByteArray} (h1 : ge a b) (h2 : ge b c) : ge a c := by
 unfold ge
 cases h : bl a c with
 | false => rfl
 | true => have := Q4q h h2; unfold ge at h1; rw [h1] at this; cases this
theorem Q4t {a b : ByteArray} (h : bl a b = true) : be a b = false := by
 rw [Q3C]; rintro rfl; rw [Q3E] at h; cases h
theorem Q4u (a b : ByteArray) : be a b = be b a := by
 cases h : be a b with
 | true => rw [(Q3B a b).1 h, Q3D]
 | false => symm; rw [Q3C]; rw [Q3C] at h; exact fun e => h e.symm
def Srt (l : List Pr) : Prop := l.Pairwise fun p q => bl p.1 q.1 = true
theorem Q4v (k v : ByteArray) (l : List Pr) : Q3H k v true l = Q3J k l := by
 induction l with
 | nil => rfl
 | cons p r ih =>
  rw [Q4k]
  simp only [Bool.not_true, Bool.false_and, Bool.false_eq_true, if_false, List.nil_append, Bool.true_or, ih, Q3J, List.filter_cons]
  cases be p.1 k <;> simp
theorem Q4w (k : ByteArray) (l : List Pr) (h : ∀ p ∈ l, be p.1 k = false) : Q3J k l = l := by
 rw [Q3J, List.filter_eq_self]
 intro p hp; simp [h p hp]
theorem Q4x (k v : ByteArray) (A l : List Pr) (h : ∀ p ∈ A, bl p.1 k = true) : Q3I k v (A ++ l) = A ++ Q3I k v l := by
 induction A with
 | nil => rfl
 | cons p r ih =>
  have hp := h p (by simp)
  have := ih fun q hq => h q (by simp [hq])
  unfold Q3I at this ⊢
  rw [List.cons_append, Q4k, hp, Q4t hp]
  simp [this]
theorem Q4y (k v : ByteArray) (b : Bool) (l B : List Pr) (h : ∀ p ∈ B, bl k p.1 = true) : Q3H k v b (l ++ B) = Q3H k v b l ++ B := by
 induction l generalizing b with
 | nil =>
  have hB : Q3J k B = B := Q4w k B fun p hp => by rw [Q4u]; exact Q4t (h p hp)
  cases b with
  | true => rw [List.nil_append, Q4v, hB, Q4j]; rfl
  | false =>
   cases B with
   | nil => simp
   | cons q r =>
    have hq := h q (by simp)
    have hr : Q3J k r = r := Q4w k r fun p hp => by rw [Q4u]; exact Q4t (h p (by simp [hp]))
    have hlt : bl q.1 k = false := Q4p hq
    have hne : be q.1 k = false := by rw [Q4u]; exact Q4t hq
    rw [List.nil_append, Q4k, hlt, hne]
    simp [Q4v, hr, Q4j]
 | cons p r ih =>
  rw [List.cons_append, Q4k, Q4k, ih]
  simp
theorem Q4z (k v : ByteArray) (l B : List Pr) (h : ∀ p ∈ B, bl k p.1 = true) : Q3I k v (l ++ B) = Q3I k v l ++ B := Q4y k v false l B h
theorem Q4A (k : ByteArray) (A B : List Pr) : Q3J k (A ++ B) = Q3J k A ++ Q3J k B := List.filter_append ..
theorem Q4B (k : ByteArray) (A : List Pr) (h : ∀ p ∈ A, bl p.1 k = true) : Q3J k A = A := Q4w k A fun p hp => Q4t (h p hp)
theorem Q4C (k : ByteArray) (A : List Pr) (h : ∀ p ∈ A, bl k p.1 = true) : Q3J k A = A := Q4w k A fun p hp => by rw [Q4u]; exact Q4t (h p hp)
theorem Q4D {k v : ByteArray} {b : Bool} {l : List Pr} {p : Pr} (h : p ∈ Q3H k v b l) : p = (k, v) \/ p ∈ l := by
 induction l generalizing b with
 | nil => cases b <;> simp [Q3H] at h; exact Or.inl h
 | cons q r ih =>
  rw [Q4k] at h
  simp only [List.mem_append] at h
  rcases h with (h | h) | h
  ·split at h
   ·simp at h; exact Or.inl h
   ·cases h
  ·split at h
   ·cases h
   ·simp at h; subst h; exact Or.inr (by simp)
  ·rcases ih h with h | h
   ·exact Or.inl h
   ·exact Or.inr (by simp [h])
theorem Q4E {k : ByteArray} {l : List Pr} {p : Pr} (h : p ∈ Q3J k l) : p ∈ l := (List.mem_filter.1 h).1
theorem Q4F {k : ByteArray} {l : List Pr} (h : Srt l) : Srt (Q3J k l) := List.Pairwise.filter _ h
theorem Q4G (k v : ByteArray) (l : List Pr) (h : Srt l) : Srt (Q3I k v l) := by
 induction l with
 | nil => simp [Q3I, Q3H, Srt]
 | cons p r ih =>
  have hr : Srt r := (List.pairwise_cons.1 h).2
  have hp := (List.pairwise_cons.1 h).1
  rcases Q3G p.1 k with hl | he | hl
  ·have e : Q3I k v (p :: r) = p :: Q3I k v r := Q4x k v [p] r (by simp [hl])
   rw [e]
   refine List.pairwise_cons.2 ⟨?_, ih hr⟩
   intro q hq
   rcases Q4D hq with rfl | hq
   ·exact hl
   ·exact hp q hq
  ·have e : Q3I k v (p :: r) = (k, v) :: r := by
    have hr' : Q3J k r = r := Q4C k r fun q hq => by rw [<- he]; exact hp q hq
    unfold Q3I
    rw [Q4k, he, Q3E, Q3D]
    simp [Q4v, hr']
   rw [e]
   exact List.pairwise_cons.2 ⟨fun q hq => by rw [<- he]; exact hp q hq, hr⟩
  ·have hg : ∀ q ∈ p :: r, bl k q.1 = true := by
    intro q hq
    rcases List.mem_cons.1 hq with rfl | hq
    ·exact hl
    ·exact Q3F hl (hp q hq)
   have e : Q3I k v (p :: r) = (k, v) :: p :: r := by
    have := Q4z k v [] (p :: r) hg
    simpa [Q3I, Q3H] using this
   rw [e]
   exact List.pairwise_cons.2 ⟨hg, h⟩
structure Q4H (α : Type) where
 fr : ByteArray
 nd : α
 pl : Nat
def Nd : Nat -> Type
 | 0 => List Pr
 | h + 1 => List (Q4H (Nd h))
abbrev Kid (h : Nat) := Q4H (Nd h)
def Q4I : (h : Nat) -> Nd h -> List Pr
 | 0, l => l
 | h + 1, ks => List.flatMap (fun k : Kid h => Q4I h k.2) ks
def psz (p : Pr) : Nat := 2 + p.1.size + p.2.size
def Q4J : (h : Nat) -> Nd h -> Nat
 | 0, l => (List.map psz l).sum
 | h + 1, ks => 11 * List.length (α := Kid h) ks
def cntN : (h : Nat) -> Nd h -> Nat
 | 0, _ => 1
 | h + 1, ks => 1 + (List.map (fun k : Kid h => cntN h k.2) ks).sum
def Q4K (h : Nat) (ks : List (Kid h)) : List Pr := ks.flatMap fun k => Q4I h k.2
theorem Q4L (h : Nat) (ks : List (Kid h)) : Q4I (h + 1) ks = Q4K h ks := rfl
theorem Q4M (h : Nat) (A B : List (Kid h)) : Q4K h (A ++ B) = Q4K h A ++ Q4K h B := by simp [Q4K]
theorem Q4N (h : Nat) (a : Kid h) (B : List (Kid h)) : Q4K h (a :: B) = Q4I h a.2 ++ Q4K h B := by simp [Q4K]
theorem Q4O {h : Nat} {ks : List (Kid h)} {p : Pr} : p ∈ Q4K h ks ↔ ∃ a ∈ ks, p ∈ Q4I h a.2 := by simp [Q4K]
def okp (p : Pr) : Prop := 1 <= p.1.size /\ p.1.size <= 8 /\ p.2.size <= 12
theorem Q4P {p : Pr} (h : okp p) : psz p <= 22 := by unfold psz; obtain ⟨_, a, b⟩ := h; omega
theorem Q4Q (p : Pr) : 0 < psz p := by unfold psz; omega
def Bef (h : Nat) (a b : Kid h) : Prop := bl a.1 b.1 = true /\ ∀ p ∈ Q4I h a.2, bl p.1 b.1 = true
def WFN : (h : Nat) -> ByteArray -> Nd h -> Prop
 | 0, f, l => Srt l /\ ∀ p : Pr, List.Mem p l -> ge p.1 f /\ okp p
 | h + 1, f, ks => (∃ (n : Nd h) (x : Nat) (r : List (Kid h)), ks = ⟨f, n, x⟩ :: r) /\ List.Pairwise (Bef h) ks /\ ∀ a : Kid h, List.Mem a ks -> WFN h a.1 a.2
structure KW (h : Nat) (ks : List (Kid h)) : Prop where
 ord : ks.Pairwise (Bef h)
 all : ∀ a ∈ ks, WFN h a.1 a.2
theorem Q4R (h : Nat) (f : ByteArray) (ks : List (Kid h)) : WFN (h + 1) f ks ↔ (∃ n x r, ks = ⟨f, n, x⟩ :: r) /\ KW h ks :=
 ⟨fun ⟨a, b, c⟩ => ⟨a, ⟨b, c⟩⟩, fun ⟨a, b⟩ => ⟨a, b.ord, b.all⟩⟩
def Rt (h : Nat) (n : Nd h) : Prop := 40 <= Q4J h n /\ Q4J h n <= 122
def Q4S : (h : Nat) -> Nd h -> Prop
 | 0, _ => True
 | h + 1, ks => ∀ a : Kid h, List.Mem a ks -> Rt h a.2 /\ Q4S h a.2
theorem Q4T (h : Nat) (ks : List (Kid h)) : Q4S (h + 1) ks ↔ ∀ a ∈ ks, Rt h a.2 /\ Q4S h a.2 := Iff.rfl
theorem WFN.keys : ∀ {h : Nat} {f : ByteArray} {n : Nd h}, WFN h f n -> ∀ p ∈ Q4I h n, ge p.1 f /\ okp p
 | 0, _, _, hw, p, hp => hw.2 p hp
 | h + 1, f, ks, hw, p, hp => by
  obtain ⟨⟨n, x, r, e⟩, hk⟩ := (Q4R h f ks).1 hw
  obtain ⟨a, ha, hp⟩ := Q4O.1 (show p ∈ Q4K h ks from hp)
  obtain ⟨h1, h2⟩ := WFN.keys (hk.all a ha) p hp
  refine ⟨?_, h2⟩
  subst e
  rcases List.mem_cons.1 ha with rfl | ha
  ·exact h1
  ·have := (List.pairwise_cons.1 hk.ord).1 a ha
   exact Q4s h1 (Q4p this.1)
theorem KW.froms {h : Nat} {a : Kid h} {ks : List (Kid h)} (hk : KW h (a :: ks)) : ∀ b ∈ a :: ks, ge b.1 a.1 := by
 intro b hb
 rcases List.mem_cons.1 hb with rfl | hb
 ·exact Q4o _
 ·exact Q4p ((List.pairwise_cons.1 hk.ord).1 b hb).1
theorem KW.srt {h : Nat} {ks : List (Kid h)} (hk : KW h ks) (hs : ∀ a ∈ ks, Srt (Q4I h a.2)) : Srt (Q4K h ks) := by
 induction ks with
 | nil => simp [Q4K, Srt]
 | cons a r ih =>
  rw [Q4N]
  have hr : KW h r := ⟨(List.pairwise_cons.1 hk.ord).2, fun b hb => hk.all b (by simp [hb])⟩
  refine List.pairwise_append.2 ⟨hs a (by simp), ih hr fun b hb => hs b (by simp [hb]), ?_⟩
  intro p hp q hq
  obtain ⟨b, hb, hq⟩ := Q4O.1 hq
  have h1 := ((List.pairwise_cons.1 hk.ord).1 b hb).2 p hp
  exact Q4q h1 (WFN.keys (hr.all b hb) q hq).1
theorem WFN.srt : ∀ {h : Nat} {f : ByteArray} {n : Nd h}, WFN h f n -> Srt (Q4I h n)
 | 0, _, _, hw => hw.1
 | h + 1, f, ks, hw => by
  obtain ⟨_, hk⟩ := (Q4R h f ks).1 hw
  exact hk.srt fun a ha => WFN.srt (hk.all a ha)
theorem Q4U : ∀ {h : Nat} {n : Nd h}, 0 < Q4J h n -> Q4S h n -> Q4I h n ≠ []
 | 0, l, hs, _, e => by
  have e' : l = [] := e
  subst e'; simp [Q4J] at hs
 | h + 1, ks, hs, hf, e => by
  cases hks : (ks : List (Kid h)) with
  | nil => rw [hks] at hs; simp [Q4J] at hs
  | cons a r =>
   rw [hks, Q4L, Q4N] at e
   have ha := (Q4T h ks).1 hf a (by rw [hks]; simp)
   exact Q4U (by have := ha.1.1; omega) ha.2 (List.append_eq_nil_iff.1 e).1
def cutI {α : Type} (sz : α -> Nat) (whole : Nat) : Nat -> List α -> Nat
 | _, [] => 0
 | part, x :: r => if 2 * part < whole then cutI sz whole (part + sz x) r + 1 else 0
theorem Q4V {α : Type} (sz : α -> Nat) (whole b : Nat) (l : List α) (hb : ∀ x ∈ l, sz x <= b) : ∀ part, 2 * part < whole + 2 * b -> part + (l.map sz).sum ≥ whole - whole / 2 ->
  whole <= 2 * (part + ((l.take (cutI sz whole part l)).map sz).sum) /\ 2 * (part + ((l.take (cutI sz whole part l)).map sz).sum) < whole + 2 * b \/ whole <= 2 * part := by
 induction l with
 | nil =>
  intro part h1 h2
  simp [cutI] at h2 ⊢
  omega
 | cons x r ih =>
  intro part h1 h2
  rw [cutI]
  split
  ·rename_i hlt
   have hx := hb x (by simp)
   have := ih (fun y hy => hb y (by simp [hy])) (part + sz x) (by omega) (by simp at h2; omega)
   rw [List.take_succ_cons, List.map_cons, List.sum_cons]
   rcases this with ⟨a, c⟩ | a
   ·left; omega
   ·have hz : cutI sz whole (part + sz x) r = 0 := by
     cases r with
     | nil => rfl
     | cons y t => rw [cutI, if_neg (by omega)]
    rw [hz]
    simp
    omega
  ·right; omega
def Q4W {α : Type} (sz : α -> Nat) (l : List α) : Nat := cutI sz (l.map sz).sum 0 l
theorem Q4X {α : Type} (sz : α -> Nat) (l : List α) (i : Nat) : ((l.take i).map sz).sum + ((l.drop i).map sz).sum = (l.map sz).sum := by
 rw [<- List.sum_append, <- List.map_append, List.take_append_drop]
theorem Q4Y {α : Type} (sz : α -> Nat) (b : Nat) (l : List α) (hb : ∀ x ∈ l, sz x <= b) (h0 : 0 < (l.map sz).sum) (hbp : 0 < b) :
  (l.map sz).sum <= 2 * ((l.take (Q4W sz l)).map sz).sum /\ 2 * ((l.take (Q4W sz l)).map sz).sum < (l.map sz).sum + 2 * b := by
 have := Q4V sz (l.map sz).sum b l hb 0 (by omega) (by omega)
 simp only [Nat.zero_add] at this
 unfold Q4W
 rcases this with h | h
 ·exact h
 ·omega
end Go.Proofs.YtcklgafpgdhnaaaGreatDoor
