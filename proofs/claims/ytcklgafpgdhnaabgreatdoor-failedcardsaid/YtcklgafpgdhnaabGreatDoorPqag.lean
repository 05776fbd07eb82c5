import Derived.Test.YtcklgafpgdhnaabGreatDoorPqaf
import Derived.Test.YtcklgafpgdhnaabGreatDoorPqac
import Derived.BigRegion
import Derived.Laws.AppendOwnNone
import Derived.Laws.ResultCell
import Derived.Lib.Bytealg
import Derived.Test.YtcklgafpgdhnaabGreatDoorPqad
import Derived.BigQuiet
import Derived.Deep.QuietTactic
import Derived.Maps.AppendAt
set_option maxRecDepth 100000
set_option maxHeartbeats 4000000
open Go.Proofs.Tryz
namespace Go.Proofs.YtcklgafpgdhnaabGreatDoor
open Go.RowKit
theorem Q2d (n b : Nat) (us : List Nat) (i : Nat) (w : World) (h : SpM w b us) (hi : i < 70000) (hl : us.length < 70000) (h1 : i < n) (h2 : i ∉ us) :
  Calls prog 60 #[.agg #[.int .i64 n, .map (some b)], .int .i64 i] w fun e w' => e = .returned (.tuple #[]) /\ SpM w' b (i :: us) /\ y5 [b] w w' := by
 have k1 := (y5.refl [] w).alloc (.cells #[.int .i64 n, .map (some b)] 108)
 have n1 := heap_alloc_new w (.cells #[.int .i64 n, .map (some b)] 108)
 have hs1 := h.kept k1 (by simp)
 have g0 : ¬ (i : Int) < 0 := by omega
 have g1 : ¬ (n : Int) <= i := by omega
 have HI : Hid (Calls _ _ _ _ _) := Q2c n b us i _ hs1 hi
 have hd : decide (i ∈ us) = false := by simpa using h2
 rw [hd] at HI
 go_enter func60, ntmps60
 go_wp2_with (go_at_call 92; refine HI.out.mono ?_; rintro e w2 ⟨rfl, hk2⟩; obtain ⟨w3, hput, hs3, hk3⟩ := (hs1.kept hk2 (by simp)).put i hi hl; have c2 : w2.cell? ⟨w.heap.size, 1, none⟩ = some (.map (some b)) := y6 (hk2.get n1 (by simp)) rfl)
 go_end0
 exact ⟨rfl, hs3, ((k1.trans hk2).mono (by simp)).trans hk3⟩
theorem Q2e (n b : Nat) (us : List Nat) (i : Nat) (w : World) (h : SpM w b us) (hi : i < 70000) (h1 : ¬ (i < n /\ i ∉ us)) (hT : Tab w) :
  Calls prog 60 #[.agg #[.int .i64 n, .map (some b)], .int .i64 i] w fun e w' => Thr 7 e w' /\ y5 [] w w' := by
 have k1 := (y5.refl [] w).alloc (.cells #[.int .i64 n, .map (some b)] 108)
 have n1 := heap_alloc_new w (.cells #[.int .i64 n, .map (some b)] 108)
 have hs1 := h.kept k1 (by simp)
 have g0 : ¬ (i : Int) < 0 := by omega
 have HI : Hid (Calls _ _ _ _ _) := Q2c n b us i _ hs1 hi
 have hT1 := hT.k k1
 by_cases hn : i < n
 ·have g1 : ¬ (n : Int) <= i := by omega
  have hd : decide (i ∈ us) = true := by
   by_cases hm : i ∈ us
   ·simpa using hm
   ·exact absurd ⟨hn, hm⟩ h1
  rw [hd] at HI
  go_enter func60, ntmps60
  go_wp2_with (first
   | (go_at_call 92; refine HI.out.mono ?_; rintro e w2 ⟨rfl, hk2⟩; have hT2 := hT1.k hk2)
   | (go_at_call 93; refine (Q1j hT2 i hi).mono ?_; rintro e w3 ⟨s3, rfl, hs3, hk3⟩; have hs3' : ¬ 9223372036854775807 < 13 + s3.size := (by omega))
   | (go_at_call 46; refine (QD _ _ _).mono ?_; rintro e w4 ⟨ht, hk4⟩; obtain ⟨f, o, rfl, hf⟩ := ht.ex))
  exact ⟨rfl, ht, ((k1.trans hk2).trans hk3).trans hk4⟩
 ·have g1 : (n : Int) <= i := by omega
  go_enter func60, ntmps60
  go_wp2_with (first
   | (go_at_call 93; refine (Q1j hT1 i hi).mono ?_; rintro e w3 ⟨s3, rfl, hs3, hk3⟩; have hs3' : ¬ 9223372036854775807 < 13 + s3.size := (by omega))
   | (go_at_call 46; refine (QD _ _ _).mono ?_; rintro e w4 ⟨ht, hk4⟩; obtain ⟨f, o, rfl, hf⟩ := ht.ex))
  exact ⟨rfl, ht, (k1.trans hk3).trans hk4⟩
def OfR (n : Nat) (w : World) (e : Ending) (w' : World) : Prop := ∃ b, e = .returned (.agg #[.int .i64 n, .map (some b)]) /\ SpM w' b [1, 0] /\ w.heap.size <= b /\ y5 [] w w'
theorem Q2f (w : World) : (Instr.makeMap 106 none).run prog w = .ok (.map (some w.heap.size)) (w.alloc (.map #[] 0)) := by kernel_rfl
theorem Q2g (n : Nat) (w : World) (hn : 8 <= n) : Calls prog 57 #[.int .i64 n, .int .i64 2] w (OfR n w) := by
 have hmk := Q2f
 have k1 := (y5.refl [] w).alloc (.cells #[.int .i64 0, .map none] 108)
 have n1 := heap_alloc_new w (.cells #[.int .i64 0, .map none] 108)
 have k2 := (y5.refl [] (w.alloc (.cells #[.int .i64 0, .map none] 108))).alloc (.map #[] 0)
 have s2 := SpM.made (w.alloc (.cells #[.int .i64 0, .map none] 108))
 have hz1 : (w.alloc (.cells #[.int .i64 0, .map none] 108)).heap.size = w.heap.size + 1 := World.size_alloc _ _
 rw [hz1] at s2
 have k3 := (y5.refl [] ((w.alloc (.cells #[.int .i64 0, .map none] 108)).alloc (.map #[] 0))).alloc (.cells #[.int .i64 n, .map (some (w.heap.size + 1))] 108)
 have n3 := heap_alloc_new ((w.alloc (.cells #[.int .i64 0, .map none] 108)).alloc (.map #[] 0)) (.cells #[.int .i64 n, .map (some (w.heap.size + 1))] 108)
 have hz2 : ((w.alloc (.cells #[.int .i64 0, .map none] 108)).alloc (.map #[] 0)).heap.size = w.heap.size + 1 + 1 := by rw [World.size_alloc, hz1]
 rw [hz2] at n3
 have s3 := s2.kept k3 (by simp)
 have m3 := k3.get (k2.get n1 (by simp)) (by simp)
 have hk3 := (k1.trans k2).trans k3
 have hz3 := hk3.size
 generalize hW3 : ((w.alloc (.cells #[.int .i64 0, .map none] 108)).alloc (.map #[] 0)).alloc (.cells #[.int .i64 n, .map (some (w.heap.size + 1))] 108) = w3 at *
 have HW3 : Hid _ := hW3
 have U0 : Hid (Calls _ _ _ _ _) := Q2d n (w.heap.size + 1) [] 0 w3 s3 (by omega) (by simp) (by omega) (by simp)
 have U1 : Hid (∀ W, SpM W (w.heap.size + 1) [0] -> Calls prog 60 #[.agg #[.int .i64 n, .map (some (w.heap.size + 1))], .int .i64 1] W fun e w' => e = .returned (.tuple #[]) /\ SpM w' (w.heap.size + 1) [1, 0] /\ y5 [w.heap.size + 1] W w') := fun W hs => Q2d n (w.heap.size + 1) [0] 1 W hs (by omega) (by simp) (by omega) (by simp)
 have c0 : w3.cell? ⟨w.heap.size + 1 + 1, 0, none⟩ = some (.int .i64 n) := y6 n3 rfl
 have c1 : w3.cell? ⟨w.heap.size + 1 + 1, 1, none⟩ = some (.map (some (w.heap.size + 1))) := y6 n3 rfl
 clear hW3 k1 n1 k2 s2 k3 hz1 hz2
 go_enter func57, ntmps57
 go_wp2_with fail
 rw [HW3.out]
 go_wp2_with fail
 refine wp_loop_rounds 3 ?_
 rw [rounds_succ]
 go_wp2_with fail
 refine U0.out.mono ?_
 rintro e w4 ⟨rfl, s4, k4⟩
 have n4 := k4.get n3 (by simp)
 have m4 := k4.get m3 (by simp)
 have c40 : w4.cell? ⟨w.heap.size + 1 + 1, 0, none⟩ = some (.int .i64 n) := y6 n4 rfl
 have c41 : w4.cell? ⟨w.heap.size + 1 + 1, 1, none⟩ = some (.map (some (w.heap.size + 1))) := y6 n4 rfl
 go_wp2_with fail
 rw [rounds_succ]
 go_wp2_with fail
 refine (U1.out _ s4).mono ?_
 rintro e w5 ⟨rfl, s5, k5⟩
 have n5 := k5.get n4 (by simp)
 have m5 := k5.get m4 (by simp)
 have c50 : w5.cell? ⟨w.heap.size + 1 + 1, 0, none⟩ = some (.int .i64 n) := y6 n5 rfl
 have c51 : w5.cell? ⟨w.heap.size + 1 + 1, 1, none⟩ = some (.map (some (w.heap.size + 1))) := y6 n5 rfl
 have d50 : w5.cell? ⟨w.heap.size, 0, none⟩ = some (.int .i64 0) := y6 m5 rfl
 have d51 : w5.cell? ⟨w.heap.size, 1, none⟩ = some (.map none) := y6 m5 rfl
 have f50 : w5.frozen? ⟨w.heap.size, 0, none⟩ = false := frozen_of_row _ _ _ _ _ m5
 have f51 : w5.frozen? ⟨w.heap.size, 1, none⟩ = false := frozen_of_row _ _ _ _ _ m5
 go_wp2_with fail
 rw [rounds_succ]
 go_wp2
 have k6 : y5 [w.heap.size] w5 ((w5.setCell ⟨w.heap.size, 0, none⟩ (.int .i64 n)).setCell ⟨w.heap.size, 1, none⟩ (.map (some (w.heap.size + 1)))) := ((y5.refl [w.heap.size] w5).setCell (p := ⟨w.heap.size, 0, none⟩) (Or.inl (by simp)) _).setCell (p := ⟨w.heap.size, 1, none⟩) (Or.inl (by simp)) _
 refine bodyPost_ret (results_cell_row rfl _ _ w.heap.size 108 #[.int .i64 n, .map (some (w.heap.size + 1))] (0, 0) _ rfl (yg (i := 1) (.map (some (w.heap.size + 1))) (yg (i := 0) (.int .i64 (n : Int)) m5)) underlying108 rfl jT) rfl ?_
 refine ⟨w.heap.size + 1, rfl, s5.kept k6 (by simp), by omega, ((hk3.trans2 k4 ?_).trans2 k5 ?_).trans2 k6 ?_⟩
 ·intro x hx; simp at hx; subst hx; exact Or.inr (by omega)
 ·intro x hx; simp at hx; subst hx; exact Or.inr (by omega)
 ·intro x hx; simp at hx; subst hx; exact Or.inr (Nat.le_refl _)
abbrev Pr := ByteArray × ByteArray
def Q2h (p : Pr) : List Value := [.string p.1, .string p.2]
def jU (l : List Pr) : List Value := l.flatMap Q2h
theorem jr (p : Pr) : (Q2h p).length = 2 := rfl
theorem Q2i (l : List Pr) : ∀ (i : Nat) (p : Pr), l[i]? = some p -> ∀ (j : Nat) (v : Value), (Q2h p)[j]? = some v -> (jU l)[i * 2 + j]? = some v := by
 induction l with
 | nil => intro i o h; simp at h
 | cons x r ih =>
  intro i o h j v hv
  have hj : j < 2 := by have := (List.getElem?_eq_some_iff.1 hv).1; rwa [jr] at this
  have e : jU (x :: r) = Q2h x ++ jU r := rfl
  rw [e]
  cases i with
  | zero =>
   simp at h; subst h
   rw [List.getElem?_append_left (by rw [jr]; omega)]
   simpa using hv
  | succ i =>
   rw [List.getElem?_append_right (by rw [jr]; omega), jr]
   have := ih i o (by simpa using h) j v hv
   rw [show (i + 1) * 2 + j - 2 = i * 2 + j by omega]
   exact this
theorem Q2j (l : List Pr) (p : Pr) : jU l ++ Q2h p = jU (l ++ [p]) := by simp [jU]
def PL (w : World) (t : TypeId) (v : Value) (l : List Pr) : Prop := w.ownsRow 0 t 2 v l.length (jU l)
theorem PL.nil (w : World) (t : TypeId) : PL w t (.slice none 0 0) [] := World.ownsRow_nil _ _ _ _
theorem PL.shape {w : World} {t : TypeId} {v : Value} {l : List Pr} (h : PL w t v l) : ∃ p cap, v = .slice p l.length cap := by
 obtain ⟨_, ⟨rfl, h0⟩ | ⟨g, cap, cur, rfl, _⟩⟩ := h
 ·exact ⟨none, 0, by rw [h0]⟩
 ·exact ⟨_, _, rfl⟩
theorem PL.at_ {w : World} {t : TypeId} {v : Value} {l : List Pr} (h : PL w t v l) (hl : 0 < l.length) : ∃ g cap cur, v = .slice (some ⟨g, 0, none⟩) l.length cap /\ w.heap[g]? = some (.cells cur t (0, 0)) /\
  (∀ (i : Nat) (p : Pr), l[i]? = some p -> cur[i * 2]? = some (.string p.1) /\ cur[i * 2 + 1]? = some (.string p.2)) := by
 obtain ⟨_, ⟨_, h0⟩ | ⟨g, cap, cur, e, _, hh, _, _, _, htk⟩⟩ := h
 ·omega
 refine ⟨g, cap, cur, e, hh, ?_⟩
 intro i p hi
 have hil : i < l.length := (List.getElem?_eq_some_iff.1 hi).1
 have h0 := Q2i l i p hi 0 _ rfl
 have h1 := Q2i l i p hi 1 _ rfl
 rw [<- htk, List.getElem?_take, if_pos (by omega)] at h0 h1
 exact ⟨by simpa using h0, by simpa using h1⟩
theorem PL.load {w : World} {t ty : TypeId} {g i : Nat} {cur : Array Value} {p : Pr} (fs : _) {P : Program} (hg : w.heap[g]? = some (.cells cur t (0, 0))) (hc : cur[i * 2]? = some (.string p.1) /\ cur[i * 2 + 1]? = some (.string p.2))
  (hu : P.underlying ty = some (.struct fs)) (hi : (P.info? ty).map (·.size) = some 2) :
  (loadVar ty ⟨g, i * 2, none⟩).run P w = .ok (.agg #[.string p.1, .string p.2]) w := by
 refine yV (P := P) w g (i * 2) t ty cur.toList [.string p.1, .string p.2] (0, 0) _ (by simpa using hg) hu rfl hi ?_
 intro j v hv
 rcases j with _ | _ | j
 ·simp at hv; subst hv; simpa using hc.1
 ·simp at hv; subst hv; simpa using hc.2
 ·simp at hv
theorem PL.kept {S : List Nat} {w w' : World} {t : TypeId} {v : Value} {l : List Pr} (h : PL w t v l) (k : y5 S w w') (hS : ∀ b, v.ownBlock = some b -> b ∉ S) : PL w' t v l := yQ h k hS
theorem sap : (prog.info? 52).map (·.size) = some 2 := by kernel_rfl
def bl (a b : ByteArray) : Bool := Op.bytesLess a.toList b.toList
def be (a b : ByteArray) : Bool := a.toList == b.toList
theorem gT (s : ByteArray) : s.toList = s.data.toList := ByteArray.toList_eq s
theorem Q2k : ∀ (x y : List UInt8), Op.bytesLess x y = decide (x < y)
 | [], [] => by simp [Op.bytesLess]
 | _ :: _, [] => by simp [Op.bytesLess]
 | [], _ :: _ => by simp [Op.bytesLess]
 | a :: x, b :: y => by
  have ih := Q2k x y
  unfold Op.bytesLess
  rw [ih]
  by_cases h1 : a < b <;> by_cases h2 : a = b <;> by_cases h3 : x < y <;> simp [List.cons_lt_cons_iff, h1, h2, h3]
theorem ZO (a b : ByteArray) : bl a b = decide (a.data.toList < b.data.toList) := by rw [bl, Q2k, gT, gT]
theorem jg (a b : ByteArray) : be a b = true ↔ a = b := by
 rw [be, gT, gT, beq_iff_eq]
 constructor
 ·intro h
  cases a; cases b
  simp only [ByteArray.mk.injEq]
  exact Array.toList_inj.1 h
 ·rintro rfl; rfl
theorem jV (a b : ByteArray) : be a b = false ↔ a ≠ b := by
 have := jg a b
 cases h : be a b <;> simp_all
theorem j1 (a : ByteArray) : be a a = true := (jg a a).2 rfl
theorem gU (a : ByteArray) : bl a a = false := by rw [ZO]; simp [List.lt_irrefl]
theorem qX {a b c : ByteArray} (h1 : bl a b = true) (h2 : bl b c = true) : bl a c = true := by
 rw [ZO, decide_eq_true_eq] at *; exact List.lt_trans h1 h2
theorem jW (a b : ByteArray) : bl a b = true \/ a = b \/ bl b a = true := by
 simp only [ZO, decide_eq_true_eq]
 rcases Decidable.em (a.data.toList < b.data.toList) with h | h
 ·exact Or.inl h
 rcases Decidable.em (b.data.toList < a.data.toList) with h' | h'
 ·exact Or.inr (Or.inr h')
 right; left
 have := List.le_antisymm (List.not_lt.1 h') (List.not_lt.1 h)
 cases a; cases b
 simp only [ByteArray.mk.injEq]
 exact Array.toList_inj.1 this
def qZ (k v : ByteArray) : Bool -> List Pr -> List Pr
 | b, [] => if b then [] else [(k, v)]
 | b, p :: r => (if !b && !bl p.1 k then [(k, v)] else []) ++ (if be p.1 k then [] else [p]) ++ qZ k v (b || !bl p.1 k) r
def yL (k v : ByteArray) (l : List Pr) : List Pr := qZ k v false l
def yx (k : ByteArray) (l : List Pr) : List Pr := l.filter fun p => !be p.1 k
def qC (k : ByteArray) : List Pr -> Option ByteArray
 | [] => none
 | p :: r => if be p.1 k then some p.2 else qC k r
def inR (lo hi : ByteArray) (p : Pr) : Bool := !bl p.1 lo && bl p.1 hi
def Zz (lo hi : ByteArray) (m : Nat) (l : List Pr) : List Pr := (l.filter (inR lo hi)).take m
def tx (s : ByteArray) : List UInt8 := UInt8.ofNat s.size :: s.data.toList
def pkP (p : Pr) : List UInt8 := tx p.1 ++ tx p.2
def pkK (k : ByteArray × Nat) : List UInt8 := tx k.1 ++ (List.replicate (8 - k.1.size) 0 ++ yC k.2 2)
def Z2 (B : List UInt8) : List UInt8 := B ++ yC (crc B) 4
def ZA (k : Nat) (l : List UInt8) : List UInt8 := l ++ List.replicate (k - l.length) 0
def Qe (kind : UInt8) (n : Nat) (items : List UInt8) : List UInt8 := Z2 (ZA 124 (kind :: UInt8.ofNat n :: items))
def encL (l : List Pr) : List UInt8 := Qe 76 l.length (l.flatMap pkP)
def Zw (ks : List (ByteArray × Nat)) : List UInt8 := Qe 66 ks.length (ks.flatMap pkK)
def j2 (m : Nat) : List UInt8 -> Option (ByteArray × List UInt8)
 | [] => none
 | c :: r => if c.toNat <= m /\ c.toNat <= r.length then some (⟨(r.take c.toNat).toArray⟩, r.drop c.toNat) else none
def gu (r : List UInt8) : Option (Pr × List UInt8) := match j2 8 r with
 | none => none
 | some (k, r1) => match j2 12 r1 with
  | none => none
  | some (v, r2) => some ((k, v), r2)
def jx (r : List UInt8) : Option ((ByteArray × Nat) × List UInt8) := match j2 8 r with
 | none => none
 | some (k, r1) => if 8 - k.size + 2 <= r1.length then some ((k, qe ((r1.drop (8 - k.size)).take 2)), r1.drop (8 - k.size + 2)) else none
def qD {α : Type} (t : List UInt8 -> Option (α × List UInt8)) : Nat -> List UInt8 -> Option (List α × List UInt8)
 | 0, r => some ([], r)
 | n + 1, r => match t r with
  | none => none
  | some (a, r1) => match qD t n r1 with
   | none => none
   | some (l, r2) => some (a :: l, r2)
theorem Q2l (s : ByteArray) : s.data.toList.length = s.size := Array.length_toList
theorem ZP (n : Nat) (h : n < 256) : (UInt8.ofNat n).toNat = n := by
 rw [UInt8.toNat_ofNat']
 exact Nat.mod_eq_of_lt h
theorem jh (s : ByteArray) : (tx s).length = 1 + s.size := by simp [tx]; omega
theorem ZQ (p : Pr) : (pkP p).length = 2 + p.1.size + p.2.size := by simp [pkP, jh]; omega
theorem gh (n k : Nat) : (yC n k).length = k := by simp [yC]
theorem Q2m (k : ByteArray × Nat) (h : k.1.size <= 8) : (pkK k).length = 11 := by simp [pkK, jh, gh]; omega
theorem Q2n (m : Nat) (s : ByteArray) (r : List UInt8) (h : s.size <= m) (hm : m < 256) : j2 m (tx s ++ r) = some (s, r) := by
 have e : (UInt8.ofNat s.size).toNat = s.size := ZP _ (by omega)
 simp only [tx, List.cons_append, j2, e]
 have h1 : s.size = s.data.toList.length := (Q2l s).symm
 rw [if_pos ⟨h, by rw [List.length_append, Q2l]; omega⟩]
 rw [h1, List.take_left' rfl, List.drop_left' rfl]
theorem QE {m : Nat} {r r' : List UInt8} {s : ByteArray} (h : j2 m r = some (s, r')) : r = tx s ++ r' /\ s.size <= m := by
 cases r with
 | nil => simp [j2] at h
 | cons c r =>
  simp only [j2] at h
  split at h
  ·rename_i hc
   simp only [Option.some.injEq, Prod.mk.injEq] at h
   obtain ⟨rfl, rfl⟩ := h
   have hl : (r.take c.toNat).length = c.toNat := by rw [List.length_take]; omega
   have hs : (ByteArray.mk (r.take c.toNat).toArray).size = c.toNat := by rw [<- Q2l]; simpa using hl
   refine ⟨?_, by rw [hs]; exact hc.1⟩
   rw [tx, hs]
   have : UInt8.ofNat c.toNat = c := by simp
   rw [this]
   simp
  ·cases h
theorem Q2o (p : Pr) (r : List UInt8) (h1 : p.1.size <= 8) (h2 : p.2.size <= 12) : gu (pkP p ++ r) = some (p, r) := by
 simp only [gu, pkP, List.append_assoc, Q2n 8 p.1 _ h1 (by omega), Q2n 12 p.2 _ h2 (by omega)]
theorem Q2p {r r' : List UInt8} {p : Pr} (h : gu r = some (p, r')) : r = pkP p ++ r' /\ p.1.size <= 8 /\ p.2.size <= 12 := by
 unfold gu at h
 split at h
 ·cases h
 ·rename_i k r1 e1
  split at h
  ·cases h
  ·rename_i v r2 e2
   simp only [Option.some.injEq, Prod.mk.injEq] at h
   obtain ⟨rfl, rfl⟩ := h
   obtain ⟨a1, a2⟩ := QE e1
   obtain ⟨b1, b2⟩ := QE e2
   exact ⟨by rw [a1, b1, pkP, List.append_assoc], a2, b2⟩
theorem Q2q (n : Nat) (h : n < 65536) : qe (yC n 2) = n := by
 rw [Qd]
 exact Nat.mod_eq_of_lt h
theorem Q2r (k : ByteArray × Nat) (r : List UInt8) (h1 : k.1.size <= 8) (h2 : k.2 < 65536) : jx (pkK k ++ r) = some (k, r) := by
 have hz : (List.replicate (8 - k.1.size) (0 : UInt8)).length = 8 - k.1.size := by simp
 simp only [jx, pkK, List.append_assoc, Q2n 8 k.1 _ h1 (by omega)]
 rw [if_pos (by simp [gh])]
 have e1 : (List.replicate (8 - k.1.size) (0 : UInt8) ++ (yC k.2 2 ++ r)).drop (8 - k.1.size) = yC k.2 2 ++ r := List.drop_left' hz
 have e2 : (yC k.2 2 ++ r).take 2 = yC k.2 2 := List.take_left' (gh _ _)
 have e3 : (List.replicate (8 - k.1.size) (0 : UInt8) ++ (yC k.2 2 ++ r)).drop (8 - k.1.size + 2) = r := by
  rw [<- List.drop_drop, e1]
  exact List.drop_left' (gh _ _)
 rw [e1, e2, e3, Q2q _ h2]
theorem Q2s {r r' : List UInt8} {k : ByteArray × Nat} (h : jx r = some (k, r')) : k.1.size <= 8 /\ k.2 < 65536 /\ r.length = 11 + r'.length := by
 unfold jx at h
 split at h
 ·cases h
 ·rename_i f r1 e1
  split at h
  ·rename_i hl
   simp only [Option.some.injEq, Prod.mk.injEq] at h
   obtain ⟨rfl, rfl⟩ := h
   obtain ⟨a1, a2⟩ := QE e1
   refine ⟨a2, ?_, ?_⟩
   ·have := Ql ((r1.drop (8 - f.size)).take 2)
    have hl2 : ((r1.drop (8 - f.size)).take 2).length = 2 := by rw [List.length_take, List.length_drop]; omega
    rw [hl2] at this
    exact this
   ·rw [a1, List.length_append, jh, List.length_drop]
    omega
  ·cases h
theorem Q2t {α : Type} (t : List UInt8 -> Option (α × List UInt8)) (pk : α -> List UInt8) (l : List α) (r : List UInt8) (h : ∀ a ∈ l, ∀ r, t (pk a ++ r) = some (a, r)) : qD t l.length (l.flatMap pk ++ r) = some (l, r) := by
 induction l with
 | nil => rfl
 | cons a l ih =>
  simp only [List.length_cons, qD, List.flatMap_cons, List.append_assoc, h a (by simp)]
  rw [ih fun b hb => h b (by simp [hb])]
theorem Q2u {α : Type} {t : List UInt8 -> Option (α × List UInt8)} {n : Nat} {r r' : List UInt8} {l : List α} (h : qD t n r = some (l, r')) : l.length = n := by
 induction n generalizing r l with
 | zero => simp only [qD, Option.some.injEq, Prod.mk.injEq] at h; rw [<- h.1]; rfl
 | succ n ih =>
  simp only [qD] at h
  split at h
  ·cases h
  ·rename_i a r1 e1
   split at h
   ·cases h
   ·rename_i l2 r2 e2
    simp only [Option.some.injEq, Prod.mk.injEq] at h
    obtain ⟨rfl, rfl⟩ := h
    simp [ih e2]
theorem Zk {α : Type} {t : List UInt8 -> Option (α × List UInt8)} {G : α -> Prop} {sz : α -> Nat} (ht : ∀ r a r', t r = some (a, r') -> G a /\ r.length = sz a + r'.length) {n : Nat} {r r' : List UInt8} {l : List α} (h : qD t n r = some (l, r')) :
  (∀ a ∈ l, G a) /\ r.length = (l.map sz).sum + r'.length := by
 induction n generalizing r l with
 | zero =>
  simp only [qD, Option.some.injEq, Prod.mk.injEq] at h
  obtain ⟨rfl, rfl⟩ := h
  simp
 | succ n ih =>
  simp only [qD] at h
  split at h
  ·cases h
  ·rename_i a r1 e1
   split at h
   ·cases h
   ·rename_i l2 r2 e2
    simp only [Option.some.injEq, Prod.mk.injEq] at h
    obtain ⟨rfl, rfl⟩ := h
    obtain ⟨g1, g2⟩ := ht _ _ _ e1
    obtain ⟨i1, i2⟩ := ih e2
    refine ⟨?_, ?_⟩
    ·intro b hb
     rcases List.mem_cons.1 hb with rfl | hb
     ·exact g1
     ·exact i1 b hb
    ·rw [g2, i2]; simp; omega
inductive Nb where
 | leaf (l : List Pr)
 | branch (ks : List (ByteArray × Nat))
def j3 : Nb -> List UInt8
 | .leaf l => encL l
 | .branch ks => Zw ks
def QV (b : List UInt8) : Option Nb :=
 if b[0]? = some 76 then match qD gu ((b[1]?).getD 0).toNat ((b.drop 2).take 122) with
  | none => none
  | some (l, _) => if encL l = b then some (.leaf l) else none
 else if b[0]? = some 66 then match qD jx ((b[1]?).getD 0).toNat ((b.drop 2).take 122) with
  | none => none
  | some (ks, _) => if Zw ks = b then some (.branch ks) else none
 else none
def jX : Nb -> Prop
 | .leaf l => (∀ p ∈ l, p.1.size <= 8 /\ p.2.size <= 12) /\ (l.map fun p => 2 + p.1.size + p.2.size).sum <= 122
 | .branch ks => (∀ k ∈ ks, k.1.size <= 8 /\ k.2 < 65536) /\ 11 * ks.length <= 122
theorem Q2v {b : List UInt8} {n : Nb} (h : QV b = some n) : j3 n = b /\ jX n := by
 have hl : ((b.drop 2).take 122).length <= 122 := by rw [List.length_take]; omega
 unfold QV at h
 split at h
 ·split at h
  ·cases h
  ·rename_i l r e
   split at h
   ·rename_i he
    simp only [Option.some.injEq] at h
    subst h
    obtain ⟨h1, h2⟩ := Zk (G := fun p : Pr => p.1.size <= 8 /\ p.2.size <= 12) (sz := fun p : Pr => 2 + p.1.size + p.2.size) (fun r a r' h => by obtain ⟨a1, a2⟩ := Q2p h; exact ⟨a2, by rw [a1, List.length_append, ZQ]⟩) e
    exact ⟨he, h1, by omega⟩
   ·cases h
 ·split at h
  ·split at h
   ·cases h
   ·rename_i l r e
    split at h
    ·rename_i he
     simp only [Option.some.injEq] at h
     subst h
     obtain ⟨h1, h2⟩ := Zk (G := fun k : ByteArray × Nat => k.1.size <= 8 /\ k.2 < 65536) (sz := fun _ => 11) (fun r a r' h => by obtain ⟨a1, a2, a3⟩ := Q2s h; exact ⟨⟨a1, a2⟩, a3⟩) e
     have h3 : (l.map fun _ => 11).sum = 11 * l.length := by
      clear e h1 h2 he
      induction l with
      | nil => rfl
      | cons a l ih => simp [ih]; omega
     exact ⟨he, h1, by omega⟩
    ·cases h
  ·cases h
theorem QF (l : List Pr) : (l.flatMap pkP).length = (l.map fun p => 2 + p.1.size + p.2.size).sum := by
 induction l with
 | nil => rfl
 | cons p l ih => simp only [List.flatMap_cons, List.length_append, ZQ, ih, List.map_cons, List.sum_cons]
theorem QG (ks : List (ByteArray × Nat)) (h : ∀ k ∈ ks, k.1.size <= 8) : (ks.flatMap pkK).length = 11 * ks.length := by
 induction ks with
 | nil => rfl
 | cons p l ih =>
  rw [List.flatMap_cons, List.length_append, Q2m p (h p (by simp)), ih fun k hk => h k (by simp [hk]), List.length_cons]
  omega
theorem Q2w (k : Nat) (l : List UInt8) (h : l.length <= k) : (ZA k l).length = k := by simp [ZA]; omega
theorem Q2x (B : List UInt8) : (Z2 B).length = B.length + 4 := by simp [Z2, gh]
theorem gV (c : UInt8) (n : Nat) (i : List UInt8) (h : i.length <= 122) : (Qe c n i).length = 128 := by
 rw [Qe, Q2x, Q2w _ _ (by simp; omega)]
theorem Q2y (c : UInt8) (n : Nat) (i : List UInt8) (h : i.length <= 122) : (Qe c n i)[0]? = some c /\ (Qe c n i)[1]? = some (UInt8.ofNat n) /\ ∃ z, ((Qe c n i).drop 2).take 122 = i ++ z := by
 refine ⟨by simp [Qe, Z2, ZA], by simp [Qe, Z2, ZA], List.replicate (122 - i.length) 0, ?_⟩
 have e : Qe c n i = c :: UInt8.ofNat n :: ((i ++ List.replicate (122 - i.length) 0) ++ yC (crc (ZA 124 (c :: UInt8.ofNat n :: i))) 4) := by
  simp [Qe, Z2, ZA]
 rw [e, List.drop_succ_cons, List.drop_succ_cons, List.drop_zero]
 exact List.take_left' (by simp; omega)
theorem Q2z (l : List Pr) : 2 * l.length <= (l.map fun p => 2 + p.1.size + p.2.size).sum := by
 induction l with
 | nil => simp
 | cons p l ih => simp only [List.length_cons, List.map_cons, List.sum_cons]; omega
theorem Q2A {n : Nb} (h : jX n) : QV (j3 n) = some n := by
 cases n with
 | leaf l =>
  obtain ⟨h1, h2⟩ := h
  have hl := QF l
  obtain ⟨e0, e1, z, e2⟩ := Q2y 76 l.length (l.flatMap pkP) (by omega)
  have hc : (UInt8.ofNat l.length).toNat = l.length := ZP _ (by have := Q2z l; omega)
  simp only [QV, j3, encL, e0, e1, e2, if_true, Option.getD_some, hc]
  rw [Q2t gu pkP l z fun p hp r => Q2o p r (h1 p hp).1 (h1 p hp).2]
  simp
 | branch ks =>
  obtain ⟨h1, h2⟩ := h
  have hl := QG ks fun k hk => (h1 k hk).1
  obtain ⟨e0, e1, z, e2⟩ := Q2y 66 ks.length (ks.flatMap pkK) (by omega)
  have hc : (UInt8.ofNat ks.length).toNat = ks.length := ZP _ (by omega)
  simp only [QV, j3, Zw, e0, e1, e2, if_true, Option.getD_some, hc]
  rw [if_neg (by decide), Q2t jx pkK ks z fun k hk r => Q2r k r (h1 k hk).1 (h1 k hk).2]
  simp
theorem Z3 {n : Nb} (h : jX n) : (j3 n).length = 128 := by
 cases n with
 | leaf l => exact gV _ _ _ (by rw [QF]; exact h.2)
 | branch ks => exact gV _ _ _ (by rw [QG _ fun k hk => (h.1 k hk).1]; exact h.2)
theorem qm {w : World} {base e size n : Nat} {v : Value} {xs : List Value} (h : w.ownsRow base e size v n xs) : ∀ y ∈ v.ownBlock.toList, base <= y := by
 intro y hy
 simp at hy
 exact (h.lt y hy).1
theorem Q2B {w : World} {base e size n : Nat} {v : Value} {xs : List Value} (h : w.ownsRow base e size v n xs) : ∀ y ∈ v.ownBlock.toList, y < w.heap.size := by
 intro y hy
 simp at hy
 exact (h.lt y hy).2
theorem ji (k v : ByteArray) (b : Bool) : qZ k v b [] = if b then [] else [(k, v)] := rfl
theorem qK (k v : ByteArray) (b : Bool) (p : Pr) (r : List Pr) : qZ k v b (p :: r) = (if !b && !bl p.1 k then [(k, v)] else []) ++ (if be p.1 k then [] else [p]) ++ qZ k v (b || !bl p.1 k) r := rfl
def mst (m : Int) : Nat := m.toNat
theorem y5.drewN {S : List Nat} {a b : World} (h : y5 S a b) (n : Nat) : y5 S a (b.drewN n) := ⟨h.os, h.tape, h.output, h.size, h.block⟩
theorem w64 (n : Int) (h : -9223372036854775808 <= n /\ n <= 9223372036854775807) : wrap64 n = n := by unfold wrap64; omega
def chg (cl f : Bool) (k v : ByteArray) : Int := if cl then 5 else if f then 4 else if ¬ (1 <= k.size /\ k.size <= 8) then 1 else if 12 < v.size then 2 else 0
theorem Q2C {P : Program} {w : World} (t : TypeId) (g off n cap i k : Nat) (e : TypeId) (hu : P.underlying t = some (.slice e)) (hs : (P.info? e).map (·.size) = some k) (hi : i < n) (p : Nat) (hp : p = off + i * k) :
  (Instr.indexAt t (.slice (some ⟨g, off, none⟩) n cap) (.int .i64 i)).run P w = .ok (.pointer (some ⟨g, p, none⟩)) w := by
 cases hq : P.info? e with
 | none => simp [hq] at hs
 | some ie =>
  have hsz : ie.size = k := by simpa [hq] using hs
  subst hp
  rw [<- add_lit]
  simp [Instr.indexAt, asIntOf, run_underlying hu, sizeOf, typeInfo, hq, hsz, Result.andThen, hi]
structure HLd where
 v : Value
 u : Value
 l : List Pr
structure HL (w : World) (lv wv : Value) (xs : List HLd) : Prop where
 lists : w.ownsRow 0 25 1 lv xs.length (xs.map HLd.v)
 want : w.ownsRow 0 25 1 wv xs.length (xs.map HLd.u)
 apart : ∀ g, lv.ownBlock = some g -> wv.ownBlock ≠ some g
 all : ∀ x ∈ xs, PL w 52 x.v x.l /\ PL w 52 x.u x.l /\ x.l.length <= 50000
theorem ZB {P : Program} (w : World) (dT sT ty elem : TypeId) (g o dLen dCap k : Nat) (a : Addr) (sLen sCap : Nat) (cur : Array Value) (t : TypeId) (cs : List Value)
  (hu : P.underlying dT = some (.slice elem)) (hs : (P.info? elem).map (·.size) = some k)
  (hg : w.heap[g]? = some (.cells cur t (0, 0))) (hn : cs.length = Nat.min sLen dLen * k)
  (hsrc : ∀ j v, cs[j]? = some v -> w.cell? (a.add j) = some v) (hfit : o + cs.length <= cur.size) (h1 : ∀ v ∈ cs, v.oneCell' = true) :
  (Builtin.copy_ #[dT, sT] ty #[.slice (some ⟨g, o, none⟩) dLen dCap, .slice (some a) sLen sCap]).run P w =
   .ok (goInt (Nat.min sLen dLen)) (w.setRow g (cur.toList.take o ++ cs ++ cur.toList.drop (o + cs.length)).toArray) := by
 have hl := run_loadCells_list (P := P) w a cs hsrc
 have hst := run_storeCells_at P g o t cs 0 cur w hg (by simpa using hfit) h1
 cases hq : P.info? elem with
 | none => simp [hq] at hs
 | some i =>
  have hi : i.size = k := by simpa [hq] using hs
  rw [hn] at hl
  simp [Builtin.copy_, run_underlying hu, Builtin.lenOf, Builtin.firstCells, sizeOf, typeInfo, hq, hi, hl, hst]
theorem PL.tag {w : World} {t : TypeId} {v : Value} {l : List Pr} (h : PL w t v l) {g : Nat} (hg : v.ownBlock = some g) : ∃ cs fr, w.heap[g]? = some (.cells cs t fr) := by
 obtain ⟨_, ⟨rfl, _⟩ | ⟨g', cap, cur, rfl, _, hh, _⟩⟩ := h
 ·cases hg
 ·cases hg; exact ⟨_, _, hh⟩
def jy (k : ByteArray) : Prop := 1 <= k.size /\ k.size <= 8
instance (k : ByteArray) : Decidable (jy k) := by unfold jy; infer_instance
end Go.Proofs.YtcklgafpgdhnaabGreatDoor
