import Derived.Test.YtcklgafpgdhnaabGreatDoorPfaf
import Derived.Test.YtcklgafpgdhnaabGreatDoorPfad
import Derived.Test.YtcklgafpgdhnaabGreatDoorPfac
import Derived.Laws.AppendOwnNone
import Derived.Laws.ResultCell
import Derived.Lib.Bytealg
set_option maxRecDepth 100000
set_option maxHeartbeats 4000000
open Go.Proofs.Tryz
namespace Go.Proofs.YtcklgafpgdhnaabGreatDoor
open Go.RowKit
theorem Q3L (n b : Nat) (us : List Nat) (i : Nat) (w : World) (h : SpM w b us) (hi : i < 70000) (hl : us.length < 70000) (h1 : i < n) (h2 : i ∉ us) :
  Calls prog 60 #[.agg #[.int .i64 n, .map (some b)], .int .i64 i] w fun e w' => e = .returned (.tuple #[]) /\ SpM w' b (i :: us) /\ Kept [b] w w' := by
 have k1 := (Kept.refl [] w).alloc (.cells #[.int .i64 n, .map (some b)] 108)
 have n1 := heap_alloc_new w (.cells #[.int .i64 n, .map (some b)] 108)
 have hs1 := h.kept k1 (by simp)
 have g0 : ¬ (i : Int) < 0 := by omega
 have g1 : ¬ (n : Int) <= i := by omega
 have HI : Hid (Calls _ _ _ _ _) := Q3K n b us i _ hs1 hi
 have hd : decide (i ∈ us) = false := by simpa using h2
 rw [hd] at HI
 go_enter func60, ntmps60
 go_wp2_with (go_at_call 92; refine HI.out.mono ?_; rintro e w2 ⟨rfl, hk2⟩; obtain ⟨w3, hput, hs3, hk3⟩ := (hs1.kept hk2 (by simp)).put i hi hl; have c2 : w2.cell? ⟨w.heap.size, 1, none⟩ = some (.map (some b)) := Q02 (hk2.get n1 (by simp)) rfl)
 go_end0
 exact ⟨rfl, hs3, ((k1.trans hk2).mono (by simp)).trans hk3⟩
theorem Q3M (n b : Nat) (us : List Nat) (i : Nat) (w : World) (h : SpM w b us) (hi : i < 70000) (h1 : ¬ (i < n /\ i ∉ us)) (hT : Tab w) :
  Calls prog 60 #[.agg #[.int .i64 n, .map (some b)], .int .i64 i] w fun e w' => Thr 7 e w' /\ Kept [] w w' := by
 have k1 := (Kept.refl [] w).alloc (.cells #[.int .i64 n, .map (some b)] 108)
 have n1 := heap_alloc_new w (.cells #[.int .i64 n, .map (some b)] 108)
 have hs1 := h.kept k1 (by simp)
 have g0 : ¬ (i : Int) < 0 := by omega
 have HI : Hid (Calls _ _ _ _ _) := Q3K n b us i _ hs1 hi
 have hT1 := hT.k k1
 by_cases hn : i < n
 ·have g1 : ¬ (n : Int) <= i := by omega
  have hd : decide (i ∈ us) = true := by
   by_cases hm : i ∈ us
   ·simpa using hm
   ·exact absurd ⟨hn, hm⟩ h1
  rw [hd] at HI
  go_enter func60, ntmps60
  go_wp2_with (first
   | (go_at_call 92; refine HI.out.mono ?_; rintro e w2 ⟨rfl, hk2⟩; have hT2 := hT1.k hk2)
   | (go_at_call 93; refine (Q2G hT2 i hi).mono ?_; rintro e w3 ⟨s3, rfl, hs3, hk3⟩; have hs3' : ¬ 9223372036854775807 < 13 + s3.size := (by omega))
   | (go_at_call 46; refine (Q2L _ _ _).mono ?_; rintro e w4 ⟨ht, hk4⟩; obtain ⟨f, o, rfl, hf⟩ := ht.ex))
  exact ⟨rfl, ht, ((k1.trans hk2).trans hk3).trans hk4⟩
 ·have g1 : (n : Int) <= i := by omega
  go_enter func60, ntmps60
  go_wp2_with (first
   | (go_at_call 93; refine (Q2G hT1 i hi).mono ?_; rintro e w3 ⟨s3, rfl, hs3, hk3⟩; have hs3' : ¬ 9223372036854775807 < 13 + s3.size := (by omega))
   | (go_at_call 46; refine (Q2L _ _ _).mono ?_; rintro e w4 ⟨ht, hk4⟩; obtain ⟨f, o, rfl, hf⟩ := ht.ex))
  exact ⟨rfl, ht, (k1.trans hk3).trans hk4⟩
def OfR (n : Nat) (w : World) (e : Ending) (w' : World) : Prop := ∃ b, e = .returned (.agg #[.int .i64 n, .map (some b)]) /\ SpM w' b [1, 0] /\ w.heap.size <= b /\ Kept [] w w'
theorem Q3N (w : World) : (Instr.makeMap 106 none).run prog w = .ok (.map (some w.heap.size)) (w.alloc (.map #[] 0)) := by kernel_rfl
theorem Q3O (n : Nat) (w : World) (hn : 8 <= n) : Calls prog 57 #[.int .i64 n, .int .i64 2] w (OfR n w) := by
 have hmk := Q3N
 have k1 := (Kept.refl [] w).alloc (.cells #[.int .i64 0, .map none] 108)
 have n1 := heap_alloc_new w (.cells #[.int .i64 0, .map none] 108)
 have k2 := (Kept.refl [] (w.alloc (.cells #[.int .i64 0, .map none] 108))).alloc (.map #[] 0)
 have s2 := SpM.made (w.alloc (.cells #[.int .i64 0, .map none] 108))
 have hz1 : (w.alloc (.cells #[.int .i64 0, .map none] 108)).heap.size = w.heap.size + 1 := World.size_alloc _ _
 rw [hz1] at s2
 have k3 := (Kept.refl [] ((w.alloc (.cells #[.int .i64 0, .map none] 108)).alloc (.map #[] 0))).alloc (.cells #[.int .i64 n, .map (some (w.heap.size + 1))] 108)
 have n3 := heap_alloc_new ((w.alloc (.cells #[.int .i64 0, .map none] 108)).alloc (.map #[] 0)) (.cells #[.int .i64 n, .map (some (w.heap.size + 1))] 108)
 have hz2 : ((w.alloc (.cells #[.int .i64 0, .map none] 108)).alloc (.map #[] 0)).heap.size = w.heap.size + 1 + 1 := by rw [World.size_alloc, hz1]
 rw [hz2] at n3
 have s3 := s2.kept k3 (by simp)
 have m3 := k3.get (k2.get n1 (by simp)) (by simp)
 have hk3 := (k1.trans k2).trans k3
 have hz3 := hk3.size
 generalize hW3 : ((w.alloc (.cells #[.int .i64 0, .map none] 108)).alloc (.map #[] 0)).alloc (.cells #[.int .i64 n, .map (some (w.heap.size + 1))] 108) = w3 at *
 have HW3 : Hid _ := hW3
 have U0 : Hid (Calls _ _ _ _ _) := Q3L n (w.heap.size + 1) [] 0 w3 s3 (by omega) (by simp) (by omega) (by simp)
 have U1 : Hid (∀ W, SpM W (w.heap.size + 1) [0] -> Calls prog 60 #[.agg #[.int .i64 n, .map (some (w.heap.size + 1))], .int .i64 1] W fun e w' => e = .returned (.tuple #[]) /\ SpM w' (w.heap.size + 1) [1, 0] /\ Kept [w.heap.size + 1] W w') := fun W hs => Q3L n (w.heap.size + 1) [0] 1 W hs (by omega) (by simp) (by omega) (by simp)
 have c0 : w3.cell? ⟨w.heap.size + 1 + 1, 0, none⟩ = some (.int .i64 n) := Q02 n3 rfl
 have c1 : w3.cell? ⟨w.heap.size + 1 + 1, 1, none⟩ = some (.map (some (w.heap.size + 1))) := Q02 n3 rfl
 clear hW3 k1 n1 k2 s2 k3 hz1 hz2
 go_enter func57, ntmps57
 go_wp2_with fail
 rw [HW3.out]
 go_wp2_with fail
 refine wp_loop_rounds 3 ?_
 rw [rounds_succ]
 go_wp2_with fail
 refine U0.out.mono ?_
 rintro e w4 ⟨rfl, s4, k4⟩
 have n4 := k4.get n3 (by simp)
 have m4 := k4.get m3 (by simp)
 have c40 : w4.cell? ⟨w.heap.size + 1 + 1, 0, none⟩ = some (.int .i64 n) := Q02 n4 rfl
 have c41 : w4.cell? ⟨w.heap.size + 1 + 1, 1, none⟩ = some (.map (some (w.heap.size + 1))) := Q02 n4 rfl
 go_wp2_with fail
 rw [rounds_succ]
 go_wp2_with fail
 refine (U1.out _ s4).mono ?_
 rintro e w5 ⟨rfl, s5, k5⟩
 have n5 := k5.get n4 (by simp)
 have m5 := k5.get m4 (by simp)
 have c50 : w5.cell? ⟨w.heap.size + 1 + 1, 0, none⟩ = some (.int .i64 n) := Q02 n5 rfl
 have c51 : w5.cell? ⟨w.heap.size + 1 + 1, 1, none⟩ = some (.map (some (w.heap.size + 1))) := Q02 n5 rfl
 have d50 : w5.cell? ⟨w.heap.size, 0, none⟩ = some (.int .i64 0) := Q02 m5 rfl
 have d51 : w5.cell? ⟨w.heap.size, 1, none⟩ = some (.map none) := Q02 m5 rfl
 have f50 : w5.frozen? ⟨w.heap.size, 0, none⟩ = false := frozen_of_row _ _ _ _ _ m5
 have f51 : w5.frozen? ⟨w.heap.size, 1, none⟩ = false := frozen_of_row _ _ _ _ _ m5
 go_wp2_with fail
 rw [rounds_succ]
 go_wp2
 have k6 : Kept [w.heap.size] w5 ((w5.setCell ⟨w.heap.size, 0, none⟩ (.int .i64 n)).setCell ⟨w.heap.size, 1, none⟩ (.map (some (w.heap.size + 1)))) := ((Kept.refl [w.heap.size] w5).setCell (p := ⟨w.heap.size, 0, none⟩) (Or.inl (by simp)) _).setCell (p := ⟨w.heap.size, 1, none⟩) (Or.inl (by simp)) _
 refine bodyPost_ret (results_cell_row rfl _ _ w.heap.size 108 #[.int .i64 n, .map (some (w.heap.size + 1))] (0, 0) _ rfl (Q03 (i := 1) (.map (some (w.heap.size + 1))) (Q03 (i := 0) (.int .i64 (n : Int)) m5)) underlying108 rfl Q3J) rfl ?_
 refine ⟨w.heap.size + 1, rfl, s5.kept k6 (by simp), by omega, ((hk3.trans2 k4 ?_).trans2 k5 ?_).trans2 k6 ?_⟩
 ·intro x hx; simp at hx; subst hx; exact Or.inr (by omega)
 ·intro x hx; simp at hx; subst hx; exact Or.inr (by omega)
 ·intro x hx; simp at hx; subst hx; exact Or.inr (Nat.le_refl _)
theorem Q3P (x y : Int) : bits .xor .u32 x y = ((BitVec.ofInt 32 x ^^^ BitVec.ofInt 32 y).toNat : Int) := by
 have := (BitVec.ofInt 32 x ^^^ BitVec.ofInt 32 y).isLt
 unfold bits
 simp only [IntKind.wrap_u32]
 show (((BitVec.ofInt 32 x ^^^ BitVec.ofInt 32 y).toNat : Nat) : Int) % 4294967296 = _
 omega
theorem Q3Q (x y : Int) : bits .and .u32 x y = ((BitVec.ofInt 32 x &&& BitVec.ofInt 32 y).toNat : Int) := by
 have := (BitVec.ofInt 32 x &&& BitVec.ofInt 32 y).isLt
 unfold bits
 simp only [IntKind.wrap_u32]
 show (((BitVec.ofInt 32 x &&& BitVec.ofInt 32 y).toNat : Nat) : Int) % 4294967296 = _
 omega
def bB (z : Nat) : Nat := if z % 2 = 1 then (z / 2) ^^^ 3988292384 else z / 2
theorem Q3R (a : Nat) (h : a < 4294967296) : (BitVec.ofInt 32 (a : Int)).toNat = a := by
 simp only [BitVec.toNat_ofInt]
 omega
theorem Q3S (z : Nat) (h : z < 4294967296) : Q2i (z : Int) = (bB z : Int) := by
 have e1 : bits .and .u32 (z : Int) 1 = ((z % 2 : Nat) : Int) := by
  rw [Q3Q, BitVec.toNat_and, Q3R z h, show (BitVec.ofInt 32 1).toNat = 1 from rfl, Nat.and_one_is_mod]
 unfold Q2i bB
 rw [e1]
 rcases Nat.mod_two_eq_zero_or_one z with h0 | h0
 ·rw [h0, if_neg (by decide), Q3Q, show (BitVec.ofInt 32 3988292384 &&& BitVec.ofInt 32 (-((0 : Nat) : Int) % 4294967296)).toNat = 0 from by decide, Q3P, BitVec.toNat_xor,
   show (z : Int) / 2 = ((z / 2 : Nat) : Int) by omega, Q3R _ (by omega)]
  simp
 ·rw [h0, if_pos rfl, Q3Q, show (BitVec.ofInt 32 3988292384 &&& BitVec.ofInt 32 (-((1 : Nat) : Int) % 4294967296)).toNat = 3988292384 from by decide, Q3P, BitVec.toNat_xor,
   show (z : Int) / 2 = ((z / 2 : Nat) : Int) by omega, Q3R _ (by omega), Q3R _ (by omega)]
theorem Q3T (z : Nat) (h : z < 4294967296) : bB z < 4294967296 := by
 unfold bB
 split
 ·exact Nat.xor_lt_two_pow (n := 32) (by omega) (by omega)
 ·omega
theorem Q3U {a b c : Nat} (h : a ^^^ c = b ^^^ c) : a = b := by
 have := congrArg (· ^^^ c) h
 simpa [Nat.xor_assoc] using this
theorem Q3V {x y : Nat} (hx : x < 4294967296) (hy : y < 4294967296) (h : bB x = bB y) : x = y := by
 unfold bB at h
 have key : ∀ a b : Nat, a < 2147483648 -> b < 2147483648 -> a ^^^ 3988292384 ≠ b := by
  intro a b ha hb e
  have e2 : 3988292384 = a ^^^ b := by rw [<- e, <- Nat.xor_assoc, Nat.xor_self, Nat.zero_xor]
  have := Nat.xor_lt_two_pow (n := 31) (x := a) (y := b) (by omega) (by omega)
  omega
 split at h <;> split at h
 ·have := Q3U h; omega
 ·exact absurd h (key _ _ (by omega) (by omega))
 ·exact absurd h.symm (key _ _ (by omega) (by omega))
 ·omega
def bBs : Nat -> Nat -> Nat
 | 0, y => y
 | n + 1, y => bB (bBs n y)
theorem Q3W (n z : Nat) (h : z < 4294967296) : bBs n z < 4294967296 := by
 induction n with
 | zero => exact h
 | succ n ih => exact Q3T _ ih
theorem Q3X (n : Nat) {x y : Nat} (hx : x < 4294967296) (hy : y < 4294967296) (h : bBs n x = bBs n y) : x = y := by
 induction n with
 | zero => exact h
 | succ n ih => exact ih (Q3V (Q3W n x hx) (Q3W n y hy) h)
theorem Q3Y (n z : Nat) (h : z < 4294967296) : Q2j n (z : Int) = (bBs n z : Int) := by
 induction n with
 | zero => rfl
 | succ n ih => rw [Q2j, ih, Q3S _ (Q3W n z h)]; rfl
def cB (z : Nat) (b : UInt8) : Nat := bBs 8 (z ^^^ b.toNat)
theorem Q3Z (z : Nat) (b : UInt8) (h : z < 4294967296) : Q2k (z : Int) b = (cB z b : Int) := by
 have hb := b.toNat_lt
 unfold Q2k cB
 rw [show (b.toNat : Int) % 4294967296 = ((b.toNat : Nat) : Int) by omega, Q3P, BitVec.toNat_xor, Q3R _ h, Q3R _ (by omega), Q3Y _ _ (Nat.xor_lt_two_pow (n := 32) (by omega) (by omega))]
theorem Q40 (z : Nat) (b : UInt8) (h : z < 4294967296) : cB z b < 4294967296 := Q3W _ _ (Nat.xor_lt_two_pow (n := 32) (by omega) (by have := b.toNat_lt; omega))
theorem Q41 {x y : Nat} {b : UInt8} (hx : x < 4294967296) (hy : y < 4294967296) (h : cB x b = cB y b) : x = y :=
 Q3U (Q3X 8 (Nat.xor_lt_two_pow (n := 32) (by omega) (by have := b.toNat_lt; omega)) (Nat.xor_lt_two_pow (n := 32) (by omega) (by have := b.toNat_lt; omega)) h)
theorem Q42 {x : Nat} {b c : UInt8} (hx : x < 4294967296) (h : cB x b = cB x c) : b = c := by
 have := Q3X 8 (Nat.xor_lt_two_pow (n := 32) (by omega) (by have := b.toNat_lt; omega)) (Nat.xor_lt_two_pow (n := 32) (by omega) (by have := c.toNat_lt; omega)) h
 rw [Nat.xor_comm x, Nat.xor_comm x] at this
 exact UInt8.toNat_inj.1 (Q3U this)
def sB (z : Nat) (L : List UInt8) : Nat := L.foldl cB z
theorem Q43 (z : Nat) (L : List UInt8) (h : z < 4294967296) : sB z L < 4294967296 := by
 induction L generalizing z with
 | nil => exact h
 | cons b r ih => exact ih _ (Q40 z b h)
theorem Q44 {x y : Nat} (L : List UInt8) (hx : x < 4294967296) (hy : y < 4294967296) (h : sB x L = sB y L) : x = y := by
 induction L generalizing x y with
 | nil => exact h
 | cons b r ih => exact Q41 hx hy (ih (Q40 x b hx) (Q40 y b hy) h)
theorem Q45 (L : List UInt8) : csum L = (sB 4294967295 L : Int) := by
 have : ∀ (z : Nat), z < 4294967296 -> L.foldl Q2k (z : Int) = (sB z L : Int) := by
  intro z hz
  induction L generalizing z with
  | nil => rfl
  | cons b r ih => rw [List.foldl_cons, Q3Z z b hz, ih _ (Q40 z b hz)]; rfl
 exact this 4294967295 (by decide)
theorem Q46 (L : List UInt8) : crc L = 4294967295 ^^^ sB 4294967295 L := by
 unfold crc
 rw [Q45, Q3P, BitVec.toNat_xor, show (BitVec.ofInt 32 IntKind.u32.max).toNat = 4294967295 from by decide, Q3R _ (Q43 _ _ (by decide))]
 rfl
theorem Q47 (A : List UInt8) (b c : UInt8) (B : List UInt8) (h : crc (A ++ b :: B) = crc (A ++ c :: B)) : b = c := by
 rw [Q46, Q46, Nat.xor_comm, Nat.xor_comm 4294967295] at h
 have h2 := Q3U h
 unfold sB at h2
 rw [List.foldl_append, List.foldl_append, List.foldl_cons, List.foldl_cons] at h2
 have hz := Q43 4294967295 A (by decide)
 exact Q42 hz (Q44 B (Q40 _ _ hz) (Q40 _ _ hz) h2)
abbrev Pr := ByteArray × ByteArray
def Q48 (p : Pr) : List Value := [.string p.1, .string p.2]
def Q49 (l : List Pr) : List Value := l.flatMap Q48
theorem Q4a (p : Pr) : (Q48 p).length = 2 := rfl
theorem Q4b (l : List Pr) : ∀ (i : Nat) (p : Pr), l[i]? = some p -> ∀ (j : Nat) (v : Value), (Q48 p)[j]? = some v -> (Q49 l)[i * 2 + j]? = some v := by
 induction l with
 | nil => intro i o h; simp at h
 | cons x r ih =>
  intro i o h j v hv
  have hj : j < 2 := by have := (List.getElem?_eq_some_iff.1 hv).1; rwa [Q4a] at this
  have e : Q49 (x :: r) = Q48 x ++ Q49 r := rfl
  rw [e]
  cases i with
  | zero =>
   simp at h; subst h
   rw [List.getElem?_append_left (by rw [Q4a]; omega)]
   simpa using hv
  | succ i =>
   rw [List.getElem?_append_right (by rw [Q4a]; omega), Q4a]
   have := ih i o (by simpa using h) j v hv
   rw [show (i + 1) * 2 + j - 2 = i * 2 + j by omega]
   exact this
theorem Q4c (l : List Pr) (p : Pr) : Q49 l ++ Q48 p = Q49 (l ++ [p]) := by simp [Q49]
def PL (w : World) (t : TypeId) (v : Value) (l : List Pr) : Prop := w.ownsRow 0 t 2 v l.length (Q49 l)
theorem PL.shape {w : World} {t : TypeId} {v : Value} {l : List Pr} (h : PL w t v l) : ∃ p cap, v = .slice p l.length cap := by
 obtain ⟨_, ⟨rfl, h0⟩ | ⟨g, cap, cur, rfl, _⟩⟩ := h
 ·exact ⟨none, 0, by rw [h0]⟩
 ·exact ⟨_, _, rfl⟩
theorem PL.at_ {w : World} {t : TypeId} {v : Value} {l : List Pr} (h : PL w t v l) (hl : 0 < l.length) : ∃ g cap cur, v = .slice (some ⟨g, 0, none⟩) l.length cap /\ w.heap[g]? = some (.cells cur t (0, 0)) /\
  (∀ (i : Nat) (p : Pr), l[i]? = some p -> cur[i * 2]? = some (.string p.1) /\ cur[i * 2 + 1]? = some (.string p.2)) := by
 obtain ⟨_, ⟨_, h0⟩ | ⟨g, cap, cur, e, _, hh, _, _, _, htk⟩⟩ := h
 ·omega
 refine ⟨g, cap, cur, e, hh, ?_⟩
 intro i p hi
 have hil : i < l.length := (List.getElem?_eq_some_iff.1 hi).1
 have h0 := Q4b l i p hi 0 _ rfl
 have h1 := Q4b l i p hi 1 _ rfl
 rw [<- htk, List.getElem?_take, if_pos (by omega)] at h0 h1
 exact ⟨by simpa using h0, by simpa using h1⟩
theorem PL.load {w : World} {t ty : TypeId} {g i : Nat} {cur : Array Value} {p : Pr} (fs : _) {P : Program} (hg : w.heap[g]? = some (.cells cur t (0, 0))) (hc : cur[i * 2]? = some (.string p.1) /\ cur[i * 2 + 1]? = some (.string p.2))
  (hu : P.underlying ty = some (.struct fs)) (hi : (P.info? ty).map (·.size) = some 2) :
  (loadVar ty ⟨g, i * 2, none⟩).run P w = .ok (.agg #[.string p.1, .string p.2]) w := by
 refine Q0r (P := P) w g (i * 2) t ty cur.toList [.string p.1, .string p.2] (0, 0) _ (by simpa using hg) hu rfl hi ?_
 intro j v hv
 rcases j with _ | _ | j
 ·simp at hv; subst hv; simpa using hc.1
 ·simp at hv; subst hv; simpa using hc.2
 ·simp at hv
theorem PL.kept {S : List Nat} {w w' : World} {t : TypeId} {v : Value} {l : List Pr} (h : PL w t v l) (k : Kept S w w') (hS : ∀ b, v.ownBlock = some b -> b ∉ S) : PL w' t v l := Q0T h k hS
theorem sap : (prog.info? 52).map (·.size) = some 2 := by kernel_rfl
def bl (a b : ByteArray) : Bool := Op.bytesLess a.toList b.toList
def be (a b : ByteArray) : Bool := a.toList == b.toList
theorem Q4d (s : ByteArray) : s.toList = s.data.toList := ByteArray.toList_eq s
theorem Q4e : ∀ (x y : List UInt8), Op.bytesLess x y = decide (x < y)
 | [], [] => by simp [Op.bytesLess]
 | _ :: _, [] => by simp [Op.bytesLess]
 | [], _ :: _ => by simp [Op.bytesLess]
 | a :: x, b :: y => by
  have ih := Q4e x y
  unfold Op.bytesLess
  rw [ih]
  by_cases h1 : a < b <;> by_cases h2 : a = b <;> by_cases h3 : x < y <;> simp [List.cons_lt_cons_iff, h1, h2, h3]
theorem Q4f (a b : ByteArray) : bl a b = decide (a.data.toList < b.data.toList) := by rw [bl, Q4e, Q4d, Q4d]
theorem Q4g (a b : ByteArray) : be a b = true ↔ a = b := by
 rw [be, Q4d, Q4d, beq_iff_eq]
 constructor
 ·intro h
  cases a; cases b
  simp only [ByteArray.mk.injEq]
  exact Array.toList_inj.1 h
 ·rintro rfl; rfl
theorem Q4h (a b : ByteArray) : be a b = false ↔ a ≠ b := by
 have := Q4g a b
 cases h : be a b <;> simp_all
theorem Q4i (a : ByteArray) : be a a = true := (Q4g a a).2 rfl
theorem Q4j (a : ByteArray) : bl a a = false := by rw [Q4f]; simp [List.lt_irrefl]
theorem Q4k {a b c : ByteArray} (h1 : bl a b = true) (h2 : bl b c = true) : bl a c = true := by
 rw [Q4f, decide_eq_true_eq] at *; exact List.lt_trans h1 h2
theorem Q4l (a b : ByteArray) : bl a b = true \/ a = b \/ bl b a = true := by
 simp only [Q4f, decide_eq_true_eq]
 rcases Decidable.em (a.data.toList < b.data.toList) with h | h
 ·exact Or.inl h
 rcases Decidable.em (b.data.toList < a.data.toList) with h' | h'
 ·exact Or.inr (Or.inr h')
 right; left
 have := List.le_antisymm (List.not_lt.1 h') (List.not_lt.1 h)
 cases a; cases b
 simp only [ByteArray.mk.injEq]
 exact Array.toList_inj.1 this
def Q4m (k v : ByteArray) : Bool -> List Pr -> List Pr
 | b, [] => if b then [] else [(k, v)]
 | b, p :: r => (if !b && !bl p.1 k then [(k, v)] else []) ++ (if be p.1 k then [] else [p]) ++ Q4m k v (b || !bl p.1 k) r
def Q4n (k v : ByteArray) (l : List Pr) : List Pr := Q4m k v false l
def Q4o (k : ByteArray) (l : List Pr) : List Pr := l.filter fun p => !be p.1 k
def getL (k : ByteArray) : List Pr -> Option ByteArray
 | [] => none
 | p :: r => if be p.1 k then some p.2 else getL k r
def inR (lo hi : ByteArray) (p : Pr) : Bool := !bl p.1 lo && bl p.1 hi
def Q4p (lo hi : ByteArray) (m : Nat) (l : List Pr) : List Pr := (l.filter (inR lo hi)).take m
end Go.Proofs.YtcklgafpgdhnaabGreatDoor
