import Derived.Test.YtcklgafpgdhnaabGreatDoorPtad
import Derived.Laws.AppendOwnNone
import Derived.Laws.ResultCell
set_option maxRecDepth 100000
set_option maxHeartbeats 4000000
open List renaming getElem_toArray → zA, getElem_cons_succ → zB, getElem_cons_zero → zC, setIfInBounds_toArray → zD, set_cons_succ → zE, set_cons_zero → zF
namespace Go.Proofs.YtcklgafpgdhnaabGreatDoor
open Go.RowKit

def leNum : List UInt8 → Nat
 | [] => 0
 | b :: r => b.toNat + 256 * leNum r
theorem leNum_snoc (l : List UInt8) (b : UInt8) : leNum (l ++ [b]) = leNum l + b.toNat * 2 ^ (8 * l.length) := by
 induction l with
 | nil => simp [leNum]
 | cons a r ih =>
  simp only [List.cons_append, leNum, ih, List.length_cons, Nat.mul_add, Nat.mul_one]
  rw [show 8 * r.length + 8 = 8 * r.length + 8 from rfl, Nat.pow_add]
  have : (2 : Nat) ^ 8 = 256 := rfl
  have e2 : 256 * (b.toNat * 2 ^ (8 * r.length)) = b.toNat * (2 ^ (8 * r.length) * 256) := by rw [Nat.mul_comm 256, Nat.mul_assoc]
  rw [this]
  omega
theorem leNum_lt (l : List UInt8) : leNum l < 2 ^ (8 * l.length) := by
 induction l with
 | nil => simp [leNum]
 | cons a r ih =>
  have ha := a.toNat_lt
  simp only [leNum, List.length_cons, Nat.mul_add, Nat.mul_one, Nat.pow_add]
  have : (2 : Nat) ^ 8 = 256 := rfl
  omega

theorem num_step (a b k : Nat) (ha : a < 2 ^ (8 * k)) (hb : b < 256) (hk : k < 8) :
  bits .or .u64 (a : Int) (IntKind.u64.wrap (IntKind.u64.wrap (b : Int) * 2 ^ (8 * k))) = ((a + b * 2 ^ (8 * k) : Nat) : Int) := by
 have h2 : b * 2 ^ (8 * k) < 2 ^ (8 * (k + 1)) := by rw [Nat.mul_add, Nat.pow_add]; have : (2 : Nat) ^ (8 * 1) = 256 := rfl; rw [this, Nat.mul_comm]; exact Nat.mul_lt_mul_of_pos_left hb (Nat.two_pow_pos _)
 have h3 : 2 ^ (8 * (k + 1)) ≤ 2 ^ 64 := Nat.pow_le_pow_right (by omega) (by omega)
 have h4 : 2 ^ (8 * k) ≤ 2 ^ 64 := Nat.pow_le_pow_right (by omega) (by omega)
 have e64 : (2 : Nat) ^ 64 = 18446744073709551616 := by decide
 rw [e64] at h3 h4
 have w1 : IntKind.u64.wrap (b : Int) = b := by rw [IntKind.wrap_u64]; omega
 have e1 : (b : Int) * 2 ^ (8 * k) = ((b * 2 ^ (8 * k) : Nat) : Int) := by simp
 have w2 : IntKind.u64.wrap ((b * 2 ^ (8 * k) : Nat) : Int) = ((b * 2 ^ (8 * k) : Nat) : Int) := by rw [IntKind.wrap_u64]; omega
 rw [w1, e1, w2, u64_or_nat a (b * 2 ^ (8 * k)) (by omega) (by omega), Nat.mul_comm b, Nat.or_comm, ← Nat.two_pow_add_eq_or_of_lt ha, Nat.add_comm]

theorem number_any (s off cap : Nat) (cs : Array Value) (L : List UInt8) (t' : TypeId) (fr : Nat × Nat) (w : World) (h : w.heap[s]? = some (.cells cs t' fr)) (hl : L.length ≤ 8)
  (hc : ∀ j (hj : j < L.length), cs[off + j]? = some (.int .u8 (L[j].toNat : Int))) :
  Calls Tryz.prog 120 #[.slice (some ⟨s, off, none⟩) L.length cap] w fun e w' => e = .returned (.int .u64 (leNum L)) ∧ w' = w := by
 go_enter Tryz.func120, Tryz.ntmps120
 go_wp2
 go_loop [3, 8] (fun v i => ∃ (k : Nat), k ≤ L.length ∧ i = .int .i64 k ∧ v = .int .u64 (leNum (L.take k))) (fun _ i => L.length - (intOf i).toNat)
 case atStart => exact ⟨0, Nat.zero_le _, rfl, rfl⟩
 case round =>
  obtain ⟨k, hk, rfl, rfl⟩ := hrel
  by_cases hlt : k < L.length
  ·have hcx : w.cell? ⟨s, off + k, none⟩ = some (.int .u8 (L[k].toNat : Int)) := cellAt h (hc k hlt)
   have hlen : (L.take k).length = k := by rw [List.length_take]; omega
   have hst : bits .or .u64 (leNum (L.take k) : Int) (IntKind.u64.wrap (IntKind.u64.wrap (L[k].toNat : Int) * 2 ^ (8 * k))) = (leNum (L.take (k + 1)) : Int) := by
    rw [num_step _ _ _ (by have := leNum_lt (L.take k); rwa [hlen] at this) L[k].toNat_lt (by omega), List.take_succ_eq_append_getElem hlt, leNum_snoc, hlen]
   have HS : Hid (bits .or .u64 (leNum (L.take k) : Int) (IntKind.u64.wrap (IntKind.u64.wrap (L[k].toNat : Int) * 2 ^ (8 * k))) = (leNum (L.take (k + 1)) : Int)) := hst
   clear hst hlen
   generalize leNum (L.take k) = z at *
   go_wp2
   go_round
   case rel => exact ⟨k + 1, by omega, by go_num, congrArg (Value.int .u64) HS.out⟩
   case measure => simp [intOf]; omega
  ·have hkl : k = L.length := by omega
   subst hkl
   rw [List.take_length]
   go_wp2
   go_ret
   exact ⟨rfl, rfl⟩

def byteOf (n i : Nat) : UInt8 := UInt8.ofNat (n / 2 ^ (8 * i) % 256)
theorem byteOf_val (n i : Nat) : ((n : Int) / 2 ^ (8 * i) % 256) = ((byteOf n i).toNat : Int) := by
 have h : (byteOf n i).toNat = n / 2 ^ (8 * i) % 256 := by
  unfold byteOf
  rw [UInt8.toNat_ofNat']
  exact Nat.mod_eq_of_lt (by have : (2 : Nat) ^ 8 = 256 := rfl; omega)
 rw [h]; simp
def bytesOf (n len : Nat) : List UInt8 := (List.range len).map (byteOf n)
theorem leNum_bytesOf (n len : Nat) : leNum (bytesOf n len) = n % 2 ^ (8 * len) := by
 induction len with
 | zero => simp [bytesOf, leNum, Nat.mod_one]
 | succ k ih =>
  have e : bytesOf n (k + 1) = bytesOf n k ++ [byteOf n k] := by simp [bytesOf, List.range_succ]
  have hl : (bytesOf n k).length = k := by simp [bytesOf]
  rw [e, leNum_snoc, ih, hl]
  have hb : (byteOf n k).toNat = n / 2 ^ (8 * k) % 256 := by
   unfold byteOf
   rw [UInt8.toNat_ofNat']
   exact Nat.mod_eq_of_lt (by have : (2 : Nat) ^ 8 = 256 := rfl; omega)
  rw [hb, Nat.mul_add, Nat.pow_add, Nat.mod_mul, Nat.mul_comm (2 ^ (8 * k))]

theorem put_any (s off len cap : Nat) (cs : List UInt8) (n : Nat) (t' : TypeId) (w : World) (h : w.heap[s]? = some (.cells (u8s cs).toArray t' (0, 0))) (hl : len ≤ 8) (hfit : off + len ≤ cs.length) (_h1 : (n : Int) < 18446744073709551616) :
  Calls Tryz.prog 117 #[.slice (some ⟨s, off, none⟩) len cap, .int .u64 n] w fun e w' => e = .returned (.tuple #[]) ∧
   w'.heap[s]? = some (.cells (u8s (splice cs off (bytesOf n len))).toArray t' (0, 0)) ∧ Kept [s] w w' := by
 go_enter Tryz.func117, Tryz.ntmps117
 go_wp2
 go_loopw [7] (fun i wr => ∃ (k : Nat), k ≤ len ∧ i = .int .i64 k ∧ wr.heap[s]? = some (.cells (u8s (splice cs off (bytesOf n k))).toArray t' (0, 0)) ∧ Kept [s] w wr) (fun i _ => len - (intOf i).toNat)
 case atStart => exact ⟨0, Nat.zero_le _, rfl, by simpa [bytesOf, splice] using h, Kept.refl _ _⟩
 case round =>
  obtain ⟨k, hk, rfl, hc2, hkr⟩ := hrel
  by_cases hlt : k < len
  ·have hbl : (bytesOf n k).length = k := by simp [bytesOf]
   have hsl : (splice cs off (bytesOf n k)).length = cs.length := length_splice _ _ _ (by omega)
   obtain ⟨old, hold⟩ : ∃ old, wr.cell? ⟨s, off + k, none⟩ = some old := ⟨_, cellAt hc2 (Array.getElem?_eq_getElem (by simp only [List.size_toArray, length_u8s]; omega))⟩
   have hf : wr.frozen? ⟨s, off + k, none⟩ = false := frozen_of_row _ _ _ _ _ hc2
   have hset : (splice cs off (bytesOf n k)).set (off + k) (byteOf n k) = splice cs off (bytesOf n (k + 1)) := by
    have e : bytesOf n (k + 1) = bytesOf n k ++ [byteOf n k] := by simp [bytesOf, List.range_succ]
    have h0 : off + k < cs.length := by omega
    rw [e, splice, splice, List.length_append, hbl]
    rw [List.set_append_right _ _ (by simp; omega), List.set_append_right _ _ (by simp; omega)]
    have e2 : off + k - (List.take off cs).length - (bytesOf n k).length = 0 := by rw [List.length_take, hbl]; omega
    rw [e2, List.drop_eq_getElem_cons h0, zF]
    simp [Nat.add_assoc]
   have H1 := setCellAt (i := off + k) (.int .u8 ((byteOf n k).toNat : Int)) hc2
   rw [u8s_set, hset] at H1
   have H2 : Kept [s] w (wr.setCell ⟨s, off + k, none⟩ (.int .u8 ((byteOf n k).toNat : Int))) := hkr.setCell (Or.inl (by simp)) _
   have HB : Hid ((n : Int) / 2 ^ (8 * k) % 256 = ((byteOf n k).toNat : Int)) := byteOf_val n k
   clear hset hsl hbl hc2 hkr
   go_wp2
   go_roundw
   case rel => rw [HB.out]; exact ⟨k + 1, by omega, by go_num, H1, H2⟩
   case measure => simp [intOf]; omega
  ·have hkl : k = len := by omega
   subst hkl
   go_wp2
   go_end0
   exact ⟨rfl, hc2, hkr⟩

end Go.Proofs.YtcklgafpgdhnaabGreatDoor

namespace Go.Proofs.YtcklgafpgdhnaabGreatDoor
open Go.RowKit

def bstep (y : Int) : Int := bits .xor .u32 (y / 2) (bits .and .u32 3988292384 (-bits .and .u32 y 1 % 4294967296))
def bsteps : Nat → Int → Int
 | 0, y => y
 | n + 1, y => bstep (bsteps n y)
def cstep (z : Int) (b : UInt8) : Int := bsteps 8 (bits .xor .u32 z ((b.toNat : Int) % 4294967296))
def csum (L : List UInt8) : Int := L.foldl cstep 4294967295
theorem csum_snoc (L : List UInt8) (b : UInt8) : csum (L ++ [b]) = cstep (csum L) b := by simp [csum]

def crc (L : List UInt8) : Nat := (bits .xor .u32 IntKind.u32.max (csum L)).toNat
theorem crc_val (L : List UInt8) : bits .xor .u32 IntKind.u32.max (csum L) = (crc L : Int) ∧ crc L < 4294967296 := by
 have h : 0 ≤ bits .xor .u32 IntKind.u32.max (csum L) ∧ bits .xor .u32 IntKind.u32.max (csum L) < 4294967296 := by
  unfold bits
  simp only [IntKind.wrap_u32]
  omega
 unfold crc
 omega

theorem sum_any (s off cap : Nat) (cs : Array Value) (L : List UInt8) (t' : TypeId) (fr : Nat × Nat) (w : World) (h : w.heap[s]? = some (.cells cs t' fr)) (hl : L.length ≤ 1000)
  (hc : ∀ j (hj : j < L.length), cs[off + j]? = some (.int .u8 (L[j].toNat : Int))) :
  Calls Tryz.prog 128 #[.slice (some ⟨s, off, none⟩) L.length cap] w fun e w' => e = .returned (.int .u32 (crc L)) ∧ w' = w := by
 go_enter Tryz.func128, Tryz.ntmps128
 go_wp2
 go_loop [3, 8] (fun v i => ∃ (k : Nat), k ≤ L.length ∧ i = .int .i64 k ∧ v = .int .u32 (csum (L.take k))) (fun _ i => L.length - (intOf i).toNat)
 case atStart => exact ⟨0, Nat.zero_le _, rfl, rfl⟩
 case round =>
  obtain ⟨k, hk, rfl, rfl⟩ := hrel
  by_cases hlt : k < L.length
  ·have hcx : w.cell? ⟨s, off + k, none⟩ = some (.int .u8 (L[k].toNat : Int)) := cellAt h (hc k hlt)
   have HS : Hid (bsteps 8 (bits .xor .u32 (csum (L.take k)) ((L[k].toNat : Int) % 4294967296)) = csum (L.take (k + 1))) := by
    show _ = _
    rw [List.take_succ_eq_append_getElem hlt, csum_snoc]; rfl
   generalize csum (L.take k) = z at *
   go_wp2
   go_loop [3, 16] (fun v i => ∃ (j : Nat), j ≤ 8 ∧ i = .int .i64 j ∧ v = .int .u32 (bsteps j (bits .xor .u32 z ((L[k].toNat : Int) % 4294967296)))) (fun _ i => 8 - (intOf i).toNat)
   case atStart => exact ⟨0, by omega, rfl, rfl⟩
   case round =>
    obtain ⟨j, hj, rfl, rfl⟩ := hrel
    by_cases hj8 : j < 8
    ·have HB : Hid (bits .xor .u32 (bsteps j (bits .xor .u32 z ((L[k].toNat : Int) % 4294967296)) / 2) (bits .and .u32 3988292384 (-bits .and .u32 (bsteps j (bits .xor .u32 z ((L[k].toNat : Int) % 4294967296))) 1 % 4294967296)) = bsteps (j + 1) (bits .xor .u32 z ((L[k].toNat : Int) % 4294967296))) := rfl
     generalize bsteps j (bits .xor .u32 z ((L[k].toNat : Int) % 4294967296)) = y at *
     go_wp2
     go_round
     case rel => exact ⟨j + 1, by omega, by go_num, congrArg (Value.int .u32) HB.out⟩
     case measure => simp [intOf]; omega
    ·have hj' : j = 8 := by omega
     subst hj'
     go_wp2
     go_round
     case rel => exact ⟨k + 1, by omega, by go_num, congrArg (Value.int .u32) HS.out⟩
     case measure => simp [intOf]; omega
  ·have hkl : k = L.length := by omega
   subst hkl
   rw [List.take_length]
   have HC : Hid (bits .xor .u32 IntKind.u32.max (csum L) = (crc L : Int)) := (crc_val L).1
   generalize csum L = z at *
   go_wp2
   go_ret
   exact ⟨ret_int HC.out, rfl⟩

def hc (t r : Nat) : Array Value := #[.int .u64 t, .int .i64 r]
def u64n : Nat := 18446744073709551616
def nxt (t : Nat) : Nat := (t + 1) % 18446744073709551616
def nwr (t u : Nat) : Bool := decide (0 < wrap64 (IntKind.u64.wrap ((t : Int) - u)))
theorem hblock_any (t r : Nat) (w : World) : Calls Tryz.prog 96 #[.agg #[.int .u64 t, .int .i64 r]] w fun e w' => e = .returned (.int .i64 (t % 2 : Nat)) ∧ Kept [] w w' := by
 go_enter Tryz.func96, Tryz.ntmps96
 go_wp2
 go_ret
 exact ⟨ret_int (by omega), (Kept.refl _ _).alloc _⟩

theorem HRoot_any (t r : Nat) (w : World) : Calls Tryz.prog 72 #[.agg #[.int .u64 t, .int .i64 r]] w fun e w' => e = .returned (.int .i64 r) ∧ Kept [] w w' := by
 go_enter Tryz.func72, Tryz.ntmps72
 go_wp2
 go_ret
 exact ⟨rfl, (Kept.refl _ _).alloc _⟩

theorem Next_any (t r x : Nat) (w : World) : Calls Tryz.prog 66 #[.agg #[.int .u64 t, .int .i64 r], .int .i64 x] w fun e w' => e = .returned (.agg #[.int .u64 (nxt t), .int .i64 x]) ∧ Kept [] w w' := by
 go_enter Tryz.func66, Tryz.ntmps66
 go_wp2
 go_returns
 refine ⟨?_, ((Kept.refl _ _).alloc _).alloc _⟩
 simp [nxt, IntKind.wrap_u64]

theorem newer_any (t r u q : Nat) (w : World) : Calls Tryz.prog 99 #[.agg #[.int .u64 t, .int .i64 r], .agg #[.int .u64 u, .int .i64 q]] w fun e w' => e = .returned (.bool (nwr t u)) ∧ Kept [] w w' := by
 have HN : Hid (nwr t u = decide (0 < wrap64 (IntKind.u64.wrap ((t : Int) - u)))) := rfl
 go_enter Tryz.func99, Tryz.ntmps99
 go_wp2
 go_ret
 exact ⟨congrArg (fun b => Ending.returned (.bool b)) HN.out.symm, ((Kept.refl _ _).alloc _).alloc _⟩

end Go.Proofs.YtcklgafpgdhnaabGreatDoor

namespace Go.Proofs.YtcklgafpgdhnaabGreatDoor
open Go.RowKit

theorem bits_x32 (x y : Int) : bits .xor .u32 x y = ((BitVec.ofInt 32 x ^^^ BitVec.ofInt 32 y).toNat : Int) := by
 have := (BitVec.ofInt 32 x ^^^ BitVec.ofInt 32 y).isLt
 unfold bits
 simp only [IntKind.wrap_u32]
 show (((BitVec.ofInt 32 x ^^^ BitVec.ofInt 32 y).toNat : Nat) : Int) % 4294967296 = _
 omega
theorem bits_a32 (x y : Int) : bits .and .u32 x y = ((BitVec.ofInt 32 x &&& BitVec.ofInt 32 y).toNat : Int) := by
 have := (BitVec.ofInt 32 x &&& BitVec.ofInt 32 y).isLt
 unfold bits
 simp only [IntKind.wrap_u32]
 show (((BitVec.ofInt 32 x &&& BitVec.ofInt 32 y).toNat : Nat) : Int) % 4294967296 = _
 omega
def bB (z : Nat) : Nat := if z % 2 = 1 then (z / 2) ^^^ 3988292384 else z / 2
theorem ofInt_nat (a : Nat) (h : a < 4294967296) : (BitVec.ofInt 32 (a : Int)).toNat = a := by
 simp only [BitVec.toNat_ofInt]
 omega
theorem bstep_nat (z : Nat) (h : z < 4294967296) : bstep (z : Int) = (bB z : Int) := by
 have e1 : bits .and .u32 (z : Int) 1 = ((z % 2 : Nat) : Int) := by
  rw [bits_a32, BitVec.toNat_and, ofInt_nat z h, show (BitVec.ofInt 32 1).toNat = 1 from rfl, Nat.and_one_is_mod]
 unfold bstep bB
 rw [e1]
 rcases Nat.mod_two_eq_zero_or_one z with h0 | h0
 ·rw [h0, if_neg (by decide), bits_a32, show (BitVec.ofInt 32 3988292384 &&& BitVec.ofInt 32 (-((0 : Nat) : Int) % 4294967296)).toNat = 0 from by decide, bits_x32, BitVec.toNat_xor,
   show (z : Int) / 2 = ((z / 2 : Nat) : Int) by omega, ofInt_nat _ (by omega)]
  simp
 ·rw [h0, if_pos rfl, bits_a32, show (BitVec.ofInt 32 3988292384 &&& BitVec.ofInt 32 (-((1 : Nat) : Int) % 4294967296)).toNat = 3988292384 from by decide, bits_x32, BitVec.toNat_xor,
   show (z : Int) / 2 = ((z / 2 : Nat) : Int) by omega, ofInt_nat _ (by omega), ofInt_nat _ (by omega)]
theorem bB_lt (z : Nat) (h : z < 4294967296) : bB z < 4294967296 := by
 unfold bB
 split
 ·exact Nat.xor_lt_two_pow (n := 32) (by omega) (by omega)
 ·omega
theorem xor_can {a b c : Nat} (h : a ^^^ c = b ^^^ c) : a = b := by
 have := congrArg (· ^^^ c) h
 simpa [Nat.xor_assoc] using this
theorem bB_inj {x y : Nat} (hx : x < 4294967296) (hy : y < 4294967296) (h : bB x = bB y) : x = y := by
 unfold bB at h
 have key : ∀ a b : Nat, a < 2147483648 → b < 2147483648 → a ^^^ 3988292384 ≠ b := by
  intro a b ha hb e
  have e2 : 3988292384 = a ^^^ b := by rw [← e, ← Nat.xor_assoc, Nat.xor_self, Nat.zero_xor]
  have := Nat.xor_lt_two_pow (n := 31) (x := a) (y := b) (by omega) (by omega)
  omega
 split at h <;> split at h
 ·have := xor_can h; omega
 ·exact absurd h (key _ _ (by omega) (by omega))
 ·exact absurd h.symm (key _ _ (by omega) (by omega))
 ·omega
def bBs : Nat → Nat → Nat
 | 0, y => y
 | n + 1, y => bB (bBs n y)
theorem bBs_lt (n z : Nat) (h : z < 4294967296) : bBs n z < 4294967296 := by
 induction n with
 | zero => exact h
 | succ n ih => exact bB_lt _ ih
theorem bBs_inj (n : Nat) {x y : Nat} (hx : x < 4294967296) (hy : y < 4294967296) (h : bBs n x = bBs n y) : x = y := by
 induction n with
 | zero => exact h
 | succ n ih => exact ih (bB_inj (bBs_lt n x hx) (bBs_lt n y hy) h)
theorem bsteps_nat (n z : Nat) (h : z < 4294967296) : bsteps n (z : Int) = (bBs n z : Int) := by
 induction n with
 | zero => rfl
 | succ n ih => rw [bsteps, ih, bstep_nat _ (bBs_lt n z h)]; rfl
def cB (z : Nat) (b : UInt8) : Nat := bBs 8 (z ^^^ b.toNat)
theorem cstep_nat (z : Nat) (b : UInt8) (h : z < 4294967296) : cstep (z : Int) b = (cB z b : Int) := by
 have hb := b.toNat_lt
 unfold cstep cB
 rw [show (b.toNat : Int) % 4294967296 = ((b.toNat : Nat) : Int) by omega, bits_x32, BitVec.toNat_xor, ofInt_nat _ h, ofInt_nat _ (by omega), bsteps_nat _ _ (Nat.xor_lt_two_pow (n := 32) (by omega) (by omega))]
theorem cB_lt (z : Nat) (b : UInt8) (h : z < 4294967296) : cB z b < 4294967296 := bBs_lt _ _ (Nat.xor_lt_two_pow (n := 32) (by omega) (by have := b.toNat_lt; omega))
theorem cB_inj {x y : Nat} {b : UInt8} (hx : x < 4294967296) (hy : y < 4294967296) (h : cB x b = cB y b) : x = y :=
 xor_can (bBs_inj 8 (Nat.xor_lt_two_pow (n := 32) (by omega) (by have := b.toNat_lt; omega)) (Nat.xor_lt_two_pow (n := 32) (by omega) (by have := b.toNat_lt; omega)) h)
theorem cB_byte {x : Nat} {b c : UInt8} (hx : x < 4294967296) (h : cB x b = cB x c) : b = c := by
 have := bBs_inj 8 (Nat.xor_lt_two_pow (n := 32) (by omega) (by have := b.toNat_lt; omega)) (Nat.xor_lt_two_pow (n := 32) (by omega) (by have := c.toNat_lt; omega)) h
 rw [Nat.xor_comm x, Nat.xor_comm x] at this
 exact UInt8.toNat_inj.1 (xor_can this)
def sB (z : Nat) (L : List UInt8) : Nat := L.foldl cB z
theorem sB_lt (z : Nat) (L : List UInt8) (h : z < 4294967296) : sB z L < 4294967296 := by
 induction L generalizing z with
 | nil => exact h
 | cons b r ih => exact ih _ (cB_lt z b h)
theorem sB_inj {x y : Nat} (L : List UInt8) (hx : x < 4294967296) (hy : y < 4294967296) (h : sB x L = sB y L) : x = y := by
 induction L generalizing x y with
 | nil => exact h
 | cons b r ih => exact cB_inj hx hy (ih (cB_lt x b hx) (cB_lt y b hy) h)
theorem csum_nat (L : List UInt8) : csum L = (sB 4294967295 L : Int) := by
 have : ∀ (z : Nat), z < 4294967296 → L.foldl cstep (z : Int) = (sB z L : Int) := by
  intro z hz
  induction L generalizing z with
  | nil => rfl
  | cons b r ih => rw [List.foldl_cons, cstep_nat z b hz, ih _ (cB_lt z b hz)]; rfl
 exact this 4294967295 (by decide)
theorem crc_nat (L : List UInt8) : crc L = 4294967295 ^^^ sB 4294967295 L := by
 unfold crc
 rw [csum_nat, bits_x32, BitVec.toNat_xor, show (BitVec.ofInt 32 IntKind.u32.max).toNat = 4294967295 from by decide, ofInt_nat _ (sB_lt _ _ (by decide))]
 rfl
theorem crc_byte (A : List UInt8) (b c : UInt8) (B : List UInt8) (h : crc (A ++ b :: B) = crc (A ++ c :: B)) : b = c := by
 rw [crc_nat, crc_nat, Nat.xor_comm, Nat.xor_comm 4294967295] at h
 have h2 := xor_can h
 unfold sB at h2
 rw [List.foldl_append, List.foldl_append, List.foldl_cons, List.foldl_cons] at h2
 have hz := sB_lt 4294967295 A (by decide)
 exact cB_byte hz (sB_inj B (cB_lt _ _ hz) (cB_lt _ _ hz) h2)

end Go.Proofs.YtcklgafpgdhnaabGreatDoor

namespace Go.Proofs.YtcklgafpgdhnaabGreatDoor
open Go.RowKit

def rcells (n : Int) (may : Value) (e : Bool) (were : Value) (wd b : Bool) : Array Value := #[.int .i64 n, may, .bool e, were, .bool wd, .bool b]
def nilMaps (k : Nat) : List Value := List.replicate k (.slice none 0 0)
theorem one_nilMaps (k : Nat) : ∀ u ∈ nilMaps k, u.oneCell' = true := by intro u hu; rw [List.eq_of_mem_replicate hu]; rfl
end Go.Proofs.YtcklgafpgdhnaabGreatDoor

namespace Go.Proofs.YtcklgafpgdhnaabGreatDoor
open Go.RowKit

theorem owns_sl {w : World} {base e size n : Nat} {v : Value} {xs : List Value} (h : w.ownsRow base e size v n xs) : ∃ p l q, v = .slice p l q := by
 obtain ⟨p, q, e⟩ := owns_slice h
 exact ⟨p, _, q, e⟩
theorem nilMaps_add (m k : Nat) : nilMaps m ++ nilMaps k = nilMaps (m + k) := by simp [nilMaps]

theorem all_rcells (n : Int) (p1 p2 : Option Addr) (l1 q1 l2 q2 : Nat) (e wd b : Bool) : (rcells n (.slice p1 l1 q1) e (.slice p2 l2 q2) wd b).all (·.oneCell') = true := by
 have h1 : ∀ p l q, (Value.slice p l q).oneCell' = true := fun _ _ _ => rfl
 have h2 : ∀ x, (Value.bool x).oneCell' = true := fun _ => rfl
 have h3 : ∀ k x, (Value.int k x).oneCell' = true := fun _ _ => rfl
 simp [rcells, h1, h2, h3]

end Go.Proofs.YtcklgafpgdhnaabGreatDoor

namespace Go.Proofs.YtcklgafpgdhnaabGreatDoor
open Go.RowKit

end Go.Proofs.YtcklgafpgdhnaabGreatDoor

namespace Go.Proofs.YtcklgafpgdhnaabGreatDoor
open Go.RowKit

end Go.Proofs.YtcklgafpgdhnaabGreatDoor
