import Derived.Test.YtcklgafpgdhnaaaGreatDoorPtaa
import Derived.Lib.Strings
import Derived.Lib.BufferWrite
import Derived.Lib.UnsafeStr
import Derived.Laws.MakeOwn
import Derived.Test.YtcklgafpgdhnaaaGreatDoorPtae
set_option maxRecDepth 100000
set_option maxHeartbeats 4000000
open List renaming getElem_toArray → zA, getElem_cons_succ → zB, getElem_cons_zero → zC, setIfInBounds_toArray → zD, set_cons_succ → zE, set_cons_zero → zF
namespace Go.Proofs.YtcklgafpgdhnaaaGreatDoor
open Go.RowKit

theorem itu8 : (Tryz.prog.info? 5).map (fun i => (i.zero, i.size, i.bytes)) = some (some (Value.int .u8 0), 1, 1) := by kernel_rfl

theorem SLClone_any (s : ByteArray) (w : World) (hs : s.size ≤ 1000000) : Calls Tryz.prog 71 #[.string s] w fun e w' => e = .returned (.string s) ∧ Kept [] w w' := by
 by_cases h0 : s.size = 0
 ·obtain rfl : s = ⟨#[]⟩ := ByteArray.ext (Array.eq_empty_of_size_eq_zero h0)
  go_enter Tryz.func71, Tryz.ntmps71
  go_wp2
  go_ret
  exact ⟨rfl, Kept.refl _ _⟩
 ·obtain ⟨iu, hiu, hz0, hz1, hz2⟩ := info_parts itu8
  have h1 : (Tryz.prog.info? 5).map (·.size) = some 1 := by rw [hiu]; simp [hz1]
  have hcells : Tryz.prog.cellsOf 5 = 1 := by simp [Program.cellsOf, hiu, hz1]
  obtain ⟨new, hnew⟩ : ∃ new, new = madeCells (Value.int .u8 0).cells (((s.size : Nat) : Int).toNat * iu.size) := ⟨_, rfl⟩
  have hns : new.size = s.size := by rw [hnew, size_madeCells, hz1]; simp
  have hmake : ∀ W : World, (Instr.makeSlice 60 (.int .i64 (s.size : Int)) (.int .i64 (s.size : Int))).run Tryz.prog W = .ok (.slice (some ⟨W.heap.size, 0, none⟩) s.size s.size) (W.alloc (.cells new 5)) := by
   intro W
   have := run_make (P := Tryz.prog) W 60 5 iu (.int .u8 0) Tryz.underlying60 hiu hz0 .i64 .i64 (s.size : Int) (s.size : Int) (by omega) (by omega) (by rw [hz2]; omega) (by omega)
   rw [← hnew] at this
   simpa using this
  clear hnew
  obtain ⟨w1, ew1⟩ : ∃ w1, w1 = w.alloc (.cells new 5) := ⟨_, rfl⟩
  have hrow1 : w1.heap[w.heap.size]? = some (.cells new 5 (0, 0)) := by rw [ew1]; exact heap_alloc_new w _
  have hcopy := Lib.run_copy_row_string (P := Tryz.prog) w1 60 9 3 5 w.heap.size 0 s.size s.size s new 5 Tryz.underlying60 h1 hrow1 (Nat.le_refl _) (by omega)
  obtain ⟨full, hfull⟩ : ∃ full, full = (new.toList.take 0 ++ Lib.byteCells s.data.toList ++ new.toList.drop (0 + s.size)).toArray := ⟨_, rfl⟩
  rw [← hfull] at hcopy
  have hfl : full.toList = Lib.byteCells s.data.toList := by
   rw [hfull, List.toList_toArray, List.take_zero, List.nil_append, List.drop_of_length_le (by rw [Array.length_toList]; omega), List.append_nil]
  have hfs : full.size = s.size := by rw [← Array.length_toList, hfl, Lib.byteCells_length, ← Lib.size_eq]
  have hrow2 : (w1.setRow w.heap.size full).heap[w.heap.size]? = some (.cells full 5 (0, 0)) := setRow_heap _ _ new _ 5 (0, 0) hrow1
  have hne : s.data.toList ≠ [] := fun e => h0 (by rw [Lib.size_eq, e]; rfl)
  have hstr := Lib.run_unsafeString_row (P := Tryz.prog) (w1.setRow w.heap.size full) 164 3 9 5 Tryz.underlying164 hcells w.heap.size full.size (by unfold World.shape?; rw [hrow2]) s.data.toList hne (by rw [← Lib.size_eq]; omega) (by rw [← Lib.size_eq]; omega)
   (fun j x hx => Lib.cells_of_row hrow2 full.size j _ (by rw [List.take_of_length_le (by rw [Array.length_toList]; exact Nat.le_refl _), hfl]; simp [Lib.byteCells, hx]))
  rw [← Lib.size_eq] at hstr
  have k1 : Kept [] w (w1.setRow w.heap.size full) := by rw [ew1]; exact ((Kept.refl [] w).alloc _).setRow (Or.inr (Nat.le_refl _)) _
  have K1 : Hid _ := k1.below
  subst ew1
  clear hfull k1
  go_enter Tryz.func71, Tryz.ntmps71
  go_wp2
  go_ret
  exact ⟨rfl, Kept.of_below (Lib.below_freeze K1.out (p := ⟨w.heap.size, 0, none⟩) (Nat.le_refl _) _)⟩

theorem SClone_any (s : ByteArray) (w : World) (hs : s.size ≤ 1000000) : Calls Tryz.prog 47 #[.string s] w fun e w' => e = .returned (.string s) ∧ Kept [] w w' := by
 have HC : Hid (Calls _ _ _ _ _) := SLClone_any s w hs
 go_enter Tryz.func47, Tryz.ntmps47
 go_wp2_with (first | (go_at_call 71; refine HC.out.mono ?_; rintro e w1 ⟨rfl, hk1⟩))
 go_ret
 exact ⟨rfl, hk1⟩

end Go.Proofs.YtcklgafpgdhnaaaGreatDoor

namespace Go.Proofs.YtcklgafpgdhnaaaGreatDoor
open Go.RowKit

def leNum : List UInt8 → Nat
 | [] => 0
 | b :: r => b.toNat + 256 * leNum r
theorem leNum_snoc (l : List UInt8) (b : UInt8) : leNum (l ++ [b]) = leNum l + b.toNat * 2 ^ (8 * l.length) := by
 induction l with
 | nil => simp [leNum]
 | cons a r ih =>
  simp only [List.cons_append, leNum, ih, List.length_cons, Nat.mul_add, Nat.mul_one]
  rw [show 8 * r.length + 8 = 8 * r.length + 8 from rfl, Nat.pow_add]
  have : (2 : Nat) ^ 8 = 256 := rfl
  have e2 : 256 * (b.toNat * 2 ^ (8 * r.length)) = b.toNat * (2 ^ (8 * r.length) * 256) := by rw [Nat.mul_comm 256, Nat.mul_assoc]
  rw [this]
  omega
theorem leNum_lt (l : List UInt8) : leNum l < 2 ^ (8 * l.length) := by
 induction l with
 | nil => simp [leNum]
 | cons a r ih =>
  have ha := a.toNat_lt
  simp only [leNum, List.length_cons, Nat.mul_add, Nat.mul_one, Nat.pow_add]
  have : (2 : Nat) ^ 8 = 256 := rfl
  omega

theorem num_step (a b k : Nat) (ha : a < 2 ^ (8 * k)) (hb : b < 256) (hk : k < 8) :
  bits .or .u64 (a : Int) (IntKind.u64.wrap (IntKind.u64.wrap (b : Int) * 2 ^ (8 * k))) = ((a + b * 2 ^ (8 * k) : Nat) : Int) := by
 have h2 : b * 2 ^ (8 * k) < 2 ^ (8 * (k + 1)) := by rw [Nat.mul_add, Nat.pow_add]; have : (2 : Nat) ^ (8 * 1) = 256 := rfl; rw [this, Nat.mul_comm]; exact Nat.mul_lt_mul_of_pos_left hb (Nat.two_pow_pos _)
 have h3 : 2 ^ (8 * (k + 1)) ≤ 2 ^ 64 := Nat.pow_le_pow_right (by omega) (by omega)
 have h4 : 2 ^ (8 * k) ≤ 2 ^ 64 := Nat.pow_le_pow_right (by omega) (by omega)
 have e64 : (2 : Nat) ^ 64 = 18446744073709551616 := by decide
 rw [e64] at h3 h4
 have w1 : IntKind.u64.wrap (b : Int) = b := by rw [IntKind.wrap_u64]; omega
 have e1 : (b : Int) * 2 ^ (8 * k) = ((b * 2 ^ (8 * k) : Nat) : Int) := by simp
 have w2 : IntKind.u64.wrap ((b * 2 ^ (8 * k) : Nat) : Int) = ((b * 2 ^ (8 * k) : Nat) : Int) := by rw [IntKind.wrap_u64]; omega
 rw [w1, e1, w2, u64_or_nat a (b * 2 ^ (8 * k)) (by omega) (by omega), Nat.mul_comm b, Nat.or_comm, ← Nat.two_pow_add_eq_or_of_lt ha, Nat.add_comm]

theorem number_any (s off cap : Nat) (cs : Array Value) (L : List UInt8) (t' : TypeId) (fr : Nat × Nat) (w : World) (h : w.heap[s]? = some (.cells cs t' fr)) (hl : L.length ≤ 8)
  (hc : ∀ j (hj : j < L.length), cs[off + j]? = some (.int .u8 (L[j].toNat : Int))) :
  Calls Tryz.prog 154 #[.slice (some ⟨s, off, none⟩) L.length cap] w fun e w' => e = .returned (.int .u64 (leNum L)) ∧ w' = w := by
 go_enter Tryz.func154, Tryz.ntmps154
 go_wp2
 go_loop [3, 8] (fun v i => ∃ (k : Nat), k ≤ L.length ∧ i = .int .i64 k ∧ v = .int .u64 (leNum (L.take k))) (fun _ i => L.length - (intOf i).toNat)
 case atStart => exact ⟨0, Nat.zero_le _, rfl, rfl⟩
 case round =>
  obtain ⟨k, hk, rfl, rfl⟩ := hrel
  by_cases hlt : k < L.length
  ·have hcx : w.cell? ⟨s, off + k, none⟩ = some (.int .u8 (L[k].toNat : Int)) := cellAt h (hc k hlt)
   have hlen : (L.take k).length = k := by rw [List.length_take]; omega
   have hst : bits .or .u64 (leNum (L.take k) : Int) (IntKind.u64.wrap (IntKind.u64.wrap (L[k].toNat : Int) * 2 ^ (8 * k))) = (leNum (L.take (k + 1)) : Int) := by
    rw [num_step _ _ _ (by have := leNum_lt (L.take k); rwa [hlen] at this) L[k].toNat_lt (by omega), List.take_succ_eq_append_getElem hlt, leNum_snoc, hlen]
   have HS : Hid (bits .or .u64 (leNum (L.take k) : Int) (IntKind.u64.wrap (IntKind.u64.wrap (L[k].toNat : Int) * 2 ^ (8 * k))) = (leNum (L.take (k + 1)) : Int)) := hst
   clear hst hlen
   generalize leNum (L.take k) = z at *
   go_wp2
   go_round
   case rel => exact ⟨k + 1, by omega, by go_num, congrArg (Value.int .u64) HS.out⟩
   case measure => simp [intOf]; omega
  ·have hkl : k = L.length := by omega
   subst hkl
   rw [List.take_length]
   go_wp2
   go_ret
   exact ⟨rfl, rfl⟩

def byteOf (n i : Nat) : UInt8 := UInt8.ofNat (n / 2 ^ (8 * i) % 256)
theorem byteOf_val (n i : Nat) : ((n : Int) / 2 ^ (8 * i) % 256) = ((byteOf n i).toNat : Int) := by
 have h : (byteOf n i).toNat = n / 2 ^ (8 * i) % 256 := by
  unfold byteOf
  rw [UInt8.toNat_ofNat']
  exact Nat.mod_eq_of_lt (by have : (2 : Nat) ^ 8 = 256 := rfl; omega)
 rw [h]; simp
def bytesOf (n len : Nat) : List UInt8 := (List.range len).map (byteOf n)
theorem leNum_bytesOf (n len : Nat) : leNum (bytesOf n len) = n % 2 ^ (8 * len) := by
 induction len with
 | zero => simp [bytesOf, leNum, Nat.mod_one]
 | succ k ih =>
  have e : bytesOf n (k + 1) = bytesOf n k ++ [byteOf n k] := by simp [bytesOf, List.range_succ]
  have hl : (bytesOf n k).length = k := by simp [bytesOf]
  rw [e, leNum_snoc, ih, hl]
  have hb : (byteOf n k).toNat = n / 2 ^ (8 * k) % 256 := by
   unfold byteOf
   rw [UInt8.toNat_ofNat']
   exact Nat.mod_eq_of_lt (by have : (2 : Nat) ^ 8 = 256 := rfl; omega)
  rw [hb, Nat.mul_add, Nat.pow_add, Nat.mod_mul, Nat.mul_comm (2 ^ (8 * k))]

theorem put_any (s off len cap : Nat) (cs : List UInt8) (n : Nat) (t' : TypeId) (w : World) (h : w.heap[s]? = some (.cells (u8s cs).toArray t' (0, 0))) (hl : len ≤ 8) (hfit : off + len ≤ cs.length) (_h1 : (n : Int) < 18446744073709551616) :
  Calls Tryz.prog 151 #[.slice (some ⟨s, off, none⟩) len cap, .int .u64 n] w fun e w' => e = .returned (.tuple #[]) ∧
   w'.heap[s]? = some (.cells (u8s (splice cs off (bytesOf n len))).toArray t' (0, 0)) ∧ Kept [s] w w' := by
 go_enter Tryz.func151, Tryz.ntmps151
 go_wp2
 go_loopw [7] (fun i wr => ∃ (k : Nat), k ≤ len ∧ i = .int .i64 k ∧ wr.heap[s]? = some (.cells (u8s (splice cs off (bytesOf n k))).toArray t' (0, 0)) ∧ Kept [s] w wr) (fun i _ => len - (intOf i).toNat)
 case atStart => exact ⟨0, Nat.zero_le _, rfl, by simpa [bytesOf, splice] using h, Kept.refl _ _⟩
 case round =>
  obtain ⟨k, hk, rfl, hc2, hkr⟩ := hrel
  by_cases hlt : k < len
  ·have hbl : (bytesOf n k).length = k := by simp [bytesOf]
   have hsl : (splice cs off (bytesOf n k)).length = cs.length := length_splice _ _ _ (by omega)
   obtain ⟨old, hold⟩ : ∃ old, wr.cell? ⟨s, off + k, none⟩ = some old := ⟨_, cellAt hc2 (Array.getElem?_eq_getElem (by simp only [List.size_toArray, length_u8s]; omega))⟩
   have hf : wr.frozen? ⟨s, off + k, none⟩ = false := frozen_of_row _ _ _ _ _ hc2
   have hset : (splice cs off (bytesOf n k)).set (off + k) (byteOf n k) = splice cs off (bytesOf n (k + 1)) := by
    have e : bytesOf n (k + 1) = bytesOf n k ++ [byteOf n k] := by simp [bytesOf, List.range_succ]
    have h0 : off + k < cs.length := by omega
    rw [e, splice, splice, List.length_append, hbl]
    rw [List.set_append_right _ _ (by simp; omega), List.set_append_right _ _ (by simp; omega)]
    have e2 : off + k - (List.take off cs).length - (bytesOf n k).length = 0 := by rw [List.length_take, hbl]; omega
    rw [e2, List.drop_eq_getElem_cons h0, zF]
    simp [Nat.add_assoc]
   have H1 := setCellAt (i := off + k) (.int .u8 ((byteOf n k).toNat : Int)) hc2
   rw [u8s_set, hset] at H1
   have H2 : Kept [s] w (wr.setCell ⟨s, off + k, none⟩ (.int .u8 ((byteOf n k).toNat : Int))) := hkr.setCell (Or.inl (by simp)) _
   have HB : Hid ((n : Int) / 2 ^ (8 * k) % 256 = ((byteOf n k).toNat : Int)) := byteOf_val n k
   clear hset hsl hbl hc2 hkr
   go_wp2
   go_roundw
   case rel => rw [HB.out]; exact ⟨k + 1, by omega, by go_num, H1, H2⟩
   case measure => simp [intOf]; omega
  ·have hkl : k = len := by omega
   subst hkl
   go_wp2
   go_end0
   exact ⟨rfl, hc2, hkr⟩

end Go.Proofs.YtcklgafpgdhnaaaGreatDoor

namespace Go.Proofs.YtcklgafpgdhnaaaGreatDoor
open Go.RowKit

def bstep (y : Int) : Int := bits .xor .u32 (y / 2) (bits .and .u32 3988292384 (-bits .and .u32 y 1 % 4294967296))
def bsteps : Nat → Int → Int
 | 0, y => y
 | n + 1, y => bstep (bsteps n y)
def cstep (z : Int) (b : UInt8) : Int := bsteps 8 (bits .xor .u32 z ((b.toNat : Int) % 4294967296))
def csum (L : List UInt8) : Int := L.foldl cstep 4294967295
theorem csum_snoc (L : List UInt8) (b : UInt8) : csum (L ++ [b]) = cstep (csum L) b := by simp [csum]

def crc (L : List UInt8) : Nat := (bits .xor .u32 IntKind.u32.max (csum L)).toNat
theorem crc_val (L : List UInt8) : bits .xor .u32 IntKind.u32.max (csum L) = (crc L : Int) ∧ crc L < 4294967296 := by
 have h : 0 ≤ bits .xor .u32 IntKind.u32.max (csum L) ∧ bits .xor .u32 IntKind.u32.max (csum L) < 4294967296 := by
  unfold bits
  simp only [IntKind.wrap_u32]
  omega
 unfold crc
 omega

theorem sum_any (s off cap : Nat) (cs : Array Value) (L : List UInt8) (t' : TypeId) (fr : Nat × Nat) (w : World) (h : w.heap[s]? = some (.cells cs t' fr)) (hl : L.length ≤ 1000)
  (hc : ∀ j (hj : j < L.length), cs[off + j]? = some (.int .u8 (L[j].toNat : Int))) :
  Calls Tryz.prog 172 #[.slice (some ⟨s, off, none⟩) L.length cap] w fun e w' => e = .returned (.int .u32 (crc L)) ∧ w' = w := by
 go_enter Tryz.func172, Tryz.ntmps172
 go_wp2
 go_loop [3, 8] (fun v i => ∃ (k : Nat), k ≤ L.length ∧ i = .int .i64 k ∧ v = .int .u32 (csum (L.take k))) (fun _ i => L.length - (intOf i).toNat)
 case atStart => exact ⟨0, Nat.zero_le _, rfl, rfl⟩
 case round =>
  obtain ⟨k, hk, rfl, rfl⟩ := hrel
  by_cases hlt : k < L.length
  ·have hcx : w.cell? ⟨s, off + k, none⟩ = some (.int .u8 (L[k].toNat : Int)) := cellAt h (hc k hlt)
   have HS : Hid (bsteps 8 (bits .xor .u32 (csum (L.take k)) ((L[k].toNat : Int) % 4294967296)) = csum (L.take (k + 1))) := by
    show _ = _
    rw [List.take_succ_eq_append_getElem hlt, csum_snoc]; rfl
   generalize csum (L.take k) = z at *
   go_wp2
   go_loop [3, 16] (fun v i => ∃ (j : Nat), j ≤ 8 ∧ i = .int .i64 j ∧ v = .int .u32 (bsteps j (bits .xor .u32 z ((L[k].toNat : Int) % 4294967296)))) (fun _ i => 8 - (intOf i).toNat)
   case atStart => exact ⟨0, by omega, rfl, rfl⟩
   case round =>
    obtain ⟨j, hj, rfl, rfl⟩ := hrel
    by_cases hj8 : j < 8
    ·have HB : Hid (bits .xor .u32 (bsteps j (bits .xor .u32 z ((L[k].toNat : Int) % 4294967296)) / 2) (bits .and .u32 3988292384 (-bits .and .u32 (bsteps j (bits .xor .u32 z ((L[k].toNat : Int) % 4294967296))) 1 % 4294967296)) = bsteps (j + 1) (bits .xor .u32 z ((L[k].toNat : Int) % 4294967296))) := rfl
     generalize bsteps j (bits .xor .u32 z ((L[k].toNat : Int) % 4294967296)) = y at *
     go_wp2
     go_round
     case rel => exact ⟨j + 1, by omega, by go_num, congrArg (Value.int .u32) HB.out⟩
     case measure => simp [intOf]; omega
    ·have hj' : j = 8 := by omega
     subst hj'
     go_wp2
     go_round
     case rel => exact ⟨k + 1, by omega, by go_num, congrArg (Value.int .u32) HS.out⟩
     case measure => simp [intOf]; omega
  ·have hkl : k = L.length := by omega
   subst hkl
   rw [List.take_length]
   have HC : Hid (bits .xor .u32 IntKind.u32.max (csum L) = (crc L : Int)) := (crc_val L).1
   generalize csum L = z at *
   go_wp2
   go_ret
   exact ⟨ret_int HC.out, rfl⟩

def hc (t r : Nat) : Array Value := #[.int .u64 t, .int .i64 r]
def u64n : Nat := 18446744073709551616
def nxt (t : Nat) : Nat := (t + 1) % 18446744073709551616
def nwr (t u : Nat) : Bool := decide (0 < wrap64 (IntKind.u64.wrap ((t : Int) - u)))
theorem hblock_any (t r : Nat) (w : World) : Calls Tryz.prog 118 #[.agg #[.int .u64 t, .int .i64 r]] w fun e w' => e = .returned (.int .i64 (t % 2 : Nat)) ∧ Kept [] w w' := by
 go_enter Tryz.func118, Tryz.ntmps118
 go_wp2
 go_ret
 exact ⟨ret_int (by omega), (Kept.refl _ _).alloc _⟩

theorem HRoot_any (t r : Nat) (w : World) : Calls Tryz.prog 91 #[.agg #[.int .u64 t, .int .i64 r]] w fun e w' => e = .returned (.int .i64 r) ∧ Kept [] w w' := by
 go_enter Tryz.func91, Tryz.ntmps91
 go_wp2
 go_ret
 exact ⟨rfl, (Kept.refl _ _).alloc _⟩

theorem Next_any (t r x : Nat) (w : World) : Calls Tryz.prog 84 #[.agg #[.int .u64 t, .int .i64 r], .int .i64 x] w fun e w' => e = .returned (.agg #[.int .u64 (nxt t), .int .i64 x]) ∧ Kept [] w w' := by
 go_enter Tryz.func84, Tryz.ntmps84
 go_wp2
 go_returns
 refine ⟨?_, ((Kept.refl _ _).alloc _).alloc _⟩
 simp [nxt, IntKind.wrap_u64]

theorem newer_any (t r u q : Nat) (w : World) : Calls Tryz.prog 121 #[.agg #[.int .u64 t, .int .i64 r], .agg #[.int .u64 u, .int .i64 q]] w fun e w' => e = .returned (.bool (nwr t u)) ∧ Kept [] w w' := by
 have HN : Hid (nwr t u = decide (0 < wrap64 (IntKind.u64.wrap ((t : Int) - u)))) := rfl
 go_enter Tryz.func121, Tryz.ntmps121
 go_wp2
 go_ret
 exact ⟨congrArg (fun b => Ending.returned (.bool b)) HN.out.symm, ((Kept.refl _ _).alloc _).alloc _⟩

end Go.Proofs.YtcklgafpgdhnaaaGreatDoor
