import Derived.Test.YtcklgafpgdhnaaaGreatDoorPtad
import Derived.BigRegion
import Derived.Deep.RegionWith
import Derived.Lib.BufferWrite
import Derived.Test.YtcklgafpgdhnaaaGreatDoorPtaa
set_option maxRecDepth 100000
set_option maxHeartbeats 4000000
open List renaming getElem_toArray → zA, getElem_cons_succ → zB, getElem_cons_zero → zC, setIfInBounds_toArray → zD, set_cons_succ → zE, set_cons_zero → zF
namespace Go.Proofs.YtcklgafpgdhnaaaGreatDoor
open Go.RowKit

def leNum : List UInt8 → Nat
 | [] => 0
 | b :: r => b.toNat + 256 * leNum r
theorem leNum_snoc (l : List UInt8) (b : UInt8) : leNum (l ++ [b]) = leNum l + b.toNat * 2 ^ (8 * l.length) := by
 induction l with
 | nil => simp [leNum]
 | cons a r ih =>
  simp only [List.cons_append, leNum, ih, List.length_cons, Nat.mul_add, Nat.mul_one]
  rw [show 8 * r.length + 8 = 8 * r.length + 8 from rfl, Nat.pow_add]
  have : (2 : Nat) ^ 8 = 256 := rfl
  have e2 : 256 * (b.toNat * 2 ^ (8 * r.length)) = b.toNat * (2 ^ (8 * r.length) * 256) := by rw [Nat.mul_comm 256, Nat.mul_assoc]
  rw [this]
  omega
theorem leNum_lt (l : List UInt8) : leNum l < 2 ^ (8 * l.length) := by
 induction l with
 | nil => simp [leNum]
 | cons a r ih =>
  have ha := a.toNat_lt
  simp only [leNum, List.length_cons, Nat.mul_add, Nat.mul_one, Nat.pow_add]
  have : (2 : Nat) ^ 8 = 256 := rfl
  omega

theorem num_step (a b k : Nat) (ha : a < 2 ^ (8 * k)) (hb : b < 256) (hk : k < 8) :
  bits .or .u64 (a : Int) (IntKind.u64.wrap (IntKind.u64.wrap (b : Int) * 2 ^ (8 * k))) = ((a + b * 2 ^ (8 * k) : Nat) : Int) := by
 have h2 : b * 2 ^ (8 * k) < 2 ^ (8 * (k + 1)) := by rw [Nat.mul_add, Nat.pow_add]; have : (2 : Nat) ^ (8 * 1) = 256 := rfl; rw [this, Nat.mul_comm]; exact Nat.mul_lt_mul_of_pos_left hb (Nat.two_pow_pos _)
 have h3 : 2 ^ (8 * (k + 1)) ≤ 2 ^ 64 := Nat.pow_le_pow_right (by omega) (by omega)
 have h4 : 2 ^ (8 * k) ≤ 2 ^ 64 := Nat.pow_le_pow_right (by omega) (by omega)
 have e64 : (2 : Nat) ^ 64 = 18446744073709551616 := by decide
 rw [e64] at h3 h4
 have w1 : IntKind.u64.wrap (b : Int) = b := by rw [IntKind.wrap_u64]; omega
 have e1 : (b : Int) * 2 ^ (8 * k) = ((b * 2 ^ (8 * k) : Nat) : Int) := by simp
 have w2 : IntKind.u64.wrap ((b * 2 ^ (8 * k) : Nat) : Int) = ((b * 2 ^ (8 * k) : Nat) : Int) := by rw [IntKind.wrap_u64]; omega
 rw [w1, e1, w2, u64_or_nat a (b * 2 ^ (8 * k)) (by omega) (by omega), Nat.mul_comm b, Nat.or_comm, ← Nat.two_pow_add_eq_or_of_lt ha, Nat.add_comm]

theorem number_any (s off cap : Nat) (cs : Array Value) (L : List UInt8) (t' : TypeId) (fr : Nat × Nat) (w : World) (h : w.heap[s]? = some (.cells cs t' fr)) (hl : L.length ≤ 8)
  (hc : ∀ j (hj : j < L.length), cs[off + j]? = some (.int .u8 (L[j].toNat : Int))) :
  Calls Tryz.prog 154 #[.slice (some ⟨s, off, none⟩) L.length cap] w fun e w' => e = .returned (.int .u64 (leNum L)) ∧ w' = w := by
 go_enter Tryz.func154, Tryz.ntmps154
 go_wp2
 go_loop [3, 8] (fun v i => ∃ (k : Nat), k ≤ L.length ∧ i = .int .i64 k ∧ v = .int .u64 (leNum (L.take k))) (fun _ i => L.length - (intOf i).toNat)
 case atStart => exact ⟨0, Nat.zero_le _, rfl, rfl⟩
 case round =>
  obtain ⟨k, hk, rfl, rfl⟩ := hrel
  by_cases hlt : k < L.length
  ·have hcx : w.cell? ⟨s, off + k, none⟩ = some (.int .u8 (L[k].toNat : Int)) := cellAt h (hc k hlt)
   have hlen : (L.take k).length = k := by rw [List.length_take]; omega
   have hst : bits .or .u64 (leNum (L.take k) : Int) (IntKind.u64.wrap (IntKind.u64.wrap (L[k].toNat : Int) * 2 ^ (8 * k))) = (leNum (L.take (k + 1)) : Int) := by
    rw [num_step _ _ _ (by have := leNum_lt (L.take k); rwa [hlen] at this) L[k].toNat_lt (by omega), List.take_succ_eq_append_getElem hlt, leNum_snoc, hlen]
   have HS : Hid (bits .or .u64 (leNum (L.take k) : Int) (IntKind.u64.wrap (IntKind.u64.wrap (L[k].toNat : Int) * 2 ^ (8 * k))) = (leNum (L.take (k + 1)) : Int)) := hst
   clear hst hlen
   generalize leNum (L.take k) = z at *
   go_wp2
   go_round
   case rel => exact ⟨k + 1, by omega, by go_num, congrArg (Value.int .u64) HS.out⟩
   case measure => simp [intOf]; omega
  ·have hkl : k = L.length := by omega
   subst hkl
   rw [List.take_length]
   go_wp2
   go_ret
   exact ⟨rfl, rfl⟩

def byteOf (n i : Nat) : UInt8 := UInt8.ofNat (n / 2 ^ (8 * i) % 256)
theorem byteOf_val (n i : Nat) : ((n : Int) / 2 ^ (8 * i) % 256) = ((byteOf n i).toNat : Int) := by
 have h : (byteOf n i).toNat = n / 2 ^ (8 * i) % 256 := by
  unfold byteOf
  rw [UInt8.toNat_ofNat']
  exact Nat.mod_eq_of_lt (by have : (2 : Nat) ^ 8 = 256 := rfl; omega)
 rw [h]; simp
def bytesOf (n len : Nat) : List UInt8 := (List.range len).map (byteOf n)
theorem leNum_bytesOf (n len : Nat) : leNum (bytesOf n len) = n % 2 ^ (8 * len) := by
 induction len with
 | zero => simp [bytesOf, leNum, Nat.mod_one]
 | succ k ih =>
  have e : bytesOf n (k + 1) = bytesOf n k ++ [byteOf n k] := by simp [bytesOf, List.range_succ]
  have hl : (bytesOf n k).length = k := by simp [bytesOf]
  rw [e, leNum_snoc, ih, hl]
  have hb : (byteOf n k).toNat = n / 2 ^ (8 * k) % 256 := by
   unfold byteOf
   rw [UInt8.toNat_ofNat']
   exact Nat.mod_eq_of_lt (by have : (2 : Nat) ^ 8 = 256 := rfl; omega)
  rw [hb, Nat.mul_add, Nat.pow_add, Nat.mod_mul, Nat.mul_comm (2 ^ (8 * k))]

theorem put_any (s off len cap : Nat) (cs : List UInt8) (n : Nat) (t' : TypeId) (w : World) (h : w.heap[s]? = some (.cells (u8s cs).toArray t' (0, 0))) (hl : len ≤ 8) (hfit : off + len ≤ cs.length) (_h1 : (n : Int) < 18446744073709551616) :
  Calls Tryz.prog 151 #[.slice (some ⟨s, off, none⟩) len cap, .int .u64 n] w fun e w' => e = .returned (.tuple #[]) ∧
   w'.heap[s]? = some (.cells (u8s (splice cs off (bytesOf n len))).toArray t' (0, 0)) ∧ Kept [s] w w' := by
 go_enter Tryz.func151, Tryz.ntmps151
 go_wp2
 go_loopw [7] (fun i wr => ∃ (k : Nat), k ≤ len ∧ i = .int .i64 k ∧ wr.heap[s]? = some (.cells (u8s (splice cs off (bytesOf n k))).toArray t' (0, 0)) ∧ Kept [s] w wr) (fun i _ => len - (intOf i).toNat)
 case atStart => exact ⟨0, Nat.zero_le _, rfl, by simpa [bytesOf, splice] using h, Kept.refl _ _⟩
 case round =>
  obtain ⟨k, hk, rfl, hc2, hkr⟩ := hrel
  by_cases hlt : k < len
  ·have hbl : (bytesOf n k).length = k := by simp [bytesOf]
   have hsl : (splice cs off (bytesOf n k)).length = cs.length := length_splice _ _ _ (by omega)
   obtain ⟨old, hold⟩ : ∃ old, wr.cell? ⟨s, off + k, none⟩ = some old := ⟨_, cellAt hc2 (Array.getElem?_eq_getElem (by simp only [List.size_toArray, length_u8s]; omega))⟩
   have hf : wr.frozen? ⟨s, off + k, none⟩ = false := frozen_of_row _ _ _ _ _ hc2
   have hset : (splice cs off (bytesOf n k)).set (off + k) (byteOf n k) = splice cs off (bytesOf n (k + 1)) := by
    have e : bytesOf n (k + 1) = bytesOf n k ++ [byteOf n k] := by simp [bytesOf, List.range_succ]
    have h0 : off + k < cs.length := by omega
    rw [e, splice, splice, List.length_append, hbl]
    rw [List.set_append_right _ _ (by simp; omega), List.set_append_right _ _ (by simp; omega)]
    have e2 : off + k - (List.take off cs).length - (bytesOf n k).length = 0 := by rw [List.length_take, hbl]; omega
    rw [e2, List.drop_eq_getElem_cons h0, zF]
    simp [Nat.add_assoc]
   have H1 := setCellAt (i := off + k) (.int .u8 ((byteOf n k).toNat : Int)) hc2
   rw [u8s_set, hset] at H1
   have H2 : Kept [s] w (wr.setCell ⟨s, off + k, none⟩ (.int .u8 ((byteOf n k).toNat : Int))) := hkr.setCell (Or.inl (by simp)) _
   have HB : Hid ((n : Int) / 2 ^ (8 * k) % 256 = ((byteOf n k).toNat : Int)) := byteOf_val n k
   clear hset hsl hbl hc2 hkr
   go_wp2
   go_roundw
   case rel => rw [HB.out]; exact ⟨k + 1, by omega, by go_num, H1, H2⟩
   case measure => simp [intOf]; omega
  ·have hkl : k = len := by omega
   subst hkl
   go_wp2
   go_end0
   exact ⟨rfl, hc2, hkr⟩

end Go.Proofs.YtcklgafpgdhnaaaGreatDoor

namespace Go.Proofs.YtcklgafpgdhnaaaGreatDoor
open Go.RowKit

def bstep (y : Int) : Int := bits .xor .u32 (y / 2) (bits .and .u32 3988292384 (-bits .and .u32 y 1 % 4294967296))
def bsteps : Nat → Int → Int
 | 0, y => y
 | n + 1, y => bstep (bsteps n y)
def cstep (z : Int) (b : UInt8) : Int := bsteps 8 (bits .xor .u32 z ((b.toNat : Int) % 4294967296))
def csum (L : List UInt8) : Int := L.foldl cstep 4294967295
theorem csum_snoc (L : List UInt8) (b : UInt8) : csum (L ++ [b]) = cstep (csum L) b := by simp [csum]

def crc (L : List UInt8) : Nat := (bits .xor .u32 IntKind.u32.max (csum L)).toNat
theorem crc_val (L : List UInt8) : bits .xor .u32 IntKind.u32.max (csum L) = (crc L : Int) ∧ crc L < 4294967296 := by
 have h : 0 ≤ bits .xor .u32 IntKind.u32.max (csum L) ∧ bits .xor .u32 IntKind.u32.max (csum L) < 4294967296 := by
  unfold bits
  simp only [IntKind.wrap_u32]
  omega
 unfold crc
 omega

theorem sum_any (s off cap : Nat) (cs : Array Value) (L : List UInt8) (t' : TypeId) (fr : Nat × Nat) (w : World) (h : w.heap[s]? = some (.cells cs t' fr)) (hl : L.length ≤ 1000)
  (hc : ∀ j (hj : j < L.length), cs[off + j]? = some (.int .u8 (L[j].toNat : Int))) :
  Calls Tryz.prog 172 #[.slice (some ⟨s, off, none⟩) L.length cap] w fun e w' => e = .returned (.int .u32 (crc L)) ∧ w' = w := by
 go_enter Tryz.func172, Tryz.ntmps172
 go_wp2
 go_loop [3, 8] (fun v i => ∃ (k : Nat), k ≤ L.length ∧ i = .int .i64 k ∧ v = .int .u32 (csum (L.take k))) (fun _ i => L.length - (intOf i).toNat)
 case atStart => exact ⟨0, Nat.zero_le _, rfl, rfl⟩
 case round =>
  obtain ⟨k, hk, rfl, rfl⟩ := hrel
  by_cases hlt : k < L.length
  ·have hcx : w.cell? ⟨s, off + k, none⟩ = some (.int .u8 (L[k].toNat : Int)) := cellAt h (hc k hlt)
   have HS : Hid (bsteps 8 (bits .xor .u32 (csum (L.take k)) ((L[k].toNat : Int) % 4294967296)) = csum (L.take (k + 1))) := by
    show _ = _
    rw [List.take_succ_eq_append_getElem hlt, csum_snoc]; rfl
   generalize csum (L.take k) = z at *
   go_wp2
   go_loop [3, 16] (fun v i => ∃ (j : Nat), j ≤ 8 ∧ i = .int .i64 j ∧ v = .int .u32 (bsteps j (bits .xor .u32 z ((L[k].toNat : Int) % 4294967296)))) (fun _ i => 8 - (intOf i).toNat)
   case atStart => exact ⟨0, by omega, rfl, rfl⟩
   case round =>
    obtain ⟨j, hj, rfl, rfl⟩ := hrel
    by_cases hj8 : j < 8
    ·have HB : Hid (bits .xor .u32 (bsteps j (bits .xor .u32 z ((L[k].toNat : Int) % 4294967296)) / 2) (bits .and .u32 3988292384 (-bits .and .u32 (bsteps j (bits .xor .u32 z ((L[k].toNat : Int) % 4294967296))) 1 % 4294967296)) = bsteps (j + 1) (bits .xor .u32 z ((L[k].toNat : Int) % 4294967296))) := rfl
     generalize bsteps j (bits .xor .u32 z ((L[k].toNat : Int) % 4294967296)) = y at *
     go_wp2
     go_round
     case rel => exact ⟨j + 1, by omega, by go_num, congrArg (Value.int .u32) HB.out⟩
     case measure => simp [intOf]; omega
    ·have hj' : j = 8 := by omega
     subst hj'
     go_wp2
     go_round
     case rel => exact ⟨k + 1, by omega, by go_num, congrArg (Value.int .u32) HS.out⟩
     case measure => simp [intOf]; omega
  ·have hkl : k = L.length := by omega
   subst hkl
   rw [List.take_length]
   have HC : Hid (bits .xor .u32 IntKind.u32.max (csum L) = (crc L : Int)) := (crc_val L).1
   generalize csum L = z at *
   go_wp2
   go_ret
   exact ⟨ret_int HC.out, rfl⟩

def hc (t r : Nat) : Array Value := #[.int .u64 t, .int .i64 r]
def nxt (t : Nat) : Nat := (t + 1) % 18446744073709551616
def nwr (t u : Nat) : Bool := decide (0 < wrap64 (IntKind.u64.wrap ((t : Int) - u)))
theorem hblock_any (t r : Nat) (w : World) : Calls Tryz.prog 118 #[.agg #[.int .u64 t, .int .i64 r]] w fun e w' => e = .returned (.int .i64 (t % 2 : Nat)) ∧ Kept [] w w' := by
 go_enter Tryz.func118, Tryz.ntmps118
 go_wp2
 go_ret
 exact ⟨ret_int (by omega), (Kept.refl _ _).alloc _⟩

theorem HRoot_any (t r : Nat) (w : World) : Calls Tryz.prog 91 #[.agg #[.int .u64 t, .int .i64 r]] w fun e w' => e = .returned (.int .i64 r) ∧ Kept [] w w' := by
 go_enter Tryz.func91, Tryz.ntmps91
 go_wp2
 go_ret
 exact ⟨rfl, (Kept.refl _ _).alloc _⟩

theorem Next_any (t r x : Nat) (w : World) : Calls Tryz.prog 84 #[.agg #[.int .u64 t, .int .i64 r], .int .i64 x] w fun e w' => e = .returned (.agg #[.int .u64 (nxt t), .int .i64 x]) ∧ Kept [] w w' := by
 go_enter Tryz.func84, Tryz.ntmps84
 go_wp2
 go_returns
 refine ⟨?_, ((Kept.refl _ _).alloc _).alloc _⟩
 simp [nxt, IntKind.wrap_u64]

theorem newer_any (t r u q : Nat) (w : World) : Calls Tryz.prog 121 #[.agg #[.int .u64 t, .int .i64 r], .agg #[.int .u64 u, .int .i64 q]] w fun e w' => e = .returned (.bool (nwr t u)) ∧ Kept [] w w' := by
 have HN : Hid (nwr t u = decide (0 < wrap64 (IntKind.u64.wrap ((t : Int) - u)))) := rfl
 go_enter Tryz.func121, Tryz.ntmps121
 go_wp2
 go_ret
 exact ⟨congrArg (fun b => Ending.returned (.bool b)) HN.out.symm, ((Kept.refl _ _).alloc _).alloc _⟩

end Go.Proofs.YtcklgafpgdhnaaaGreatDoor

namespace Go.Proofs.YtcklgafpgdhnaaaGreatDoor
open Go.RowKit

theorem wpList_alloc_d {P : Program} {ops : Array Oper} {rest : List Oper} {o : Oper} {a : Act} {w : World} {Q : Exit → Act → World → Prop} (hgd : o.guard = none) (d : Tmp) (_hd : o.dst = some d) (t : TypeId) (ho : o.op = .alloc t) (cs : Array Value)
  (hz : (Instr.alloc t true (.tuple #[])).run P w = .ok (.pointer (some ⟨w.heap.size, 0, none⟩)) (w.alloc (.cells cs t)))
  (h : ∀ w', w'.heap[w.heap.size]? = some (.cells cs t (0, 0)) → Kept [] w w' → w'.heap.size = w.heap.size + 1 → wpList P ops Q rest (a.put o.dst (.pointer (some ⟨w.heap.size, 0, none⟩))) w') : wpList P ops Q (o :: rest) a w :=
 wpList_alloc_k hgd t ho cs hz h

theorem upon_copy_str {P : Program} {w : World} {o : Oper} {a : Act} {K : Act → World → Prop} {Q : Exit → Act → World → Prop} {ty : TypeId} (dT sT : TypeId) (elem : TypeId) (hu : P.underlying dT = some (.slice elem)) (hsz : (P.info? elem).map (·.size) = some 1)
  (g off dLen dCap : Nat) (S : List UInt8) (cur : List UInt8) (t : TypeId) (hg : w.heap[g]? = some (.cells (u8s cur).toArray t (0, 0))) (hle : S.length ≤ dLen) (hfit : off + S.length ≤ cur.length)
  (h : ∀ w', w'.heap[g]? = some (.cells (u8s (splice cur off S)).toArray t (0, 0)) → Kept [g] w w' → K (a.put o.dst (goInt S.length)) w') :
  Oper.upon P o a K Q ((Sem.run P (Builtin.copy_ #[dT, sT] ty #[.slice (some ⟨g, off, none⟩) dLen dCap, .string ⟨S.toArray⟩]) w).andThen fun a w' => Result.ok (Next.value a) w') := by
 have hss : (ByteArray.mk S.toArray).size = S.length := rfl
 rw [Lib.run_copy_row_string (P := P) w dT sT ty elem g off dLen dCap ⟨S.toArray⟩ (u8s cur).toArray t hu hsz hg (by rw [hss]; exact hle) (by rw [hss]; simpa [length_u8s] using hfit)]
 refine h _ ?_ ((Kept.refl _ _).setRow (Or.inl (by simp)) _)
 rw [setRow_heap w g _ _ t _ hg, ← u8s_splice]
 simp [splice, hss, Lib.byteCells, u8s]

theorem zsec (w : World) : (Instr.alloc 175 true (.tuple #[])).run Tryz.prog w = .ok (.pointer (some ⟨w.heap.size, 0, none⟩)) (w.alloc (.cells (u8s (List.replicate 32 0)).toArray 175)) := by kernel_rfl
theorem ssec : (Tryz.prog.info? 175).map (·.size) = some 32 := by kernel_rfl

def markL : List UInt8 := [115, 116, 111, 114, 101, 32, 49, 10]
def sec0 : List UInt8 := splice (List.replicate 32 0) 0 markL
def sec1 (t : Nat) : List UInt8 := splice sec0 8 (bytesOf t 8)
def sec2 (t r : Nat) : List UInt8 := splice (sec1 t) 16 (bytesOf r 2)
def sealL (B : List UInt8) : List UInt8 := splice B (B.length - 4) (bytesOf (crc (B.take (B.length - 4))) 4)
def sec (t r : Nat) : List UInt8 := sealL (sec2 t r)
theorem length_bytesOf (n k : Nat) : (bytesOf n k).length = k := by simp [bytesOf]
theorem length_sec0 : sec0.length = 32 := by decide
theorem length_sec1 (t : Nat) : (sec1 t).length = 32 := by rw [sec1, length_splice _ _ _ (by rw [length_bytesOf, length_sec0]; omega), length_sec0]
theorem length_sec2 (t r : Nat) : (sec2 t r).length = 32 := by rw [sec2, length_splice _ _ _ (by rw [length_bytesOf, length_sec1]; omega), length_sec1]
theorem length_sealL (B : List UInt8) (h : 4 ≤ B.length) : (sealL B).length = B.length := by rw [sealL, length_splice _ _ _ (by rw [length_bytesOf]; omega)]
theorem length_sec (t r : Nat) : (sec t r).length = 32 := by rw [sec, length_sealL _ (by rw [length_sec2]; omega), length_sec2]

theorem u8cells (L : List UInt8) (off : Nat) (n : Nat) : ∀ j (hj : j < ((L.drop off).take n).length), (u8s L).toArray[off + j]? = some (.int .u8 (((L.drop off).take n)[j].toNat : Int)) := by
 intro j hj
 simp only [List.getElem?_toArray, u8s_get]
 have h1 : j < n := by simp at hj; omega
 have h2 : off + j < L.length := by simp at hj; omega
 rw [List.getElem?_eq_getElem h2]
 simp

theorem sum_n (s off cap n m : Nat) (D : List UInt8) (t' : TypeId) (fr : Nat × Nat) (w : World) (h : w.heap[s]? = some (.cells (u8s D).toArray t' fr)) (hm : ((D.drop off).take m).length = n) (hn : n ≤ 1000) :
  Calls Tryz.prog 172 #[.slice (some ⟨s, off, none⟩) n cap] w fun e w' => e = .returned (.int .u32 (crc ((D.drop off).take m))) ∧ w' = w := by
 subst hm
 exact sum_any s off cap _ _ t' fr w h hn (u8cells D off m)
theorem number_n (s off cap n m : Nat) (D : List UInt8) (t' : TypeId) (fr : Nat × Nat) (w : World) (h : w.heap[s]? = some (.cells (u8s D).toArray t' fr)) (hm : ((D.drop off).take m).length = n) (hn : n ≤ 8) :
  Calls Tryz.prog 154 #[.slice (some ⟨s, off, none⟩) n cap] w fun e w' => e = .returned (.int .u64 (leNum ((D.drop off).take m))) ∧ w' = w := by
 subst hm
 exact number_any s off cap _ _ t' fr w h hn (u8cells D off m)

theorem Seal_any (s : Nat) (B : List UInt8) (t' : TypeId) (w : World) (h : w.heap[s]? = some (.cells (u8s B).toArray t' (0, 0))) (h4 : 4 ≤ B.length) (hn : B.length ≤ 1000) :
  Calls Tryz.prog 152 #[.slice (some ⟨s, 0, none⟩) B.length B.length] w fun e w' => e = .returned (.tuple #[]) ∧ w'.heap[s]? = some (.cells (u8s (sealL B)).toArray t' (0, 0)) ∧ Kept [s] w w' := by
 obtain ⟨m, hm⟩ : ∃ m, B.length = m + 4 := ⟨B.length - 4, by omega⟩
 have hcr := (crc_val (B.take m)).2
 have HSM : Hid (∀ W : World, W.heap[s]? = some (.cells (u8s B).toArray t' (0, 0)) → Calls Tryz.prog 172 #[.slice (some ⟨s, 0, none⟩) m (m + 4)] W fun e w' => e = .returned (.int .u32 (crc (B.take m))) ∧ w' = W) := by
  intro W hW
  have := sum_n s 0 (m + 4) m m B t' (0, 0) W hW (by rw [List.drop_zero, List.length_take]; omega) (by omega)
  rw [List.drop_zero] at this
  exact this
 have HE : Hid (splice B m (bytesOf (crc (B.take m)) 4) = sealL B) := by
  show _ = _
  rw [sealL, hm]; rfl
 generalize hcc : crc (B.take m) = cc at *
 clear hcc
 have HW : Hid (IntKind.u64.wrap (cc : Int) = cc) := by show _ = _; rw [IntKind.wrap_u64]; omega
 have HP : Hid (∀ W : World, W.heap[s]? = some (.cells (u8s B).toArray t' (0, 0)) → Calls Tryz.prog 151 #[.slice (some ⟨s, m, none⟩) 4 4, .int .u64 cc] W fun e w' => e = .returned (.tuple #[]) ∧
   w'.heap[s]? = some (.cells (u8s (splice B m (bytesOf cc 4))).toArray t' (0, 0)) ∧ Kept [s] W w') := by
  intro W hW
  exact put_any s m 4 4 B cc t' W hW (by omega) (by omega) (by omega)
 rw [hm]
 have hl63 : m + 4 ≤ 1000 := by omega
 clear hm hn h4 hcr
 go_enter Tryz.func152, Tryz.ntmps152
 go_wp2
 go_region_with (first
  | (go_at_call 172; refine (HSM.out _ (by exact h)).mono ?_; rintro e w' ⟨rfl, rfl⟩)
  | (go_at_call 151; rw [HW.out]; refine (HP.out _ (by exact h)).mono ?_; rintro e w6 ⟨rfl, hn6, hk6⟩))
 all_goals
  rw [HE.out] at hn6
  go_end0
  exact ⟨rfl, hn6, (Kept.refl [s] w).drew.trans hk6⟩

end Go.Proofs.YtcklgafpgdhnaaaGreatDoor

namespace Go.Proofs.YtcklgafpgdhnaaaGreatDoor
open Go.RowKit

structure Tab (w : World) : Prop where
 row : ∃ cs fr, w.heap[2]? = some (.cells cs 267 fr)
 ito : ∀ W : World, W.heap[2]? = w.heap[2]? → ∀ i : Nat, i < 70000 → Calls Tryz.prog 115 #[.int .i64 i] W fun e w' => ∃ s, e = .returned (.string s) ∧ s.size ≤ 1000 ∧ Kept [] W w'
theorem Tab.lt {w : World} (h : Tab w) : 2 < w.heap.size := by
 obtain ⟨cs, fr, hh⟩ := h.row
 exact lt_heap hh
theorem Tab.kept {S : List Nat} {w w' : World} (h : Tab w) (k : Kept S w w') (hS : 2 ∉ S) : Tab w' := by
 have e := k.block 2 h.lt hS
 obtain ⟨cs, fr, hh⟩ := h.row
 exact ⟨⟨cs, fr, by rw [e]; exact hh⟩, fun W hW => h.ito W (by rw [hW, e])⟩
theorem Tab.k {w w' : World} (h : Tab w) (k : Kept [] w w') : Tab w' := h.kept k (by simp)
theorem Itoa_any {w : World} (hT : Tab w) (i : Nat) (hi : i < 70000) : Calls Tryz.prog 115 #[.int .i64 i] w fun e w' => ∃ s, e = .returned (.string s) ∧ s.size ≤ 1000 ∧ Kept [] w w' := hT.ito w rfl i hi
theorem Tab.ne {w : World} (h : Tab w) {y : Nat} {cs : Array Value} {t : TypeId} {fr : Nat × Nat} (hy : w.heap[y]? = some (.cells cs t fr)) (ht : t ≠ 267) : 2 ≠ y := by
 obtain ⟨cs', fr', hh⟩ := h.row
 exact ne_tag hh hy ht.symm

end Go.Proofs.YtcklgafpgdhnaaaGreatDoor
