import Derived.Test.YtloihcnbcknbnaaGreatDoorPtai
import Derived.Deep.RegionWith
import Derived.Lib.BufferWrite
namespace Go.Proofs.YtloihcnbcknbnaaGreatDoor
open Go.RowKit

/-- bytes as a number, the lowest first -/
def leNum : List UInt8 → Nat
  | [] => 0
  | b :: r => b.toNat + 256 * leNum r
theorem leNum_snoc (l : List UInt8) (b : UInt8) : leNum (l ++ [b]) = leNum l + b.toNat * 2 ^ (8 * l.length) := by
  induction l with
  | nil => simp [leNum]
  | cons a r ih =>
    simp only [List.cons_append, leNum, ih, List.length_cons, Nat.mul_add, Nat.mul_one]
    rw [show 8 * r.length + 8 = 8 * r.length + 8 from rfl, Nat.pow_add]
    have : (2 : Nat) ^ 8 = 256 := rfl
    have e2 : 256 * (b.toNat * 2 ^ (8 * r.length)) = b.toNat * (2 ^ (8 * r.length) * 256) := by rw [Nat.mul_comm 256, Nat.mul_assoc]
    rw [this]
    omega
theorem leNum_lt (l : List UInt8) : leNum l < 2 ^ (8 * l.length) := by
  induction l with
  | nil => simp [leNum]
  | cons a r ih =>
    have ha := a.toNat_lt
    simp only [leNum, List.length_cons, Nat.mul_add, Nat.mul_one, Nat.pow_add]
    have : (2 : Nat) ^ 8 = 256 := rfl
    omega

theorem num_step (a b k : Nat) (ha : a < 2 ^ (8 * k)) (hb : b < 256) (hk : k < 8) :
    bits .or .u64 (a : Int) (IntKind.u64.wrap (IntKind.u64.wrap (b : Int) * 2 ^ (8 * k))) = ((a + b * 2 ^ (8 * k) : Nat) : Int) := by
  have h2 : b * 2 ^ (8 * k) < 2 ^ (8 * (k + 1)) := by rw [Nat.mul_add, Nat.pow_add]; have : (2 : Nat) ^ (8 * 1) = 256 := rfl; rw [this, Nat.mul_comm]; exact Nat.mul_lt_mul_of_pos_left hb (Nat.two_pow_pos _)
  have h3 : 2 ^ (8 * (k + 1)) ≤ 2 ^ 64 := Nat.pow_le_pow_right (by omega) (by omega)
  have h4 : 2 ^ (8 * k) ≤ 2 ^ 64 := Nat.pow_le_pow_right (by omega) (by omega)
  have e64 : (2 : Nat) ^ 64 = 18446744073709551616 := by decide
  rw [e64] at h3 h4
  have w1 : IntKind.u64.wrap (b : Int) = b := by rw [IntKind.wrap_u64]; omega
  have e1 : (b : Int) * 2 ^ (8 * k) = ((b * 2 ^ (8 * k) : Nat) : Int) := by simp
  have w2 : IntKind.u64.wrap ((b * 2 ^ (8 * k) : Nat) : Int) = ((b * 2 ^ (8 * k) : Nat) : Int) := by rw [IntKind.wrap_u64]; omega
  rw [w1, e1, w2, u64_or_nat a (b * 2 ^ (8 * k)) (by omega) (by omega), Nat.mul_comm b, Nat.or_comm, ← Nat.two_pow_add_eq_or_of_lt ha, Nat.add_comm]

set_option maxHeartbeats 400000 in
theorem number_any (s off cap : Nat) (cs : Array Value) (L : List UInt8) (t' : TypeId) (fr : Nat × Nat) (w : World) (h : w.heap[s]? = some (.cells cs t' fr)) (hl : L.length ≤ 8)
    (hc : ∀ j (hj : j < L.length), cs[off + j]? = some (.int .u8 (L[j].toNat : Int))) :
    Calls Tryz.prog 126 #[.slice (some ⟨s, off, none⟩) L.length cap] w fun e w' => e = .returned (.int .u64 (leNum L)) ∧ w' = w := by
  go_enter Tryz.func126, Tryz.ntmps126
  go_wp2
  go_loop [3, 8] (fun v i => ∃ (k : Nat), k ≤ L.length ∧ i = .int .i64 k ∧ v = .int .u64 (leNum (L.take k))) (fun _ i => L.length - (intOf i).toNat)
  case atStart => exact ⟨0, Nat.zero_le _, rfl, rfl⟩
  case round =>
    obtain ⟨k, hk, rfl, rfl⟩ := hrel
    by_cases hlt : k < L.length
    · have hcx : w.cell? ⟨s, off + k, none⟩ = some (.int .u8 (L[k].toNat : Int)) := cellAt h (hc k hlt)
      have hlen : (L.take k).length = k := by rw [List.length_take]; omega
      have hst : bits .or .u64 (leNum (L.take k) : Int) (IntKind.u64.wrap (IntKind.u64.wrap (L[k].toNat : Int) * 2 ^ (8 * k))) = (leNum (L.take (k + 1)) : Int) := by
        rw [num_step _ _ _ (by have := leNum_lt (L.take k); rwa [hlen] at this) L[k].toNat_lt (by omega), List.take_succ_eq_append_getElem hlt, leNum_snoc, hlen]
      have HS : Hid (bits .or .u64 (leNum (L.take k) : Int) (IntKind.u64.wrap (IntKind.u64.wrap (L[k].toNat : Int) * 2 ^ (8 * k))) = (leNum (L.take (k + 1)) : Int)) := hst
      clear hst hlen
      generalize leNum (L.take k) = z at *
      go_wp2
      go_round
      case rel => exact ⟨k + 1, by omega, by go_num, congrArg (Value.int .u64) HS.out⟩
      case measure => simp [intOf]; omega
    · have hkl : k = L.length := by omega
      subst hkl
      rw [List.take_length]
      go_wp2
      go_ret
      exact ⟨rfl, rfl⟩

/-- byte number i of a number -/
def byteOf (n i : Nat) : UInt8 := UInt8.ofNat (n / 2 ^ (8 * i) % 256)
theorem byteOf_val (n i : Nat) : ((n : Int) / 2 ^ (8 * i) % 256) = ((byteOf n i).toNat : Int) := by
  have h : (byteOf n i).toNat = n / 2 ^ (8 * i) % 256 := by
    unfold byteOf
    rw [UInt8.toNat_ofNat']
    exact Nat.mod_eq_of_lt (by have : (2 : Nat) ^ 8 = 256 := rfl; omega)
  rw [h]; simp
def bytesOf (n len : Nat) : List UInt8 := (List.range len).map (byteOf n)
theorem leNum_bytesOf (n len : Nat) : leNum (bytesOf n len) = n % 2 ^ (8 * len) := by
  induction len with
  | zero => simp [bytesOf, leNum, Nat.mod_one]
  | succ k ih =>
    have e : bytesOf n (k + 1) = bytesOf n k ++ [byteOf n k] := by simp [bytesOf, List.range_succ]
    have hl : (bytesOf n k).length = k := by simp [bytesOf]
    rw [e, leNum_snoc, ih, hl]
    have hb : (byteOf n k).toNat = n / 2 ^ (8 * k) % 256 := by
      unfold byteOf
      rw [UInt8.toNat_ofNat']
      exact Nat.mod_eq_of_lt (by have : (2 : Nat) ^ 8 = 256 := rfl; omega)
    rw [hb, Nat.mul_add, Nat.pow_add, Nat.mod_mul, Nat.mul_comm (2 ^ (8 * k))]

set_option maxHeartbeats 400000 in
theorem put_any (s off len cap : Nat) (cs : List UInt8) (n : Nat) (t' : TypeId) (w : World) (h : w.heap[s]? = some (.cells (u8s cs).toArray t' (0, 0))) (hl : len ≤ 8) (hfit : off + len ≤ cs.length) (_h1 : (n : Int) < 18446744073709551616) :
    Calls Tryz.prog 127 #[.slice (some ⟨s, off, none⟩) len cap, .int .u64 n] w fun e w' => e = .returned (.tuple #[]) ∧
      w'.heap[s]? = some (.cells (u8s (splice cs off (bytesOf n len))).toArray t' (0, 0)) ∧ Kept [s] w w' := by
  go_enter Tryz.func127, Tryz.ntmps127
  go_wp2
  go_loopw [7] (fun i wr => ∃ (k : Nat), k ≤ len ∧ i = .int .i64 k ∧ wr.heap[s]? = some (.cells (u8s (splice cs off (bytesOf n k))).toArray t' (0, 0)) ∧ Kept [s] w wr) (fun i _ => len - (intOf i).toNat)
  case atStart => exact ⟨0, Nat.zero_le _, rfl, by simpa [bytesOf, splice] using h, Kept.refl _ _⟩
  case round =>
    obtain ⟨k, hk, rfl, hc2, hkr⟩ := hrel
    by_cases hlt : k < len
    · have hbl : (bytesOf n k).length = k := by simp [bytesOf]
      have hsl : (splice cs off (bytesOf n k)).length = cs.length := length_splice _ _ _ (by omega)
      obtain ⟨old, hold⟩ : ∃ old, wr.cell? ⟨s, off + k, none⟩ = some old := ⟨_, cellAt hc2 (Array.getElem?_eq_getElem (by simp only [List.size_toArray, length_u8s]; omega))⟩
      have hf : wr.frozen? ⟨s, off + k, none⟩ = false := frozen_of_row _ _ _ _ _ hc2
      have hset : (splice cs off (bytesOf n k)).set (off + k) (byteOf n k) = splice cs off (bytesOf n (k + 1)) := by
        have e : bytesOf n (k + 1) = bytesOf n k ++ [byteOf n k] := by simp [bytesOf, List.range_succ]
        have h0 : off + k < cs.length := by omega
        rw [e, splice, splice, List.length_append, hbl]
        rw [List.set_append_right _ _ (by simp; omega), List.set_append_right _ _ (by simp; omega)]
        have e2 : off + k - (List.take off cs).length - (bytesOf n k).length = 0 := by rw [List.length_take, hbl]; omega
        rw [e2, List.drop_eq_getElem_cons h0, List.set_cons_zero]
        simp [Nat.add_assoc]
      have H1 := setCellAt (i := off + k) (.int .u8 ((byteOf n k).toNat : Int)) hc2
      rw [u8s_set, hset] at H1
      have H2 : Kept [s] w (wr.setCell ⟨s, off + k, none⟩ (.int .u8 ((byteOf n k).toNat : Int))) := hkr.setCell (Or.inl (by simp)) _
      have HB : Hid ((n : Int) / 2 ^ (8 * k) % 256 = ((byteOf n k).toNat : Int)) := byteOf_val n k
      clear hset hsl hbl hc2 hkr
      go_wp2
      go_roundw
      case rel => rw [HB.out]; exact ⟨k + 1, by omega, by go_num, H1, H2⟩
      case measure => simp [intOf]; omega
    · have hkl : k = len := by omega
      subst hkl
      go_wp2
      go_end0
      exact ⟨rfl, hc2, hkr⟩

end Go.Proofs.YtloihcnbcknbnaaGreatDoor

namespace Go.Proofs.YtloihcnbcknbnaaGreatDoor
open Go.RowKit

/-- one bit's turn of the sum -/
def bstep (y : Int) : Int := bits .xor .u32 (y / 2) (bits .and .u32 3988292384 (-bits .and .u32 y 1 % 4294967296))
def bsteps : Nat → Int → Int
  | 0, y => y
  | n + 1, y => bstep (bsteps n y)
def cstep (z : Int) (b : UInt8) : Int := bsteps 8 (bits .xor .u32 z ((b.toNat : Int) % 4294967296))
def csum (L : List UInt8) : Int := L.foldl cstep 4294967295
theorem csum_snoc (L : List UInt8) (b : UInt8) : csum (L ++ [b]) = cstep (csum L) b := by simp [csum]

/-- the sum of bytes -/
def crc (L : List UInt8) : Nat := (bits .xor .u32 IntKind.u32.max (csum L)).toNat
theorem crc_val (L : List UInt8) : bits .xor .u32 IntKind.u32.max (csum L) = (crc L : Int) ∧ crc L < 4294967296 := by
  have h : 0 ≤ bits .xor .u32 IntKind.u32.max (csum L) ∧ bits .xor .u32 IntKind.u32.max (csum L) < 4294967296 := by
    unfold bits
    simp only [IntKind.wrap_u32]
    omega
  unfold crc
  omega

set_option maxHeartbeats 400000 in
theorem sum_any (s off cap : Nat) (cs : Array Value) (L : List UInt8) (t' : TypeId) (fr : Nat × Nat) (w : World) (h : w.heap[s]? = some (.cells cs t' fr)) (hl : L.length ≤ 1000)
    (hc : ∀ j (hj : j < L.length), cs[off + j]? = some (.int .u8 (L[j].toNat : Int))) :
    Calls Tryz.prog 128 #[.slice (some ⟨s, off, none⟩) L.length cap] w fun e w' => e = .returned (.int .u32 (crc L)) ∧ w' = w := by
  go_enter Tryz.func128, Tryz.ntmps128
  go_wp2
  go_loop [3, 8] (fun v i => ∃ (k : Nat), k ≤ L.length ∧ i = .int .i64 k ∧ v = .int .u32 (csum (L.take k))) (fun _ i => L.length - (intOf i).toNat)
  case atStart => exact ⟨0, Nat.zero_le _, rfl, rfl⟩
  case round =>
    obtain ⟨k, hk, rfl, rfl⟩ := hrel
    by_cases hlt : k < L.length
    · have hcx : w.cell? ⟨s, off + k, none⟩ = some (.int .u8 (L[k].toNat : Int)) := cellAt h (hc k hlt)
      have HS : Hid (bsteps 8 (bits .xor .u32 (csum (L.take k)) ((L[k].toNat : Int) % 4294967296)) = csum (L.take (k + 1))) := by
        show _ = _
        rw [List.take_succ_eq_append_getElem hlt, csum_snoc]; rfl
      generalize csum (L.take k) = z at *
      go_wp2
      go_loop [3, 16] (fun v i => ∃ (j : Nat), j ≤ 8 ∧ i = .int .i64 j ∧ v = .int .u32 (bsteps j (bits .xor .u32 z ((L[k].toNat : Int) % 4294967296)))) (fun _ i => 8 - (intOf i).toNat)
      case atStart => exact ⟨0, by omega, rfl, rfl⟩
      case round =>
        obtain ⟨j, hj, rfl, rfl⟩ := hrel
        by_cases hj8 : j < 8
        · have HB : Hid (bits .xor .u32 (bsteps j (bits .xor .u32 z ((L[k].toNat : Int) % 4294967296)) / 2) (bits .and .u32 3988292384 (-bits .and .u32 (bsteps j (bits .xor .u32 z ((L[k].toNat : Int) % 4294967296))) 1 % 4294967296)) = bsteps (j + 1) (bits .xor .u32 z ((L[k].toNat : Int) % 4294967296))) := rfl
          generalize bsteps j (bits .xor .u32 z ((L[k].toNat : Int) % 4294967296)) = y at *
          go_wp2
          go_round
          case rel => exact ⟨j + 1, by omega, by go_num, congrArg (Value.int .u32) HB.out⟩
          case measure => simp [intOf]; omega
        · have hj' : j = 8 := by omega
          subst hj'
          go_wp2
          go_round
          case rel => exact ⟨k + 1, by omega, by go_num, congrArg (Value.int .u32) HS.out⟩
          case measure => simp [intOf]; omega
    · have hkl : k = L.length := by omega
      subst hkl
      rw [List.take_length]
      have HC : Hid (bits .xor .u32 IntKind.u32.max (csum L) = (crc L : Int)) := (crc_val L).1
      generalize csum L = z at *
      go_wp2
      go_ret
      exact ⟨ret_int HC.out, rfl⟩

theorem hblock_any (t : Nat) (w : World) (_ht : (t : Int) < 9223372036854775808) : Calls Tryz.prog 99 #[.agg #[.int .u64 t]] w fun e w' => e = .returned (.int .i64 (t % 2 : Nat)) ∧ Kept [] w w' := by
  go_enter Tryz.func99, Tryz.ntmps99
  go_wp2
  go_ret
  exact ⟨ret_int (by omega), (Kept.refl _ _).alloc _⟩

theorem Next_any (t : Nat) (w : World) (_ht : (t : Int) < 9223372036854775807) : Calls Tryz.prog 71 #[.agg #[.int .u64 t]] w fun e w' => e = .returned (.agg #[.int .u64 (t + 1 : Nat)]) ∧ Kept [] w w' := by
  go_enter Tryz.func71, Tryz.ntmps71
  go_wp2
  go_returns
  refine ⟨?_, ((Kept.refl _ _).alloc _).alloc _⟩
  simp

theorem newer_any (t u : Nat) (w : World) (_ht : (t : Int) < 9223372036854775807) (_hu : (u : Int) < 9223372036854775807) : Calls Tryz.prog 96 #[.agg #[.int .u64 t], .agg #[.int .u64 u]] w fun e w' => e = .returned (.bool (decide (u < t))) ∧ Kept [] w w' := by
  by_cases htu : u < t
  · go_enter Tryz.func96, Tryz.ntmps96
    go_wp2
    go_ret
    exact ⟨by simp [htu], ((Kept.refl _ _).alloc _).alloc _⟩
  · have HN : Hid (decide (0 < wrap64 (IntKind.u64.wrap ((t : Int) - u))) = decide (u < t)) := by
      show _ = _
      have : ¬ 0 < wrap64 (IntKind.u64.wrap ((t : Int) - u)) := by simp only [wrap64, IntKind.wrap_u64]; omega
      simp [this, htu]
    go_enter Tryz.func96, Tryz.ntmps96
    go_wp2
    go_ret
    exact ⟨congrArg (fun b => Ending.returned (.bool b)) HN.out, ((Kept.refl _ _).alloc _).alloc _⟩

end Go.Proofs.YtloihcnbcknbnaaGreatDoor

namespace Go.Proofs.YtloihcnbcknbnaaGreatDoor
open Go.RowKit

theorem wpList_alloc_d {P : Program} {ops : Array Oper} {rest : List Oper} {o : Oper} {a : Act} {w : World} {Q : Exit → Act → World → Prop} (hgd : o.guard = none) (d : Tmp) (_hd : o.dst = some d) (t : TypeId) (ho : o.op = .alloc t) (cs : Array Value)
    (hz : (Instr.alloc t true (.tuple #[])).run P w = .ok (.pointer (some ⟨w.heap.size, 0, none⟩)) (w.alloc (.cells cs t)))
    (h : ∀ w', w'.heap[w.heap.size]? = some (.cells cs t (0, 0)) → Kept [] w w' → w'.heap.size = w.heap.size + 1 → wpList P ops Q rest (a.put o.dst (.pointer (some ⟨w.heap.size, 0, none⟩))) w') : wpList P ops Q (o :: rest) a w :=
  wpList_alloc_k hgd t ho cs hz h

theorem upon_copy_str {P : Program} {w : World} {o : Oper} {a : Act} {K : Act → World → Prop} {Q : Exit → Act → World → Prop} {ty : TypeId} (dT sT : TypeId) (elem : TypeId) (hu : P.underlying dT = some (.slice elem)) (hsz : (P.info? elem).map (·.size) = some 1)
    (g off dLen dCap : Nat) (S : List UInt8) (cur : List UInt8) (t : TypeId) (hg : w.heap[g]? = some (.cells (u8s cur).toArray t (0, 0))) (hle : S.length ≤ dLen) (hfit : off + S.length ≤ cur.length)
    (h : ∀ w', w'.heap[g]? = some (.cells (u8s (splice cur off S)).toArray t (0, 0)) → Kept [g] w w' → K (a.put o.dst (goInt S.length)) w') :
    Oper.upon P o a K Q ((Sem.run P (Builtin.copy_ #[dT, sT] ty #[.slice (some ⟨g, off, none⟩) dLen dCap, .string ⟨S.toArray⟩]) w).andThen fun a w' => Result.ok (Next.value a) w') := by
  have hss : (ByteArray.mk S.toArray).size = S.length := rfl
  rw [Lib.run_copy_row_string (P := P) w dT sT ty elem g off dLen dCap ⟨S.toArray⟩ (u8s cur).toArray t hu hsz hg (by rw [hss]; exact hle) (by rw [hss]; simpa [length_u8s] using hfit)]
  refine h _ ?_ ((Kept.refl _ _).setRow (Or.inl (by simp)) _)
  rw [setRow_heap w g _ _ t _ hg, ← u8s_splice]
  simp [splice, hss, Lib.byteCells, u8s]

theorem zsec (w : World) : (Instr.alloc 160 true (.tuple #[])).run Tryz.prog w = .ok (.pointer (some ⟨w.heap.size, 0, none⟩)) (w.alloc (.cells (u8s (List.replicate 32 0)).toArray 160)) := by kernel_rfl
theorem ssec : (Tryz.prog.info? 160).map (·.size) = some 32 := by kernel_rfl

def markL : List UInt8 := [115, 116, 111, 114, 101, 32, 49, 10]
def sec0 : List UInt8 := splice (List.replicate 32 0) 0 markL
def sec1 (t : Nat) : List UInt8 := splice sec0 8 (bytesOf t 8)
/-- a head's sector -/
def sec (t : Nat) : List UInt8 := splice (sec1 t) 28 (bytesOf (crc ((sec1 t).take 28)) 4)
theorem length_bytesOf (n k : Nat) : (bytesOf n k).length = k := by simp [bytesOf]
theorem length_sec0 : sec0.length = 32 := by decide
theorem length_sec1 (t : Nat) : (sec1 t).length = 32 := by rw [sec1, length_splice _ _ _ (by rw [length_bytesOf, length_sec0]; omega), length_sec0]
theorem length_sec (t : Nat) : (sec t).length = 32 := by rw [sec, length_splice _ _ _ (by rw [length_bytesOf, length_sec1]; omega), length_sec1]

theorem u8cells (L : List UInt8) (off : Nat) (n : Nat) : ∀ j (hj : j < ((L.drop off).take n).length), (u8s L).toArray[off + j]? = some (.int .u8 (((L.drop off).take n)[j].toNat : Int)) := by
  intro j hj
  simp only [List.getElem?_toArray, u8s_get]
  have h1 : j < n := by simp at hj; omega
  have h2 : off + j < L.length := by simp at hj; omega
  rw [List.getElem?_eq_getElem h2]
  simp

theorem sum_n (s off cap n m : Nat) (D : List UInt8) (t' : TypeId) (fr : Nat × Nat) (w : World) (h : w.heap[s]? = some (.cells (u8s D).toArray t' fr)) (hm : ((D.drop off).take m).length = n) (hn : n ≤ 1000) :
    Calls Tryz.prog 128 #[.slice (some ⟨s, off, none⟩) n cap] w fun e w' => e = .returned (.int .u32 (crc ((D.drop off).take m))) ∧ w' = w := by
  subst hm
  exact sum_any s off cap _ _ t' fr w h hn (u8cells D off m)
theorem number_n (s off cap n m : Nat) (D : List UInt8) (t' : TypeId) (fr : Nat × Nat) (w : World) (h : w.heap[s]? = some (.cells (u8s D).toArray t' fr)) (hm : ((D.drop off).take m).length = n) (hn : n ≤ 8) :
    Calls Tryz.prog 126 #[.slice (some ⟨s, off, none⟩) n cap] w fun e w' => e = .returned (.int .u64 (leNum ((D.drop off).take m))) ∧ w' = w := by
  subst hm
  exact number_any s off cap _ _ t' fr w h hn (u8cells D off m)

set_option maxRecDepth 100000 in
set_option maxHeartbeats 1000000 in
theorem sector_any (t : Nat) (w : World) (ht : (t : Int) < 9223372036854775807) :
    Calls Tryz.prog 97 #[.agg #[.int .u64 t]] w fun e w' => e = .returned (.agg (u8s (sec t)).toArray) ∧ Kept [] w w' := by
  go_enter Tryz.func97, Tryz.ntmps97
  go_wp2_with (first
    | (refine wpList_alloc_d rfl 2 rfl 160 rfl _ (zsec _) ?_; intro w2 hn2 hk2 hs2; have HS2 : Hid _ := hs2; clear hs2)
    | (refine wpList_alloc_d rfl 3 rfl 160 rfl _ (zsec _) ?_; intro w3 hn3 hk3 hs3; have HS3 : Hid _ := hs3; clear hs3)
    | (refine upon_copy_str 58 9 5 Tryz.underlying58 su8 w2.heap.size 0 32 32 markL (List.replicate 32 0) 160 hn3 (by decide) (by decide) ?_; intro w4 hn4 hk4))
  have hb0 : w4.heap[w.heap.size]? = some (.cells #[.int .u64 t] 122 (0, 0)) := by
    have h0 := hk3.get (hk2.get (heap_alloc_new w (.cells #[.int .u64 t] 122)) (by simp)) (by simp)
    exact hk4.get h0 (by have := HS2.out; simp at this ⊢; omega)
  have hz : w2.heap.size = w.heap.size + 1 + 1 := by have := HS2.out; simpa using this
  have HZ : Hid (w2.heap.size = w.heap.size + 1 + 1) := hz
  have hr : w4.heap[w.heap.size + 1]? = some (.cells (u8s (List.replicate 32 0)).toArray 160 (0, 0)) := by
    rw [World.size_alloc] at hn2
    exact hk4.get (hk3.get hn2 (by simp)) (by simp; omega)
  have c0 : w4.cell? ⟨w.heap.size, 0, none⟩ = some (.int .u64 t) := cellAt hb0 rfl
  have hk14 : Kept [] w w4 := by
    refine Kept.trans2 (Kept.trans (Kept.trans ((Kept.refl _ _).alloc _) hk2) hk3) hk4 ?_
    intro x hx; simp at hx; subst hx; exact Or.inr (by omega)
  have hn4' : w4.heap[w2.heap.size]? = some (.cells (u8s sec0).toArray 160 (0, 0)) := hn4
  clear hn4 hn3 hn2 hk2 hk3 hk4 hb0 hz
  go_region_with (go_at_call 127; refine (put_any w2.heap.size 8 8 24 sec0 t 160 _ (by exact hn4') (by omega) (by rw [length_sec0]; omega) (by omega)).mono ?_; rintro e w5 ⟨rfl, hn5, hk5⟩)
  have hn5' : w5.heap[w2.heap.size]? = some (.cells (u8s (sec1 t)).toArray 160 (0, 0)) := hn5
  have hr5 := hk5.get (w := w4.drew) hr (by have := HZ.out; simp; omega)
  have hk15 : Kept [] w w5 := hk14.drew.trans2 hk5 (by intro x hx; simp at hx; subst hx; have := HZ.out; exact Or.inr (by omega))
  have hcr := (crc_val ((sec1 t).take 28)).2
  have hcr' : ((crc ((sec1 t).take 28) : Nat) : Int) < 4294967296 := by omega
  have HSM : Hid (∀ W, W.heap[w2.heap.size]? = some (.cells (u8s (sec1 t)).toArray 160 (0, 0)) → Calls Tryz.prog 128 #[.slice (some ⟨w2.heap.size, 0, none⟩) 28 32] W fun e w' => e = .returned (.int .u32 (crc ((sec1 t).take 28))) ∧ w' = W) := by
    intro W hW
    have := sum_n w2.heap.size 0 32 28 28 (sec1 t) 160 (0, 0) W hW (by rw [List.drop_zero, List.length_take, length_sec1]; rfl) (by omega)
    rw [List.drop_zero] at this
    exact this
  clear hn5 hk5 hr hn4' c0 hk14 hcr
  generalize hcc : crc ((sec1 t).take 28) = cc at *
  have HCC : Hid (crc ((sec1 t).take 28) = cc) := hcc
  clear hcc
  have HW : Hid (IntKind.u64.wrap (cc : Int) = cc) := by show _ = _; rw [IntKind.wrap_u64]; omega
  go_wp2
  go_region_with (first
    | (go_at_call 128; refine (HSM.out _ (by exact hn5')).mono ?_; rintro e w' ⟨rfl, rfl⟩)
    | (go_at_call 127; rw [HW.out]; refine (put_any w2.heap.size 28 4 4 (sec1 t) cc 160 _ (by exact hn5') (by omega) (by rw [length_sec1]; omega) (by omega)).mono ?_; rintro e w6 ⟨rfl, hn6, hk6⟩))
  have hk16 : Kept [] w w6 := hk15.drew.trans2 hk6 (by intro x hx; simp at hx; subst hx; have := HZ.out; exact Or.inr (by omega))
  have hr6 := hk6.get (w := w5.drew) hr5 (by have := HZ.out; simp; omega)
  have hn6' : w6.heap[w2.heap.size]? = some (.cells (u8s (sec t)).toArray 160 (0, 0)) := by rw [sec, HCC.out]; exact hn6
  clear hn6 hn5' hr5 hk6 hk15 hcr' HSM
  go_wp2_with (first
    | (refine wpList_load_row rfl 160 (.tmp 3) rfl w2.heap.size rfl 160 (u8s (sec t)).toArray (0, 0) _ hn6' Tryz.underlying160 rfl (by rw [ssec]; simp [length_u8s, length_sec]) ?_)
    | (refine wpList_store_k rfl 160 (.tmp 2) (.tmp 15) rfl (w.heap.size + 1) (u8s (sec t)).toArray rfl rfl 160 _ hr6 (by rw [ssec]; simp [length_u8s, length_sec]) (by simp [length_u8s, length_sec]) (all_of (one_u8s _)) ?_; intro w7 hg7 hk7))
  refine bodyPost_ret (results_cell_row rfl _ w7 (w.heap.size + 1) 160 _ (0, 0) _ rfl hg7 Tryz.underlying160 rfl (by rw [ssec]; simp [length_u8s, length_sec])) rfl ?_
  exact ⟨rfl, hk16.trans2 hk7 (by intro x hx; simp at hx; subst hx; exact Or.inr (by omega))⟩

end Go.Proofs.YtloihcnbcknbnaaGreatDoor
