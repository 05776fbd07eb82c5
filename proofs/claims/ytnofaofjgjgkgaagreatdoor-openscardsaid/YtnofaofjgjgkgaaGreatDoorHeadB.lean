import Derived.Test.YtnofaofjgjgkgaaGreatDoorAsD
namespace Go.Proofs.YtnofaofjgjgkgaaGreatDoor
open Go.RowKit

/-- bytes as a number, the lowest first -/
def leNum : List UInt8 → Nat
  | [] => 0
  | b :: r => b.toNat + 256 * leNum r
theorem leNum_snoc (l : List UInt8) (b : UInt8) : leNum (l ++ [b]) = leNum l + b.toNat * 2 ^ (8 * l.length) := by
  induction l with
  | nil => simp [leNum]
  | cons a r ih =>
    simp only [List.cons_append, leNum, ih, List.length_cons, Nat.mul_add, Nat.mul_one]
    rw [show 8 * r.length + 8 = 8 * r.length + 8 from rfl, Nat.pow_add]
    have : (2 : Nat) ^ 8 = 256 := rfl
    have e2 : 256 * (b.toNat * 2 ^ (8 * r.length)) = b.toNat * (2 ^ (8 * r.length) * 256) := by rw [Nat.mul_comm 256, Nat.mul_assoc]
    rw [this]
    omega
theorem leNum_lt (l : List UInt8) : leNum l < 2 ^ (8 * l.length) := by
  induction l with
  | nil => simp [leNum]
  | cons a r ih =>
    have ha := a.toNat_lt
    simp only [leNum, List.length_cons, Nat.mul_add, Nat.mul_one, Nat.pow_add]
    have : (2 : Nat) ^ 8 = 256 := rfl
    omega

theorem num_step (a b k : Nat) (ha : a < 2 ^ (8 * k)) (hb : b < 256) (hk : k < 8) :
    bits .or .u64 (a : Int) (IntKind.u64.wrap (IntKind.u64.wrap (b : Int) * 2 ^ (8 * k))) = ((a + b * 2 ^ (8 * k) : Nat) : Int) := by
  have h2 : b * 2 ^ (8 * k) < 2 ^ (8 * (k + 1)) := by rw [Nat.mul_add, Nat.pow_add]; have : (2 : Nat) ^ (8 * 1) = 256 := rfl; rw [this, Nat.mul_comm]; exact Nat.mul_lt_mul_of_pos_left hb (Nat.two_pow_pos _)
  have h3 : 2 ^ (8 * (k + 1)) ≤ 2 ^ 64 := Nat.pow_le_pow_right (by omega) (by omega)
  have h4 : 2 ^ (8 * k) ≤ 2 ^ 64 := Nat.pow_le_pow_right (by omega) (by omega)
  have e64 : (2 : Nat) ^ 64 = 18446744073709551616 := by decide
  rw [e64] at h3 h4
  have w1 : IntKind.u64.wrap (b : Int) = b := by rw [IntKind.wrap_u64]; omega
  have e1 : (b : Int) * 2 ^ (8 * k) = ((b * 2 ^ (8 * k) : Nat) : Int) := by simp
  have w2 : IntKind.u64.wrap ((b * 2 ^ (8 * k) : Nat) : Int) = ((b * 2 ^ (8 * k) : Nat) : Int) := by rw [IntKind.wrap_u64]; omega
  rw [w1, e1, w2, u64_or_nat a (b * 2 ^ (8 * k)) (by omega) (by omega), Nat.mul_comm b, Nat.or_comm, ← Nat.two_pow_add_eq_or_of_lt ha, Nat.add_comm]

set_option maxHeartbeats 400000 in
theorem number_any (s off cap : Nat) (cs : Array Value) (L : List UInt8) (t' : TypeId) (fr : Nat × Nat) (w : World) (h : w.heap[s]? = some (.cells cs t' fr)) (hl : L.length ≤ 8)
    (hc : ∀ j (hj : j < L.length), cs[off + j]? = some (.int .u8 (L[j].toNat : Int))) :
    Calls Tryz.prog 95 #[.slice (some ⟨s, off, none⟩) L.length cap] w fun e w' => e = .returned (.int .u64 (leNum L)) ∧ w' = w := by
  go_enter Tryz.func95, Tryz.ntmps95
  go_wp2
  go_loop [3, 8] (fun v i => ∃ (k : Nat), k ≤ L.length ∧ i = .int .i64 k ∧ v = .int .u64 (leNum (L.take k))) (fun _ i => L.length - (intOf i).toNat)
  case atStart => exact ⟨0, Nat.zero_le _, rfl, rfl⟩
  case round =>
    obtain ⟨k, hk, rfl, rfl⟩ := hrel
    by_cases hlt : k < L.length
    · have hcx : w.cell? ⟨s, off + k, none⟩ = some (.int .u8 (L[k].toNat : Int)) := cellAt h (hc k hlt)
      have hlen : (L.take k).length = k := by rw [List.length_take]; omega
      have hst : bits .or .u64 (leNum (L.take k) : Int) (IntKind.u64.wrap (IntKind.u64.wrap (L[k].toNat : Int) * 2 ^ (8 * k))) = (leNum (L.take (k + 1)) : Int) := by
        rw [num_step _ _ _ (by have := leNum_lt (L.take k); rwa [hlen] at this) L[k].toNat_lt (by omega), List.take_succ_eq_append_getElem hlt, leNum_snoc, hlen]
      have HS : Hid (bits .or .u64 (leNum (L.take k) : Int) (IntKind.u64.wrap (IntKind.u64.wrap (L[k].toNat : Int) * 2 ^ (8 * k))) = (leNum (L.take (k + 1)) : Int)) := hst
      clear hst hlen
      generalize leNum (L.take k) = z at *
      go_wp2
      go_round
      case rel => exact ⟨k + 1, by omega, by go_num, congrArg (Value.int .u64) HS.out⟩
      case measure => simp [intOf]; omega
    · have hkl : k = L.length := by omega
      subst hkl
      rw [List.take_length]
      go_wp2
      go_ret
      exact ⟨rfl, rfl⟩

/-- byte number i of a number -/
def byteOf (n i : Nat) : UInt8 := UInt8.ofNat (n / 2 ^ (8 * i) % 256)
theorem byteOf_val (n i : Nat) : ((n : Int) / 2 ^ (8 * i) % 256) = ((byteOf n i).toNat : Int) := by
  have h : (byteOf n i).toNat = n / 2 ^ (8 * i) % 256 := by
    unfold byteOf
    rw [UInt8.toNat_ofNat']
    exact Nat.mod_eq_of_lt (by have : (2 : Nat) ^ 8 = 256 := rfl; omega)
  rw [h]; simp
def bytesOf (n len : Nat) : List UInt8 := (List.range len).map (byteOf n)
theorem leNum_bytesOf (n len : Nat) : leNum (bytesOf n len) = n % 2 ^ (8 * len) := by
  induction len with
  | zero => simp [bytesOf, leNum, Nat.mod_one]
  | succ k ih =>
    have e : bytesOf n (k + 1) = bytesOf n k ++ [byteOf n k] := by simp [bytesOf, List.range_succ]
    have hl : (bytesOf n k).length = k := by simp [bytesOf]
    rw [e, leNum_snoc, ih, hl]
    have hb : (byteOf n k).toNat = n / 2 ^ (8 * k) % 256 := by
      unfold byteOf
      rw [UInt8.toNat_ofNat']
      exact Nat.mod_eq_of_lt (by have : (2 : Nat) ^ 8 = 256 := rfl; omega)
    rw [hb, Nat.mul_add, Nat.pow_add, Nat.mod_mul, Nat.mul_comm (2 ^ (8 * k))]

set_option maxHeartbeats 400000 in
theorem put_any (s off len cap : Nat) (cs : List UInt8) (n : Nat) (t' : TypeId) (w : World) (h : w.heap[s]? = some (.cells (u8s cs).toArray t' (0, 0))) (hl : len ≤ 8) (hfit : off + len ≤ cs.length) (_h1 : (n : Int) < 18446744073709551616) :
    Calls Tryz.prog 96 #[.slice (some ⟨s, off, none⟩) len cap, .int .u64 n] w fun e w' => e = .returned (.tuple #[]) ∧
      w'.heap[s]? = some (.cells (u8s (splice cs off (bytesOf n len))).toArray t' (0, 0)) ∧ Kept [s] w w' := by
  go_enter Tryz.func96, Tryz.ntmps96
  go_wp2
  go_loopw [7] (fun i wr => ∃ (k : Nat), k ≤ len ∧ i = .int .i64 k ∧ wr.heap[s]? = some (.cells (u8s (splice cs off (bytesOf n k))).toArray t' (0, 0)) ∧ Kept [s] w wr) (fun i _ => len - (intOf i).toNat)
  case atStart => exact ⟨0, Nat.zero_le _, rfl, by simpa [bytesOf, splice] using h, Kept.refl _ _⟩
  case round =>
    obtain ⟨k, hk, rfl, hc2, hkr⟩ := hrel
    by_cases hlt : k < len
    · have hbl : (bytesOf n k).length = k := by simp [bytesOf]
      have hsl : (splice cs off (bytesOf n k)).length = cs.length := length_splice _ _ _ (by omega)
      obtain ⟨old, hold⟩ : ∃ old, wr.cell? ⟨s, off + k, none⟩ = some old := ⟨_, cellAt hc2 (Array.getElem?_eq_getElem (by simp only [List.size_toArray, length_u8s]; omega))⟩
      have hf : wr.frozen? ⟨s, off + k, none⟩ = false := frozen_of_row _ _ _ _ _ hc2
      have hset : (splice cs off (bytesOf n k)).set (off + k) (byteOf n k) = splice cs off (bytesOf n (k + 1)) := by
        have e : bytesOf n (k + 1) = bytesOf n k ++ [byteOf n k] := by simp [bytesOf, List.range_succ]
        have h0 : off + k < cs.length := by omega
        rw [e, splice, splice, List.length_append, hbl]
        rw [List.set_append_right _ _ (by simp; omega), List.set_append_right _ _ (by simp; omega)]
        have e2 : off + k - (List.take off cs).length - (bytesOf n k).length = 0 := by rw [List.length_take, hbl]; omega
        rw [e2, List.drop_eq_getElem_cons h0, List.set_cons_zero]
        simp [Nat.add_assoc]
      have H1 := setCellAt (i := off + k) (.int .u8 ((byteOf n k).toNat : Int)) hc2
      rw [u8s_set, hset] at H1
      have H2 : Kept [s] w (wr.setCell ⟨s, off + k, none⟩ (.int .u8 ((byteOf n k).toNat : Int))) := hkr.setCell (Or.inl (by simp)) _
      have HB : Hid ((n : Int) / 2 ^ (8 * k) % 256 = ((byteOf n k).toNat : Int)) := byteOf_val n k
      clear hset hsl hbl hc2 hkr
      go_wp2
      go_roundw
      case rel => rw [HB.out]; exact ⟨k + 1, by omega, by go_num, H1, H2⟩
      case measure => simp [intOf]; omega
    · have hkl : k = len := by omega
      subst hkl
      go_wp2
      go_end0
      exact ⟨rfl, hc2, hkr⟩

end Go.Proofs.YtnofaofjgjgkgaaGreatDoor
