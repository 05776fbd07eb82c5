import Derived.Test.YtnofaofjgjgkgaaGreatDoorHeadB
namespace Go.Proofs.YtnofaofjgjgkgaaGreatDoor
open Go.RowKit

/-- one bit's turn of the sum -/
def bstep (y : Int) : Int := bits .xor .u32 (y / 2) (bits .and .u32 3988292384 (-bits .and .u32 y 1 % 4294967296))
def bsteps : Nat → Int → Int
  | 0, y => y
  | n + 1, y => bstep (bsteps n y)
def cstep (z : Int) (b : UInt8) : Int := bsteps 8 (bits .xor .u32 z ((b.toNat : Int) % 4294967296))
def csum (L : List UInt8) : Int := L.foldl cstep 4294967295
theorem csum_snoc (L : List UInt8) (b : UInt8) : csum (L ++ [b]) = cstep (csum L) b := by simp [csum]

/-- the sum of bytes -/
def crc (L : List UInt8) : Nat := (bits .xor .u32 IntKind.u32.max (csum L)).toNat
theorem crc_val (L : List UInt8) : bits .xor .u32 IntKind.u32.max (csum L) = (crc L : Int) ∧ crc L < 4294967296 := by
  have h : 0 ≤ bits .xor .u32 IntKind.u32.max (csum L) ∧ bits .xor .u32 IntKind.u32.max (csum L) < 4294967296 := by
    unfold bits
    simp only [IntKind.wrap_u32]
    omega
  unfold crc
  omega

set_option maxHeartbeats 400000 in
theorem sum_any (s off cap : Nat) (cs : Array Value) (L : List UInt8) (t' : TypeId) (fr : Nat × Nat) (w : World) (h : w.heap[s]? = some (.cells cs t' fr)) (hl : L.length ≤ 1000)
    (hc : ∀ j (hj : j < L.length), cs[off + j]? = some (.int .u8 (L[j].toNat : Int))) :
    Calls Tryz.prog 97 #[.slice (some ⟨s, off, none⟩) L.length cap] w fun e w' => e = .returned (.int .u32 (crc L)) ∧ w' = w := by
  go_enter Tryz.func97, Tryz.ntmps97
  go_wp2
  go_loop [3, 8] (fun v i => ∃ (k : Nat), k ≤ L.length ∧ i = .int .i64 k ∧ v = .int .u32 (csum (L.take k))) (fun _ i => L.length - (intOf i).toNat)
  case atStart => exact ⟨0, Nat.zero_le _, rfl, rfl⟩
  case round =>
    obtain ⟨k, hk, rfl, rfl⟩ := hrel
    by_cases hlt : k < L.length
    · have hcx : w.cell? ⟨s, off + k, none⟩ = some (.int .u8 (L[k].toNat : Int)) := cellAt h (hc k hlt)
      have HS : Hid (bsteps 8 (bits .xor .u32 (csum (L.take k)) ((L[k].toNat : Int) % 4294967296)) = csum (L.take (k + 1))) := by
        show _ = _
        rw [List.take_succ_eq_append_getElem hlt, csum_snoc]; rfl
      generalize csum (L.take k) = z at *
      go_wp2
      go_loop [3, 16] (fun v i => ∃ (j : Nat), j ≤ 8 ∧ i = .int .i64 j ∧ v = .int .u32 (bsteps j (bits .xor .u32 z ((L[k].toNat : Int) % 4294967296)))) (fun _ i => 8 - (intOf i).toNat)
      case atStart => exact ⟨0, by omega, rfl, rfl⟩
      case round =>
        obtain ⟨j, hj, rfl, rfl⟩ := hrel
        by_cases hj8 : j < 8
        · have HB : Hid (bits .xor .u32 (bsteps j (bits .xor .u32 z ((L[k].toNat : Int) % 4294967296)) / 2) (bits .and .u32 3988292384 (-bits .and .u32 (bsteps j (bits .xor .u32 z ((L[k].toNat : Int) % 4294967296))) 1 % 4294967296)) = bsteps (j + 1) (bits .xor .u32 z ((L[k].toNat : Int) % 4294967296))) := rfl
          generalize bsteps j (bits .xor .u32 z ((L[k].toNat : Int) % 4294967296)) = y at *
          go_wp2
          go_round
          case rel => exact ⟨j + 1, by omega, by go_num, congrArg (Value.int .u32) HB.out⟩
          case measure => simp [intOf]; omega
        · have hj' : j = 8 := by omega
          subst hj'
          go_wp2
          go_round
          case rel => exact ⟨k + 1, by omega, by go_num, congrArg (Value.int .u32) HS.out⟩
          case measure => simp [intOf]; omega
    · have hkl : k = L.length := by omega
      subst hkl
      rw [List.take_length]
      have HC : Hid (bits .xor .u32 IntKind.u32.max (csum L) = (crc L : Int)) := (crc_val L).1
      generalize csum L = z at *
      go_wp2
      go_ret
      exact ⟨ret_int HC.out, rfl⟩

theorem hblock_any (t : Nat) (w : World) (_ht : (t : Int) < 9223372036854775808) : Calls Tryz.prog 88 #[.agg #[.int .u64 t]] w fun e w' => e = .returned (.int .i64 (t % 2 : Nat)) ∧ Kept [] w w' := by
  go_enter Tryz.func88, Tryz.ntmps88
  go_wp2
  go_ret
  exact ⟨ret_int (by omega), (Kept.refl _ _).alloc _⟩

theorem Next_any (t : Nat) (w : World) (_ht : (t : Int) < 9223372036854775807) : Calls Tryz.prog 72 #[.agg #[.int .u64 t]] w fun e w' => e = .returned (.agg #[.int .u64 (t + 1 : Nat)]) ∧ Kept [] w w' := by
  go_enter Tryz.func72, Tryz.ntmps72
  go_wp2
  go_returns
  refine ⟨?_, ((Kept.refl _ _).alloc _).alloc _⟩
  simp

theorem newer_any (t u : Nat) (w : World) (_ht : (t : Int) < 9223372036854775807) (_hu : (u : Int) < 9223372036854775807) : Calls Tryz.prog 85 #[.agg #[.int .u64 t], .agg #[.int .u64 u]] w fun e w' => e = .returned (.bool (decide (u < t))) ∧ Kept [] w w' := by
  by_cases htu : u < t
  · go_enter Tryz.func85, Tryz.ntmps85
    go_wp2
    go_ret
    exact ⟨by simp [htu], ((Kept.refl _ _).alloc _).alloc _⟩
  · have HN : Hid (decide (0 < wrap64 (IntKind.u64.wrap ((t : Int) - u))) = decide (u < t)) := by
      show _ = _
      have : ¬ 0 < wrap64 (IntKind.u64.wrap ((t : Int) - u)) := by simp only [wrap64, IntKind.wrap_u64]; omega
      simp [this, htu]
    go_enter Tryz.func85, Tryz.ntmps85
    go_wp2
    go_ret
    exact ⟨congrArg (fun b => Ending.returned (.bool b)) HN.out, ((Kept.refl _ _).alloc _).alloc _⟩

end Go.Proofs.YtnofaofjgjgkgaaGreatDoor
