import Derived.Test.YtloihcnbcknbnaaGreatDoorPtbh
import Derived.Laws.StructEq
namespace Go.Proofs.YtloihcnbcknbnaaGreatDoor
open Go.RowKit

theorem part_u8 (P : Program) (w : World) (e : TypeId) (A : List UInt8) (i : Nat) (hi : i < A.length) (he : P.underlying e = some (.int .u8)) :
    (part e (u8s A).toArray i).run P w = .ok (.int .u8 (A[i].toNat : Int)) w := by
  have : (u8s A).toArray[i]? = some (.int .u8 (A[i].toNat : Int)) := by simp [u8s_get, hi]
  simp [part, isAgg, run_underlying he, this]

theorem eq_loop (P : Program) (w : World) (d len : Nat) (e : TypeId) (A B : List UInt8) (hA : A.length = len) (hB : B.length = len) (he : P.underlying e = some (.int .u8)) (k : Nat) : ∀ s, s + k = len →
    (forIn (List.range' s k) ((none : Option Bool), ()) fun i __s => do
        let x ← part e (u8s A).toArray (i * 1)
        let y ← part e (u8s B).toArray (i * 1)
        let z ← Op.equalIn (d + 1) e x y
        if (!z) = true then pure (ForInStep.done (some false, ())) else pure (ForInStep.yield (none, ()))).run P w =
      .ok (if A.drop s = B.drop s then ((none : Option Bool), ()) else (some false, ())) w := by
  induction k with
  | zero =>
    intro s hs
    rw [List.drop_of_length_le (by omega), List.drop_of_length_le (by omega)]
    simp
  | succ k ih =>
    intro s hs
    have h1 : s < A.length := by omega
    have h2 : s < B.length := by omega
    have hd : (A.drop s = B.drop s) = (A[s] = B[s] ∧ A.drop (s + 1) = B.drop (s + 1)) := by
      rw [List.drop_eq_getElem_cons h1, List.drop_eq_getElem_cons h2, List.cons.injEq]
    have ih' := ih (s + 1) (by omega)
    simp only [Nat.mul_one] at ih' ⊢
    rw [List.range'_succ, List.forIn_cons]
    simp only [Sem.run_bind, part_u8 P w e A s h1 he, part_u8 P w e B s h2 he, Result.andThen_ok, run_equalIn_int (P := P) (w := w) d e .u8 .u8 _ _ he]
    by_cases hc : A[s] = B[s]
    · have e1 : ((A[s].toNat : Int) == (B[s].toNat : Int)) = true := by rw [hc]; simp
      simp only [e1, Bool.not_true, Bool.false_eq_true, if_false, Sem.run_pure, Result.andThen_ok]
      rw [ih']
      simp only [hd, hc, true_and]
    · have e1 : ((A[s].toNat : Int) == (B[s].toNat : Int)) = false := by
        rw [beq_eq_false_iff_ne]
        exact fun h => hc (UInt8.toNat_inj.1 (by omega))
      simp only [e1, Bool.not_false, if_true, Sem.run_pure, Result.andThen_ok, hd, hc, false_and, if_false]

theorem equal_arr (P : Program) (w : World) (d len : Nat) (t e : TypeId) (A B : List UInt8) (hA : A.length = len) (hB : B.length = len) (ht : P.underlying t = some (.array len e)) (he : P.underlying e = some (.int .u8)) (hs : (P.info? e).map (·.size) = some 1) :
    (Op.equalIn (d + 2) t (.agg (u8s A).toArray) (.agg (u8s B).toArray)).run P w = .ok (decide (A = B)) w := by
  cases hq : P.info? e with
  | none => simp [hq] at hs
  | some ie =>
    have hsz : ie.size = 1 := by simpa [hq] using hs
    have hsize : (sizeOf e).run P w = .ok 1 w := by simp [sizeOf, typeInfo, hq, hsz]
    rw [Op.equalIn]
    simp only [Sem.run_bind, run_underlying ht, Result.andThen_ok, hsize]
    rw [Std.Legacy.Range.forIn_eq_forIn_range']
    have := eq_loop P w d len e A B hA hB he len 0 (by omega)
    simp only [Std.Legacy.Range.size, Nat.sub_zero, Nat.add_sub_cancel, Nat.div_one] at this ⊢
    rw [this]
    by_cases hc : A = B <;> simp [hc]

theorem neq_arr (P : Program) (w : World) (len : Nat) (t e : TypeId) (A B : List UInt8) (hA : A.length = len) (hB : B.length = len) (ht : P.underlying t = some (.array len e)) (he : P.underlying e = some (.int .u8)) (hs : (P.info? e).map (·.size) = some 1) :
    (binOp .neq t (.agg (u8s A).toArray) (.agg (u8s B).toArray)).run P w = .ok (.bool (!decide (A = B))) w := by
  rw [run_neq_struct, equal_arr P w 9998 len t e A B hA hB ht he hs]; rfl

end Go.Proofs.YtloihcnbcknbnaaGreatDoor
