import Derived.Test.YtcklgafpgdhnaaaGreatDoorPtaa
import Derived.Lib.Strings
import Derived.Lib.BufferWrite
import Derived.Lib.UnsafeStr
import Derived.Laws.MakeOwn
import Derived.Laws.StructEq
import Derived.Test.YtcklgafpgdhnaaaGreatDoorPtae
set_option maxRecDepth 100000
set_option maxHeartbeats 4000000
open List renaming getElem_toArray → zA, getElem_cons_succ → zB, getElem_cons_zero → zC, setIfInBounds_toArray → zD, set_cons_succ → zE, set_cons_zero → zF
namespace Go.Proofs.YtcklgafpgdhnaaaGreatDoor
open Go.RowKit

theorem itu8 : (Tryz.prog.info? 5).map (fun i => (i.zero, i.size, i.bytes)) = some (some (Value.int .u8 0), 1, 1) := by kernel_rfl

theorem SLClone_any (s : ByteArray) (w : World) (hs : s.size ≤ 1000000) : Calls Tryz.prog 71 #[.string s] w fun e w' => e = .returned (.string s) ∧ Kept [] w w' := by
 by_cases h0 : s.size = 0
 ·obtain rfl : s = ⟨#[]⟩ := ByteArray.ext (Array.eq_empty_of_size_eq_zero h0)
  go_enter Tryz.func71, Tryz.ntmps71
  go_wp2
  go_ret
  exact ⟨rfl, Kept.refl _ _⟩
 ·obtain ⟨iu, hiu, hz0, hz1, hz2⟩ := info_parts itu8
  have h1 : (Tryz.prog.info? 5).map (·.size) = some 1 := by rw [hiu]; simp [hz1]
  have hcells : Tryz.prog.cellsOf 5 = 1 := by simp [Program.cellsOf, hiu, hz1]
  obtain ⟨new, hnew⟩ : ∃ new, new = madeCells (Value.int .u8 0).cells (((s.size : Nat) : Int).toNat * iu.size) := ⟨_, rfl⟩
  have hns : new.size = s.size := by rw [hnew, size_madeCells, hz1]; simp
  have hmake : ∀ W : World, (Instr.makeSlice 60 (.int .i64 (s.size : Int)) (.int .i64 (s.size : Int))).run Tryz.prog W = .ok (.slice (some ⟨W.heap.size, 0, none⟩) s.size s.size) (W.alloc (.cells new 5)) := by
   intro W
   have := run_make (P := Tryz.prog) W 60 5 iu (.int .u8 0) Tryz.underlying60 hiu hz0 .i64 .i64 (s.size : Int) (s.size : Int) (by omega) (by omega) (by rw [hz2]; omega) (by omega)
   rw [← hnew] at this
   simpa using this
  clear hnew
  obtain ⟨w1, ew1⟩ : ∃ w1, w1 = w.alloc (.cells new 5) := ⟨_, rfl⟩
  have hrow1 : w1.heap[w.heap.size]? = some (.cells new 5 (0, 0)) := by rw [ew1]; exact heap_alloc_new w _
  have hcopy := Lib.run_copy_row_string (P := Tryz.prog) w1 60 9 3 5 w.heap.size 0 s.size s.size s new 5 Tryz.underlying60 h1 hrow1 (Nat.le_refl _) (by omega)
  obtain ⟨full, hfull⟩ : ∃ full, full = (new.toList.take 0 ++ Lib.byteCells s.data.toList ++ new.toList.drop (0 + s.size)).toArray := ⟨_, rfl⟩
  rw [← hfull] at hcopy
  have hfl : full.toList = Lib.byteCells s.data.toList := by
   rw [hfull, List.toList_toArray, List.take_zero, List.nil_append, List.drop_of_length_le (by rw [Array.length_toList]; omega), List.append_nil]
  have hfs : full.size = s.size := by rw [← Array.length_toList, hfl, Lib.byteCells_length, ← Lib.size_eq]
  have hrow2 : (w1.setRow w.heap.size full).heap[w.heap.size]? = some (.cells full 5 (0, 0)) := setRow_heap _ _ new _ 5 (0, 0) hrow1
  have hne : s.data.toList ≠ [] := fun e => h0 (by rw [Lib.size_eq, e]; rfl)
  have hstr := Lib.run_unsafeString_row (P := Tryz.prog) (w1.setRow w.heap.size full) 164 3 9 5 Tryz.underlying164 hcells w.heap.size full.size (by unfold World.shape?; rw [hrow2]) s.data.toList hne (by rw [← Lib.size_eq]; omega) (by rw [← Lib.size_eq]; omega)
   (fun j x hx => Lib.cells_of_row hrow2 full.size j _ (by rw [List.take_of_length_le (by rw [Array.length_toList]; exact Nat.le_refl _), hfl]; simp [Lib.byteCells, hx]))
  rw [← Lib.size_eq] at hstr
  have k1 : Kept [] w (w1.setRow w.heap.size full) := by rw [ew1]; exact ((Kept.refl [] w).alloc _).setRow (Or.inr (Nat.le_refl _)) _
  have K1 : Hid _ := k1.below
  subst ew1
  clear hfull k1
  go_enter Tryz.func71, Tryz.ntmps71
  go_wp2
  go_ret
  exact ⟨rfl, Kept.of_below (Lib.below_freeze K1.out (p := ⟨w.heap.size, 0, none⟩) (Nat.le_refl _) _)⟩

theorem SClone_any (s : ByteArray) (w : World) (hs : s.size ≤ 1000000) : Calls Tryz.prog 47 #[.string s] w fun e w' => e = .returned (.string s) ∧ Kept [] w w' := by
 have HC : Hid (Calls _ _ _ _ _) := SLClone_any s w hs
 go_enter Tryz.func47, Tryz.ntmps47
 go_wp2_with (first | (go_at_call 71; refine HC.out.mono ?_; rintro e w1 ⟨rfl, hk1⟩))
 go_ret
 exact ⟨rfl, hk1⟩

end Go.Proofs.YtcklgafpgdhnaaaGreatDoor

namespace Go.Proofs.YtcklgafpgdhnaaaGreatDoor
open Go.RowKit

theorem part_u8 (P : Program) (w : World) (e : TypeId) (A : List UInt8) (i : Nat) (hi : i < A.length) (he : P.underlying e = some (.int .u8)) :
  (part e (u8s A).toArray i).run P w = .ok (.int .u8 (A[i].toNat : Int)) w := by
 have : (u8s A).toArray[i]? = some (.int .u8 (A[i].toNat : Int)) := by simp [u8s_get, hi]
 simp [part, isAgg, run_underlying he, this]

theorem eq_loop (P : Program) (w : World) (d len : Nat) (e : TypeId) (A B : List UInt8) (hA : A.length = len) (hB : B.length = len) (he : P.underlying e = some (.int .u8)) (k : Nat) : ∀ s, s + k = len →
  (forIn (List.range' s k) ((none : Option Bool), ()) fun i __s => do
    let x ← part e (u8s A).toArray (i * 1)
    let y ← part e (u8s B).toArray (i * 1)
    let z ← Op.equalIn (d + 1) e x y
    if (!z) = true then pure (ForInStep.done (some false, ())) else pure (ForInStep.yield (none, ()))).run P w =
   .ok (if A.drop s = B.drop s then ((none : Option Bool), ()) else (some false, ())) w := by
 induction k with
 | zero =>
  intro s hs
  rw [List.drop_of_length_le (by omega), List.drop_of_length_le (by omega)]
  simp
 | succ k ih =>
  intro s hs
  have h1 : s < A.length := by omega
  have h2 : s < B.length := by omega
  have hd : (A.drop s = B.drop s) = (A[s] = B[s] ∧ A.drop (s + 1) = B.drop (s + 1)) := by
   rw [List.drop_eq_getElem_cons h1, List.drop_eq_getElem_cons h2, List.cons.injEq]
  have ih' := ih (s + 1) (by omega)
  simp only [Nat.mul_one] at ih' ⊢
  rw [List.range'_succ, List.forIn_cons]
  simp only [Sem.run_bind, part_u8 P w e A s h1 he, part_u8 P w e B s h2 he, Result.andThen_ok, run_equalIn_int (P := P) (w := w) d e .u8 .u8 _ _ he]
  by_cases hc : A[s] = B[s]
  ·have e1 : ((A[s].toNat : Int) == (B[s].toNat : Int)) = true := by rw [hc]; simp
   simp only [e1, Bool.not_true, Bool.false_eq_true, if_false, Sem.run_pure, Result.andThen_ok]
   rw [ih']
   simp only [hd, hc, true_and]
  ·have e1 : ((A[s].toNat : Int) == (B[s].toNat : Int)) = false := by
    rw [beq_eq_false_iff_ne]
    exact fun h => hc (UInt8.toNat_inj.1 (by omega))
   simp only [e1, Bool.not_false, if_true, Sem.run_pure, Result.andThen_ok, hd, hc, false_and, if_false]

theorem equal_arr (P : Program) (w : World) (d len : Nat) (t e : TypeId) (A B : List UInt8) (hA : A.length = len) (hB : B.length = len) (ht : P.underlying t = some (.array len e)) (he : P.underlying e = some (.int .u8)) (hs : (P.info? e).map (·.size) = some 1) :
  (Op.equalIn (d + 2) t (.agg (u8s A).toArray) (.agg (u8s B).toArray)).run P w = .ok (decide (A = B)) w := by
 cases hq : P.info? e with
 | none => simp [hq] at hs
 | some ie =>
  have hsz : ie.size = 1 := by simpa [hq] using hs
  have hsize : (sizeOf e).run P w = .ok 1 w := by simp [sizeOf, typeInfo, hq, hsz]
  rw [Op.equalIn]
  simp only [Sem.run_bind, run_underlying ht, Result.andThen_ok, hsize]
  rw [Std.Legacy.Range.forIn_eq_forIn_range']
  have := eq_loop P w d len e A B hA hB he len 0 (by omega)
  simp only [Std.Legacy.Range.size, Nat.sub_zero, Nat.add_sub_cancel, Nat.div_one] at this ⊢
  rw [this]
  by_cases hc : A = B <;> simp [hc]

theorem neq_arr (P : Program) (w : World) (len : Nat) (t e : TypeId) (A B : List UInt8) (hA : A.length = len) (hB : B.length = len) (ht : P.underlying t = some (.array len e)) (he : P.underlying e = some (.int .u8)) (hs : (P.info? e).map (·.size) = some 1) :
  (binOp .neq t (.agg (u8s A).toArray) (.agg (u8s B).toArray)).run P w = .ok (.bool (!decide (A = B))) w := by
 rw [run_neq_struct, equal_arr P w 9998 len t e A B hA hB ht he hs]; rfl

end Go.Proofs.YtcklgafpgdhnaaaGreatDoor

namespace Go.Proofs.YtcklgafpgdhnaaaGreatDoor
open Go.RowKit

theorem sector_any (t r : Nat) (w : World) (ht : (t : Int) < 18446744073709551616) (hr : (r : Int) < 18446744073709551616) :
  Calls Tryz.prog 117 #[.agg #[.int .u64 t, .int .i64 r]] w fun e w' => e = .returned (.agg (u8s (sec t r)).toArray) ∧ Kept [] w w' := by
 go_enter Tryz.func117, Tryz.ntmps117
 go_wp2_with (first
  | (refine wpList_alloc_d rfl 2 rfl 175 rfl _ (zsec _) ?_; intro w2 hn2 hk2 hs2; have HS2 : Hid _ := hs2; clear hs2)
  | (refine wpList_alloc_d rfl 3 rfl 175 rfl _ (zsec _) ?_; intro w3 hn3 hk3 hs3; have HS3 : Hid _ := hs3; clear hs3)
  | (refine upon_copy_str 60 9 5 Tryz.underlying60 su8 w2.heap.size 0 32 32 markL (List.replicate 32 0) 175 hn3 (by decide) (by decide) ?_; intro w4 hn4 hk4))
 have hb0 : w4.heap[w.heap.size]? = some (.cells #[.int .u64 t, .int .i64 r] 76 (0, 0)) := by
  have h0 := hk3.get (hk2.get (heap_alloc_new w (.cells #[.int .u64 t, .int .i64 r] 76)) (by simp)) (by simp)
  exact hk4.get h0 (by have := HS2.out; simp at this ⊢; omega)
 have hz : w2.heap.size = w.heap.size + 1 + 1 := by have := HS2.out; simpa using this
 have HZ : Hid (w2.heap.size = w.heap.size + 1 + 1) := hz
 have hr4 : w4.heap[w.heap.size + 1]? = some (.cells (u8s (List.replicate 32 0)).toArray 175 (0, 0)) := by
  rw [World.size_alloc] at hn2
  exact hk4.get (hk3.get hn2 (by simp)) (by simp; omega)
 have c0 : w4.cell? ⟨w.heap.size, 0, none⟩ = some (.int .u64 t) := cellAt hb0 rfl
 have hk14 : Kept [] w w4 := by
  refine Kept.trans2 (Kept.trans (Kept.trans ((Kept.refl _ _).alloc _) hk2) hk3) hk4 ?_
  intro x hx; simp at hx; subst hx; exact Or.inr (by omega)
 have hn4' : w4.heap[w2.heap.size]? = some (.cells (u8s sec0).toArray 175 (0, 0)) := hn4
 clear hn4 hn3 hn2 hk2 hk3 hk4 hz
 go_region_with (go_at_call 151; refine (put_any w2.heap.size 8 8 24 sec0 t 175 _ (by exact hn4') (by omega) (by rw [length_sec0]; omega) ht).mono ?_; rintro e w5 ⟨rfl, hn5, hk5⟩)
 have hn5' : w5.heap[w2.heap.size]? = some (.cells (u8s (sec1 t)).toArray 175 (0, 0)) := hn5
 have hr5 := hk5.get (w := w4.drew) hr4 (by have := HZ.out; simp; omega)
 have hb5 := hk5.get (w := w4.drew) hb0 (by have := HZ.out; simp; omega)
 have c5 : w5.cell? ⟨w.heap.size, 1, none⟩ = some (.int .i64 r) := cellAt hb5 rfl
 have hk15 : Kept [] w w5 := hk14.drew.trans2 hk5 (by intro x hx; simp at hx; subst hx; have := HZ.out; exact Or.inr (by omega))
 have HW : Hid (IntKind.u64.wrap (r : Int) = r) := by show _ = _; rw [IntKind.wrap_u64]; omega
 clear hn5 hk5 hr4 hn4' c0 hk14 hb0
 go_wp2
 go_region_with (go_at_call 151; rw [HW.out]; refine (put_any w2.heap.size 16 2 16 (sec1 t) r 175 _ (by exact hn5') (by omega) (by rw [length_sec1]; omega) hr).mono ?_; rintro e w6 ⟨rfl, hn6, hk6⟩)
 have hn6' : w6.heap[w2.heap.size]? = some (.cells (u8s (sec2 t r)).toArray 175 (0, 0)) := hn6
 have hr6 := hk6.get (w := w5.drew) hr5 (by have := HZ.out; simp; omega)
 have hk16 : Kept [] w w6 := hk15.drew.trans2 hk6 (by intro x hx; simp at hx; subst hx; have := HZ.out; exact Or.inr (by omega))
 have HSL : Hid (Calls Tryz.prog 152 #[.slice (some ⟨w2.heap.size, 0, none⟩) 32 32] w6 fun e w' => e = .returned (.tuple #[]) ∧ w'.heap[w2.heap.size]? = some (.cells (u8s (sec t r)).toArray 175 (0, 0)) ∧ Kept [w2.heap.size] w6 w') := by
  have := Seal_any w2.heap.size (sec2 t r) 175 w6 hn6' (by rw [length_sec2]; omega) (by rw [length_sec2]; omega)
  rw [length_sec2] at this
  exact this
 clear hn6 hn5' hr5 hk6 hk15 c5 hb5
 go_wp2_with (first
  | (go_at_call 152; refine HSL.out.mono ?_; rintro e w7 ⟨rfl, hn7, hk7⟩; have hr7 := hk7.get hr6 (by have := HZ.out; simp; omega))
  | (refine wpList_load_row rfl 175 (.tmp 3) rfl w2.heap.size rfl 175 (u8s (sec t r)).toArray (0, 0) _ hn7 Tryz.underlying175 rfl (by rw [ssec]; simp [length_u8s, length_sec]) ?_)
  | (refine wpList_store_k rfl 175 (.tmp 2) (.tmp 17) rfl (w.heap.size + 1) (u8s (sec t r)).toArray rfl rfl 175 _ hr7 (by rw [ssec]; simp [length_u8s, length_sec]) (by simp [length_u8s, length_sec]) (all_of (one_u8s _)) ?_; intro w8 hg8 hk8))
 refine bodyPost_ret (results_cell_row rfl _ w8 (w.heap.size + 1) 175 _ (0, 0) _ rfl hg8 Tryz.underlying175 rfl (by rw [ssec]; simp [length_u8s, length_sec])) rfl ?_
 exact ⟨rfl, (hk16.trans2 hk7 (by intro x hx; simp at hx; subst hx; have := HZ.out; exact Or.inr (by omega))).trans2 hk8 (by intro x hx; simp at hx; subst hx; exact Or.inr (by omega))⟩

end Go.Proofs.YtcklgafpgdhnaaaGreatDoor
