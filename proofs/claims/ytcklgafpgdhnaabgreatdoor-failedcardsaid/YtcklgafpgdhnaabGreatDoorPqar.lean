import Derived.Test.YtcklgafpgdhnaabGreatDoorPqaa
import Derived.Lib.Strings
import Derived.Lib.BufferWrite
import Derived.Lib.UnsafeStr
import Derived.Laws.MakeOwn
import Derived.Test.YtcklgafpgdhnaabGreatDoorPqaf
import Derived.Laws.StructEq
import Derived.Test.YtcklgafpgdhnaabGreatDoorPqad
set_option maxRecDepth 100000
set_option maxHeartbeats 4000000
open Go.Proofs.Tryz
namespace Go.Proofs.YtcklgafpgdhnaabGreatDoor
open Go.RowKit
theorem itu8 : (prog.info? 5).map (fun i => (i.zero, i.size, i.bytes)) = some (some (Value.int .u8 0), 1, 1) := by kernel_rfl
theorem Q6r (s : ByteArray) (w : World) (hs : s.size <= 1000000) : Calls prog 84 #[.string s] w fun e w' => e = .returned (.string s) /\ y5 [] w w' := by
 by_cases h0 : s.size = 0
 ·obtain rfl : s = ⟨#[]⟩ := ByteArray.ext (Array.eq_empty_of_size_eq_zero h0)
  go_enter func84, ntmps84
  go_wp2
  go_ret
  exact ⟨rfl, y5.refl _ _⟩
 ·obtain ⟨iu, hiu, hz0, hz1, hz2⟩ := info_parts itu8
  have h1 : (prog.info? 5).map (·.size) = some 1 := by rw [hiu]; simp [hz1]
  have hcells : prog.cellsOf 5 = 1 := by simp [Program.cellsOf, hiu, hz1]
  obtain ⟨new, hnew⟩ : ∃ new, new = madeCells (Value.int .u8 0).cells (((s.size : Nat) : Int).toNat * iu.size) := ⟨_, rfl⟩
  have hns : new.size = s.size := by rw [hnew, size_madeCells, hz1]; simp
  have hmake : ∀ W : World, (Instr.makeSlice 83 (.int .i64 (s.size : Int)) (.int .i64 (s.size : Int))).run prog W = .ok (.slice (some ⟨W.heap.size, 0, none⟩) s.size s.size) (W.alloc (.cells new 5)) := by
   intro W
   have := run_make (P := prog) W 83 5 iu (.int .u8 0) underlying83 hiu hz0 .i64 .i64 (s.size : Int) (s.size : Int) (by omega) (by omega) (by rw [hz2]; omega) (by omega)
   rw [<- hnew] at this
   simpa using this
  clear hnew
  obtain ⟨w1, ew1⟩ : ∃ w1, w1 = w.alloc (.cells new 5) := ⟨_, rfl⟩
  have hrow1 : w1.heap[w.heap.size]? = some (.cells new 5 (0, 0)) := by rw [ew1]; exact heap_alloc_new w _
  have hcopy := Lib.run_copy_row_string (P := prog) w1 83 9 3 5 w.heap.size 0 s.size s.size s new 5 underlying83 h1 hrow1 (Nat.le_refl _) (by omega)
  obtain ⟨full, hfull⟩ : ∃ full, full = (new.toList.take 0 ++ Lib.byteCells s.data.toList ++ new.toList.drop (0 + s.size)).toArray := ⟨_, rfl⟩
  rw [<- hfull] at hcopy
  have hfl : full.toList = Lib.byteCells s.data.toList := by
   rw [hfull, List.toList_toArray, List.take_zero, List.nil_append, List.drop_of_length_le (by rw [Array.length_toList]; omega), List.append_nil]
  have hfs : full.size = s.size := by rw [<- Array.length_toList, hfl, Lib.byteCells_length, <- Lib.size_eq]
  have hrow2 : (w1.setRow w.heap.size full).heap[w.heap.size]? = some (.cells full 5 (0, 0)) := setRow_heap _ _ new _ 5 (0, 0) hrow1
  have hne : s.data.toList ≠ [] := fun e => h0 (by rw [Lib.size_eq, e]; rfl)
  have hstr := Lib.run_unsafeString_row (P := prog) (w1.setRow w.heap.size full) 187 3 9 5 underlying187 hcells w.heap.size full.size (by unfold World.shape?; rw [hrow2]) s.data.toList hne (by rw [<- Lib.size_eq]; omega) (by rw [<- Lib.size_eq]; omega)
   (fun j x hx => Lib.cells_of_row hrow2 full.size j _ (by rw [List.take_of_length_le (by rw [Array.length_toList]; exact Nat.le_refl _), hfl]; simp [Lib.byteCells, hx]))
  rw [<- Lib.size_eq] at hstr
  have k1 : y5 [] w (w1.setRow w.heap.size full) := by rw [ew1]; exact ((y5.refl [] w).alloc _).setRow (Or.inr (Nat.le_refl _)) _
  have K1 : Hid _ := k1.below
  subst ew1
  clear hfull k1
  go_enter func84, ntmps84
  go_wp2
  go_ret
  exact ⟨rfl, y5.of_below (Lib.below_freeze K1.out (p := ⟨w.heap.size, 0, none⟩) (Nat.le_refl _) _)⟩
theorem Q6s (s : ByteArray) (w : World) (hs : s.size <= 1000000) : Calls prog 50 #[.string s] w fun e w' => e = .returned (.string s) /\ y5 [] w w' := by
 have HC : Hid (Calls _ _ _ _ _) := Q6r s w hs
 go_enter func50, ntmps50
 go_wp2_with (first | (go_at_call 84; refine HC.out.mono ?_; rintro e w1 ⟨rfl, hk1⟩))
 go_ret
 exact ⟨rfl, hk1⟩
theorem Q6t (b : ByteArray) (fid : FuncId) (cv : Value) (he : ∀ (args : Array Value) (W : World), (callFunc fid args).run prog W = .ok (.enter fid args) W)  (S : List Nat) (R : World -> Prop) (w : World) (hS : ∀ x ∈ S, x < w.heap.size)
  (hR : ∀ W W' T, R W -> y5 T W W' -> (∀ x ∈ T, w.heap.size <= x /\ x < w.heap.size + 2 /\ ∃ cs fr, W.heap[x]? = some (.cells cs 35 fr)) -> R W')
  (hw : ∀ W, y5 [] w W -> W.heap.size = w.heap.size + 2 -> Calls prog fid #[cv] W (Ends S R W)) :
  Calls prog 32 #[.string b, .func (.func fid) #[cv] #[]] w fun e w' => e = .returned .nilIface /\ R w' /\ y5 S w w' := by
 have hmf := jb
 have k1 := ((y5.refl [] w).alloc (.cells #[.string b] 9)).alloc (.cells #[.nilIface] 35)
 have hE1 : ((w.alloc (.cells #[.string b] 9)).alloc (.cells #[.nilIface] 35)).heap[w.heap.size + 1]? = some (.cells #[.nilIface] 35 (0, 0)) := by
  have := heap_alloc_new (w.alloc (.cells #[.string b] 9)) (.cells #[.nilIface] 35)
  rwa [World.size_alloc] at this
 have hw1 := hw _ k1 (by simp)
 have HW : Hid (Calls _ _ _ _ _) := hw1
 have HR : Hid (∀ W W' T, R W -> y5 T W W' -> (∀ x ∈ T, w.heap.size <= x /\ x < w.heap.size + 2 /\ ∃ cs fr, W.heap[x]? = some (.cells cs 35 fr)) -> R W') := hR
 have HS : Hid (∀ x ∈ S, x < w.heap.size) := hS
 clear hw hw1 hR hS
 go_enter_defers func32, ntmps32
 go_wp2_with fail
 refine HW.out.mono ?_
 rintro e W ⟨rfl, hRW, hkW⟩
 have HRW : Hid (R W) := hRW
 have hE2 := hkW.get hE1 (fun hx => by have := HS.out _ hx; omega)
 have c2 : W.cell? ⟨w.heap.size + 1, 0, none⟩ = some .nilIface := y6 hE2 rfl
 have f2 : W.frozen? ⟨w.heap.size + 1, 0, none⟩ = false := frozen_of_row _ _ _ _ _ hE2
 have k3 : y5 [w.heap.size + 1] W (W.setCell ⟨w.heap.size + 1, 0, none⟩ .nilIface) := (y5.refl _ _).setCell (Or.inl (by simp)) _
 have hk13 : y5 S w (W.setCell ⟨w.heap.size + 1, 0, none⟩ .nilIface) := ((k1.mono (by simp)).trans hkW).trans2 k3 (by intro x hx; simp at hx; subst hx; exact Or.inr (by omega))
 have hR3 : R (W.setCell ⟨w.heap.size + 1, 0, none⟩ .nilIface) := HR.out _ _ _ HRW.out k3 (by intro x hx; simp at hx; subst hx; exact ⟨by omega, by omega, _, _, hE2⟩)
 have HR3 : Hid (R (W.setCell ⟨w.heap.size + 1, 0, none⟩ .nilIface)) := hR3
 have c3 : (W.setCell ⟨w.heap.size + 1, 0, none⟩ .nilIface).cell? ⟨w.heap.size + 1, 0, none⟩ = some .nilIface := y6 (yg (i := 0) .nilIface hE2) rfl
 clear hRW hR3 hE1 hE2 k1
 go_wp2
 refine leaves_cons (f := 55) (args := #[.pointer (some ⟨w.heap.size, 0, none⟩), .pointer (some ⟨w.heap.size + 1, 0, none⟩)]) (by simp) (by simp [go_sem]) ?_
 refine (Z0 ⟨w.heap.size, 0, none⟩ ⟨w.heap.size + 1, 0, none⟩ _).mono ?_
 rintro e u' w'' ⟨rfl, rfl, rfl⟩
 simp [Leaves, settle, results, Tryz.results32, go_sem, c3]
 exact ⟨HR3.out, hk13⟩
theorem Q6u (P : Program) (w : World) (e : TypeId) (A : List UInt8) (i : Nat) (hi : i < A.length) (he : P.underlying e = some (.int .u8)) :
  (part e (u8s A).toArray i).run P w = .ok (.int .u8 (A[i].toNat : Int)) w := by
 have : (u8s A).toArray[i]? = some (.int .u8 (A[i].toNat : Int)) := by simp [jL, hi]
 simp [part, isAgg, run_underlying he, this]
theorem Q6v (P : Program) (w : World) (d len : Nat) (e : TypeId) (A B : List UInt8) (hA : A.length = len) (hB : B.length = len) (he : P.underlying e = some (.int .u8)) (k : Nat) : ∀ s, s + k = len ->
  (forIn (List.range' s k) ((none : Option Bool), ()) fun i __s => do
    let x <- part e (u8s A).toArray (i * 1)
    let y <- part e (u8s B).toArray (i * 1)
    let z <- Op.equalIn (d + 1) e x y
    if (!z) = true then pure (ForInStep.done (some false, ())) else pure (ForInStep.yield (none, ()))).run P w =
   .ok (if A.drop s = B.drop s then ((none : Option Bool), ()) else (some false, ())) w := by
 induction k with
 | zero =>
  intro s hs
  rw [List.drop_of_length_le (by omega), List.drop_of_length_le (by omega)]
  simp
 | succ k ih =>
  intro s hs
  have h1 : s < A.length := by omega
  have h2 : s < B.length := by omega
  have hd : (A.drop s = B.drop s) = (A[s] = B[s] /\ A.drop (s + 1) = B.drop (s + 1)) := by
   rw [List.drop_eq_getElem_cons h1, List.drop_eq_getElem_cons h2, List.cons.injEq]
  have ih' := ih (s + 1) (by omega)
  simp only [Nat.mul_one] at ih' ⊢
  rw [List.range'_succ, List.forIn_cons]
  simp only [Sem.run_bind, Q6u P w e A s h1 he, Q6u P w e B s h2 he, Result.andThen_ok, run_equalIn_int (P := P) (w := w) d e .u8 .u8 _ _ he]
  by_cases hc : A[s] = B[s]
  ·have e1 : ((A[s].toNat : Int) == (B[s].toNat : Int)) = true := by rw [hc]; simp
   simp only [e1, Bool.not_true, Bool.false_eq_true, if_false, Sem.run_pure, Result.andThen_ok]
   rw [ih']
   simp only [hd, hc, true_and]
  ·have e1 : ((A[s].toNat : Int) == (B[s].toNat : Int)) = false := by
    rw [beq_eq_false_iff_ne]
    exact fun h => hc (UInt8.toNat_inj.1 (by omega))
   simp only [e1, Bool.not_false, if_true, Sem.run_pure, Result.andThen_ok, hd, hc, false_and, if_false]
theorem Q6w (P : Program) (w : World) (d len : Nat) (t e : TypeId) (A B : List UInt8) (hA : A.length = len) (hB : B.length = len) (ht : P.underlying t = some (.array len e)) (he : P.underlying e = some (.int .u8)) (hs : (P.info? e).map (·.size) = some 1) :
  (Op.equalIn (d + 2) t (.agg (u8s A).toArray) (.agg (u8s B).toArray)).run P w = .ok (decide (A = B)) w := by
 cases hq : P.info? e with
 | none => simp [hq] at hs
 | some ie =>
  have hsz : ie.size = 1 := by simpa [hq] using hs
  have hsize : (sizeOf e).run P w = .ok 1 w := by simp [sizeOf, typeInfo, hq, hsz]
  rw [Op.equalIn]
  simp only [Sem.run_bind, run_underlying ht, Result.andThen_ok, hsize]
  rw [Std.Legacy.Range.forIn_eq_forIn_range']
  have := Q6v P w d len e A B hA hB he len 0 (by omega)
  simp only [Std.Legacy.Range.size, Nat.sub_zero, Nat.add_sub_cancel, Nat.div_one] at this ⊢
  rw [this]
  by_cases hc : A = B <;> simp [hc]
theorem Q6x (P : Program) (w : World) (len : Nat) (t e : TypeId) (A B : List UInt8) (hA : A.length = len) (hB : B.length = len) (ht : P.underlying t = some (.array len e)) (he : P.underlying e = some (.int .u8)) (hs : (P.info? e).map (·.size) = some 1) :
  (binOp .neq t (.agg (u8s A).toArray) (.agg (u8s B).toArray)).run P w = .ok (.bool (!decide (A = B))) w := by
 rw [run_neq_struct, Q6w P w 9998 len t e A B hA hB ht he hs]; rfl
theorem Q6y (t r : Nat) (w : World) (ht : (t : Int) < 18446744073709551616) (hr : (r : Int) < 18446744073709551616) :
  Calls prog 95 #[.agg #[.int .u64 t, .int .i64 r]] w fun e w' => e = .returned (.agg (u8s (sec t r)).toArray) /\ y5 [] w w' := by
 go_enter func95, ntmps95
 go_wp2_with (first
  | (refine yc rfl 2 rfl 157 rfl _ (zsec _) ?_; intro w2 hn2 hk2 hs2; have HS2 : Hid _ := hs2; clear hs2)
  | (refine yc rfl 3 rfl 157 rfl _ (zsec _) ?_; intro w3 hn3 hk3 hs3; have HS3 : Hid _ := hs3; clear hs3)
  | (refine Q1c 83 9 5 underlying83 su8 w2.heap.size 0 32 32 Q1d (List.replicate 32 0) 157 hn3 (by decide) (by decide) ?_; intro w4 hn4 hk4))
 have hb0 : w4.heap[w.heap.size]? = some (.cells #[.int .u64 t, .int .i64 r] 71 (0, 0)) := by
  have h0 := hk3.get (hk2.get (heap_alloc_new w (.cells #[.int .u64 t, .int .i64 r] 71)) (by simp)) (by simp)
  exact hk4.get h0 (by have := HS2.out; simp at this ⊢; omega)
 have hz : w2.heap.size = w.heap.size + 1 + 1 := by have := HS2.out; simpa using this
 have HZ : Hid (w2.heap.size = w.heap.size + 1 + 1) := hz
 have hr4 : w4.heap[w.heap.size + 1]? = some (.cells (u8s (List.replicate 32 0)).toArray 157 (0, 0)) := by
  rw [World.size_alloc] at hn2
  exact hk4.get (hk3.get hn2 (by simp)) (by simp; omega)
 have c0 : w4.cell? ⟨w.heap.size, 0, none⟩ = some (.int .u64 t) := y6 hb0 rfl
 have hk14 : y5 [] w w4 := by
  refine y5.trans2 (y5.trans (y5.trans ((y5.refl _ _).alloc _) hk2) hk3) hk4 ?_
  intro x hx; simp at hx; subst hx; exact Or.inr (by omega)
 have hn4' : w4.heap[w2.heap.size]? = some (.cells (u8s sec0).toArray 157 (0, 0)) := hn4
 clear hn4 hn3 hn2 hk2 hk3 hk4 hz
 go_region_with (go_at_call 117; refine (Q12 w2.heap.size 8 8 24 sec0 t 157 _ (by exact hn4') (by omega) (by rw [jw]; omega) ht).mono ?_; rintro e w5 ⟨rfl, hn5, hk5⟩)
 have hn5' : w5.heap[w2.heap.size]? = some (.cells (u8s (sec1 t)).toArray 157 (0, 0)) := hn5
 have hr5 := hk5.get (w := w4.drew) hr4 (by have := HZ.out; simp; omega)
 have hb5 := hk5.get (w := w4.drew) hb0 (by have := HZ.out; simp; omega)
 have c5 : w5.cell? ⟨w.heap.size, 1, none⟩ = some (.int .i64 r) := y6 hb5 rfl
 have hk15 : y5 [] w w5 := hk14.drew.trans2 hk5 (by intro x hx; simp at hx; subst hx; have := HZ.out; exact Or.inr (by omega))
 have HW : Hid (IntKind.u64.wrap (r : Int) = r) := by show _ = _; rw [IntKind.wrap_u64]; omega
 clear hn5 hk5 hr4 hn4' c0 hk14 hb0
 go_wp2
 go_region_with (go_at_call 117; rw [HW.out]; refine (Q12 w2.heap.size 16 2 16 (sec1 t) r 157 _ (by exact hn5') (by omega) (by rw [gS]; omega) hr).mono ?_; rintro e w6 ⟨rfl, hn6, hk6⟩)
 have hn6' : w6.heap[w2.heap.size]? = some (.cells (u8s (sec2 t r)).toArray 157 (0, 0)) := hn6
 have hr6 := hk6.get (w := w5.drew) hr5 (by have := HZ.out; simp; omega)
 have hk16 : y5 [] w w6 := hk15.drew.trans2 hk6 (by intro x hx; simp at hx; subst hx; have := HZ.out; exact Or.inr (by omega))
 have HSL : Hid (Calls prog 118 #[.slice (some ⟨w2.heap.size, 0, none⟩) 32 32] w6 fun e w' => e = .returned (.tuple #[]) /\ w'.heap[w2.heap.size]? = some (.cells (u8s (sec t r)).toArray 157 (0, 0)) /\ y5 [w2.heap.size] w6 w') := by
  have := Q1i w2.heap.size (sec2 t r) 157 w6 hn6' (by rw [qz]; omega) (by rw [qz]; omega)
  rw [qz] at this
  exact this
 clear hn6 hn5' hr5 hk6 hk15 c5 hb5
 go_wp2_with (first
  | (go_at_call 118; refine HSL.out.mono ?_; rintro e w7 ⟨rfl, hn7, hk7⟩; have hr7 := hk7.get hr6 (by have := HZ.out; simp; omega))
  | (refine wpList_load_row rfl 157 (.tmp 3) rfl w2.heap.size rfl 157 (u8s (sec t r)).toArray (0, 0) _ hn7 underlying157 rfl (by rw [ssec]; simp [yd, qG]) ?_)
  | (refine yb rfl 157 (.tmp 2) (.tmp 17) rfl (w.heap.size + 1) (u8s (sec t r)).toArray rfl rfl 157 _ hr7 (by rw [ssec]; simp [yd, qG]) (by simp [yd, qG]) (yU (qv _)) ?_; intro w8 hg8 hk8))
 refine bodyPost_ret (results_cell_row rfl _ w8 (w.heap.size + 1) 157 _ (0, 0) _ rfl hg8 underlying157 rfl (by rw [ssec]; simp [yd, qG])) rfl ?_
 exact ⟨rfl, (hk16.trans2 hk7 (by intro x hx; simp at hx; subst hx; have := HZ.out; exact Or.inr (by omega))).trans2 hk8 (by intro x hx; simp at hx; subst hx; exact Or.inr (by omega))⟩
end Go.Proofs.YtcklgafpgdhnaabGreatDoor
