import Derived.Test.YtcklgafpgdhnaaaGreatDoorPsae
import Derived.Test.YtcklgafpgdhnaaaGreatDoorPsaa
import Derived.Laws.StructEq
import Derived.Test.YtcklgafpgdhnaaaGreatDoorPsad
set_option maxRecDepth 100000
set_option maxHeartbeats 4000000
open Go.Proofs.Tryz
namespace Go.Proofs.YtcklgafpgdhnaaaGreatDoor
open Go.RowKit
theorem Q97 (b : ByteArray) (fid : FuncId) (cv : Value) (he : ∀ (args : Array Value) (W : World), (callFunc fid args).run prog W = .ok (.enter fid args) W)  (S : List Nat) (R : World -> Prop) (w : World) (hS : ∀ x ∈ S, x < w.heap.size)
  (hR : ∀ W W' T, R W -> Kept T W W' -> (∀ x ∈ T, w.heap.size <= x /\ x < w.heap.size + 2 /\ ∃ cs fr, W.heap[x]? = some (.cells cs 35 fr)) -> R W')
  (hw : ∀ W, Kept [] w W -> W.heap.size = w.heap.size + 2 -> Calls prog fid #[cv] W (Ends S R W)) :
  Calls prog 42 #[.string b, .func (.func fid) #[cv] #[]] w fun e w' => e = .returned .nilIface /\ R w' /\ Kept S w w' := by
 have hmf := Q2H
 have k1 := ((Kept.refl [] w).alloc (.cells #[.string b] 9)).alloc (.cells #[.nilIface] 35)
 have hE1 : ((w.alloc (.cells #[.string b] 9)).alloc (.cells #[.nilIface] 35)).heap[w.heap.size + 1]? = some (.cells #[.nilIface] 35 (0, 0)) := by
  have := heap_alloc_new (w.alloc (.cells #[.string b] 9)) (.cells #[.nilIface] 35)
  rwa [World.size_alloc] at this
 have hw1 := hw _ k1 (by simp)
 have HW : Hid (Calls _ _ _ _ _) := hw1
 have HR : Hid (∀ W W' T, R W -> Kept T W W' -> (∀ x ∈ T, w.heap.size <= x /\ x < w.heap.size + 2 /\ ∃ cs fr, W.heap[x]? = some (.cells cs 35 fr)) -> R W') := hR
 have HS : Hid (∀ x ∈ S, x < w.heap.size) := hS
 clear hw hw1 hR hS
 go_enter_defers func42, ntmps42
 go_wp2_with fail
 refine HW.out.mono ?_
 rintro e W ⟨rfl, hRW, hkW⟩
 have HRW : Hid (R W) := hRW
 have hE2 := hkW.get hE1 (fun hx => by have := HS.out _ hx; omega)
 have c2 : W.cell? ⟨w.heap.size + 1, 0, none⟩ = some .nilIface := Q02 hE2 rfl
 have f2 : W.frozen? ⟨w.heap.size + 1, 0, none⟩ = false := frozen_of_row _ _ _ _ _ hE2
 have k3 : Kept [w.heap.size + 1] W (W.setCell ⟨w.heap.size + 1, 0, none⟩ .nilIface) := (Kept.refl _ _).setCell (Or.inl (by simp)) _
 have hk13 : Kept S w (W.setCell ⟨w.heap.size + 1, 0, none⟩ .nilIface) := ((k1.mono (by simp)).trans hkW).trans2 k3 (by intro x hx; simp at hx; subst hx; exact Or.inr (by omega))
 have hR3 : R (W.setCell ⟨w.heap.size + 1, 0, none⟩ .nilIface) := HR.out _ _ _ HRW.out k3 (by intro x hx; simp at hx; subst hx; exact ⟨by omega, by omega, _, _, hE2⟩)
 have HR3 : Hid (R (W.setCell ⟨w.heap.size + 1, 0, none⟩ .nilIface)) := hR3
 have c3 : (W.setCell ⟨w.heap.size + 1, 0, none⟩ .nilIface).cell? ⟨w.heap.size + 1, 0, none⟩ = some .nilIface := Q02 (Q03 (i := 0) .nilIface hE2) rfl
 clear hRW hR3 hE1 hE2 k1
 go_wp2
 refine leaves_cons (f := 67) (args := #[.pointer (some ⟨w.heap.size, 0, none⟩), .pointer (some ⟨w.heap.size + 1, 0, none⟩)]) (by simp) (by simp [go_sem]) ?_
 refine (Q2Q ⟨w.heap.size, 0, none⟩ ⟨w.heap.size + 1, 0, none⟩ _).mono ?_
 rintro e u' w'' ⟨rfl, rfl, rfl⟩
 simp [Leaves, settle, results, Tryz.results42, go_sem, c3]
 exact ⟨HR3.out, hk13⟩
theorem Q98 (P : Program) (w : World) (e : TypeId) (A : List UInt8) (i : Nat) (hi : i < A.length) (he : P.underlying e = some (.int .u8)) :
  (part e (u8s A).toArray i).run P w = .ok (.int .u8 (A[i].toNat : Int)) w := by
 have : (u8s A).toArray[i]? = some (.int .u8 (A[i].toNat : Int)) := by simp [Q0a, hi]
 simp [part, isAgg, run_underlying he, this]
theorem Q99 (P : Program) (w : World) (d len : Nat) (e : TypeId) (A B : List UInt8) (hA : A.length = len) (hB : B.length = len) (he : P.underlying e = some (.int .u8)) (k : Nat) : ∀ s, s + k = len ->
  (forIn (List.range' s k) ((none : Option Bool), ()) fun i __s => do
    let x <- part e (u8s A).toArray (i * 1)
    let y <- part e (u8s B).toArray (i * 1)
    let z <- Op.equalIn (d + 1) e x y
    if (!z) = true then pure (ForInStep.done (some false, ())) else pure (ForInStep.yield (none, ()))).run P w =
   .ok (if A.drop s = B.drop s then ((none : Option Bool), ()) else (some false, ())) w := by
 induction k with
 | zero =>
  intro s hs
  rw [List.drop_of_length_le (by omega), List.drop_of_length_le (by omega)]
  simp
 | succ k ih =>
  intro s hs
  have h1 : s < A.length := by omega
  have h2 : s < B.length := by omega
  have hd : (A.drop s = B.drop s) = (A[s] = B[s] /\ A.drop (s + 1) = B.drop (s + 1)) := by
   rw [List.drop_eq_getElem_cons h1, List.drop_eq_getElem_cons h2, List.cons.injEq]
  have ih' := ih (s + 1) (by omega)
  simp only [Nat.mul_one] at ih' ⊢
  rw [List.range'_succ, List.forIn_cons]
  simp only [Sem.run_bind, Q98 P w e A s h1 he, Q98 P w e B s h2 he, Result.andThen_ok, run_equalIn_int (P := P) (w := w) d e .u8 .u8 _ _ he]
  by_cases hc : A[s] = B[s]
  ·have e1 : ((A[s].toNat : Int) == (B[s].toNat : Int)) = true := by rw [hc]; simp
   simp only [e1, Bool.not_true, Bool.false_eq_true, if_false, Sem.run_pure, Result.andThen_ok]
   rw [ih']
   simp only [hd, hc, true_and]
  ·have e1 : ((A[s].toNat : Int) == (B[s].toNat : Int)) = false := by
    rw [beq_eq_false_iff_ne]
    exact fun h => hc (UInt8.toNat_inj.1 (by omega))
   simp only [e1, Bool.not_false, if_true, Sem.run_pure, Result.andThen_ok, hd, hc, false_and, if_false]
theorem Q9a (P : Program) (w : World) (d len : Nat) (t e : TypeId) (A B : List UInt8) (hA : A.length = len) (hB : B.length = len) (ht : P.underlying t = some (.array len e)) (he : P.underlying e = some (.int .u8)) (hs : (P.info? e).map (·.size) = some 1) :
  (Op.equalIn (d + 2) t (.agg (u8s A).toArray) (.agg (u8s B).toArray)).run P w = .ok (decide (A = B)) w := by
 cases hq : P.info? e with
 | none => simp [hq] at hs
 | some ie =>
  have hsz : ie.size = 1 := by simpa [hq] using hs
  have hsize : (sizeOf e).run P w = .ok 1 w := by simp [sizeOf, typeInfo, hq, hsz]
  rw [Op.equalIn]
  simp only [Sem.run_bind, run_underlying ht, Result.andThen_ok, hsize]
  rw [Std.Legacy.Range.forIn_eq_forIn_range']
  have := Q99 P w d len e A B hA hB he len 0 (by omega)
  simp only [Std.Legacy.Range.size, Nat.sub_zero, Nat.add_sub_cancel, Nat.div_one] at this ⊢
  rw [this]
  by_cases hc : A = B <;> simp [hc]
theorem Q9b (P : Program) (w : World) (len : Nat) (t e : TypeId) (A B : List UInt8) (hA : A.length = len) (hB : B.length = len) (ht : P.underlying t = some (.array len e)) (he : P.underlying e = some (.int .u8)) (hs : (P.info? e).map (·.size) = some 1) :
  (binOp .neq t (.agg (u8s A).toArray) (.agg (u8s B).toArray)).run P w = .ok (.bool (!decide (A = B))) w := by
 rw [run_neq_struct, Q9a P w 9998 len t e A B hA hB ht he hs]; rfl
theorem Q9c (t r : Nat) (w : World) (ht : (t : Int) < 18446744073709551616) (hr : (r : Int) < 18446744073709551616) :
  Calls prog 117 #[.agg #[.int .u64 t, .int .i64 r]] w fun e w' => e = .returned (.agg (u8s (sec t r)).toArray) /\ Kept [] w w' := by
 go_enter func117, ntmps117
 go_wp2_with (first
  | (refine Q2f rfl 2 rfl 175 rfl _ (zsec _) ?_; intro w2 hn2 hk2 hs2; have HS2 : Hid _ := hs2; clear hs2)
  | (refine Q2f rfl 3 rfl 175 rfl _ (zsec _) ?_; intro w3 hn3 hk3 hs3; have HS3 : Hid _ := hs3; clear hs3)
  | (refine Q2g 60 9 5 underlying60 su8 w2.heap.size 0 32 32 Q2h (List.replicate 32 0) 175 hn3 (by decide) (by decide) ?_; intro w4 hn4 hk4))
 have hb0 : w4.heap[w.heap.size]? = some (.cells #[.int .u64 t, .int .i64 r] 76 (0, 0)) := by
  have h0 := hk3.get (hk2.get (heap_alloc_new w (.cells #[.int .u64 t, .int .i64 r] 76)) (by simp)) (by simp)
  exact hk4.get h0 (by have := HS2.out; simp at this ⊢; omega)
 have hz : w2.heap.size = w.heap.size + 1 + 1 := by have := HS2.out; simpa using this
 have HZ : Hid (w2.heap.size = w.heap.size + 1 + 1) := hz
 have hr4 : w4.heap[w.heap.size + 1]? = some (.cells (u8s (List.replicate 32 0)).toArray 175 (0, 0)) := by
  rw [World.size_alloc] at hn2
  exact hk4.get (hk3.get hn2 (by simp)) (by simp; omega)
 have c0 : w4.cell? ⟨w.heap.size, 0, none⟩ = some (.int .u64 t) := Q02 hb0 rfl
 have hk14 : Kept [] w w4 := by
  refine Kept.trans2 (Kept.trans (Kept.trans ((Kept.refl _ _).alloc _) hk2) hk3) hk4 ?_
  intro x hx; simp at hx; subst hx; exact Or.inr (by omega)
 have hn4' : w4.heap[w2.heap.size]? = some (.cells (u8s sec0).toArray 175 (0, 0)) := hn4
 clear hn4 hn3 hn2 hk2 hk3 hk4 hz
 go_region_with (go_at_call 151; refine (Q24 w2.heap.size 8 8 24 sec0 t 175 _ (by exact hn4') (by omega) (by rw [Q2k]; omega) ht).mono ?_; rintro e w5 ⟨rfl, hn5, hk5⟩)
 have hn5' : w5.heap[w2.heap.size]? = some (.cells (u8s (sec1 t)).toArray 175 (0, 0)) := hn5
 have hr5 := hk5.get (w := w4.drew) hr4 (by have := HZ.out; simp; omega)
 have hb5 := hk5.get (w := w4.drew) hb0 (by have := HZ.out; simp; omega)
 have c5 : w5.cell? ⟨w.heap.size, 1, none⟩ = some (.int .i64 r) := Q02 hb5 rfl
 have hk15 : Kept [] w w5 := hk14.drew.trans2 hk5 (by intro x hx; simp at hx; subst hx; have := HZ.out; exact Or.inr (by omega))
 have HW : Hid (IntKind.u64.wrap (r : Int) = r) := by show _ = _; rw [IntKind.wrap_u64]; omega
 clear hn5 hk5 hr4 hn4' c0 hk14 hb0
 go_wp2
 go_region_with (go_at_call 151; rw [HW.out]; refine (Q24 w2.heap.size 16 2 16 (sec1 t) r 175 _ (by exact hn5') (by omega) (by rw [Q2l]; omega) hr).mono ?_; rintro e w6 ⟨rfl, hn6, hk6⟩)
 have hn6' : w6.heap[w2.heap.size]? = some (.cells (u8s (sec2 t r)).toArray 175 (0, 0)) := hn6
 have hr6 := hk6.get (w := w5.drew) hr5 (by have := HZ.out; simp; omega)
 have hk16 : Kept [] w w6 := hk15.drew.trans2 hk6 (by intro x hx; simp at hx; subst hx; have := HZ.out; exact Or.inr (by omega))
 have HSL : Hid (Calls prog 152 #[.slice (some ⟨w2.heap.size, 0, none⟩) 32 32] w6 fun e w' => e = .returned (.tuple #[]) /\ w'.heap[w2.heap.size]? = some (.cells (u8s (sec t r)).toArray 175 (0, 0)) /\ Kept [w2.heap.size] w6 w') := by
  have := Q2s w2.heap.size (sec2 t r) 175 w6 hn6' (by rw [Q2m]; omega) (by rw [Q2m]; omega)
  rw [Q2m] at this
  exact this
 clear hn6 hn5' hr5 hk6 hk15 c5 hb5
 go_wp2_with (first
  | (go_at_call 152; refine HSL.out.mono ?_; rintro e w7 ⟨rfl, hn7, hk7⟩; have hr7 := hk7.get hr6 (by have := HZ.out; simp; omega))
  | (refine wpList_load_row rfl 175 (.tmp 3) rfl w2.heap.size rfl 175 (u8s (sec t r)).toArray (0, 0) _ hn7 underlying175 rfl (by rw [ssec]; simp [Q08, Q2o]) ?_)
  | (refine Q0c rfl 175 (.tmp 2) (.tmp 17) rfl (w.heap.size + 1) (u8s (sec t r)).toArray rfl rfl 175 _ hr7 (by rw [ssec]; simp [Q08, Q2o]) (by simp [Q08, Q2o]) (Q0M (Q09 _)) ?_; intro w8 hg8 hk8))
 refine bodyPost_ret (results_cell_row rfl _ w8 (w.heap.size + 1) 175 _ (0, 0) _ rfl hg8 underlying175 rfl (by rw [ssec]; simp [Q08, Q2o])) rfl ?_
 exact ⟨rfl, (hk16.trans2 hk7 (by intro x hx; simp at hx; subst hx; have := HZ.out; exact Or.inr (by omega))).trans2 hk8 (by intro x hx; simp at hx; subst hx; exact Or.inr (by omega))⟩
end Go.Proofs.YtcklgafpgdhnaaaGreatDoor
