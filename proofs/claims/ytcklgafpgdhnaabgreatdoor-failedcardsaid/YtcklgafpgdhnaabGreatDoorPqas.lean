import Derived.Test.YtcklgafpgdhnaabGreatDoorPqar
import Derived.Test.YtcklgafpgdhnaabGreatDoorPqaf
import Derived.Test.YtcklgafpgdhnaabGreatDoorPqae
import Derived.Deep.CutRange
import Derived.Test.YtcklgafpgdhnaabGreatDoorPqab
set_option maxRecDepth 100000
set_option maxHeartbeats 4000000
open Go.Proofs.Tryz
open Go.Act renaming put → zP
open List renaming getElem_toArray → zA, getElem_cons_succ → zB, getElem_cons_zero → zC, setIfInBounds_toArray → zD, set_cons_succ → zE, set_cons_zero → zF
namespace Go.Proofs.YtcklgafpgdhnaabGreatDoor
open Go.RowKit
theorem ZH (args : Array Value) (w : World) : (callFunc 96 args).run prog w = .ok (.enter 96 args) w := qA func96 (by kernel_rfl) (by kernel_rfl) args w
theorem Q6z (args : Array Value) (w : World) : (callFunc 95 args).run prog w = .ok (.enter 95 args) w := qA func95 (by kernel_rfl) (by kernel_rfl) args w
theorem ZI (args : Array Value) (w : World) : (callFunc 120 args).run prog w = .ok (.enter 120 args) w := qA func120 (by kernel_rfl) (by kernel_rfl) args w
theorem Q6A (args : Array Value) (w : World) : (callFunc 64 args).run prog w = .ok (.enter 64 args) w := qA func64 (by kernel_rfl) (by kernel_rfl) args w
theorem Q6B {P : Program} {o : Oper} {a : Act} {w : World} (t u : TypeId) (x y : Operand) (ho : o.op = .binOp .neq t x y u) (p q : Int) (hx : a.eval x = .int .i64 p) (hy : a.eval y = .int .i64 q) :
  (execOp a.eval o).run P w = .ok (.value (.bool (p != q))) w := by
 unfold execOp
 simp only [ho, hx, hy, Sem.run_bind, eqGuard_at_int, Sem.run_pure, Result.andThen_ok]
 rfl
theorem Q6C {P : Program} {o : Oper} {a : Act} {w : World} (t u : TypeId) (x y : Operand) (ho : o.op = .binOp .neq t x y u) (A B : List UInt8) (hx : a.eval x = .agg (u8s A).toArray) (hy : a.eval y = .agg (u8s B).toArray)
  (len : Nat) (e : TypeId) (hA : A.length = len) (hB : B.length = len) (ht : P.underlying t = some (.array len e)) (he : P.underlying e = some (.int .u8)) (hs : (P.info? e).map (·.size) = some 1) (hm : P.eqGuardType P.depth t = false) :
  (execOp a.eval o).run P w = .ok (.value (.bool (!decide (A = B)))) w := by
 unfold execOp
 simp only [ho, hx, hy, Sem.run_bind, run_eqGuard_agg (P := P) (w := w) .neq t x y _ _ hm, Q6x P w len t e A B hA hB ht he hs, Result.andThen_ok, Sem.run_pure]
theorem QT : (prog.info? 71).map (·.size) = some 2 := by kernel_rfl
theorem res2 {P : Program} {fn : Func} {p u : Tmp} {ty : TypeId} (h : fn.results = #[.cell p ty, .tmp u]) (tmps : Array Value) (w : World) (g : Nat) (t : TypeId) (cs : Array Value) (fr : Nat × Nat) (d : TypeDesc) (b : Value)
  (hp : tmps.getD p undef = .pointer (some ⟨g, 0, none⟩)) (hb : tmps.getD u undef = b) (hg : w.heap[g]? = some (.cells cs t fr))
  (hu : P.underlying ty = some d) (hd : (match d with | .struct _ | .array _ _ => true | _ => false) = true) (hi : (P.info? ty).map (·.size) = some cs.size) :
  (results fn tmps).run P w = .ok (.tuple #[.agg cs, b]) w := by
 rw [results_cell_tmp h, hp, hb]
 simp [asAddr, run_loadVar_row w g t ty cs fr d hg hu hd hi]
def rdH (i : Nat) (B : List UInt8) : Option (Nat × Nat) :=
 if qe ((B.drop 8).take 8) % 2 = i /\ sec (qe ((B.drop 8).take 8)) (qe ((B.drop 16).take 2)) = B.take 32 then some (qe ((B.drop 8).take 8), qe ((B.drop 16).take 2)) else none
def hdV : Option (Nat × Nat) -> Value
 | some (t, r) => .tuple #[.agg #[.int .u64 t, .int .i64 r], .bool true]
 | none => .tuple #[.agg #[.int .u64 0, .int .i64 0], .bool false]
structure HrS (w : World) (g a : Nat) (bv : Value) (n : Nat) (cv : Value) (D : Dv) (B : List UInt8) (hv : Array Value) (W : World) : Prop where
 h : W.heap[w.heap.size]? = some (.cells hv 71 (0, 0))
 b : W.heap[g]? = some (.cells (u8s B).toArray 80 (0, 0))
 d : DQ W a bv n cv D
 k : y5 [a] w W
theorem HrS.kept {w : World} {g a : Nat} {bv : Value} {n : Nat} {cv : Value} {D : Dv} {B : List UInt8} {hv : Array Value} {W W' : World} (h : HrS w g a bv n cv D B hv W) (k : y5 [] W W') : HrS w g a bv n cv D B hv W' :=
 ⟨k.get h.h (by simp), k.get h.b (by simp), h.d.k0 k, h.k.trans2 k (by simp)⟩
theorem HrS.set {w : World} {g a : Nat} {bv : Value} {n : Nat} {cv : Value} {D : Dv} {B : List UInt8} {hv hv' : Array Value} {W W' : World} (h : HrS w g a bv n cv D B hv W) (hg : g ≠ w.heap.size) (ha : w.heap.size ∉ ym a bv cv) (k : y5 [w.heap.size] W W') (hh : W'.heap[w.heap.size]? = some (.cells hv' 71 (0, 0))) : HrS w g a bv n cv D B hv' W' :=
 ⟨hh, k.get h.b (by simpa using hg), h.d.k1 k ha, h.k.trans2 k (by intro x hx; simp at hx; subst hx; exact Or.inr (Nat.le_refl _))⟩
def HrR (a : Nat) (bv : Value) (n : Nat) (cv : Value) (D' : Dv) (v : Value) (w : World) (e : Ending) (w' : World) : Prop := e = .returned v /\ DQ w' a bv n cv D' /\ y5 [a] w w'
theorem gC (v a : Nat) (bv : Value) (n : Nat) (cv : Value) (D : Dv) (i : Nat) (w : World) (hv : Vol w v a n) (h : DQ w a bv n cv D) (hi : i < n) (hn : n <= 1000) (hq : D.q.length <= 1000000) (hb : D.bad = false) :
  Calls prog 98 #[.pointer (some ⟨v, 0, none⟩), .int .i64 i] w (HrR a bv n cv D.tick (hdV (rdH i (D.view i))) w) := by
 have hlb : (D.view i).length = 128 := Q0m (gx D.L n i h.l hi) h.q
 generalize hB : D.view i = B at *
 have HB : Hid (D.view i = B) := hB
 clear hB
 have k0 := (y5.refl [] w).alloc (.cells #[.int .u64 0, .int .i64 0] 71)
 have n0 := heap_alloc_new w (.cells #[.int .u64 0, .int .i64 0] 71)
 have hlen8 : ((B.drop 8).take 8).length = 8 := by rw [List.length_take, List.length_drop, hlb]; rfl
 have hlen2 : ((B.drop 16).take 2).length = 2 := by rw [List.length_take, List.length_drop, hlb]; rfl
 have hT2 := Ql ((B.drop 8).take 8)
 have hR2 := Ql ((B.drop 16).take 2)
 rw [hlen8] at hT2
 rw [hlen2] at hR2
 have hnf := h.ge (Nat.le_refl _)
 have HRD : Hid (∀ b1 b2 : Bool, decide (qe ((B.drop 8).take 8) % 2 = i) = b1 -> decide (sec (qe ((B.drop 8).take 8)) (qe ((B.drop 16).take 2)) = B.take 32) = b2 -> rdH i B = if b1 && b2 then some (qe ((B.drop 8).take 8), qe ((B.drop 16).take 2)) else none) := by
  intro b1 b2 e1 e2
  subst e1 e2
  simp only [rdH, Bool.and_eq_true, decide_eq_true_eq]
 have HN8 : Hid (∀ W : World, ∀ g : Nat, W.heap[g]? = some (.cells (u8s B).toArray 80 (0, 0)) -> Calls prog 120 #[.slice (some ⟨g, 8, none⟩) 8 120] W fun e w' => e = .returned (.int .u64 (qe ((B.drop 8).take 8))) /\ w' = W) := fun W g hW => Q1h g 8 120 8 8 B 80 (0, 0) W hW hlen8 (by omega)
 have HN2 : Hid (∀ W : World, ∀ g : Nat, W.heap[g]? = some (.cells (u8s B).toArray 80 (0, 0)) -> Calls prog 120 #[.slice (some ⟨g, 16, none⟩) 2 112] W fun e w' => e = .returned (.int .u64 (qe ((B.drop 16).take 2))) /\ w' = W) := fun W g hW => Q1h g 16 112 2 2 B 80 (0, 0) W hW hlen2 (by omega)
 generalize qe ((B.drop 8).take 8) = T at *
 generalize qe ((B.drop 16).take 2) = R at *
 have hTi : (T : Int) < 18446744073709551616 := by have : (2 : Nat) ^ (8 * 8) = 18446744073709551616 := (by decide); omega
 have hRi : (R : Int) < 65536 := by have : (2 : Nat) ^ (8 * 2) = 65536 := (by decide); omega
 clear hT2 hR2 hlen8 hlen2
 go_enter func98, ntmps98
 go_wp2_with (first
  | (go_at_call 102; refine (Q1o v a bv n cv D i _ (k0.get hv (by simp)) (h.k0 k0) hi hn hq hb).mono ?_; rintro e w1 ⟨he1, hd1, hk1⟩; rw [HB.out] at he1; subst he1; have n1 := hk1.get n0 (by have := hnf; simp only [ym, List.mem_cons, not_or] at this; simpa using this.1))
  | (refine yc rfl 6 rfl 80 rfl _ (zblk _) ?_; intro w2 hn2 hk2 hs2; clear hs2; have n2 := hk2.get n1 (by simp))
  | (refine yb rfl 80 (.tmp 6) (.tmp 9) rfl w1.heap.size (u8s B).toArray rfl rfl 80 _ hn2 (by rw [jF]; simp [yd, hlb]) (by simp [yd, hlb]) (yU (qv _)) ?_; intro w3 hn3 hk3))
 have hz1 := hk1.size
 rw [World.size_alloc] at hz1
 have hg : w1.heap.size ≠ w.heap.size := by omega
 have hS3 : HrS w w1.heap.size a bv n cv D.tick B #[.int .u64 0, .int .i64 0] w3 := by
  refine ⟨hk3.get n2 (by simpa using hg.symm), hn3, (hd1.k0 hk2).k1 hk3 (hd1.ge (Nat.le_refl _)), ?_⟩
  refine y5.trans2 (y5.trans (y5.trans (k0.mono (by simp)) hk1) (hk2.mono (by simp))) hk3 ?_
  intro x hx; simp at hx; subst hx; exact Or.inr (by omega)
 clear hk1 hk2 hk3 n1 n2 hn2 hn3 hd1 k0 n0 h hv hz1
 generalize w1.heap.size = g at *
 have HW : Hid (IntKind.i64.wrap (R : Int) = R) := by show _ = _; rw [IntKind.wrap_i64]; omega
 have hS3d := hS3.kept (y5.refl [] w3).drew
 refine wp_region_held (S := fun W => ∃ hv, HrS w g a bv n cv D.tick B hv W) (by kernel_rfl) ?_
 refine hu 0 (.slice (some ⟨g, 8, none⟩) 8 120) rfl (fun W hW => by rfl) ⟨_, hS3d⟩ ?_
 refine hu 2 (.slice (some ⟨g, 16, none⟩) 2 112) rfl (fun W hW => by rfl) ⟨_, hS3d⟩ ?_
 simp only [zP, zA, zB, zC, zD, zE, zF]
 refine yf (i := 1) (by kernel_rfl) (yo rfl (by rfl) 120 #[.slice (some ⟨g, 8, none⟩) 8 120] (yk _ _ _ rfl _ (by simp [Act.eval]) (ZI _ _)) _ (HN8.out _ g hS3d.b) ?_)
 rintro e W4 ⟨rfl, rfl⟩
 refine ⟨_, rfl, ⟨_, hS3d⟩, ?_⟩
 simp only [zP, zA, zB, zC, zD, zE, zF]
 refine yf (i := 3) (by kernel_rfl) (yo rfl (by rfl) 120 #[.slice (some ⟨g, 16, none⟩) 2 112] (yk _ _ _ rfl _ (by simp [Act.eval]) (ZI _ _)) _ (HN2.out _ g hS3d.b) ?_)
 rintro e W4 ⟨rfl, rfl⟩
 refine ⟨_, rfl, ⟨_, hS3d⟩, ?_⟩
 refine hu 4 (.int .i64 (IntKind.i64.wrap (R : Int))) rfl (fun W hW => Q2a 69 3 (.tmp 13) rfl .u64 .i64 _ R rfl underlying69 underlying3) ⟨_, hS3d⟩ ?_
 rw [HW.out]
 refine hu 5 (.agg #[.int .u64 T, .int .i64 R]) rfl (fun W hW => ZM 71 (.tmp 11) (.tmp 14) 0 1 rfl _ _ _ rfl rfl (by kernel_rfl)) ⟨_, hS3d⟩ ?_
 obtain ⟨w4, hw4⟩ : ∃ w4, w4 = w3.drew.setRow w.heap.size #[.int .u64 (T : Int), .int .i64 (R : Int)] := ⟨_, rfl⟩
 have hst : (storeVar 71 ⟨w.heap.size, 0, none⟩ (.agg #[.int .u64 (T : Int), .int .i64 (R : Int)])).run prog w3.drew = .ok () w4 := by
  rw [hw4]
  exact yE (P := prog) w3.drew w.heap.size 0 71 71 [.int .u64 0, .int .i64 0] [.int .u64 (T : Int), .int .i64 (R : Int)] hS3d.h (by rw [QT]; rfl) (by simp) (by intro u hu; simp at hu; rcases hu with rfl | rfl <;> rfl)
 have hS4 : HrS w g a bv n cv D.tick B #[.int .u64 (T : Int), .int .i64 (R : Int)] w4 := by
  rw [hw4]
  exact hS3d.set hg hnf ((y5.refl [w.heap.size] w3.drew).setRow (Or.inl (by simp)) _) (setRow_heap _ _ _ _ _ _ hS3d.h)
 clear hw4
 refine yf (i := 6) (by kernel_rfl) (qo rfl rfl _ (yH 71 (.tmp 4) (.tmp 15) rfl ⟨w.heap.size, 0, none⟩ rfl _ rfl hst) ⟨⟨_, hS4⟩, ?_⟩)
 refine wpAnyH_done (by kernel_rfl) ?_ _
 simp only [zP, zA, zB, zC, zD, zE, zF]
 clear hst hS3 hS3d HN8 HN2 HW
 go_wp2_with fail
 have hS4d := hS4.kept (y5.refl [] w4).drew
 have hseg : ∀ j v, (u8s (B.take 32))[j]? = some v -> (u8s B)[0 + j]? = some v := by
  intro j v hv
  rw [Nat.zero_add]
  rw [jL] at hv ⊢
  rw [List.getElem?_take] at hv
  split at hv
  ·exact hv
  ·simp at hv
 refine wp_region_held (S := HrS w g a bv n cv D.tick B #[.int .u64 T, .int .i64 R]) (by kernel_rfl) ?_
 refine hu 0 (.agg #[.int .u64 T, .int .i64 R]) rfl (fun W hW => y9 71 (.tmp 4) rfl ⟨w.heap.size, 0, none⟩ rfl _ (run_loadVar_row W _ _ _ _ _ _ hW.h underlying71 rfl QT)) hS4d ?_
 simp only [zP, zA, zC, zD, zE, zF]
 refine hu 2 (.int .i64 i) rfl (fun W hW => by rfl) hS4d ?_
 simp only [zP, zA, zB, zC, zD, zE, zF]
 refine yf (i := 1) (by kernel_rfl) (yo rfl (by rfl) 96 #[.agg #[.int .u64 T, .int .i64 R]] (yk _ _ _ rfl _ (by simp [Act.eval]) (ZH _ _)) _ (Q18 T R _) ?_)
 rintro e W5 ⟨rfl, k5⟩
 have hS5 := hS4d.kept k5
 refine ⟨_, rfl, hS5, ?_⟩
 refine hu 3 (.bool (((T % 2 : Nat) : Int) != (i : Int))) rfl (fun W hW => Q6B 3 3 (.tmp 17) (.tmp 18) rfl _ _ rfl rfl) hS5 ?_
 simp only [zP, zA, zB, zC, zD, zE, zF]
 by_cases hb1 : T % 2 = i
 ·have hne : (((T % 2 : Nat) : Int) != (i : Int)) = false := by simp [hb1]
  rw [hne]
  refine hu 4 (.bool false) rfl (fun W hW => by rfl) hS5 ?_
  simp only [zP, zA, zB, zC, zD, zE, zF]
  refine hu 5 (.agg #[.int .u64 T, .int .i64 R]) rfl (fun W hW => y9 71 (.tmp 4) rfl ⟨w.heap.size, 0, none⟩ rfl _ (run_loadVar_row W _ _ _ _ _ _ hW.h underlying71 rfl QT)) hS5 ?_
  simp only [zP, zA, zB, zC, zD, zE, zF]
  refine hu 7 (.slice (some ⟨g, 0, none⟩) 32 128) rfl (fun W hW => by rfl) hS5 ?_
  simp only [zP, zA, zB, zC, zD, zE, zF]
  refine hu 8 (.pointer (some ⟨g, 0, none⟩)) rfl (fun W hW => by rfl) hS5 ?_
  simp only [zP, zA, zB, zC, zD, zE, zF]
  refine hu 9 (.agg (u8s (B.take 32)).toArray) rfl (fun W hW => y9 157 (.tmp 24) rfl ⟨g, 0, none⟩ rfl _ (yV W _ 0 _ _ (u8s B) (u8s (B.take 32)) _ _ hW.b underlying157 rfl (by rw [ssec, yd, List.length_take, hlb]; rfl) hseg)) hS5 ?_
  simp only [zP, zA, zB, zC, zD, zE, zF]
  refine yf (i := 6) (by kernel_rfl) (yo rfl (by rfl) 95 #[.agg #[.int .u64 T, .int .i64 R]] (yk _ _ _ rfl _ (by simp [Act.eval]) (Q6z _ _)) _ (Q6y T R _ hTi (by omega)) ?_)
  rintro e W6 ⟨rfl, k6⟩
  have hS6 := hS5.kept k6
  refine ⟨_, rfl, hS6, ?_⟩
  refine hu 10 (.bool (!decide (sec T R = B.take 32))) rfl (fun W hW => Q6C 157 157 (.tmp 22) (.tmp 25) rfl (sec T R) (B.take 32) rfl rfl 32 5 (qG T R) (by rw [List.length_take, hlb]; rfl) underlying157 underlying5 su8 (by kernel_rfl)) hS6 ?_
  simp only [zP, zA, zB, zC, zD, zE, zF]
  by_cases hb2 : sec T R = B.take 32
  ·have hD : (!decide (sec T R = B.take 32)) = false := by simp [hb2]
   rw [hD]
   refine hu 11 (.bool false) rfl (fun W hW => by rfl) hS6 ?_
   simp only [zP, zA, zB, zC, zD, zE, zF]
   refine wpAnyH_done (by kernel_rfl) ?_ _
   have HR : Hid (rdH i B = some (T, R)) := HRD.out true true (by simp [hb1]) (by simp [hb2])
   clear hD HRD hS5 hS4d k5 k6
   have e0 : W6.cell? ⟨w.heap.size, 0, none⟩ = some (.int .u64 T) := y6 hS6.h rfl
   have e1 : W6.cell? ⟨w.heap.size, 1, none⟩ = some (.int .i64 R) := y6 hS6.h rfl
   have f0 : W6.frozen? ⟨w.heap.size, 0, none⟩ = false := frozen_of_row _ _ _ _ _ hS6.h
   have f1 : W6.frozen? ⟨w.heap.size, 1, none⟩ = false := frozen_of_row _ _ _ _ _ hS6.h
   go_wp2
   have k7 : y5 [w.heap.size] W6 ((W6.setCell ⟨w.heap.size, 0, none⟩ (.int .u64 (T : Int))).setCell ⟨w.heap.size, 1, none⟩ (.int .i64 (R : Int))) := ((y5.refl [w.heap.size] W6).setCell (p := ⟨w.heap.size, 0, none⟩) (Or.inl (by simp)) _).setCell (p := ⟨w.heap.size, 1, none⟩) (Or.inl (by simp)) _
   have hS7 := hS6.set (hv' := #[.int .u64 (T : Int), .int .i64 (R : Int)]) hg hnf k7 (yg (i := 1) (.int .i64 (R : Int)) (yg (i := 0) (.int .u64 (T : Int)) hS6.h))
   refine bodyPost_ret (res2 rfl _ _ w.heap.size 71 #[.int .u64 (T : Int), .int .i64 (R : Int)] (0, 0) _ _ rfl rfl hS7.h underlying71 rfl QT) rfl ?_
   exact ⟨by rw [HR.out]; rfl, hS7.d, hS7.k⟩
  ·have hD : (!decide (sec T R = B.take 32)) = true := by simp [hb2]
   rw [hD]
   refine hu 11 (.bool true) rfl (fun W hW => by rfl) hS6 ?_
   simp only [zP, zA, zB, zC, zD, zE, zF]
   refine wpAnyH_done (by kernel_rfl) ?_ _
   have HR : Hid (rdH i B = none) := HRD.out true false (by simp [hb1]) (by simp [hb2])
   clear hD HRD hS5 hS4d k5 k6
   have e0 : W6.cell? ⟨w.heap.size, 0, none⟩ = some (.int .u64 T) := y6 hS6.h rfl
   have e1 : W6.cell? ⟨w.heap.size, 1, none⟩ = some (.int .i64 R) := y6 hS6.h rfl
   have f0 : W6.frozen? ⟨w.heap.size, 0, none⟩ = false := frozen_of_row _ _ _ _ _ hS6.h
   have f1 : W6.frozen? ⟨w.heap.size, 1, none⟩ = false := frozen_of_row _ _ _ _ _ hS6.h
   go_wp2
   have k7 : y5 [w.heap.size] W6 ((W6.setCell ⟨w.heap.size, 0, none⟩ (.int .u64 0)).setCell ⟨w.heap.size, 1, none⟩ (.int .i64 0)) := ((y5.refl [w.heap.size] W6).setCell (p := ⟨w.heap.size, 0, none⟩) (Or.inl (by simp)) _).setCell (p := ⟨w.heap.size, 1, none⟩) (Or.inl (by simp)) _
   have hS7 := hS6.set (hv' := #[.int .u64 0, .int .i64 0]) hg hnf k7 (yg (i := 1) (.int .i64 0) (yg (i := 0) (.int .u64 0) hS6.h))
   refine bodyPost_ret (res2 rfl _ _ w.heap.size 71 #[.int .u64 0, .int .i64 0] (0, 0) _ _ rfl rfl hS7.h underlying71 rfl QT) rfl ?_
   exact ⟨by rw [HR.out]; rfl, hS7.d, hS7.k⟩
 ·have hne : (((T % 2 : Nat) : Int) != (i : Int)) = true := by rw [bne_iff_ne]; omega
  rw [hne]
  refine hu 4 (.bool true) rfl (fun W hW => by rfl) hS5 ?_
  simp only [zP, zA, zB, zC, zD, zE, zF]
  refine wpAnyH_take (i := 5) (v := undef) rfl (by kernel_rfl) (by kernel_rfl) (by kernel_rfl) (fun _ _ _ h => h) (Or.inr ⟨by rfl, rfl⟩) hS5 ?_
  simp only [zP, zA, zB, zC, zD, zE, zF]
  refine wpAnyH_take (i := 6) (v := undef) rfl (by kernel_rfl) (by kernel_rfl) (by kernel_rfl) (fun _ _ _ h => h) (Or.inr ⟨by rfl, rfl⟩) hS5 ?_
  simp only [zP, zA, zB, zC, zD, zE, zF]
  refine wpAnyH_take (i := 7) (v := undef) rfl (by kernel_rfl) (by kernel_rfl) (by kernel_rfl) (fun _ _ _ h => h) (Or.inr ⟨by rfl, rfl⟩) hS5 ?_
  simp only [zP, zA, zB, zC, zD, zE, zF]
  refine wpAnyH_take (i := 8) (v := undef) rfl (by kernel_rfl) (by kernel_rfl) (by kernel_rfl) (fun _ _ _ h => h) (Or.inr ⟨by rfl, rfl⟩) hS5 ?_
  simp only [zP, zA, zB, zC, zD, zE, zF]
  refine wpAnyH_take (i := 9) (v := undef) rfl (by kernel_rfl) (by kernel_rfl) (by kernel_rfl) (fun _ _ _ h => h) (Or.inr ⟨by rfl, rfl⟩) hS5 ?_
  simp only [zP, zA, zB, zC, zD, zE, zF]
  refine wpAnyH_take (i := 10) (v := undef) rfl (by kernel_rfl) (by kernel_rfl) (by kernel_rfl) (fun _ _ _ h => h) (Or.inr ⟨by rfl, rfl⟩) hS5 ?_
  simp only [zP, zA, zB, zC, zD, zE, zF]
  refine hu 11 (.bool true) rfl (fun W hW => by rfl) hS5 ?_
  simp only [zP, zA, zB, zC, zD, zE, zF]
  refine wpAnyH_done (by kernel_rfl) ?_ _
  have HR : Hid (rdH i B = none) := HRD.out false _ (by simp [hb1]) rfl
  clear HRD hS4d k5
  have e0 : W5.cell? ⟨w.heap.size, 0, none⟩ = some (.int .u64 T) := y6 hS5.h rfl
  have e1 : W5.cell? ⟨w.heap.size, 1, none⟩ = some (.int .i64 R) := y6 hS5.h rfl
  have f0 : W5.frozen? ⟨w.heap.size, 0, none⟩ = false := frozen_of_row _ _ _ _ _ hS5.h
  have f1 : W5.frozen? ⟨w.heap.size, 1, none⟩ = false := frozen_of_row _ _ _ _ _ hS5.h
  go_wp2
  have k7 : y5 [w.heap.size] W5 ((W5.setCell ⟨w.heap.size, 0, none⟩ (.int .u64 0)).setCell ⟨w.heap.size, 1, none⟩ (.int .i64 0)) := ((y5.refl [w.heap.size] W5).setCell (p := ⟨w.heap.size, 0, none⟩) (Or.inl (by simp)) _).setCell (p := ⟨w.heap.size, 1, none⟩) (Or.inl (by simp)) _
  have hS7 := hS5.set (hv' := #[.int .u64 0, .int .i64 0]) hg hnf k7 (yg (i := 1) (.int .i64 0) (yg (i := 0) (.int .u64 0) hS5.h))
  refine bodyPost_ret (res2 rfl _ _ w.heap.size 71 #[.int .u64 0, .int .i64 0] (0, 0) _ _ rfl rfl hS7.h underlying71 rfl QT) rfl ?_
  exact ⟨by rw [HR.out]; rfl, hS7.d, hS7.k⟩
end Go.Proofs.YtcklgafpgdhnaabGreatDoor
