import Derived.Test.YtcklgafpgdhnaabGreatDoorPtau
import Derived.Deep.RegionWith
set_option maxRecDepth 100000
set_option maxHeartbeats 4000000
open List renaming getElem_toArray → zA, getElem_cons_succ → zB, getElem_cons_zero → zC, setIfInBounds_toArray → zD, set_cons_succ → zE, set_cons_zero → zF
namespace Go.Proofs.YtcklgafpgdhnaabGreatDoor
open Go.RowKit Go.Extern.Stop Go.Stop Go.Extern

theorem Unwrap_any (f : Nat) (o E : Value) (w : World) (hf : w.heap[f]? = some (.cells #[o, E] 101 (0, 0))) :
  Calls Tryz.prog 179 #[.pointer (some ⟨f, 0, none⟩)] w fun e w' => e = .returned E ∧ w' = w := by
 have c1 : w.cell? ⟨f, 1, none⟩ = some E := cellAt hf rfl
 clear hf
 go_enter Tryz.func179, Tryz.ntmps179
 go_wp2
 go_ret
 exact ⟨rfl, rfl⟩

structure Chain (w : World) (err : Value) (x : Int) : Prop where
 ex : ∃ f1 f2 o1 o2, err = .iface 98 (.pointer (some ⟨f1, 0, none⟩)) ∧ w.heap[f1]? = some (.cells #[o1, .iface 98 (.pointer (some ⟨f2, 0, none⟩))] 101 (0, 0)) ∧
  w.heap[f2]? = some (.cells #[o2, .iface 44 (.int .i64 x)] 101 (0, 0))

theorem as_chain (f1 f2 tb pb : Nat) (o1 o2 old tg : Value) (x : Int) (w : World)
  (h1 : w.heap[f1]? = some (.cells #[o1, .iface 98 (.pointer (some ⟨f2, 0, none⟩))] 101 (0, 0)))
  (h2 : w.heap[f2]? = some (.cells #[o2, .iface 44 (.int .i64 x)] 101 (0, 0)))
  (hp : w.heap[pb]? = some (.cells #[.pointer (some ⟨tb, 0, none⟩)] 86 (0, 0)))
  (ht : w.heap[tb]? = some (.cells #[old] 44 (0, 0))) :
  Calls Tryz.prog 76 #[.iface 98 (.pointer (some ⟨f1, 0, none⟩)), tg, .agg #[.pointer (some ⟨5, 86, none⟩), .pointer (some ⟨pb, 0, none⟩), .int .u64 150], .iface 165 (.agg #[.pointer (some ⟨5, 44, none⟩)])] w
   fun e w' => e = .returned (.bool true) ∧ w'.heap[tb]? = some (.cells #[.int .i64 x] 44 (0, 0)) ∧ Kept [tb] w w' := by
 have e90 := @run_callFunc_extern Tryz.prog 103 _ ReflectliteType.typeOf Tryz.func103 (by kernel_rfl) (by kernel_rfl) (by kernel_rfl) (by kernel_rfl)
 have e142 := @run_callFunc_extern Tryz.prog 203 _ (ReflectliteType.relation "AssignableTo" ReflectliteType.assignableTo) Tryz.func203 (by kernel_rfl) (by kernel_rfl) (by kernel_rfl) (by kernel_rfl)
 have e91 := @run_callFunc_extern Tryz.prog 104 _ (ReflectliteValue.method (ReflectliteValue.valueError "reflectlite.Value.Elem" 0) ReflectliteValue.elem) Tryz.func104 (by kernel_rfl) (by kernel_rfl) (by kernel_rfl) (by kernel_rfl)
 have e74 := @run_callFunc_extern Tryz.prog 73 _ (fun args => ReflectliteValue.unpack (args.getD 0 (.tuple #[]))) Tryz.func73 (by kernel_rfl) (by kernel_rfl) (by kernel_rfl) (by kernel_rfl)
 have e92 := @run_callFunc_extern Tryz.prog 105 _ ReflectliteValue.set Tryz.func105 (by kernel_rfl) (by kernel_rfl) (by kernel_rfl) (by kernel_rfl)
 have tF := typeOfF
 have tE := typeOfE
 have mA := mAssign
 have aF := assignF
 have aE := assignE
 have rA := asrtAs
 have rU := asrtUn
 have mU := mUnwrap
 have vE := vOfE
 have k1 := (Kept.refl [] w).alloc (.cells #[.pointer (some ⟨5, 86, none⟩), .pointer (some ⟨pb, 0, none⟩), .int .u64 150] 123)
 have g1 := k1.get h1 (by simp)
 have g2 := k1.get h2 (by simp)
 have gp := k1.get hp (by simp)
 have gt := k1.get ht (by simp)
 have el := elemVP ⟨pb, 0, none⟩ ⟨tb, 0, none⟩ _ (cellAt gp rfl)
 have k2 := (Kept.refl [] (w.alloc (.cells #[.pointer (some ⟨5, 86, none⟩), .pointer (some ⟨pb, 0, none⟩), .int .u64 150] 123))).alloc (.cells #[.int .i64 x] 44)
 have gt2 := k2.get gt (by simp)
 have gn2 := heap_alloc_new (w.alloc (.cells #[.pointer (some ⟨5, 86, none⟩), .pointer (some ⟨pb, 0, none⟩), .int .u64 150] 123)) (.cells #[.int .i64 x] 44)
 rw [World.size_alloc] at gn2
 have st := setE ⟨tb, 0, none⟩ ⟨w.heap.size + 1, 0, none⟩ x old _ (cellAt gn2 rfl) (cellAt gt2 rfl) (frozen_of_row _ _ _ _ _ gt2)
 have hend := setCellAt (i := 0) (.int .i64 x) gt2
 have kend : Kept [tb] w (((w.alloc (.cells #[.pointer (some ⟨5, 86, none⟩), .pointer (some ⟨pb, 0, none⟩), .int .u64 150] 123)).alloc (.cells #[.int .i64 x] 44)).setCell ⟨tb, 0, none⟩ (.int .i64 x)) := (((Kept.refl _ _).alloc _).alloc _).setCell (Or.inl (by simp)) _
 have H1 : Hid (_ ∧ _) := ⟨g1, g2⟩
 have H2 : Hid (_ ∧ _) := ⟨hend, kend⟩
 clear h1 h2 hp ht k1 g1 g2 gp gt k2 gt2 gn2 hend kend
 go_enter Tryz.func76, Tryz.ntmps76
 go_wp2
 refine wp_loop_rounds 3 ?_
 rw [rounds_succ]
 go_wp2_with (go_at_call 179; refine (Unwrap_any f1 _ _ _ H1.out.1).mono ?_; rintro e w' ⟨rfl, rfl⟩)
 rw [rounds_succ]
 go_wp2_with (go_at_call 179; refine (Unwrap_any f2 _ _ _ H1.out.2).mono ?_; rintro e w' ⟨rfl, rfl⟩)
 rw [rounds_succ]
 go_wp2
 go_ret
 exact ⟨rfl, H2.out.1, H2.out.2⟩

end Go.Proofs.YtcklgafpgdhnaabGreatDoor

namespace Go.Proofs.YtcklgafpgdhnaabGreatDoor
open Go.RowKit Go.Extern.Stop Go.Stop Go.Extern

def Glob (w : World) : Prop := w.cell? ⟨0, 0, none⟩ = some (.iface 165 (.agg #[.pointer (some ⟨5, 35, none⟩)]))
theorem Glob.lt {w : World} (h : Glob w) : 0 < w.heap.size := block_lt_of_cell h
theorem Glob.kept {S : List Nat} {w w' : World} (h : Glob w) (k : Kept S w w') (h0 : 0 ∉ S) : Glob w' := by
 have hl := h.lt
 unfold Glob at *
 rw [World.cell?_of_block (w := w) (a := ⟨0, 0, none⟩) (k.block 0 hl h0)]
 exact h

theorem As_chain (err : Value) (tb : Nat) (old : Value) (x : Int) (w : World) (hg : Glob w) (hc : Chain w err x)
  (ht : w.heap[tb]? = some (.cells #[old] 44 (0, 0))) :
  Calls Tryz.prog 38 #[err, .iface 86 (.pointer (some ⟨tb, 0, none⟩))] w
   fun e w' => e = .returned (.bool true) ∧ w'.heap[tb]? = some (.cells #[.int .i64 x] 44 (0, 0)) ∧ Kept [tb] w w' := by
 obtain ⟨f1, f2, o1, o2, rfl, h1, h2⟩ := hc.ex
 have e74 := @run_callFunc_extern Tryz.prog 73 _ (fun args => ReflectliteValue.unpack (args.getD 0 (.tuple #[]))) Tryz.func73 (by kernel_rfl) (by kernel_rfl) (by kernel_rfl) (by kernel_rfl)
 have e75 := @run_callFunc_extern Tryz.prog 74 _ (ReflectliteValue.methodAny (ReflectliteValue.valueError "reflectlite.Value.Type" 0) (fun t _ _ _ => ReflectliteType.toType t)) Tryz.func74 (by kernel_rfl) (by kernel_rfl) (by kernel_rfl) (by kernel_rfl)
 have e76 := @run_callFunc_extern Tryz.prog 75 _ (ReflectliteValue.method (ReflectliteValue.valueError "reflectlite.Value.IsNil" 0) ReflectliteValue.isNil) Tryz.func75 (by kernel_rfl) (by kernel_rfl) (by kernel_rfl) (by kernel_rfl)
 have e126 := @run_callFunc_extern Tryz.prog 167 _ (ReflectliteType.abiMethod fun t => do pure (.int .u8 (← Rtype.kind t))) Tryz.func167 (by kernel_rfl) (by kernel_rfl) (by kernel_rfl) (by kernel_rfl)
 have e144 := @run_callFunc_extern Tryz.prog 205 _ (ReflectliteType.method ReflectliteType.elem) Tryz.func205 (by kernel_rfl) (by kernel_rfl) (by kernel_rfl) (by kernel_rfl)
 have e145 := @run_callFunc_extern Tryz.prog 206 _ (ReflectliteType.relation "Implements" ReflectliteType.implements_) Tryz.func206 (by kernel_rfl) (by kernel_rfl) (by kernel_rfl) (by kernel_rfl)
 have f6 := vOf
 have f7 := tyOf
 have mK := mKind
 have mE := mElem
 have mI := mImpl
 have kP := kPtr
 have kE := kErrno
 have eP := elemP
 have iE := implE
 have k1 := (Kept.refl [] w).alloc (.cells #[.pointer (some ⟨tb, 0, none⟩)] 86)
 have p1 := heap_alloc_new w (.cells #[.pointer (some ⟨tb, 0, none⟩)] 86)
 have k2 := (Kept.refl [] (w.alloc (.cells #[.pointer (some ⟨tb, 0, none⟩)] 86))).alloc (.cells #[.pointer (some ⟨5, 86, none⟩), .pointer (some ⟨w.heap.size, 0, none⟩), .int .u64 150] 123)
 have p2 := k2.get p1 (by simp)
 have n8 := isNilP ⟨w.heap.size, 0, none⟩ ⟨tb, 0, none⟩ _ (cellAt p2 rfl)
 have hg2 : Glob _ := (hg.kept k1 (by simp)).kept k2 (by simp)
 have hg2' := hg2
 unfold Glob at hg2'
 have h12 := k2.get (k1.get h1 (by simp)) (by simp)
 have h22 := k2.get (k1.get h2 (by simp)) (by simp)
 have ht2 := k2.get (k1.get ht (by simp)) (by simp)
 have H := as_chain f1 f2 tb w.heap.size o1 o2 old (.iface 86 (.pointer (some ⟨tb, 0, none⟩))) x _ h12 h22 p2 ht2
 have HH : Hid (Calls _ _ _ _ _) := H
 have k12 := k1.trans k2
 clear H h1 h2 h12 h22 ht ht2 p1 p2 k1 k2 hg hg2
 go_enter Tryz.func38, Tryz.ntmps38
 go_wp2_with (go_at_call 76; refine HH.out.mono ?_; rintro e w' ⟨rfl, ht3, hk3⟩)
 go_ret
 exact ⟨rfl, ht3, (k12.mono (by simp)).trans hk3⟩

theorem PTold_nil (w : World) : Calls Tryz.prog 19 #[.nilIface] w fun e w' => e = .returned (.int .i64 0) ∧ w' = w := by
 go_enter Tryz.func19, Tryz.ntmps19
 go_wp2
 go_ret
 exact ⟨rfl, rfl⟩

theorem PTold_chain (err : Value) (x : Int) (w : World) (hg : Glob w) (hc : Chain w err x) : Calls Tryz.prog 19 #[err] w fun e w' => e = .returned (.int .i64 x) ∧ Kept [] w w' := by
 have k1 := (Kept.refl [] w).alloc (.cells #[.int .i64 0] 44)
 have hc1 : Chain (w.alloc (.cells #[.int .i64 0] 44)) err x := by
  obtain ⟨f1, f2, o1, o2, rfl, h1, h2⟩ := hc.ex
  exact ⟨f1, f2, o1, o2, rfl, k1.get h1 (by simp), k1.get h2 (by simp)⟩
 have H := As_chain err w.heap.size (.int .i64 0) x _ (hg.kept k1 (by simp)) hc1 (heap_alloc_new _ _)
 have HH : Hid (Calls _ _ _ _ _) := H
 obtain ⟨f1, f2, o1, o2, rfl, -, -⟩ := hc.ex
 clear hc hc1 H hg
 go_enter Tryz.func19, Tryz.ntmps19
 go_wp2_with (go_at_call 38; refine HH.out.mono ?_; rintro e w' ⟨rfl, ht3, hk3⟩; have c3 := cellAt (j := 0) ht3 rfl)
 go_ret
 exact ⟨rfl, k1.trans2 hk3 (by intro y hy; simp at hy; subst hy; exact Or.inr (Nat.le_refl _))⟩

end Go.Proofs.YtcklgafpgdhnaabGreatDoor

namespace Go.Proofs.YtcklgafpgdhnaabGreatDoor
open Go.RowKit

theorem asrtT (v : Value) (w : World) : (Instr.typeAssert (.iface 143 v) 20 143 true).run Tryz.prog w = .ok (.tuple #[v, .bool true]) w := by kernel_rfl

set_option maxRecDepth 10000 in
theorem meant_thrown (f : Addr) (w : World) : Calls Tryz.prog 56 #[.iface 143 (.agg #[.iface 98 (.pointer (some f))])] w fun e w' => e = .returned (.iface 98 (.pointer (some f))) ∧ Kept [] w w' := by
 have aT := asrtT
 go_enter Tryz.func56, Tryz.ntmps56
 go_wp2
 go_ret
 exact ⟨rfl, (Kept.refl _ _).alloc _⟩

theorem Catch1_idle (p q : Addr) (w : World) :
  CallsD Tryz.prog 55 #[.pointer (some p), .pointer (some q)] .returning w fun e u' w' => e = .returned (.tuple #[]) ∧ u' = .returning ∧ w' = w := by
 refine callsD_of_wpS Tryz.func55 rfl fun c₀ cs hu => ?_
 apply wpS_seq
 apply wpS_region
 simp [wpOpsS, go_sem, recoverD, hu, Tryz.ntmps55, Exit.thenS]
 rw [show #[Value.pointer (some p), Value.pointer (some q)] ++ ((Array.replicate 10 undef).setIfInBounds 1 Value.nilIface).setIfInBounds 0 Value.nilIface = #[.pointer (some p), .pointer (some q), .nilIface, .nilIface, undef, undef, undef, undef, undef, undef, undef, undef] from rfl]
 refine wpS_of_wp ?_
 go_wp2
 cases c₀
 simp_all [bodyPostS, results, Tryz.results55]

def Caught (x : Int) (q : Nat) (w w' : World) : Prop := ∃ err, w'.heap[q]? = some (.cells #[err] 35 (0, 0)) ∧ Chain w' err x ∧ Kept [q] w w'

theorem caught_of {w w2 : World} {q f : Nat} {o old : Value} {x : Int} {b : ByteArray} (hk2 : Kept [] w.drew w2) (hq2 : w2.heap[q]? = some (.cells #[old] 35 (0, 0)))
  (hf : w.heap[f]? = some (.cells #[o, .iface 44 (.int .i64 x)] 101 (0, 0))) :
  Caught x q w ((w2.setCell ⟨q, 0, none⟩ (.iface 98 (.pointer (some ⟨w2.heap.size, 0, none⟩)))).alloc (.cells #[.string b, .iface 98 (.pointer (some ⟨f, 0, none⟩))] 101)) := by
 have kd : Kept [] w w.drew := (Kept.refl _ _).drew
 have hf2 := hk2.get (w := w.drew) hf (by simp)
 have nqf : q ≠ f := ne_tag hq2 hf2 (by decide)
 have k1 : Kept [q] w2 (w2.setCell ⟨q, 0, none⟩ (.iface 98 (.pointer (some ⟨w2.heap.size, 0, none⟩)))) := (Kept.refl _ _).setCell (Or.inl (by simp)) _
 have h1 := setCellAt (i := 0) (.iface 98 (.pointer (some ⟨w2.heap.size, 0, none⟩))) hq2
 have k2 := (Kept.refl [] (w2.setCell ⟨q, 0, none⟩ (.iface 98 (.pointer (some ⟨w2.heap.size, 0, none⟩))))).alloc (.cells #[.string b, .iface 98 (.pointer (some ⟨f, 0, none⟩))] 101)
 refine ⟨.iface 98 (.pointer (some ⟨w2.heap.size, 0, none⟩)), k2.get h1 (by simp), ⟨w2.heap.size, f, .string b, o, rfl, ?_, k2.get (k1.get hf2 (by simpa using nqf.symm)) (by simp)⟩, ?_⟩
 ·have := heap_alloc_new (w2.setCell ⟨q, 0, none⟩ (.iface 98 (.pointer (some ⟨w2.heap.size, 0, none⟩)))) (.cells #[.string b, .iface 98 (.pointer (some ⟨f, 0, none⟩))] 101)
  rwa [show (w2.setCell ⟨q, 0, none⟩ (.iface 98 (.pointer (some ⟨w2.heap.size, 0, none⟩)))).heap.size = w2.heap.size by simp] at this
 ·exact (((kd.trans hk2).mono (by simp)).trans k1).trans2 k2 (by simp)

theorem Catch1_caught (p q f : Nat) (o s old : Value) (x : Int) (w : World) (hp : w.heap[p]? = some (.cells #[s] 9 (0, 0))) (hs : ∃ b, s = .string b) (hq : w.heap[q]? = some (.cells #[old] 35 (0, 0)))
  (hf : w.heap[f]? = some (.cells #[o, .iface 44 (.int .i64 x)] 101 (0, 0))) :
  CallsD Tryz.prog 55 #[.pointer (some ⟨p, 0, none⟩), .pointer (some ⟨q, 0, none⟩)] (.panicking [{ v := .iface 143 (.agg #[.iface 98 (.pointer (some ⟨f, 0, none⟩))]), recovered := false }]) w
   fun e u' w' => e = .returned (.tuple #[]) ∧ u' = .panicking [{ v := .iface 143 (.agg #[.iface 98 (.pointer (some ⟨f, 0, none⟩))]), recovered := true }] ∧ Caught x q w w' := by
 obtain ⟨b, rfl⟩ := hs
 refine callsD_of_wpS Tryz.func55 rfl fun c₀ cs hu => ?_
 apply wpS_seq
 apply wpS_region
 simp [wpOpsS, go_sem, recoverD, hu, Tryz.ntmps55, Exit.thenS]
 rw [show #[Value.pointer (some ⟨p, 0, none⟩), Value.pointer (some ⟨q, 0, none⟩)] ++ ((Array.replicate 10 undef).setIfInBounds 1 (Value.iface 143 (.agg #[.iface 98 (.pointer (some ⟨f, 0, none⟩))]))).setIfInBounds 0 (Value.iface 143 (.agg #[.iface 98 (.pointer (some ⟨f, 0, none⟩))])) = #[.pointer (some ⟨p, 0, none⟩), .pointer (some ⟨q, 0, none⟩), .iface 143 (.agg #[.iface 98 (.pointer (some ⟨f, 0, none⟩))]), .iface 143 (.agg #[.iface 98 (.pointer (some ⟨f, 0, none⟩))]), undef, undef, undef, undef, undef, undef, undef, undef] from rfl]
 refine wpS_of_wp ?_
 have cp : w.cell? ⟨p, 0, none⟩ = some (.string b) := cellAt hp rfl
 go_wp2
 go_region_with (go_at_call 56; refine (meant_thrown _ _).mono ?_; rintro e w2 ⟨rfl, hk2⟩; have cp2 : w2.cell? ⟨p, 0, none⟩ = some (.string b) := cellAt (hk2.get (w := w.drew) hp (by simp)) rfl; have hq2 := hk2.get (w := w.drew) hq (by simp); have cq2 : w2.cell? ⟨q, 0, none⟩ = some old := cellAt hq2 rfl; have fq2 : w2.frozen? ⟨q, 0, none⟩ = false := frozen_of_row _ _ _ _ _ hq2; have lq2 := lt_heap hq2)
 all_goals exact ⟨rfl, _, rfl, .tuple #[], results_none rfl _ _ _, rfl, rfl, caught_of hk2 hq2 hf⟩

end Go.Proofs.YtcklgafpgdhnaabGreatDoor

namespace Go.Proofs.YtcklgafpgdhnaabGreatDoor
open Go.RowKit

def Ends (S : List Nat) (R : World → Prop) (W : World) (e : Ending) (W' : World) : Prop := e = .returned (.tuple #[]) ∧ R W' ∧ Kept S W W'
def Throws (x : Int) (S : List Nat) (R : World → Prop) (W : World) (e : Ending) (W' : World) : Prop :=
 ∃ f o, e = .panicked [{ v := .iface 143 (.agg #[.iface 98 (.pointer (some ⟨f, 0, none⟩))]), recovered := false }] ∧
  W'.heap[f]? = some (.cells #[o, .iface 44 (.int .i64 x)] 101 (0, 0)) ∧ R W' ∧ Kept S W W'

theorem Catch_ok (b : ByteArray) (fid : FuncId) (caps : Array Value) (he : ∀ (args : Array Value) (W : World), (callFunc fid args).run Tryz.prog W = .ok (.enter fid args) W)  (S : List Nat) (R : World → Prop) (w : World) (hS : ∀ x ∈ S, x < w.heap.size)
  (hR : ∀ W W' T, R W → Kept T W W' → (∀ x ∈ T, w.heap.size ≤ x ∧ x < w.heap.size + 2 ∧ ∃ cs fr, W.heap[x]? = some (.cells cs 35 fr)) → R W')
  (hw : ∀ W, Kept [] w W → W.heap.size = w.heap.size + 2 → Calls Tryz.prog fid caps W (Ends S R W)) :
  Calls Tryz.prog 32 #[.string b, .func (.func fid) #[] caps] w fun e w' => e = .returned .nilIface ∧ R w' ∧ Kept S w w' := by
 have hmf := makes
 have k1 := ((Kept.refl [] w).alloc (.cells #[.string b] 9)).alloc (.cells #[.nilIface] 35)
 have hE1 : ((w.alloc (.cells #[.string b] 9)).alloc (.cells #[.nilIface] 35)).heap[w.heap.size + 1]? = some (.cells #[.nilIface] 35 (0, 0)) := by
  have := heap_alloc_new (w.alloc (.cells #[.string b] 9)) (.cells #[.nilIface] 35)
  rwa [World.size_alloc] at this
 have hw1 := hw _ k1 (by simp)
 have HW : Hid (Calls _ _ _ _ _) := hw1
 have HR : Hid (∀ W W' T, R W → Kept T W W' → (∀ x ∈ T, w.heap.size ≤ x ∧ x < w.heap.size + 2 ∧ ∃ cs fr, W.heap[x]? = some (.cells cs 35 fr)) → R W') := hR
 have HS : Hid (∀ x ∈ S, x < w.heap.size) := hS
 clear hw hw1 hR hS
 go_enter_defers Tryz.func32, Tryz.ntmps32
 go_wp2_with fail
 refine HW.out.mono ?_
 rintro e W ⟨rfl, hRW, hkW⟩
 have HRW : Hid (R W) := hRW
 have hE2 := hkW.get hE1 (fun hx => by have := HS.out _ hx; omega)
 have c2 : W.cell? ⟨w.heap.size + 1, 0, none⟩ = some .nilIface := cellAt hE2 rfl
 have f2 : W.frozen? ⟨w.heap.size + 1, 0, none⟩ = false := frozen_of_row _ _ _ _ _ hE2
 have k3 : Kept [w.heap.size + 1] W (W.setCell ⟨w.heap.size + 1, 0, none⟩ .nilIface) := (Kept.refl _ _).setCell (Or.inl (by simp)) _
 have hk13 : Kept S w (W.setCell ⟨w.heap.size + 1, 0, none⟩ .nilIface) := ((k1.mono (by simp)).trans hkW).trans2 k3 (by intro x hx; simp at hx; subst hx; exact Or.inr (by omega))
 have hR3 : R (W.setCell ⟨w.heap.size + 1, 0, none⟩ .nilIface) := HR.out _ _ _ HRW.out k3 (by intro x hx; simp at hx; subst hx; exact ⟨by omega, by omega, _, _, hE2⟩)
 have HR3 : Hid (R (W.setCell ⟨w.heap.size + 1, 0, none⟩ .nilIface)) := hR3
 have c3 : (W.setCell ⟨w.heap.size + 1, 0, none⟩ .nilIface).cell? ⟨w.heap.size + 1, 0, none⟩ = some .nilIface := cellAt (setCellAt (i := 0) .nilIface hE2) rfl
 clear hRW hR3 hE1 hE2 k1
 go_wp2
 refine leaves_cons (f := 55) (args := #[.pointer (some ⟨w.heap.size, 0, none⟩), .pointer (some ⟨w.heap.size + 1, 0, none⟩)]) (by simp) (by simp [go_sem]) ?_
 refine (Catch1_idle ⟨w.heap.size, 0, none⟩ ⟨w.heap.size + 1, 0, none⟩ _).mono ?_
 rintro e u' w'' ⟨rfl, rfl, rfl⟩
 simp [Leaves, settle, results, Tryz.results32, go_sem, c3]
 exact ⟨HR3.out, hk13⟩

def Gives (x : Int) (S : List Nat) (R : World → Prop) (w : World) (e : Ending) (w' : World) : Prop := ∃ err, e = .returned err ∧ Chain w' err x ∧ R w' ∧ Kept S w w'

theorem Catch_no (b : ByteArray) (fid : FuncId) (caps : Array Value) (he : ∀ (args : Array Value) (W : World), (callFunc fid args).run Tryz.prog W = .ok (.enter fid args) W)  (x : Int) (S : List Nat) (R : World → Prop) (w : World) (hS : ∀ x ∈ S, x < w.heap.size)
  (hR : ∀ W W' T, R W → Kept T W W' → (∀ x ∈ T, w.heap.size ≤ x ∧ x < w.heap.size + 2 ∧ ∃ cs fr, W.heap[x]? = some (.cells cs 35 fr)) → R W')
  (hw : ∀ W, Kept [] w W → W.heap.size = w.heap.size + 2 → Calls Tryz.prog fid caps W (Throws x S R W)) :
  Calls Tryz.prog 32 #[.string b, .func (.func fid) #[] caps] w (Gives x S R w) := by
 have hmf := makes
 have k1 := ((Kept.refl [] w).alloc (.cells #[.string b] 9)).alloc (.cells #[.nilIface] 35)
 have hE1 : ((w.alloc (.cells #[.string b] 9)).alloc (.cells #[.nilIface] 35)).heap[w.heap.size + 1]? = some (.cells #[.nilIface] 35 (0, 0)) := by
  have := heap_alloc_new (w.alloc (.cells #[.string b] 9)) (.cells #[.nilIface] 35)
  rwa [World.size_alloc] at this
 have hO1 := ((Kept.refl [] (w.alloc (.cells #[.string b] 9))).alloc (.cells #[.nilIface] 35)).get (heap_alloc_new w (.cells #[.string b] 9)) (by simp)
 have hw1 := hw _ k1 (by simp)
 have HW : Hid (Calls _ _ _ _ _) := hw1
 have HR : Hid (∀ W W' T, R W → Kept T W W' → (∀ x ∈ T, w.heap.size ≤ x ∧ x < w.heap.size + 2 ∧ ∃ cs fr, W.heap[x]? = some (.cells cs 35 fr)) → R W') := hR
 have HS : Hid (∀ x ∈ S, x < w.heap.size) := hS
 clear hw hw1 hR hS
 go_enter_defers Tryz.func32, Tryz.ntmps32
 go_wp2_with fail
 refine HW.out.mono ?_
 rintro e W ⟨f, o, rfl, hf, hRW, hkW⟩
 have hE2 := hkW.get hE1 (fun hx => by have := HS.out _ hx; omega)
 have hO2 := hkW.get hO1 (fun hx => by have := HS.out _ hx; omega)
 refine leaves_cons (f := 55) (args := #[.pointer (some ⟨w.heap.size, 0, none⟩), .pointer (some ⟨w.heap.size + 1, 0, none⟩)]) (by simp) (by simp [go_sem]) ?_
 refine (Catch1_caught w.heap.size (w.heap.size + 1) f o _ _ x W hO2 ⟨b, rfl⟩ hE2 hf).mono ?_
 rintro e u' w'' ⟨rfl, rfl, err, he, hc, hk⟩
 have ce : w''.cell? ⟨w.heap.size + 1, 0, none⟩ = some err := cellAt he rfl
 simp [Leaves, settle, results, Tryz.results32, go_sem, ce]
 exact ⟨err, rfl, hc, HR.out _ _ _ hRW hk (by intro y hy; simp at hy; subst hy; exact ⟨by omega, by omega, _, _, hE2⟩), ((k1.mono (by simp)).trans hkW).trans2 hk (by intro y hy; simp at hy; subst hy; exact Or.inr (by omega))⟩

end Go.Proofs.YtcklgafpgdhnaabGreatDoor

namespace Go.Proofs.YtcklgafpgdhnaabGreatDoor
open Go.RowKit

theorem CatchM_ok (b : ByteArray) (fid : FuncId) (cv : Value) (he : ∀ (args : Array Value) (W : World), (callFunc fid args).run Tryz.prog W = .ok (.enter fid args) W)  (S : List Nat) (R : World → Prop) (w : World) (hS : ∀ x ∈ S, x < w.heap.size)
  (hR : ∀ W W' T, R W → Kept T W W' → (∀ x ∈ T, w.heap.size ≤ x ∧ x < w.heap.size + 2 ∧ ∃ cs fr, W.heap[x]? = some (.cells cs 35 fr)) → R W')
  (hw : ∀ W, Kept [] w W → W.heap.size = w.heap.size + 2 → Calls Tryz.prog fid #[cv] W (Ends S R W)) :
  Calls Tryz.prog 32 #[.string b, .func (.func fid) #[cv] #[]] w fun e w' => e = .returned .nilIface ∧ R w' ∧ Kept S w w' := by
 have hmf := makes
 have k1 := ((Kept.refl [] w).alloc (.cells #[.string b] 9)).alloc (.cells #[.nilIface] 35)
 have hE1 : ((w.alloc (.cells #[.string b] 9)).alloc (.cells #[.nilIface] 35)).heap[w.heap.size + 1]? = some (.cells #[.nilIface] 35 (0, 0)) := by
  have := heap_alloc_new (w.alloc (.cells #[.string b] 9)) (.cells #[.nilIface] 35)
  rwa [World.size_alloc] at this
 have hw1 := hw _ k1 (by simp)
 have HW : Hid (Calls _ _ _ _ _) := hw1
 have HR : Hid (∀ W W' T, R W → Kept T W W' → (∀ x ∈ T, w.heap.size ≤ x ∧ x < w.heap.size + 2 ∧ ∃ cs fr, W.heap[x]? = some (.cells cs 35 fr)) → R W') := hR
 have HS : Hid (∀ x ∈ S, x < w.heap.size) := hS
 clear hw hw1 hR hS
 go_enter_defers Tryz.func32, Tryz.ntmps32
 go_wp2_with fail
 refine HW.out.mono ?_
 rintro e W ⟨rfl, hRW, hkW⟩
 have HRW : Hid (R W) := hRW
 have hE2 := hkW.get hE1 (fun hx => by have := HS.out _ hx; omega)
 have c2 : W.cell? ⟨w.heap.size + 1, 0, none⟩ = some .nilIface := cellAt hE2 rfl
 have f2 : W.frozen? ⟨w.heap.size + 1, 0, none⟩ = false := frozen_of_row _ _ _ _ _ hE2
 have k3 : Kept [w.heap.size + 1] W (W.setCell ⟨w.heap.size + 1, 0, none⟩ .nilIface) := (Kept.refl _ _).setCell (Or.inl (by simp)) _
 have hk13 : Kept S w (W.setCell ⟨w.heap.size + 1, 0, none⟩ .nilIface) := ((k1.mono (by simp)).trans hkW).trans2 k3 (by intro x hx; simp at hx; subst hx; exact Or.inr (by omega))
 have hR3 : R (W.setCell ⟨w.heap.size + 1, 0, none⟩ .nilIface) := HR.out _ _ _ HRW.out k3 (by intro x hx; simp at hx; subst hx; exact ⟨by omega, by omega, _, _, hE2⟩)
 have HR3 : Hid (R (W.setCell ⟨w.heap.size + 1, 0, none⟩ .nilIface)) := hR3
 have c3 : (W.setCell ⟨w.heap.size + 1, 0, none⟩ .nilIface).cell? ⟨w.heap.size + 1, 0, none⟩ = some .nilIface := cellAt (setCellAt (i := 0) .nilIface hE2) rfl
 clear hRW hR3 hE1 hE2 k1
 go_wp2
 refine leaves_cons (f := 55) (args := #[.pointer (some ⟨w.heap.size, 0, none⟩), .pointer (some ⟨w.heap.size + 1, 0, none⟩)]) (by simp) (by simp [go_sem]) ?_
 refine (Catch1_idle ⟨w.heap.size, 0, none⟩ ⟨w.heap.size + 1, 0, none⟩ _).mono ?_
 rintro e u' w'' ⟨rfl, rfl, rfl⟩
 simp [Leaves, settle, results, Tryz.results32, go_sem, c3]
 exact ⟨HR3.out, hk13⟩

theorem CatchM_no (b : ByteArray) (fid : FuncId) (cv : Value) (he : ∀ (args : Array Value) (W : World), (callFunc fid args).run Tryz.prog W = .ok (.enter fid args) W)  (x : Int) (S : List Nat) (R : World → Prop) (w : World) (hS : ∀ x ∈ S, x < w.heap.size)
  (hR : ∀ W W' T, R W → Kept T W W' → (∀ x ∈ T, w.heap.size ≤ x ∧ x < w.heap.size + 2 ∧ ∃ cs fr, W.heap[x]? = some (.cells cs 35 fr)) → R W')
  (hw : ∀ W, Kept [] w W → W.heap.size = w.heap.size + 2 → Calls Tryz.prog fid #[cv] W (Throws x S R W)) :
  Calls Tryz.prog 32 #[.string b, .func (.func fid) #[cv] #[]] w (Gives x S R w) := by
 have hmf := makes
 have k1 := ((Kept.refl [] w).alloc (.cells #[.string b] 9)).alloc (.cells #[.nilIface] 35)
 have hE1 : ((w.alloc (.cells #[.string b] 9)).alloc (.cells #[.nilIface] 35)).heap[w.heap.size + 1]? = some (.cells #[.nilIface] 35 (0, 0)) := by
  have := heap_alloc_new (w.alloc (.cells #[.string b] 9)) (.cells #[.nilIface] 35)
  rwa [World.size_alloc] at this
 have hO1 := ((Kept.refl [] (w.alloc (.cells #[.string b] 9))).alloc (.cells #[.nilIface] 35)).get (heap_alloc_new w (.cells #[.string b] 9)) (by simp)
 have hw1 := hw _ k1 (by simp)
 have HW : Hid (Calls _ _ _ _ _) := hw1
 have HR : Hid (∀ W W' T, R W → Kept T W W' → (∀ x ∈ T, w.heap.size ≤ x ∧ x < w.heap.size + 2 ∧ ∃ cs fr, W.heap[x]? = some (.cells cs 35 fr)) → R W') := hR
 have HS : Hid (∀ x ∈ S, x < w.heap.size) := hS
 clear hw hw1 hR hS
 go_enter_defers Tryz.func32, Tryz.ntmps32
 go_wp2_with fail
 refine HW.out.mono ?_
 rintro e W ⟨f, o, rfl, hf, hRW, hkW⟩
 have hE2 := hkW.get hE1 (fun hx => by have := HS.out _ hx; omega)
 have hO2 := hkW.get hO1 (fun hx => by have := HS.out _ hx; omega)
 refine leaves_cons (f := 55) (args := #[.pointer (some ⟨w.heap.size, 0, none⟩), .pointer (some ⟨w.heap.size + 1, 0, none⟩)]) (by simp) (by simp [go_sem]) ?_
 refine (Catch1_caught w.heap.size (w.heap.size + 1) f o _ _ x W hO2 ⟨b, rfl⟩ hE2 hf).mono ?_
 rintro e u' w'' ⟨rfl, rfl, err, he, hc, hk⟩
 have ce : w''.cell? ⟨w.heap.size + 1, 0, none⟩ = some err := cellAt he rfl
 simp [Leaves, settle, results, Tryz.results32, go_sem, ce]
 exact ⟨err, rfl, hc, HR.out _ _ _ hRW hk (by intro y hy; simp at hy; subst hy; exact ⟨by omega, by omega, _, _, hE2⟩), ((k1.mono (by simp)).trans hkW).trans2 hk (by intro y hy; simp at hy; subst hy; exact Or.inr (by omega))⟩

end Go.Proofs.YtcklgafpgdhnaabGreatDoor
