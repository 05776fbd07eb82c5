import Derived.Test.YtcklgafpgdhnaabGreatDoorPqae
import Derived.Deep.RegionWith
import Derived.Test.YtcklgafpgdhnaabGreatDoorPqab
import Derived.Maps.OwnSet
import Derived.LoopN
set_option maxRecDepth 100000
set_option maxHeartbeats 4000000
open Go.Proofs.Tryz
namespace Go.Proofs.YtcklgafpgdhnaabGreatDoor
open Go.RowKit Go.Extern.Stop Go.Stop Go.Extern
def Glob (w : World) : Prop := w.cell? ⟨0, 0, none⟩ = some (.iface 165 (.agg #[.pointer (some ⟨5, 35, none⟩)]))
theorem Glob.lt {w : World} (h : Glob w) : 0 < w.heap.size := block_lt_of_cell h
theorem Glob.kept {S : List Nat} {w w' : World} (h : Glob w) (k : y5 S w w') (h0 : 0 ∉ S) : Glob w' := by
 have hl := h.lt
 unfold Glob at *
 rw [World.cell?_of_block (w := w) (a := ⟨0, 0, none⟩) (k.block 0 hl h0)]
 exact h
theorem Q1X (err : Value) (tb : Nat) (old : Value) (x : Int) (w : World) (hg : Glob w) (hc : Qo w err x)
  (ht : w.heap[tb]? = some (.cells #[old] 44 (0, 0))) :
  Calls prog 38 #[err, .iface 86 (.pointer (some ⟨tb, 0, none⟩))] w
   fun e w' => e = .returned (.bool true) /\ w'.heap[tb]? = some (.cells #[.int .i64 x] 44 (0, 0)) /\ y5 [tb] w w' := by
 obtain ⟨f1, f2, o1, o2, rfl, h1, h2⟩ := hc.ex
 have e74 := @run_callFunc_extern prog 73 _ (fun args => ReflectliteValue.unpack (args.getD 0 (.tuple #[]))) func73 (by kernel_rfl) (by kernel_rfl) (by kernel_rfl) (by kernel_rfl)
 have e75 := @run_callFunc_extern prog 74 _ (ReflectliteValue.methodAny (ReflectliteValue.valueError "reflectlite.Value.Type" 0) (fun t _ _ _ => ReflectliteType.toType t)) func74 (by kernel_rfl) (by kernel_rfl) (by kernel_rfl) (by kernel_rfl)
 have e76 := @run_callFunc_extern prog 75 _ (ReflectliteValue.method (ReflectliteValue.valueError "reflectlite.Value.IsNil" 0) ReflectliteValue.isNil) func75 (by kernel_rfl) (by kernel_rfl) (by kernel_rfl) (by kernel_rfl)
 have e126 := @run_callFunc_extern prog 167 _ (ReflectliteType.abiMethod fun t => do pure (.int .u8 (<- Rtype.kind t))) func167 (by kernel_rfl) (by kernel_rfl) (by kernel_rfl) (by kernel_rfl)
 have e144 := @run_callFunc_extern prog 205 _ (ReflectliteType.method ReflectliteType.elem) func205 (by kernel_rfl) (by kernel_rfl) (by kernel_rfl) (by kernel_rfl)
 have e145 := @run_callFunc_extern prog 206 _ (ReflectliteType.relation "Implements" ReflectliteType.implements_) func206 (by kernel_rfl) (by kernel_rfl) (by kernel_rfl) (by kernel_rfl)
 have f6 := vOf
 have f7 := tyOf
 have mK := Q1A
 have mE := Q1E
 have mI := Q1F
 have kP := kPtr
 have kE := Q1B
 have eP := Q1H
 have iE := Q1I
 have k1 := (y5.refl [] w).alloc (.cells #[.pointer (some ⟨tb, 0, none⟩)] 86)
 have p1 := heap_alloc_new w (.cells #[.pointer (some ⟨tb, 0, none⟩)] 86)
 have k2 := (y5.refl [] (w.alloc (.cells #[.pointer (some ⟨tb, 0, none⟩)] 86))).alloc (.cells #[.pointer (some ⟨5, 86, none⟩), .pointer (some ⟨w.heap.size, 0, none⟩), .int .u64 150] 123)
 have p2 := k2.get p1 (by simp)
 have n8 := Q1D ⟨w.heap.size, 0, none⟩ ⟨tb, 0, none⟩ _ (y6 p2 rfl)
 have hg2 : Glob _ := (hg.kept k1 (by simp)).kept k2 (by simp)
 have hg2' := hg2
 unfold Glob at hg2'
 have h12 := k2.get (k1.get h1 (by simp)) (by simp)
 have h22 := k2.get (k1.get h2 (by simp)) (by simp)
 have ht2 := k2.get (k1.get ht (by simp)) (by simp)
 have H := Q1W f1 f2 tb w.heap.size o1 o2 old (.iface 86 (.pointer (some ⟨tb, 0, none⟩))) x _ h12 h22 p2 ht2
 have HH : Hid (Calls _ _ _ _ _) := H
 have k12 := k1.trans k2
 clear H h1 h2 h12 h22 ht ht2 p1 p2 k1 k2 hg hg2
 go_enter func38, ntmps38
 go_wp2_with (go_at_call 76; refine HH.out.mono ?_; rintro e w' ⟨rfl, ht3, hk3⟩)
 go_ret
 exact ⟨rfl, ht3, (k12.mono (by simp)).trans hk3⟩
theorem Q1Y (w : World) : Calls prog 19 #[.nilIface] w fun e w' => e = .returned (.int .i64 0) /\ w' = w := by
 go_enter func19, ntmps19
 go_wp2
 go_ret
 exact ⟨rfl, rfl⟩
theorem Q1Z (err : Value) (x : Int) (w : World) (hg : Glob w) (hc : Qo w err x) : Calls prog 19 #[err] w fun e w' => e = .returned (.int .i64 x) /\ y5 [] w w' := by
 have k1 := (y5.refl [] w).alloc (.cells #[.int .i64 0] 44)
 have hc1 : Qo (w.alloc (.cells #[.int .i64 0] 44)) err x := by
  obtain ⟨f1, f2, o1, o2, rfl, h1, h2⟩ := hc.ex
  exact ⟨f1, f2, o1, o2, rfl, k1.get h1 (by simp), k1.get h2 (by simp)⟩
 have H := Q1X err w.heap.size (.int .i64 0) x _ (hg.kept k1 (by simp)) hc1 (heap_alloc_new _ _)
 have HH : Hid (Calls _ _ _ _ _) := H
 obtain ⟨f1, f2, o1, o2, rfl, -, -⟩ := hc.ex
 clear hc hc1 H hg
 go_enter func19, ntmps19
 go_wp2_with (go_at_call 38; refine HH.out.mono ?_; rintro e w' ⟨rfl, ht3, hk3⟩; have c3 := y6 (j := 0) ht3 rfl)
 go_ret
 exact ⟨rfl, k1.trans2 hk3 (by intro y hy; simp at hy; subst hy; exact Or.inr (Nat.le_refl _))⟩
end Go.Proofs.YtcklgafpgdhnaabGreatDoor
namespace Go.Proofs.YtcklgafpgdhnaabGreatDoor
open Go.RowKit
theorem Q20 (v : Value) (w : World) : (Instr.typeAssert (.iface 143 v) 20 143 true).run prog w = .ok (.tuple #[v, .bool true]) w := by kernel_rfl
set_option maxRecDepth 10000 in
theorem Q21 (f : Addr) (w : World) : Calls prog 56 #[.iface 143 (.agg #[.iface 98 (.pointer (some f))])] w fun e w' => e = .returned (.iface 98 (.pointer (some f))) /\ y5 [] w w' := by
 have aT := Q20
 go_enter func56, ntmps56
 go_wp2
 go_ret
 exact ⟨rfl, (y5.refl _ _).alloc _⟩
theorem Z0 (p q : Addr) (w : World) :
  CallsD prog 55 #[.pointer (some p), .pointer (some q)] .returning w fun e u' w' => e = .returned (.tuple #[]) /\ u' = .returning /\ w' = w := by
 refine callsD_of_wpS func55 rfl fun c₀ cs hu => ?_
 apply wpS_seq
 apply wpS_region
 simp [wpOpsS, go_sem, recoverD, hu, ntmps55, Exit.thenS]
 rw [show #[Value.pointer (some p), Value.pointer (some q)] ++ ((Array.replicate 10 undef).setIfInBounds 1 Value.nilIface).setIfInBounds 0 Value.nilIface = #[.pointer (some p), .pointer (some q), .nilIface, .nilIface, undef, undef, undef, undef, undef, undef, undef, undef] from rfl]
 refine wpS_of_wp ?_
 go_wp2
 cases c₀
 simp_all [bodyPostS, results, Tryz.results55]
def Q22 (x : Int) (q : Nat) (w w' : World) : Prop := ∃ err, w'.heap[q]? = some (.cells #[err] 35 (0, 0)) /\ Qo w' err x /\ y5 [q] w w'
theorem Q23 {w w2 : World} {q f : Nat} {o old : Value} {x : Int} {b : ByteArray} (hk2 : y5 [] w.drew w2) (hq2 : w2.heap[q]? = some (.cells #[old] 35 (0, 0)))
  (hf : w.heap[f]? = some (.cells #[o, .iface 44 (.int .i64 x)] 101 (0, 0))) :
  Q22 x q w ((w2.setCell ⟨q, 0, none⟩ (.iface 98 (.pointer (some ⟨w2.heap.size, 0, none⟩)))).alloc (.cells #[.string b, .iface 98 (.pointer (some ⟨f, 0, none⟩))] 101)) := by
 have kd : y5 [] w w.drew := (y5.refl _ _).drew
 have hf2 := hk2.get (w := w.drew) hf (by simp)
 have nqf : q ≠ f := yP hq2 hf2 (by decide)
 have k1 : y5 [q] w2 (w2.setCell ⟨q, 0, none⟩ (.iface 98 (.pointer (some ⟨w2.heap.size, 0, none⟩)))) := (y5.refl _ _).setCell (Or.inl (by simp)) _
 have h1 := yg (i := 0) (.iface 98 (.pointer (some ⟨w2.heap.size, 0, none⟩))) hq2
 have k2 := (y5.refl [] (w2.setCell ⟨q, 0, none⟩ (.iface 98 (.pointer (some ⟨w2.heap.size, 0, none⟩))))).alloc (.cells #[.string b, .iface 98 (.pointer (some ⟨f, 0, none⟩))] 101)
 refine ⟨.iface 98 (.pointer (some ⟨w2.heap.size, 0, none⟩)), k2.get h1 (by simp), ⟨w2.heap.size, f, .string b, o, rfl, ?_, k2.get (k1.get hf2 (by simpa using nqf.symm)) (by simp)⟩, ?_⟩
 ·have := heap_alloc_new (w2.setCell ⟨q, 0, none⟩ (.iface 98 (.pointer (some ⟨w2.heap.size, 0, none⟩)))) (.cells #[.string b, .iface 98 (.pointer (some ⟨f, 0, none⟩))] 101)
  rwa [show (w2.setCell ⟨q, 0, none⟩ (.iface 98 (.pointer (some ⟨w2.heap.size, 0, none⟩)))).heap.size = w2.heap.size by simp] at this
 ·exact (((kd.trans hk2).mono (by simp)).trans k1).trans2 k2 (by simp)
theorem Zy (p q f : Nat) (o s old : Value) (x : Int) (w : World) (hp : w.heap[p]? = some (.cells #[s] 9 (0, 0))) (hs : ∃ b, s = .string b) (hq : w.heap[q]? = some (.cells #[old] 35 (0, 0)))
  (hf : w.heap[f]? = some (.cells #[o, .iface 44 (.int .i64 x)] 101 (0, 0))) :
  CallsD prog 55 #[.pointer (some ⟨p, 0, none⟩), .pointer (some ⟨q, 0, none⟩)] (.panicking [{ v := .iface 143 (.agg #[.iface 98 (.pointer (some ⟨f, 0, none⟩))]), recovered := false }]) w
   fun e u' w' => e = .returned (.tuple #[]) /\ u' = .panicking [{ v := .iface 143 (.agg #[.iface 98 (.pointer (some ⟨f, 0, none⟩))]), recovered := true }] /\ Q22 x q w w' := by
 obtain ⟨b, rfl⟩ := hs
 refine callsD_of_wpS func55 rfl fun c₀ cs hu => ?_
 apply wpS_seq
 apply wpS_region
 simp [wpOpsS, go_sem, recoverD, hu, ntmps55, Exit.thenS]
 rw [show #[Value.pointer (some ⟨p, 0, none⟩), Value.pointer (some ⟨q, 0, none⟩)] ++ ((Array.replicate 10 undef).setIfInBounds 1 (Value.iface 143 (.agg #[.iface 98 (.pointer (some ⟨f, 0, none⟩))]))).setIfInBounds 0 (Value.iface 143 (.agg #[.iface 98 (.pointer (some ⟨f, 0, none⟩))])) = #[.pointer (some ⟨p, 0, none⟩), .pointer (some ⟨q, 0, none⟩), .iface 143 (.agg #[.iface 98 (.pointer (some ⟨f, 0, none⟩))]), .iface 143 (.agg #[.iface 98 (.pointer (some ⟨f, 0, none⟩))]), undef, undef, undef, undef, undef, undef, undef, undef] from rfl]
 refine wpS_of_wp ?_
 have cp : w.cell? ⟨p, 0, none⟩ = some (.string b) := y6 hp rfl
 go_wp2
 go_region_with (go_at_call 56; refine (Q21 _ _).mono ?_; rintro e w2 ⟨rfl, hk2⟩; have cp2 : w2.cell? ⟨p, 0, none⟩ = some (.string b) := y6 (hk2.get (w := w.drew) hp (by simp)) rfl; have hq2 := hk2.get (w := w.drew) hq (by simp); have cq2 : w2.cell? ⟨q, 0, none⟩ = some old := y6 hq2 rfl; have fq2 : w2.frozen? ⟨q, 0, none⟩ = false := frozen_of_row _ _ _ _ _ hq2; have lq2 := yt hq2)
 all_goals exact ⟨rfl, _, rfl, .tuple #[], results_none rfl _ _ _, rfl, rfl, Q23 hk2 hq2 hf⟩
def Ends (S : List Nat) (R : World -> Prop) (W : World) (e : Ending) (W' : World) : Prop := e = .returned (.tuple #[]) /\ R W' /\ y5 S W W'
def Q24 (x : Int) (S : List Nat) (R : World -> Prop) (W : World) (e : Ending) (W' : World) : Prop :=
 ∃ f o, e = .panicked [{ v := .iface 143 (.agg #[.iface 98 (.pointer (some ⟨f, 0, none⟩))]), recovered := false }] /\
  W'.heap[f]? = some (.cells #[o, .iface 44 (.int .i64 x)] 101 (0, 0)) /\ R W' /\ y5 S W W'
theorem Q25 (b : ByteArray) (fid : FuncId) (caps : Array Value) (he : ∀ (args : Array Value) (W : World), (callFunc fid args).run prog W = .ok (.enter fid args) W)  (S : List Nat) (R : World -> Prop) (w : World) (hS : ∀ x ∈ S, x < w.heap.size)
  (hR : ∀ W W' T, R W -> y5 T W W' -> (∀ x ∈ T, w.heap.size <= x /\ x < w.heap.size + 2 /\ ∃ cs fr, W.heap[x]? = some (.cells cs 35 fr)) -> R W')
  (hw : ∀ W, y5 [] w W -> W.heap.size = w.heap.size + 2 -> Calls prog fid caps W (Ends S R W)) :
  Calls prog 32 #[.string b, .func (.func fid) #[] caps] w fun e w' => e = .returned .nilIface /\ R w' /\ y5 S w w' := by
 have hmf := jb
 have k1 := ((y5.refl [] w).alloc (.cells #[.string b] 9)).alloc (.cells #[.nilIface] 35)
 have hE1 : ((w.alloc (.cells #[.string b] 9)).alloc (.cells #[.nilIface] 35)).heap[w.heap.size + 1]? = some (.cells #[.nilIface] 35 (0, 0)) := by
  have := heap_alloc_new (w.alloc (.cells #[.string b] 9)) (.cells #[.nilIface] 35)
  rwa [World.size_alloc] at this
 have hw1 := hw _ k1 (by simp)
 have HW : Hid (Calls _ _ _ _ _) := hw1
 have HR : Hid (∀ W W' T, R W -> y5 T W W' -> (∀ x ∈ T, w.heap.size <= x /\ x < w.heap.size + 2 /\ ∃ cs fr, W.heap[x]? = some (.cells cs 35 fr)) -> R W') := hR
 have HS : Hid (∀ x ∈ S, x < w.heap.size) := hS
 clear hw hw1 hR hS
 go_enter_defers func32, ntmps32
 go_wp2_with fail
 refine HW.out.mono ?_
 rintro e W ⟨rfl, hRW, hkW⟩
 have HRW : Hid (R W) := hRW
 have hE2 := hkW.get hE1 (fun hx => by have := HS.out _ hx; omega)
 have c2 : W.cell? ⟨w.heap.size + 1, 0, none⟩ = some .nilIface := y6 hE2 rfl
 have f2 : W.frozen? ⟨w.heap.size + 1, 0, none⟩ = false := frozen_of_row _ _ _ _ _ hE2
 have k3 : y5 [w.heap.size + 1] W (W.setCell ⟨w.heap.size + 1, 0, none⟩ .nilIface) := (y5.refl _ _).setCell (Or.inl (by simp)) _
 have hk13 : y5 S w (W.setCell ⟨w.heap.size + 1, 0, none⟩ .nilIface) := ((k1.mono (by simp)).trans hkW).trans2 k3 (by intro x hx; simp at hx; subst hx; exact Or.inr (by omega))
 have hR3 : R (W.setCell ⟨w.heap.size + 1, 0, none⟩ .nilIface) := HR.out _ _ _ HRW.out k3 (by intro x hx; simp at hx; subst hx; exact ⟨by omega, by omega, _, _, hE2⟩)
 have HR3 : Hid (R (W.setCell ⟨w.heap.size + 1, 0, none⟩ .nilIface)) := hR3
 have c3 : (W.setCell ⟨w.heap.size + 1, 0, none⟩ .nilIface).cell? ⟨w.heap.size + 1, 0, none⟩ = some .nilIface := y6 (yg (i := 0) .nilIface hE2) rfl
 clear hRW hR3 hE1 hE2 k1
 go_wp2
 refine leaves_cons (f := 55) (args := #[.pointer (some ⟨w.heap.size, 0, none⟩), .pointer (some ⟨w.heap.size + 1, 0, none⟩)]) (by simp) (by simp [go_sem]) ?_
 refine (Z0 ⟨w.heap.size, 0, none⟩ ⟨w.heap.size + 1, 0, none⟩ _).mono ?_
 rintro e u' w'' ⟨rfl, rfl, rfl⟩
 simp [Leaves, settle, results, Tryz.results32, go_sem, c3]
 exact ⟨HR3.out, hk13⟩
def Q26 (x : Int) (S : List Nat) (R : World -> Prop) (w : World) (e : Ending) (w' : World) : Prop := ∃ err, e = .returned err /\ Qo w' err x /\ R w' /\ y5 S w w'
theorem Q27 (b : ByteArray) (fid : FuncId) (caps : Array Value) (he : ∀ (args : Array Value) (W : World), (callFunc fid args).run prog W = .ok (.enter fid args) W)  (x : Int) (S : List Nat) (R : World -> Prop) (w : World) (hS : ∀ x ∈ S, x < w.heap.size)
  (hR : ∀ W W' T, R W -> y5 T W W' -> (∀ x ∈ T, w.heap.size <= x /\ x < w.heap.size + 2 /\ ∃ cs fr, W.heap[x]? = some (.cells cs 35 fr)) -> R W')
  (hw : ∀ W, y5 [] w W -> W.heap.size = w.heap.size + 2 -> Calls prog fid caps W (Q24 x S R W)) :
  Calls prog 32 #[.string b, .func (.func fid) #[] caps] w (Q26 x S R w) := by
 have hmf := jb
 have k1 := ((y5.refl [] w).alloc (.cells #[.string b] 9)).alloc (.cells #[.nilIface] 35)
 have hE1 : ((w.alloc (.cells #[.string b] 9)).alloc (.cells #[.nilIface] 35)).heap[w.heap.size + 1]? = some (.cells #[.nilIface] 35 (0, 0)) := by
  have := heap_alloc_new (w.alloc (.cells #[.string b] 9)) (.cells #[.nilIface] 35)
  rwa [World.size_alloc] at this
 have hO1 := ((y5.refl [] (w.alloc (.cells #[.string b] 9))).alloc (.cells #[.nilIface] 35)).get (heap_alloc_new w (.cells #[.string b] 9)) (by simp)
 have hw1 := hw _ k1 (by simp)
 have HW : Hid (Calls _ _ _ _ _) := hw1
 have HR : Hid (∀ W W' T, R W -> y5 T W W' -> (∀ x ∈ T, w.heap.size <= x /\ x < w.heap.size + 2 /\ ∃ cs fr, W.heap[x]? = some (.cells cs 35 fr)) -> R W') := hR
 have HS : Hid (∀ x ∈ S, x < w.heap.size) := hS
 clear hw hw1 hR hS
 go_enter_defers func32, ntmps32
 go_wp2_with fail
 refine HW.out.mono ?_
 rintro e W ⟨f, o, rfl, hf, hRW, hkW⟩
 have hE2 := hkW.get hE1 (fun hx => by have := HS.out _ hx; omega)
 have hO2 := hkW.get hO1 (fun hx => by have := HS.out _ hx; omega)
 refine leaves_cons (f := 55) (args := #[.pointer (some ⟨w.heap.size, 0, none⟩), .pointer (some ⟨w.heap.size + 1, 0, none⟩)]) (by simp) (by simp [go_sem]) ?_
 refine (Zy w.heap.size (w.heap.size + 1) f o _ _ x W hO2 ⟨b, rfl⟩ hE2 hf).mono ?_
 rintro e u' w'' ⟨rfl, rfl, err, he, hc, hk⟩
 have ce : w''.cell? ⟨w.heap.size + 1, 0, none⟩ = some err := y6 he rfl
 simp [Leaves, settle, results, Tryz.results32, go_sem, ce]
 exact ⟨err, rfl, hc, HR.out _ _ _ hRW hk (by intro y hy; simp at hy; subst hy; exact ⟨by omega, by omega, _, _, hE2⟩), ((k1.mono (by simp)).trans hkW).trans2 hk (by intro y hy; simp at hy; subst hy; exact Or.inr (by omega))⟩
def WEnd (o : Option Int) (e : Ending) (W : World) : Prop := match o with
 | none => e = .returned (.tuple #[])
 | some x => Thr x e W
def CEnd (o : Option Int) (err : Value) (W : World) : Prop := match o with
 | none => err = .nilIface
 | some x => Qo W err x
def Q28 (S : List Nat) (R : Option Int -> World -> Prop) (W : World) (e : Ending) (W' : World) : Prop := ∃ o, WEnd o e W' /\ R o W' /\ y5 S W W'
def Z1 (S : List Nat) (R : Option Int -> World -> Prop) (w : World) (e : Ending) (w' : World) : Prop := ∃ o err, e = .returned err /\ CEnd o err w' /\ R o w' /\ y5 S w w'
theorem Q29 (b : ByteArray) (fid : FuncId) (caps : Array Value) (he : ∀ (args : Array Value) (W : World), (callFunc fid args).run prog W = .ok (.enter fid args) W) (S : List Nat) (R : Option Int -> World -> Prop) (w : World) (hS : ∀ x ∈ S, x < w.heap.size)
  (hR : ∀ o W W' T, R o W -> y5 T W W' -> (∀ x ∈ T, w.heap.size <= x /\ x < w.heap.size + 2 /\ ∃ cs fr, W.heap[x]? = some (.cells cs 35 fr)) -> R o W')
  (hw : ∀ W, y5 [] w W -> W.heap.size = w.heap.size + 2 -> Calls prog fid caps W (Q28 S R W)) :
  Calls prog 32 #[.string b, .func (.func fid) #[] caps] w (Z1 S R w) := by
 have hmf := jb
 have k1 := ((y5.refl [] w).alloc (.cells #[.string b] 9)).alloc (.cells #[.nilIface] 35)
 have hE1 : ((w.alloc (.cells #[.string b] 9)).alloc (.cells #[.nilIface] 35)).heap[w.heap.size + 1]? = some (.cells #[.nilIface] 35 (0, 0)) := by
  have := heap_alloc_new (w.alloc (.cells #[.string b] 9)) (.cells #[.nilIface] 35)
  rwa [World.size_alloc] at this
 have hO1 := ((y5.refl [] (w.alloc (.cells #[.string b] 9))).alloc (.cells #[.nilIface] 35)).get (heap_alloc_new w (.cells #[.string b] 9)) (by simp)
 have hw1 := hw _ k1 (by simp)
 have HW : Hid (Calls _ _ _ _ _) := hw1
 have HR : Hid (∀ o W W' T, R o W -> y5 T W W' -> (∀ x ∈ T, w.heap.size <= x /\ x < w.heap.size + 2 /\ ∃ cs fr, W.heap[x]? = some (.cells cs 35 fr)) -> R o W') := hR
 have HS : Hid (∀ x ∈ S, x < w.heap.size) := hS
 clear hw hw1 hR hS
 go_enter_defers func32, ntmps32
 go_wp2_with fail
 refine HW.out.mono ?_
 rintro e W ⟨o, hend, hRW, hkW⟩
 have hE2 := hkW.get hE1 (fun hx => by have := HS.out _ hx; omega)
 have hO2 := hkW.get hO1 (fun hx => by have := HS.out _ hx; omega)
 cases o with
 | none =>
  have hee : e = .returned (.tuple #[]) := hend
  subst hee
  have HRW : Hid (R none W) := hRW
  have c2 : W.cell? ⟨w.heap.size + 1, 0, none⟩ = some .nilIface := y6 hE2 rfl
  have f2 : W.frozen? ⟨w.heap.size + 1, 0, none⟩ = false := frozen_of_row _ _ _ _ _ hE2
  have k3 : y5 [w.heap.size + 1] W (W.setCell ⟨w.heap.size + 1, 0, none⟩ .nilIface) := (y5.refl _ _).setCell (Or.inl (by simp)) _
  have hk13 : y5 S w (W.setCell ⟨w.heap.size + 1, 0, none⟩ .nilIface) := ((k1.mono (by simp)).trans hkW).trans2 k3 (by intro x hx; simp at hx; subst hx; exact Or.inr (by omega))
  have hR3 : R none (W.setCell ⟨w.heap.size + 1, 0, none⟩ .nilIface) := HR.out _ _ _ _ HRW.out k3 (by intro x hx; simp at hx; subst hx; exact ⟨by omega, by omega, _, _, hE2⟩)
  have HR3 : Hid (R none (W.setCell ⟨w.heap.size + 1, 0, none⟩ .nilIface)) := hR3
  have c3 : (W.setCell ⟨w.heap.size + 1, 0, none⟩ .nilIface).cell? ⟨w.heap.size + 1, 0, none⟩ = some .nilIface := y6 (yg (i := 0) .nilIface hE2) rfl
  clear hRW hR3 hE1 hE2 k1 hend
  go_wp2
  refine leaves_cons (f := 55) (args := #[.pointer (some ⟨w.heap.size, 0, none⟩), .pointer (some ⟨w.heap.size + 1, 0, none⟩)]) (by simp) (by simp [go_sem]) ?_
  refine (Z0 ⟨w.heap.size, 0, none⟩ ⟨w.heap.size + 1, 0, none⟩ _).mono ?_
  rintro e u' w'' ⟨rfl, rfl, rfl⟩
  simp [Leaves, settle, results, Tryz.results32, go_sem, c3]
  exact ⟨none, _, rfl, rfl, HR3.out, hk13⟩
 | some x =>
  obtain ⟨f, o, rfl, hf⟩ := Thr.ex hend
  refine leaves_cons (f := 55) (args := #[.pointer (some ⟨w.heap.size, 0, none⟩), .pointer (some ⟨w.heap.size + 1, 0, none⟩)]) (by simp) (by simp [go_sem]) ?_
  refine (Zy w.heap.size (w.heap.size + 1) f o _ _ x W hO2 ⟨b, rfl⟩ hE2 hf).mono ?_
  rintro e u' w'' ⟨rfl, rfl, err, he, hc, hk⟩
  have ce : w''.cell? ⟨w.heap.size + 1, 0, none⟩ = some err := y6 he rfl
  simp [Leaves, settle, results, Tryz.results32, go_sem, ce]
  exact ⟨some x, err, rfl, hc, HR.out _ _ _ _ hRW hk (by intro y hy; simp at hy; subst hy; exact ⟨by omega, by omega, _, _, hE2⟩), ((k1.mono (by simp)).trans hkW).trans2 hk (by intro y hy; simp at hy; subst hy; exact Or.inr (by omega))⟩
section
variable {P : Program} {ops : Array Oper} {Q : Exit -> Act -> World -> Prop}
theorem yo {i : Nat} {o : Oper} {K : Act -> World -> Prop} {a : Act} {w : World} (ho : ops[i]? = some o) (hw : Region.wanted o (yielded ops a.tmps) = true) (f : FuncId) (args : Array Value)
  (hrun : (execOp a.eval o).run P w = .ok (.enter f args) w) (R : Ending -> World -> Prop) (hc : Calls P f args w R) (h : ∀ e w', R e w' -> ∃ v, e = .returned v /\ K (a.put o.dst v) w') : wpOp P ops Q i K a w :=
 wpOp_step ho fun K' hK => by
  rw [if_pos hw]; unfold Oper.wp; rw [hrun, Oper.upon_enter]
  refine hc.mono ?_
  intro e w' hR
  obtain ⟨v, rfl, hk⟩ := h e w' hR
  exact hK _ _ hk
end
theorem gM {P : Program} {ops : Array Oper} {Q : Exit -> Act -> World -> Prop} {i : Nat} {o : Oper} {K : Act -> World -> Prop} {a : Act} {w : World} (ho : ops[i]? = some o) (hw : Region.wanted o (yielded ops a.tmps) = true) (f : FuncId) (args : Array Value)
  (hrun : (execOp a.eval o).run P w = .ok (.enter f args) w) (R : Ending -> World -> Prop) (hc : Calls P f args w R) (h : ∀ e w', R e w' -> (∃ v, e = .returned v /\ K (a.put o.dst v) w') \/ ∃ c, e = .panicked c /\ Q (.panic c) a w') : wpOp P ops Q i K a w :=
 wpOp_step ho fun K' hK => by
  rw [if_pos hw]; unfold Oper.wp; rw [hrun, Oper.upon_enter]
  refine hc.mono ?_
  intro e w' hR
  rcases h e w' hR with ⟨v, rfl, hk⟩ | ⟨c, rfl, hk⟩
  ·exact hK _ _ hk
  ·exact hk
theorem qA {P : Program} {f : FuncId} {fn : Func} (hf : P.funcs[f]? = some fn) (hname : (fn.name == "runtime.NumGoroutine") = false) (hb : fn.body.isNone = false) (args : Array Value) (w : World) : (callFunc f args).run P w = .ok (.enter f args) w := by
 have h1 : ¬ fn.name = "runtime.NumGoroutine" := by simpa using hname
 have h2 : ¬ fn.body = none := by intro h; rw [h] at hb; cases hb
 simp [callFunc, hf, h1, h2]
theorem yk {P : Program} {o : Oper} {a : Act} {w : World} (f : FuncId) (xs : Array Operand) (ts : Array TypeId) (ho : o.op = .call { callee := .value (.func f), args := xs, argTypes := ts }) (vs : Array Value) (hv : xs.map a.eval = vs) (he : (callFunc f vs).run P w = .ok (.enter f vs) w) :
  (execOp a.eval o).run P w = .ok (.enter f vs) w := by
 subst hv
 simp [execOp, ho, resolve, Deferred.ofValue, invoke, Act.eval, he]
theorem yv {P : Program} {o : Oper} {a : Act} {w : World} (t : TypeId) (x : Operand) (i : Nat) (ho : o.op = .fieldAddr t x i) (g b : Nat) (hx : a.eval x = .pointer (some ⟨g, b, none⟩)) (off : Nat) (hr : (Instr.fieldAt t (.pointer (some ⟨g, b, none⟩)) i).run P w = .ok (.pointer (some ⟨g, b + off, none⟩)) w) :
  (execOp a.eval o).run P w = .ok (.value (.pointer (some ⟨g, b + off, none⟩))) w := by
 simp [execOp, ho, hx, hr]
theorem Q2a {P : Program} {o : Oper} {a : Act} {w : World} (t u : TypeId) (x : Operand) (ho : o.op = .convert t u x) (k k' : IntKind) (d : TypeDesc) (n : Int) (hx : a.eval x = .int k n) (ht : P.underlying t = some d) (hu : P.underlying u = some (.int k')) :
  (execOp a.eval o).run P w = .ok (.value (.int k' (k'.wrap n))) w := by
 simp [execOp, ho, hx, convert, run_underlying ht, run_underlying hu, Conv.intToInt]
def SpM (w : World) (b : Nat) (us : List Nat) : Prop :=
 ∃ (m : Nat) (D : DataW Unit), w.ownsMap prog 3 unitElem b m D /\ m <= us.length /\ ∀ i : Nat, Maps.has D (.int .i64 i) = decide (i ∈ us)
theorem SpM.kept {S : List Nat} {w w' : World} {b : Nat} {us : List Nat} (h : SpM w b us) (k : y5 S w w') (hb : b ∉ S) : SpM w' b us := by
 obtain ⟨m, D, h1, h2⟩ := h
 refine ⟨m, D, ?_, h2⟩
 have hlt := h1.lt
 obtain ⟨es, clock, hh, r⟩ := h1
 exact ⟨es, clock, by rw [k.block b hlt hb]; exact hh, r⟩
theorem SpM.lt {w : World} {b : Nat} {us : List Nat} (h : SpM w b us) : b < w.heap.size := by
 obtain ⟨m, D, h1, _⟩ := h
 exact h1.lt
theorem SpM.ne {w : World} {b : Nat} {us : List Nat} (h : SpM w b us) {y : Nat} {cs : Array Value} {t : TypeId} {fr : Nat × Nat} (hy : w.heap[y]? = some (.cells cs t fr)) : y ≠ b := by
 rintro rfl
 obtain ⟨m, D, ⟨es, clock, hh, _⟩, _⟩ := h
 rw [hy] at hh
 cases hh
theorem kl : Maps.Keyed prog 3 := Maps.int_keyed underlying3
theorem kwf (i : Nat) (hi : i < 70000) : keyOf prog 3 (.int .i64 (i : Int)) = some (.int .i64 i) := Maps.keyOf_int_mk underlying3 (by simp [Lit.wf, show IntKind.i64.min = -9223372036854775808 from rfl, show IntKind.i64.max = 9223372036854775807 from rfl]; omega)
theorem Q2b (w : World) : (zeroValue 154).run prog w = .ok (.agg #[]) w := by kernel_rfl
theorem SpM.made (w : World) : SpM (w.alloc (.map #[] 0)) w.heap.size [] :=
 ⟨0, .map [], World.ownsMap_made w _ _ _, Nat.le_refl _, fun i => by simp [Maps.has]⟩
theorem SpM.look {w : World} {b : Nat} {us : List Nat} (h : SpM w b us) (i : Nat) (hi : i < 70000) : (Instr.lookup 106 (.map (some b)) (.int .i64 (i : Int)) true).run prog w = .ok (.tuple #[.agg #[], .bool (decide (i ∈ us))]) w := by
 obtain ⟨m, D, h1, h2, h3⟩ := h
 obtain ⟨v, ps, hr, hv⟩ := h1.look_ok kl underlying106 (Q2b w) unitElem_mk (kwf i hi)
 obtain ⟨rfl, _⟩ := unitElem_inv hv
 rw [<- h3 i]
 exact hr
theorem SpM.put {w : World} {b : Nat} {us : List Nat} (h : SpM w b us) (i : Nat) (hi : i < 70000) (hl : us.length < 70000) : ∃ w', (Instr.mapUpdate 106 (.map (some b)) (.int .i64 (i : Int)) (.agg #[])).run prog w = .ok () w' /\ SpM w' b (i :: us) /\ y5 [b] w w' := by
 obtain ⟨m, D, h1, h2, h3⟩ := h
 obtain ⟨w', hr, ho, ht⟩ := h1.store kl underlying106 (by unfold maxLen; omega) (kwf i hi) unitElem_mk
 refine ⟨w', hr, ⟨m + 1, _, ho, by simp; omega, ?_⟩, ?_⟩
 ·intro j
  by_cases e : j = i
  ·subst e
   rw [Maps.has_put_same h1.isMap (by simp [WideAt.IsKeyLit])]
   simp
  ·rw [Maps.has_put_other (by simpa using fun h => e (by omega))]
   rw [h3 j]
   simp [e]
 ·exact qL ht.grown [b] (by intro y hy; cases hy; simp)
theorem jT : (prog.info? 108).map (·.size) = some 2 := by kernel_rfl
theorem Q2c (n b : Nat) (us : List Nat) (i : Nat) (w : World) (h : SpM w b us) (hi : i < 70000) :
  Calls prog 92 #[.agg #[.int .i64 n, .map (some b)], .int .i64 i] w fun e w' => e = .returned (.bool (decide (i ∈ us))) /\ y5 [] w w' := by
 have k1 := (y5.refl [] w).alloc (.cells #[.int .i64 n, .map (some b)] 108)
 have hl := (h.kept k1 (by simp)).look i hi
 go_enter func92, ntmps92
 go_wp2
 go_ret
 exact ⟨rfl, ((y5.refl _ _).alloc _).alloc _⟩
end Go.Proofs.YtcklgafpgdhnaabGreatDoor
