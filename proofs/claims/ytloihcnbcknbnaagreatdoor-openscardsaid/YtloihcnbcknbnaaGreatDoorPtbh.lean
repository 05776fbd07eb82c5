import Derived.Test.YtloihcnbcknbnaaGreatDoorPtbg
import Derived.Defers
import Derived.Recover
import Derived.Laws.Pointers
import Derived.Deep.RegionWith
namespace Go.Proofs.YtloihcnbcknbnaaGreatDoor
open Go.RowKit

theorem count1_idle (p : Addr) (w : World) :
    CallsD Tryz.prog 124 #[.pointer (some p)] .returning w fun e u' w' => e = .returned (.tuple #[]) ∧ u' = .returning ∧ w' = w := by
  refine callsD_of_wpS Tryz.func124 rfl fun c₀ cs hu => ?_
  apply wpS_seq
  apply wpS_region
  simp [wpOpsS, go_sem, recoverD, hu, Tryz.ntmps124, Exit.thenS]
  refine wpS_cond (t := false) (by simp [Act.eval, Array.replicate]) ?_
  simp only [Bool.false_eq_true, if_false]
  refine wpS_of_wp (wp_skip ?_)
  cases c₀
  simp_all [bodyPostS, results, Tryz.results124]

theorem makes (fn : Fn) (first cap : Array Value) (w : World) : (Instr.makeFunc fn first cap).run Tryz.prog w = .ok (.func fn first cap) w := rfl

set_option maxHeartbeats 1000000 in
theorem count_any (a n cap : Nat) (ao : Option Addr) (cache : Value) (c wr t : Int) (w : World) (h : w.heap[a]? = some (.cells (dcells (.slice ao n cap) cache c wr t) 83 (0, 0))) :
    Calls Tryz.prog 94 #[.iface 26 (.pointer (some ⟨a, 0, none⟩))] w fun e w' => e = .returned (.int .i64 n) ∧ Kept [] w w' := by
  have hmf := makes
  have m1 := mBlocks
  have k1 := (Kept.refl [] w).alloc (.cells #[.int .i64 0] 3)
  have h1 := k1.get h (by simp)
  go_enter_defers Tryz.func94, Tryz.ntmps94
  go_wp2_with (go_at_call 184; refine (Blocks_any a ao n cap cache c wr t _ h1).mono ?_; rintro e w' ⟨rfl, rfl⟩)
  refine leaves_cons (f := 124) (args := #[.pointer (some ⟨w.heap.size, 0, none⟩)]) (by simp) (by simp [go_sem]) ?_
  refine (count1_idle ⟨w.heap.size, 0, none⟩ _).mono ?_
  rintro e u' w'' ⟨rfl, rfl, rfl⟩
  simp [Leaves, settle, results, Tryz.results94, go_sem]
  exact (Kept.refl _ _).alloc _

/-- a fault that was thrown -/
def Thrown (x : Int) (w : World) (e : Ending) (w' : World) : Prop :=
  ∃ f o, e = .panicked [{ v := .iface 129 (.agg #[.iface 103 (.pointer (some ⟨f, 0, none⟩))]), recovered := false }] ∧
    w'.heap[f]? = some (.cells #[o, .iface 92 (.int .i64 x)] 106 (0, 0)) ∧ Kept [] w w'

set_option maxHeartbeats 1000000 in
theorem Throw_any (o : ByteArray) (x : Int) (w : World) : Calls Tryz.prog 55 #[.string o, .int .i64 x] w (Thrown x w) := by
  go_enter Tryz.func55, Tryz.ntmps55
  go_wp2
  exact ⟨rfl, w.heap.size, .string o, rfl, heap_alloc_new _ _, (Kept.refl _ _).alloc _⟩

theorem Thrown.mono {x : Int} {w0 w w' : World} {e : Ending} (h : Thrown x w e w') (k : Kept [] w0 w) : Thrown x w0 e w' := by
  obtain ⟨f, o, h1, h2, h3⟩ := h
  exact ⟨f, o, h1, h2, k.trans h3⟩

/-- a new volume -/
def RetVol (a n : Nat) (w : World) (e : Ending) (w' : World) : Prop := ∃ v, e = .returned (.pointer (some ⟨v, 0, none⟩)) ∧ Vol w' v a n ∧ w.heap.size ≤ v ∧ Kept [] w w'

set_option maxHeartbeats 1000000 in
theorem On_fits (a n cap : Nat) (ao : Option Addr) (cache : Value) (c wr t : Int) (w : World) (h : w.heap[a]? = some (.cells (dcells (.slice ao n cap) cache c wr t) 83 (0, 0))) (h8 : 8 ≤ n) (h4 : n ≤ 400) :
    Calls Tryz.prog 69 #[.iface 26 (.pointer (some ⟨a, 0, none⟩))] w (RetVol a n w) := by
  have g8 : ¬ (n : Int) < 8 := by omega
  have g4 : ¬ (400 : Int) < n := by omega
  go_enter Tryz.func69, Tryz.ntmps69
  go_wp2_with (go_at_call 94; refine (count_any a n cap ao cache c wr t _ h).mono ?_; rintro e w1 ⟨rfl, k1⟩)
  go_ret
  exact ⟨_, rfl, heap_alloc_new _ _, k1.size, k1.alloc _⟩

set_option maxHeartbeats 1000000 in
theorem On_no (a n cap : Nat) (ao : Option Addr) (cache : Value) (c wr t : Int) (w : World) (h : w.heap[a]? = some (.cells (dcells (.slice ao n cap) cache c wr t) 83 (0, 0))) (hn : n < 8 ∨ 400 < n) :
    Calls Tryz.prog 69 #[.iface 26 (.pointer (some ⟨a, 0, none⟩))] w (Thrown 8 w) := by
  rcases hn with hn | hn
  · have g8 : (n : Int) < 8 := by omega
    go_enter Tryz.func69, Tryz.ntmps69
    go_wp2_with (first
      | (go_at_call 94; refine (count_any a n cap ao cache c wr t _ h).mono ?_; rintro e w1 ⟨rfl, k1⟩)
      | (go_at_call 55; refine (Throw_any _ _ _).mono ?_; rintro e w2 ⟨f, o, rfl, h2, h3⟩))
    exact ⟨rfl, f, o, rfl, h2, k1.trans h3⟩
  · have g8 : ¬ (n : Int) < 8 := by omega
    have g4 : (400 : Int) < n := by omega
    go_enter Tryz.func69, Tryz.ntmps69
    go_wp2_with (first
      | (go_at_call 94; refine (count_any a n cap ao cache c wr t _ h).mono ?_; rintro e w1 ⟨rfl, k1⟩)
      | (go_at_call 55; refine (Throw_any _ _ _).mono ?_; rintro e w2 ⟨f, o, rfl, h2, h3⟩))
    exact ⟨rfl, f, o, rfl, h2, k1.trans h3⟩

end Go.Proofs.YtloihcnbcknbnaaGreatDoor

namespace Go.Proofs.YtloihcnbcknbnaaGreatDoor
open Go.RowKit

theorem asrtT (v : Value) (w : World) : (Instr.typeAssert (.iface 129 v) 20 129 true).run Tryz.prog w = .ok (.tuple #[v, .bool true]) w := by kernel_rfl

set_option maxRecDepth 10000 in
set_option maxHeartbeats 1000000 in
theorem meant_thrown (f : Addr) (w : World) : Calls Tryz.prog 61 #[.iface 129 (.agg #[.iface 103 (.pointer (some f))])] w fun e w' => e = .returned (.iface 103 (.pointer (some f))) ∧ Kept [] w w' := by
  have aT := asrtT
  go_enter Tryz.func61, Tryz.ntmps61
  go_wp2
  go_ret
  exact ⟨rfl, (Kept.refl _ _).alloc _⟩

theorem Catch1_idle (p q : Addr) (w : World) :
    CallsD Tryz.prog 60 #[.pointer (some p), .pointer (some q)] .returning w fun e u' w' => e = .returned (.tuple #[]) ∧ u' = .returning ∧ w' = w := by
  refine callsD_of_wpS Tryz.func60 rfl fun c₀ cs hu => ?_
  apply wpS_seq
  apply wpS_region
  simp [wpOpsS, go_sem, recoverD, hu, Tryz.ntmps60, Exit.thenS]
  rw [show #[Value.pointer (some p), Value.pointer (some q)] ++ ((Array.replicate 10 undef).setIfInBounds 1 Value.nilIface).setIfInBounds 0 Value.nilIface = #[.pointer (some p), .pointer (some q), .nilIface, .nilIface, undef, undef, undef, undef, undef, undef, undef, undef] from rfl]
  refine wpS_of_wp ?_
  go_wp2
  cases c₀
  simp_all [bodyPostS, results, Tryz.results60]

/-- what a caught fault is told as -/
def Caught (x : Int) (q : Nat) (w w' : World) : Prop := ∃ err, w'.heap[q]? = some (.cells #[err] 35 (0, 0)) ∧ Chain w' err x ∧ Kept [q] w w'

theorem caught_of {w w2 : World} {q f : Nat} {o old : Value} {x : Int} {b : ByteArray} (hk2 : Kept [] w.drew w2) (hq2 : w2.heap[q]? = some (.cells #[old] 35 (0, 0)))
    (hf : w.heap[f]? = some (.cells #[o, .iface 92 (.int .i64 x)] 106 (0, 0))) :
    Caught x q w ((w2.setCell ⟨q, 0, none⟩ (.iface 103 (.pointer (some ⟨w2.heap.size, 0, none⟩)))).alloc (.cells #[.string b, .iface 103 (.pointer (some ⟨f, 0, none⟩))] 106)) := by
  have kd : Kept [] w w.drew := (Kept.refl _ _).drew
  have hf2 := hk2.get (w := w.drew) hf (by simp)
  have nqf : q ≠ f := ne_tag hq2 hf2 (by decide)
  have k1 : Kept [q] w2 (w2.setCell ⟨q, 0, none⟩ (.iface 103 (.pointer (some ⟨w2.heap.size, 0, none⟩)))) := (Kept.refl _ _).setCell (Or.inl (by simp)) _
  have h1 := setCellAt (i := 0) (.iface 103 (.pointer (some ⟨w2.heap.size, 0, none⟩))) hq2
  have k2 := (Kept.refl [] (w2.setCell ⟨q, 0, none⟩ (.iface 103 (.pointer (some ⟨w2.heap.size, 0, none⟩))))).alloc (.cells #[.string b, .iface 103 (.pointer (some ⟨f, 0, none⟩))] 106)
  refine ⟨.iface 103 (.pointer (some ⟨w2.heap.size, 0, none⟩)), k2.get h1 (by simp), ⟨w2.heap.size, f, .string b, o, rfl, ?_, k2.get (k1.get hf2 (by simpa using nqf.symm)) (by simp)⟩, ?_⟩
  · have := heap_alloc_new (w2.setCell ⟨q, 0, none⟩ (.iface 103 (.pointer (some ⟨w2.heap.size, 0, none⟩)))) (.cells #[.string b, .iface 103 (.pointer (some ⟨f, 0, none⟩))] 106)
    rwa [show (w2.setCell ⟨q, 0, none⟩ (.iface 103 (.pointer (some ⟨w2.heap.size, 0, none⟩)))).heap.size = w2.heap.size by simp] at this
  · exact (((kd.trans hk2).mono (by simp)).trans k1).trans2 k2 (by simp)

set_option maxHeartbeats 1000000 in
theorem Catch1_caught (p q f : Nat) (o s old : Value) (x : Int) (w : World) (hp : w.heap[p]? = some (.cells #[s] 9 (0, 0))) (hs : ∃ b, s = .string b) (hq : w.heap[q]? = some (.cells #[old] 35 (0, 0)))
    (hf : w.heap[f]? = some (.cells #[o, .iface 92 (.int .i64 x)] 106 (0, 0))) :
    CallsD Tryz.prog 60 #[.pointer (some ⟨p, 0, none⟩), .pointer (some ⟨q, 0, none⟩)] (.panicking [{ v := .iface 129 (.agg #[.iface 103 (.pointer (some ⟨f, 0, none⟩))]), recovered := false }]) w
      fun e u' w' => e = .returned (.tuple #[]) ∧ u' = .panicking [{ v := .iface 129 (.agg #[.iface 103 (.pointer (some ⟨f, 0, none⟩))]), recovered := true }] ∧ Caught x q w w' := by
  obtain ⟨b, rfl⟩ := hs
  refine callsD_of_wpS Tryz.func60 rfl fun c₀ cs hu => ?_
  apply wpS_seq
  apply wpS_region
  simp [wpOpsS, go_sem, recoverD, hu, Tryz.ntmps60, Exit.thenS]
  rw [show #[Value.pointer (some ⟨p, 0, none⟩), Value.pointer (some ⟨q, 0, none⟩)] ++ ((Array.replicate 10 undef).setIfInBounds 1 (Value.iface 129 (.agg #[.iface 103 (.pointer (some ⟨f, 0, none⟩))]))).setIfInBounds 0 (Value.iface 129 (.agg #[.iface 103 (.pointer (some ⟨f, 0, none⟩))])) = #[.pointer (some ⟨p, 0, none⟩), .pointer (some ⟨q, 0, none⟩), .iface 129 (.agg #[.iface 103 (.pointer (some ⟨f, 0, none⟩))]), .iface 129 (.agg #[.iface 103 (.pointer (some ⟨f, 0, none⟩))]), undef, undef, undef, undef, undef, undef, undef, undef] from rfl]
  refine wpS_of_wp ?_
  have cp : w.cell? ⟨p, 0, none⟩ = some (.string b) := cellAt hp rfl
  go_wp2
  go_region_with (go_at_call 61; refine (meant_thrown _ _).mono ?_; rintro e w2 ⟨rfl, hk2⟩; have cp2 : w2.cell? ⟨p, 0, none⟩ = some (.string b) := cellAt (hk2.get (w := w.drew) hp (by simp)) rfl; have hq2 := hk2.get (w := w.drew) hq (by simp); have cq2 : w2.cell? ⟨q, 0, none⟩ = some old := cellAt hq2 rfl; have fq2 : w2.frozen? ⟨q, 0, none⟩ = false := frozen_of_row _ _ _ _ _ hq2; have lq2 := lt_heap hq2)
  all_goals exact ⟨rfl, _, rfl, .tuple #[], results_none rfl _ _ _, rfl, rfl, caught_of hk2 hq2 hf⟩

end Go.Proofs.YtloihcnbcknbnaaGreatDoor

namespace Go.Proofs.YtloihcnbcknbnaaGreatDoor
open Go.RowKit

/-- work that comes to its end -/
def Ends (S : List Nat) (R : World → Prop) (W : World) (e : Ending) (W' : World) : Prop := e = .returned (.tuple #[]) ∧ R W' ∧ Kept S W W'
/-- work that throws -/
def Throws (x : Int) (S : List Nat) (R : World → Prop) (W : World) (e : Ending) (W' : World) : Prop :=
  ∃ f o, e = .panicked [{ v := .iface 129 (.agg #[.iface 103 (.pointer (some ⟨f, 0, none⟩))]), recovered := false }] ∧
    W'.heap[f]? = some (.cells #[o, .iface 92 (.int .i64 x)] 106 (0, 0)) ∧ R W' ∧ Kept S W W'

set_option maxHeartbeats 1000000 in
theorem Catch_ok (b : ByteArray) (fid : FuncId) (caps : Array Value) (he : ∀ (args : Array Value) (W : World), (callFunc fid args).run Tryz.prog W = .ok (.enter fid args) W)  (S : List Nat) (R : World → Prop) (w : World) (hS : ∀ x ∈ S, x < w.heap.size)
    (hR : ∀ W W' T, R W → Kept T W W' → (∀ x ∈ T, w.heap.size ≤ x ∧ x < w.heap.size + 2 ∧ ∃ cs fr, W.heap[x]? = some (.cells cs 35 fr)) → R W')
    (hw : ∀ W, Kept [] w W → W.heap.size = w.heap.size + 2 → Calls Tryz.prog fid caps W (Ends S R W)) :
    Calls Tryz.prog 39 #[.string b, .func (.func fid) #[] caps] w fun e w' => e = .returned .nilIface ∧ R w' ∧ Kept S w w' := by
  have hmf := makes
  have k1 := ((Kept.refl [] w).alloc (.cells #[.string b] 9)).alloc (.cells #[.nilIface] 35)
  have hE1 : ((w.alloc (.cells #[.string b] 9)).alloc (.cells #[.nilIface] 35)).heap[w.heap.size + 1]? = some (.cells #[.nilIface] 35 (0, 0)) := by
    have := heap_alloc_new (w.alloc (.cells #[.string b] 9)) (.cells #[.nilIface] 35)
    rwa [World.size_alloc] at this
  have hw1 := hw _ k1 (by simp)
  have HW : Hid (Calls _ _ _ _ _) := hw1
  have HR : Hid (∀ W W' T, R W → Kept T W W' → (∀ x ∈ T, w.heap.size ≤ x ∧ x < w.heap.size + 2 ∧ ∃ cs fr, W.heap[x]? = some (.cells cs 35 fr)) → R W') := hR
  have HS : Hid (∀ x ∈ S, x < w.heap.size) := hS
  clear hw hw1 hR hS
  go_enter_defers Tryz.func39, Tryz.ntmps39
  go_wp2_with fail
  refine HW.out.mono ?_
  rintro e W ⟨rfl, hRW, hkW⟩
  have HRW : Hid (R W) := hRW
  have hE2 := hkW.get hE1 (fun hx => by have := HS.out _ hx; omega)
  have c2 : W.cell? ⟨w.heap.size + 1, 0, none⟩ = some .nilIface := cellAt hE2 rfl
  have f2 : W.frozen? ⟨w.heap.size + 1, 0, none⟩ = false := frozen_of_row _ _ _ _ _ hE2
  have k3 : Kept [w.heap.size + 1] W (W.setCell ⟨w.heap.size + 1, 0, none⟩ .nilIface) := (Kept.refl _ _).setCell (Or.inl (by simp)) _
  have hk13 : Kept S w (W.setCell ⟨w.heap.size + 1, 0, none⟩ .nilIface) := ((k1.mono (by simp)).trans hkW).trans2 k3 (by intro x hx; simp at hx; subst hx; exact Or.inr (by omega))
  have hR3 : R (W.setCell ⟨w.heap.size + 1, 0, none⟩ .nilIface) := HR.out _ _ _ HRW.out k3 (by intro x hx; simp at hx; subst hx; exact ⟨by omega, by omega, _, _, hE2⟩)
  have HR3 : Hid (R (W.setCell ⟨w.heap.size + 1, 0, none⟩ .nilIface)) := hR3
  have c3 : (W.setCell ⟨w.heap.size + 1, 0, none⟩ .nilIface).cell? ⟨w.heap.size + 1, 0, none⟩ = some .nilIface := cellAt (setCellAt (i := 0) .nilIface hE2) rfl
  clear hRW hR3 hE1 hE2 k1
  go_wp2
  refine leaves_cons (f := 60) (args := #[.pointer (some ⟨w.heap.size, 0, none⟩), .pointer (some ⟨w.heap.size + 1, 0, none⟩)]) (by simp) (by simp [go_sem]) ?_
  refine (Catch1_idle ⟨w.heap.size, 0, none⟩ ⟨w.heap.size + 1, 0, none⟩ _).mono ?_
  rintro e u' w'' ⟨rfl, rfl, rfl⟩
  simp [Leaves, settle, results, Tryz.results39, go_sem, c3]
  exact ⟨HR3.out, hk13⟩

/-- an error came out -/
def Gives (x : Int) (S : List Nat) (R : World → Prop) (w : World) (e : Ending) (w' : World) : Prop := ∃ err, e = .returned err ∧ Chain w' err x ∧ R w' ∧ Kept S w w'

set_option maxHeartbeats 1000000 in
theorem Catch_no (b : ByteArray) (fid : FuncId) (caps : Array Value) (he : ∀ (args : Array Value) (W : World), (callFunc fid args).run Tryz.prog W = .ok (.enter fid args) W)  (x : Int) (S : List Nat) (R : World → Prop) (w : World) (hS : ∀ x ∈ S, x < w.heap.size)
    (hR : ∀ W W' T, R W → Kept T W W' → (∀ x ∈ T, w.heap.size ≤ x ∧ x < w.heap.size + 2 ∧ ∃ cs fr, W.heap[x]? = some (.cells cs 35 fr)) → R W')
    (hw : ∀ W, Kept [] w W → W.heap.size = w.heap.size + 2 → Calls Tryz.prog fid caps W (Throws x S R W)) :
    Calls Tryz.prog 39 #[.string b, .func (.func fid) #[] caps] w (Gives x S R w) := by
  have hmf := makes
  have k1 := ((Kept.refl [] w).alloc (.cells #[.string b] 9)).alloc (.cells #[.nilIface] 35)
  have hE1 : ((w.alloc (.cells #[.string b] 9)).alloc (.cells #[.nilIface] 35)).heap[w.heap.size + 1]? = some (.cells #[.nilIface] 35 (0, 0)) := by
    have := heap_alloc_new (w.alloc (.cells #[.string b] 9)) (.cells #[.nilIface] 35)
    rwa [World.size_alloc] at this
  have hO1 := ((Kept.refl [] (w.alloc (.cells #[.string b] 9))).alloc (.cells #[.nilIface] 35)).get (heap_alloc_new w (.cells #[.string b] 9)) (by simp)
  have hw1 := hw _ k1 (by simp)
  have HW : Hid (Calls _ _ _ _ _) := hw1
  have HR : Hid (∀ W W' T, R W → Kept T W W' → (∀ x ∈ T, w.heap.size ≤ x ∧ x < w.heap.size + 2 ∧ ∃ cs fr, W.heap[x]? = some (.cells cs 35 fr)) → R W') := hR
  have HS : Hid (∀ x ∈ S, x < w.heap.size) := hS
  clear hw hw1 hR hS
  go_enter_defers Tryz.func39, Tryz.ntmps39
  go_wp2_with fail
  refine HW.out.mono ?_
  rintro e W ⟨f, o, rfl, hf, hRW, hkW⟩
  have hE2 := hkW.get hE1 (fun hx => by have := HS.out _ hx; omega)
  have hO2 := hkW.get hO1 (fun hx => by have := HS.out _ hx; omega)
  refine leaves_cons (f := 60) (args := #[.pointer (some ⟨w.heap.size, 0, none⟩), .pointer (some ⟨w.heap.size + 1, 0, none⟩)]) (by simp) (by simp [go_sem]) ?_
  refine (Catch1_caught w.heap.size (w.heap.size + 1) f o _ _ x W hO2 ⟨b, rfl⟩ hE2 hf).mono ?_
  rintro e u' w'' ⟨rfl, rfl, err, he, hc, hk⟩
  have ce : w''.cell? ⟨w.heap.size + 1, 0, none⟩ = some err := cellAt he rfl
  simp [Leaves, settle, results, Tryz.results39, go_sem, ce]
  exact ⟨err, rfl, hc, HR.out _ _ _ hRW hk (by intro y hy; simp at hy; subst hy; exact ⟨by omega, by omega, _, _, hE2⟩), ((k1.mono (by simp)).trans hkW).trans2 hk (by intro y hy; simp at hy; subst hy; exact Or.inr (by omega))⟩

end Go.Proofs.YtloihcnbcknbnaaGreatDoor
