import Derived.Test.YtnofaofjgjgkgaaGreatDoorFltB
namespace Go.Proofs.YtnofaofjgjgkgaaGreatDoor
open Go.RowKit

/-- work that comes to its end -/
def Ends (S : List Nat) (R : World → Prop) (W : World) (e : Ending) (W' : World) : Prop := e = .returned (.tuple #[]) ∧ R W' ∧ Kept S W W'
/-- work that throws -/
def Throws (x : Int) (S : List Nat) (R : World → Prop) (W : World) (e : Ending) (W' : World) : Prop :=
  ∃ f o, e = .panicked [{ v := .iface 167 (.agg #[.iface 141 (.pointer (some ⟨f, 0, none⟩))]), recovered := false }] ∧
    W'.heap[f]? = some (.cells #[o, .iface 54 (.int .i64 x)] 144 (0, 0)) ∧ R W' ∧ Kept S W W'

set_option maxHeartbeats 1000000 in
theorem Catch_ok_Format1 (b : ByteArray) (cap : Value) (S : List Nat) (R : World → Prop) (w : World) (hS : ∀ x ∈ S, x < w.heap.size)
    (hR : ∀ W W' T, R W → Kept T W W' → (∀ x ∈ T, w.heap.size ≤ x ∧ x < w.heap.size + 2) → R W')
    (hw : ∀ W, Kept [] w W → W.heap.size = w.heap.size + 2 → Calls Tryz.prog 69 #[cap] W (Ends S R W)) :
    Calls Tryz.prog 68 #[.string b, .func (.func 69) #[] #[cap]] w fun e w' => e = .returned .nilIface ∧ R w' ∧ Kept S w w' := by
  have hmf := makes
  have k1 := ((Kept.refl [] w).alloc (.cells #[.string b] 9)).alloc (.cells #[.nilIface] 52)
  have hE1 : ((w.alloc (.cells #[.string b] 9)).alloc (.cells #[.nilIface] 52)).heap[w.heap.size + 1]? = some (.cells #[.nilIface] 52 (0, 0)) := by
    have := heap_alloc_new (w.alloc (.cells #[.string b] 9)) (.cells #[.nilIface] 52)
    rwa [World.size_alloc] at this
  have hw1 := hw _ k1 (by simp)
  have HW : Hid (Calls _ _ _ _ _) := hw1
  have HR : Hid (∀ W W' T, R W → Kept T W W' → (∀ x ∈ T, w.heap.size ≤ x ∧ x < w.heap.size + 2) → R W') := hR
  have HS : Hid (∀ x ∈ S, x < w.heap.size) := hS
  clear hw hw1 hR hS
  go_enter_defers Tryz.func68, Tryz.ntmps68
  go_wp2_with fail
  refine HW.out.mono ?_
  rintro e W ⟨rfl, hRW, hkW⟩
  have HRW : Hid (R W) := hRW
  have hE2 := hkW.get hE1 (fun hx => by have := HS.out _ hx; omega)
  have c2 : W.cell? ⟨w.heap.size + 1, 0, none⟩ = some .nilIface := cellAt hE2 rfl
  have f2 : W.frozen? ⟨w.heap.size + 1, 0, none⟩ = false := frozen_of_row _ _ _ _ _ hE2
  have k3 : Kept [w.heap.size + 1] W (W.setCell ⟨w.heap.size + 1, 0, none⟩ .nilIface) := (Kept.refl _ _).setCell (Or.inl (by simp)) _
  have hk13 : Kept S w (W.setCell ⟨w.heap.size + 1, 0, none⟩ .nilIface) := ((k1.mono (by simp)).trans hkW).trans2 k3 (by intro x hx; simp at hx; subst hx; exact Or.inr (by omega))
  have hR3 : R (W.setCell ⟨w.heap.size + 1, 0, none⟩ .nilIface) := HR.out _ _ _ HRW.out k3 (by intro x hx; simp at hx; omega)
  have HR3 : Hid (R (W.setCell ⟨w.heap.size + 1, 0, none⟩ .nilIface)) := hR3
  have c3 : (W.setCell ⟨w.heap.size + 1, 0, none⟩ .nilIface).cell? ⟨w.heap.size + 1, 0, none⟩ = some .nilIface := cellAt (setCellAt (i := 0) .nilIface hE2) rfl
  clear hRW hR3 hE1 hE2 k1
  go_wp2
  refine leaves_cons (f := 81) (args := #[.pointer (some ⟨w.heap.size, 0, none⟩), .pointer (some ⟨w.heap.size + 1, 0, none⟩)]) (by simp) (by simp [go_sem]) ?_
  refine (Catch1_idle ⟨w.heap.size, 0, none⟩ ⟨w.heap.size + 1, 0, none⟩ _).mono ?_
  rintro e u' w'' ⟨rfl, rfl, rfl⟩
  simp [Leaves, settle, results, Tryz.results68, go_sem, c3]
  exact ⟨HR3.out, hk13⟩

/-- an error came out -/
def Gives (x : Int) (S : List Nat) (R : World → Prop) (w : World) (e : Ending) (w' : World) : Prop := ∃ err, e = .returned err ∧ Chain w' err x ∧ R w' ∧ Kept S w w'

set_option maxHeartbeats 1000000 in
theorem Catch_no_Format1 (b : ByteArray) (cap : Value) (x : Int) (S : List Nat) (R : World → Prop) (w : World) (hS : ∀ x ∈ S, x < w.heap.size)
    (hR : ∀ W W' T, R W → Kept T W W' → (∀ x ∈ T, w.heap.size ≤ x ∧ x < w.heap.size + 2) → R W')
    (hw : ∀ W, Kept [] w W → W.heap.size = w.heap.size + 2 → Calls Tryz.prog 69 #[cap] W (Throws x S R W)) :
    Calls Tryz.prog 68 #[.string b, .func (.func 69) #[] #[cap]] w (Gives x S R w) := by
  have hmf := makes
  have k1 := ((Kept.refl [] w).alloc (.cells #[.string b] 9)).alloc (.cells #[.nilIface] 52)
  have hE1 : ((w.alloc (.cells #[.string b] 9)).alloc (.cells #[.nilIface] 52)).heap[w.heap.size + 1]? = some (.cells #[.nilIface] 52 (0, 0)) := by
    have := heap_alloc_new (w.alloc (.cells #[.string b] 9)) (.cells #[.nilIface] 52)
    rwa [World.size_alloc] at this
  have hO1 := ((Kept.refl [] (w.alloc (.cells #[.string b] 9))).alloc (.cells #[.nilIface] 52)).get (heap_alloc_new w (.cells #[.string b] 9)) (by simp)
  have hw1 := hw _ k1 (by simp)
  have HW : Hid (Calls _ _ _ _ _) := hw1
  have HR : Hid (∀ W W' T, R W → Kept T W W' → (∀ x ∈ T, w.heap.size ≤ x ∧ x < w.heap.size + 2) → R W') := hR
  have HS : Hid (∀ x ∈ S, x < w.heap.size) := hS
  clear hw hw1 hR hS
  go_enter_defers Tryz.func68, Tryz.ntmps68
  go_wp2_with fail
  refine HW.out.mono ?_
  rintro e W ⟨f, o, rfl, hf, hRW, hkW⟩
  have hE2 := hkW.get hE1 (fun hx => by have := HS.out _ hx; omega)
  have hO2 := hkW.get hO1 (fun hx => by have := HS.out _ hx; omega)
  refine leaves_cons (f := 81) (args := #[.pointer (some ⟨w.heap.size, 0, none⟩), .pointer (some ⟨w.heap.size + 1, 0, none⟩)]) (by simp) (by simp [go_sem]) ?_
  refine (Catch1_caught w.heap.size (w.heap.size + 1) f o _ _ x W hO2 ⟨b, rfl⟩ hE2 hf).mono ?_
  rintro e u' w'' ⟨rfl, rfl, err, he, hc, hk⟩
  have ce : w''.cell? ⟨w.heap.size + 1, 0, none⟩ = some err := cellAt he rfl
  simp [Leaves, settle, results, Tryz.results68, go_sem, ce]
  exact ⟨err, rfl, hc, HR.out _ _ _ hRW hk (by intro y hy; simp at hy; omega), ((k1.mono (by simp)).trans hkW).trans2 hk (by intro y hy; simp at hy; subst hy; exact Or.inr (by omega))⟩

set_option maxHeartbeats 1000000 in
theorem Catch_ok_Open1 (b : ByteArray) (cap cap2 : Value) (S : List Nat) (R : World → Prop) (w : World) (hS : ∀ x ∈ S, x < w.heap.size)
    (hR : ∀ W W' T, R W → Kept T W W' → (∀ x ∈ T, w.heap.size ≤ x ∧ x < w.heap.size + 2) → R W')
    (hw : ∀ W, Kept [] w W → W.heap.size = w.heap.size + 2 → Calls Tryz.prog 78 #[cap, cap2] W (Ends S R W)) :
    Calls Tryz.prog 68 #[.string b, .func (.func 78) #[] #[cap, cap2]] w fun e w' => e = .returned .nilIface ∧ R w' ∧ Kept S w w' := by
  have hmf := makes
  have k1 := ((Kept.refl [] w).alloc (.cells #[.string b] 9)).alloc (.cells #[.nilIface] 52)
  have hE1 : ((w.alloc (.cells #[.string b] 9)).alloc (.cells #[.nilIface] 52)).heap[w.heap.size + 1]? = some (.cells #[.nilIface] 52 (0, 0)) := by
    have := heap_alloc_new (w.alloc (.cells #[.string b] 9)) (.cells #[.nilIface] 52)
    rwa [World.size_alloc] at this
  have hw1 := hw _ k1 (by simp)
  have HW : Hid (Calls _ _ _ _ _) := hw1
  have HR : Hid (∀ W W' T, R W → Kept T W W' → (∀ x ∈ T, w.heap.size ≤ x ∧ x < w.heap.size + 2) → R W') := hR
  have HS : Hid (∀ x ∈ S, x < w.heap.size) := hS
  clear hw hw1 hR hS
  go_enter_defers Tryz.func68, Tryz.ntmps68
  go_wp2_with fail
  refine HW.out.mono ?_
  rintro e W ⟨rfl, hRW, hkW⟩
  have HRW : Hid (R W) := hRW
  have hE2 := hkW.get hE1 (fun hx => by have := HS.out _ hx; omega)
  have c2 : W.cell? ⟨w.heap.size + 1, 0, none⟩ = some .nilIface := cellAt hE2 rfl
  have f2 : W.frozen? ⟨w.heap.size + 1, 0, none⟩ = false := frozen_of_row _ _ _ _ _ hE2
  have k3 : Kept [w.heap.size + 1] W (W.setCell ⟨w.heap.size + 1, 0, none⟩ .nilIface) := (Kept.refl _ _).setCell (Or.inl (by simp)) _
  have hk13 : Kept S w (W.setCell ⟨w.heap.size + 1, 0, none⟩ .nilIface) := ((k1.mono (by simp)).trans hkW).trans2 k3 (by intro x hx; simp at hx; subst hx; exact Or.inr (by omega))
  have hR3 : R (W.setCell ⟨w.heap.size + 1, 0, none⟩ .nilIface) := HR.out _ _ _ HRW.out k3 (by intro x hx; simp at hx; omega)
  have HR3 : Hid (R (W.setCell ⟨w.heap.size + 1, 0, none⟩ .nilIface)) := hR3
  have c3 : (W.setCell ⟨w.heap.size + 1, 0, none⟩ .nilIface).cell? ⟨w.heap.size + 1, 0, none⟩ = some .nilIface := cellAt (setCellAt (i := 0) .nilIface hE2) rfl
  clear hRW hR3 hE1 hE2 k1
  go_wp2
  refine leaves_cons (f := 81) (args := #[.pointer (some ⟨w.heap.size, 0, none⟩), .pointer (some ⟨w.heap.size + 1, 0, none⟩)]) (by simp) (by simp [go_sem]) ?_
  refine (Catch1_idle ⟨w.heap.size, 0, none⟩ ⟨w.heap.size + 1, 0, none⟩ _).mono ?_
  rintro e u' w'' ⟨rfl, rfl, rfl⟩
  simp [Leaves, settle, results, Tryz.results68, go_sem, c3]
  exact ⟨HR3.out, hk13⟩

set_option maxHeartbeats 1000000 in
theorem Catch_no_Open1 (b : ByteArray) (cap cap2 : Value) (x : Int) (S : List Nat) (R : World → Prop) (w : World) (hS : ∀ x ∈ S, x < w.heap.size)
    (hR : ∀ W W' T, R W → Kept T W W' → (∀ x ∈ T, w.heap.size ≤ x ∧ x < w.heap.size + 2) → R W')
    (hw : ∀ W, Kept [] w W → W.heap.size = w.heap.size + 2 → Calls Tryz.prog 78 #[cap, cap2] W (Throws x S R W)) :
    Calls Tryz.prog 68 #[.string b, .func (.func 78) #[] #[cap, cap2]] w (Gives x S R w) := by
  have hmf := makes
  have k1 := ((Kept.refl [] w).alloc (.cells #[.string b] 9)).alloc (.cells #[.nilIface] 52)
  have hE1 : ((w.alloc (.cells #[.string b] 9)).alloc (.cells #[.nilIface] 52)).heap[w.heap.size + 1]? = some (.cells #[.nilIface] 52 (0, 0)) := by
    have := heap_alloc_new (w.alloc (.cells #[.string b] 9)) (.cells #[.nilIface] 52)
    rwa [World.size_alloc] at this
  have hO1 := ((Kept.refl [] (w.alloc (.cells #[.string b] 9))).alloc (.cells #[.nilIface] 52)).get (heap_alloc_new w (.cells #[.string b] 9)) (by simp)
  have hw1 := hw _ k1 (by simp)
  have HW : Hid (Calls _ _ _ _ _) := hw1
  have HR : Hid (∀ W W' T, R W → Kept T W W' → (∀ x ∈ T, w.heap.size ≤ x ∧ x < w.heap.size + 2) → R W') := hR
  have HS : Hid (∀ x ∈ S, x < w.heap.size) := hS
  clear hw hw1 hR hS
  go_enter_defers Tryz.func68, Tryz.ntmps68
  go_wp2_with fail
  refine HW.out.mono ?_
  rintro e W ⟨f, o, rfl, hf, hRW, hkW⟩
  have hE2 := hkW.get hE1 (fun hx => by have := HS.out _ hx; omega)
  have hO2 := hkW.get hO1 (fun hx => by have := HS.out _ hx; omega)
  refine leaves_cons (f := 81) (args := #[.pointer (some ⟨w.heap.size, 0, none⟩), .pointer (some ⟨w.heap.size + 1, 0, none⟩)]) (by simp) (by simp [go_sem]) ?_
  refine (Catch1_caught w.heap.size (w.heap.size + 1) f o _ _ x W hO2 ⟨b, rfl⟩ hE2 hf).mono ?_
  rintro e u' w'' ⟨rfl, rfl, err, he, hc, hk⟩
  have ce : w''.cell? ⟨w.heap.size + 1, 0, none⟩ = some err := cellAt he rfl
  simp [Leaves, settle, results, Tryz.results68, go_sem, ce]
  exact ⟨err, rfl, hc, HR.out _ _ _ hRW hk (by intro y hy; simp at hy; omega), ((k1.mono (by simp)).trans hkW).trans2 hk (by intro y hy; simp at hy; subst hy; exact Or.inr (by omega))⟩

end Go.Proofs.YtnofaofjgjgkgaaGreatDoor
