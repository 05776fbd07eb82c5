import Derived.Test.YtloihcnbcknbnaaGreatDoorPtbh
namespace Go.Proofs.YtloihcnbcknbnaaGreatDoor
open Go.RowKit

set_option maxHeartbeats 1000000 in
theorem CatchM_ok (b : ByteArray) (fid : FuncId) (cv : Value) (he : ∀ (args : Array Value) (W : World), (callFunc fid args).run Tryz.prog W = .ok (.enter fid args) W)  (S : List Nat) (R : World → Prop) (w : World) (hS : ∀ x ∈ S, x < w.heap.size)
    (hR : ∀ W W' T, R W → Kept T W W' → (∀ x ∈ T, w.heap.size ≤ x ∧ x < w.heap.size + 2 ∧ ∃ cs fr, W.heap[x]? = some (.cells cs 35 fr)) → R W')
    (hw : ∀ W, Kept [] w W → W.heap.size = w.heap.size + 2 → Calls Tryz.prog fid #[cv] W (Ends S R W)) :
    Calls Tryz.prog 39 #[.string b, .func (.func fid) #[cv] #[]] w fun e w' => e = .returned .nilIface ∧ R w' ∧ Kept S w w' := by
  have hmf := makes
  have k1 := ((Kept.refl [] w).alloc (.cells #[.string b] 9)).alloc (.cells #[.nilIface] 35)
  have hE1 : ((w.alloc (.cells #[.string b] 9)).alloc (.cells #[.nilIface] 35)).heap[w.heap.size + 1]? = some (.cells #[.nilIface] 35 (0, 0)) := by
    have := heap_alloc_new (w.alloc (.cells #[.string b] 9)) (.cells #[.nilIface] 35)
    rwa [World.size_alloc] at this
  have hw1 := hw _ k1 (by simp)
  have HW : Hid (Calls _ _ _ _ _) := hw1
  have HR : Hid (∀ W W' T, R W → Kept T W W' → (∀ x ∈ T, w.heap.size ≤ x ∧ x < w.heap.size + 2 ∧ ∃ cs fr, W.heap[x]? = some (.cells cs 35 fr)) → R W') := hR
  have HS : Hid (∀ x ∈ S, x < w.heap.size) := hS
  clear hw hw1 hR hS
  go_enter_defers Tryz.func39, Tryz.ntmps39
  go_wp2_with fail
  refine HW.out.mono ?_
  rintro e W ⟨rfl, hRW, hkW⟩
  have HRW : Hid (R W) := hRW
  have hE2 := hkW.get hE1 (fun hx => by have := HS.out _ hx; omega)
  have c2 : W.cell? ⟨w.heap.size + 1, 0, none⟩ = some .nilIface := cellAt hE2 rfl
  have f2 : W.frozen? ⟨w.heap.size + 1, 0, none⟩ = false := frozen_of_row _ _ _ _ _ hE2
  have k3 : Kept [w.heap.size + 1] W (W.setCell ⟨w.heap.size + 1, 0, none⟩ .nilIface) := (Kept.refl _ _).setCell (Or.inl (by simp)) _
  have hk13 : Kept S w (W.setCell ⟨w.heap.size + 1, 0, none⟩ .nilIface) := ((k1.mono (by simp)).trans hkW).trans2 k3 (by intro x hx; simp at hx; subst hx; exact Or.inr (by omega))
  have hR3 : R (W.setCell ⟨w.heap.size + 1, 0, none⟩ .nilIface) := HR.out _ _ _ HRW.out k3 (by intro x hx; simp at hx; subst hx; exact ⟨by omega, by omega, _, _, hE2⟩)
  have HR3 : Hid (R (W.setCell ⟨w.heap.size + 1, 0, none⟩ .nilIface)) := hR3
  have c3 : (W.setCell ⟨w.heap.size + 1, 0, none⟩ .nilIface).cell? ⟨w.heap.size + 1, 0, none⟩ = some .nilIface := cellAt (setCellAt (i := 0) .nilIface hE2) rfl
  clear hRW hR3 hE1 hE2 k1
  go_wp2
  refine leaves_cons (f := 60) (args := #[.pointer (some ⟨w.heap.size, 0, none⟩), .pointer (some ⟨w.heap.size + 1, 0, none⟩)]) (by simp) (by simp [go_sem]) ?_
  refine (Catch1_idle ⟨w.heap.size, 0, none⟩ ⟨w.heap.size + 1, 0, none⟩ _).mono ?_
  rintro e u' w'' ⟨rfl, rfl, rfl⟩
  simp [Leaves, settle, results, Tryz.results39, go_sem, c3]
  exact ⟨HR3.out, hk13⟩

set_option maxHeartbeats 1000000 in
theorem CatchM_no (b : ByteArray) (fid : FuncId) (cv : Value) (he : ∀ (args : Array Value) (W : World), (callFunc fid args).run Tryz.prog W = .ok (.enter fid args) W)  (x : Int) (S : List Nat) (R : World → Prop) (w : World) (hS : ∀ x ∈ S, x < w.heap.size)
    (hR : ∀ W W' T, R W → Kept T W W' → (∀ x ∈ T, w.heap.size ≤ x ∧ x < w.heap.size + 2 ∧ ∃ cs fr, W.heap[x]? = some (.cells cs 35 fr)) → R W')
    (hw : ∀ W, Kept [] w W → W.heap.size = w.heap.size + 2 → Calls Tryz.prog fid #[cv] W (Throws x S R W)) :
    Calls Tryz.prog 39 #[.string b, .func (.func fid) #[cv] #[]] w (Gives x S R w) := by
  have hmf := makes
  have k1 := ((Kept.refl [] w).alloc (.cells #[.string b] 9)).alloc (.cells #[.nilIface] 35)
  have hE1 : ((w.alloc (.cells #[.string b] 9)).alloc (.cells #[.nilIface] 35)).heap[w.heap.size + 1]? = some (.cells #[.nilIface] 35 (0, 0)) := by
    have := heap_alloc_new (w.alloc (.cells #[.string b] 9)) (.cells #[.nilIface] 35)
    rwa [World.size_alloc] at this
  have hO1 := ((Kept.refl [] (w.alloc (.cells #[.string b] 9))).alloc (.cells #[.nilIface] 35)).get (heap_alloc_new w (.cells #[.string b] 9)) (by simp)
  have hw1 := hw _ k1 (by simp)
  have HW : Hid (Calls _ _ _ _ _) := hw1
  have HR : Hid (∀ W W' T, R W → Kept T W W' → (∀ x ∈ T, w.heap.size ≤ x ∧ x < w.heap.size + 2 ∧ ∃ cs fr, W.heap[x]? = some (.cells cs 35 fr)) → R W') := hR
  have HS : Hid (∀ x ∈ S, x < w.heap.size) := hS
  clear hw hw1 hR hS
  go_enter_defers Tryz.func39, Tryz.ntmps39
  go_wp2_with fail
  refine HW.out.mono ?_
  rintro e W ⟨f, o, rfl, hf, hRW, hkW⟩
  have hE2 := hkW.get hE1 (fun hx => by have := HS.out _ hx; omega)
  have hO2 := hkW.get hO1 (fun hx => by have := HS.out _ hx; omega)
  refine leaves_cons (f := 60) (args := #[.pointer (some ⟨w.heap.size, 0, none⟩), .pointer (some ⟨w.heap.size + 1, 0, none⟩)]) (by simp) (by simp [go_sem]) ?_
  refine (Catch1_caught w.heap.size (w.heap.size + 1) f o _ _ x W hO2 ⟨b, rfl⟩ hE2 hf).mono ?_
  rintro e u' w'' ⟨rfl, rfl, err, he, hc, hk⟩
  have ce : w''.cell? ⟨w.heap.size + 1, 0, none⟩ = some err := cellAt he rfl
  simp [Leaves, settle, results, Tryz.results39, go_sem, ce]
  exact ⟨err, rfl, hc, HR.out _ _ _ hRW hk (by intro y hy; simp at hy; subst hy; exact ⟨by omega, by omega, _, _, hE2⟩), ((k1.mono (by simp)).trans hkW).trans2 hk (by intro y hy; simp at hy; subst hy; exact Or.inr (by omega))⟩

end Go.Proofs.YtloihcnbcknbnaaGreatDoor
