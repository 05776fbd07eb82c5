import Derived.Test.YtnofaofjgjgkgaaGreatDoorStoA
namespace Go.Proofs.YtnofaofjgjgkgaaGreatDoor
open Go.RowKit

def Always (_ : World) : Prop := True

set_option maxHeartbeats 1000000 in
theorem Format1_no (p a n cap : Nat) (ao : Option Addr) (cache : Value) (c wr t : Int) (w : World) (hp : w.heap[p]? = some (.cells #[.iface 37 (.pointer (some ⟨a, 0, none⟩))] 113 (0, 0))) (h : w.heap[a]? = some (.cells (dcells (.slice ao n cap) cache c wr t) 93 (0, 0))) (hn : n < 8 ∨ 400 < n) :
    Calls Tryz.prog 69 #[.pointer (some ⟨p, 0, none⟩)] w (Throws 8 [] Always w) := by
  have c0 : w.cell? ⟨p, 0, none⟩ = some (.iface 37 (.pointer (some ⟨a, 0, none⟩))) := cellAt hp rfl
  go_enter Tryz.func69, Tryz.ntmps69
  go_wp2_with fail
  refine (On_no a n cap ao cache c wr t w h hn).mono ?_
  rintro e w1 ⟨f, o, rfl, hf, hk⟩
  exact ⟨rfl, f, o, rfl, hf, trivial, hk⟩


theorem Formed.kept {a g n k : Nat} {t : Int} {W W' : World} {T : List Nat} (h : Formed a g n k t W) (hk : Kept T W W') (ha : a ∉ T) (hg : g ∉ T) : Formed a g n k t W' := by
  obtain ⟨L, c, wr, hd, hs⟩ := h
  exact ⟨L, c, wr, hd.kept hk ha hg, hs⟩

set_option maxHeartbeats 1000000 in
theorem Format_fits (a g n k : Nat) (L : List UInt8) (c wr t : Int) (w : World) (h : Dev w a g n L c wr t) (hn8 : 8 ≤ n) (hn : n ≤ 400) (hk : k ≤ 50000) (hs : St k L) :
    Calls Tryz.prog 60 #[.iface 37 (.pointer (some ⟨a, 0, none⟩))] w fun e w' => e = .returned .nilIface ∧ Formed a g n k t w' ∧ Kept [a, g] w w' := by
  have hmf := makes
  have hla := lt_heap h.d
  have hlg := lt_heap h.b
  have k1 := (Kept.refl [] w).alloc (.cells #[.iface 37 (.pointer (some ⟨a, 0, none⟩))] 113)
  have n1 := heap_alloc_new w (.cells #[.iface 37 (.pointer (some ⟨a, 0, none⟩))] 113)
  have h1 := h.kept k1 (by simp) (by simp)
  have HC : Hid (∀ b, Calls Tryz.prog 68 #[.string b, .func (.func 69) #[] #[.pointer (some ⟨w.heap.size, 0, none⟩)]] (w.alloc (.cells #[.iface 37 (.pointer (some ⟨a, 0, none⟩))] 113)) fun e w' => e = .returned .nilIface ∧ Formed a g n k t w' ∧ Kept [a, g] (w.alloc (.cells #[.iface 37 (.pointer (some ⟨a, 0, none⟩))] 113)) w') := by
    intro b
    refine Catch_ok_Format1 b _ [a, g] (Formed a g n k t) _ ?_ ?_ ?_
    · intro x hx; simp at hx ⊢; omega
    · intro W W' T hR hK hT
      refine hR.kept hK ?_ ?_
      · intro hx; have := (hT _ hx).1; simp at this; omega
      · intro hx; have := (hT _ hx).1; simp at this; omega
    · intro W hW _
      exact Format1_fits w.heap.size a g n k L c wr t W (hW.get n1 (by simp)) (h1.kept hW (by simp) (by simp)) hn8 hn hk hs
  clear h1 n1 hs
  go_enter Tryz.func60, Tryz.ntmps60
  go_wp2_with (go_at_call 68; refine (HC.out _).mono ?_; rintro e w2 ⟨rfl, hF2, hk2⟩)
  go_ret
  exact ⟨rfl, hF2, (k1.mono (by simp)).trans hk2⟩

set_option maxHeartbeats 1000000 in
theorem Format_no (a n cap : Nat) (ao : Option Addr) (cache : Value) (c wr t : Int) (w : World) (h : w.heap[a]? = some (.cells (dcells (.slice ao n cap) cache c wr t) 93 (0, 0))) (hn : n < 8 ∨ 400 < n) :
    Calls Tryz.prog 60 #[.iface 37 (.pointer (some ⟨a, 0, none⟩))] w (Gives 8 [] Always w) := by
  have hmf := makes
  have hla := lt_heap h
  have k1 := (Kept.refl [] w).alloc (.cells #[.iface 37 (.pointer (some ⟨a, 0, none⟩))] 113)
  have n1 := heap_alloc_new w (.cells #[.iface 37 (.pointer (some ⟨a, 0, none⟩))] 113)
  have h1 := k1.get h (by simp)
  have HC : Hid (∀ b, Calls Tryz.prog 68 #[.string b, .func (.func 69) #[] #[.pointer (some ⟨w.heap.size, 0, none⟩)]] (w.alloc (.cells #[.iface 37 (.pointer (some ⟨a, 0, none⟩))] 113)) (Gives 8 [] Always (w.alloc (.cells #[.iface 37 (.pointer (some ⟨a, 0, none⟩))] 113)))) := by
    intro b
    refine Catch_no_Format1 b _ 8 [] Always _ (by simp) (fun _ _ _ _ _ _ => trivial) ?_
    intro W hW _
    exact Format1_no w.heap.size a n cap ao cache c wr t W (hW.get n1 (by simp)) (hW.get h1 (by simp)) hn
  clear h1 n1
  go_enter Tryz.func60, Tryz.ntmps60
  go_wp2_with (go_at_call 68; refine (HC.out _).mono ?_; rintro e w2 ⟨err, rfl, hc2, _, hk2⟩)
  go_ret
  exact ⟨err, rfl, hc2, trivial, k1.trans hk2⟩

theorem PFormat_of (a : Nat) (w : World) (R : Ending → World → Prop) (hR : Calls Tryz.prog 60 #[.iface 37 (.pointer (some ⟨a, 0, none⟩))] w fun e w' => ∃ v, e = .returned v ∧ R e w') :
    Calls Tryz.prog 27 #[.pointer (some ⟨a, 0, none⟩)] w R := by
  have HR : Hid (Calls _ _ _ _ _) := hR
  clear hR
  go_enter Tryz.func27, Tryz.ntmps27
  go_wp2_with (go_at_call 60; refine HR.out.mono ?_; rintro e w2 ⟨v, rfl, h2⟩)
  exact h2

end Go.Proofs.YtnofaofjgjgkgaaGreatDoor
