import Derived.Test.YtnofaofjgjgkgaaGreatDoorStoC
namespace Go.Proofs.YtnofaofjgjgkgaaGreatDoor
open Go.RowKit

def DevC (a g n : Nat) (L : List UInt8) (wr t : Int) (W : World) : Prop := ∃ c, Dev W a g n L c wr t

set_option maxRecDepth 100000 in
set_option maxHeartbeats 1000000 in
theorem Open_none (a g n : Nat) (L : List UInt8) (c wr t : Int) (w : World) (h : Dev w a g n L c wr t) (hn8 : 8 ≤ n) (hn : n ≤ 400) (hs : St 0 L) :
    Calls Tryz.prog 62 #[.iface 37 (.pointer (some ⟨a, 0, none⟩))] w (OpenNo 7 [a] (DevC a g n L wr t) w) := by
  have hmf := makes
  have hla := lt_heap h.d
  have hlg := lt_heap h.b
  have k1 := ((Kept.refl [] w).alloc (.cells #[.iface 37 (.pointer (some ⟨a, 0, none⟩))] 113)).alloc (.cells #[.pointer none] 61)
  obtain ⟨n1, s1⟩ := open_vars w (.iface 37 (.pointer (some ⟨a, 0, none⟩)))
  have h1 := h.kept k1 (by simp) (by simp)
  have hsz : ((w.alloc (.cells #[.iface 37 (.pointer (some ⟨a, 0, none⟩))] 113)).alloc (.cells #[.pointer none] 61)).heap.size = w.heap.size + 2 := by simp
  generalize hw1 : (w.alloc (.cells #[.iface 37 (.pointer (some ⟨a, 0, none⟩))] 113)).alloc (.cells #[.pointer none] 61) = w1 at *
  have HC : Hid (∀ b, Calls Tryz.prog 68 #[.string b, .func (.func 78) #[] #[.pointer (some ⟨w.heap.size, 0, none⟩), .pointer (some ⟨w.heap.size + 1, 0, none⟩)]] w1 (Gives 7 [a] (SNil (w.heap.size + 1) a g n L wr t) w1)) := by
    intro b
    refine Catch_no_Open1 b _ _ 7 [a] (SNil (w.heap.size + 1) a g n L wr t) w1 ?_ ?_ ?_
    · intro x hx; simp at hx; omega
    · rintro W W' T ⟨c', hs', hd'⟩ hK hT
      have hnot : ∀ y, y < w1.heap.size → y ∉ T := fun y hy hx => by have := (hT _ hx).1; omega
      exact ⟨c', hK.get hs' (hnot _ (by omega)), hd'.kept hK (hnot _ (by omega)) (hnot _ (by omega))⟩
    · intro W hW _
      exact Open1_none w.heap.size (w.heap.size + 1) a g n L c wr t W (hW.get n1 (by simp)) (hW.get s1 (by simp)) (h1.kept hW (by simp) (by simp)) hn8 hn hs
  have HW : Hid _ := hw1
  clear hw1 h1 n1 s1 hs hsz
  go_enter Tryz.func62, Tryz.ntmps62
  go_wp2_with (go_at_call 68; rw [HW.out]; refine (HC.out _).mono ?_; rintro e w2 ⟨err, rfl, hc2, ⟨c2, hs2, hd2⟩, hk2⟩; have e2 : w2.cell? ⟨w.heap.size + 1, 0, none⟩ = some (.pointer none) := cellAt hs2 rfl)
  go_ret2
  exact ⟨err, rfl, hc2, ⟨c2, hd2⟩, (k1.mono (by simp)).trans hk2⟩

set_option maxRecDepth 100000 in
set_option maxHeartbeats 1000000 in
theorem Open_no (a n cap : Nat) (ao : Option Addr) (cache : Value) (c wr t : Int) (w : World) (h : w.heap[a]? = some (.cells (dcells (.slice ao n cap) cache c wr t) 93 (0, 0))) (hn : n < 8 ∨ 400 < n) :
    Calls Tryz.prog 62 #[.iface 37 (.pointer (some ⟨a, 0, none⟩))] w (OpenNo 8 [] Always w) := by
  have hmf := makes
  have hla := lt_heap h
  have k1 := ((Kept.refl [] w).alloc (.cells #[.iface 37 (.pointer (some ⟨a, 0, none⟩))] 113)).alloc (.cells #[.pointer none] 61)
  obtain ⟨n1, s1⟩ := open_vars w (.iface 37 (.pointer (some ⟨a, 0, none⟩)))
  have h1 := k1.get h (by simp)
  have hsz : ((w.alloc (.cells #[.iface 37 (.pointer (some ⟨a, 0, none⟩))] 113)).alloc (.cells #[.pointer none] 61)).heap.size = w.heap.size + 2 := by simp
  generalize hw1 : (w.alloc (.cells #[.iface 37 (.pointer (some ⟨a, 0, none⟩))] 113)).alloc (.cells #[.pointer none] 61) = w1 at *
  have HC : Hid (∀ b, Calls Tryz.prog 68 #[.string b, .func (.func 78) #[] #[.pointer (some ⟨w.heap.size, 0, none⟩), .pointer (some ⟨w.heap.size + 1, 0, none⟩)]] w1 (Gives 8 [] Always w1)) := by
    intro b
    refine Catch_no_Open1 b _ _ 8 [] Always w1 (by simp) (fun _ _ _ _ _ _ => trivial) ?_
    intro W hW _
    exact Open1_no w.heap.size a n cap _ ao cache c wr t W (hW.get n1 (by simp)) (hW.get h1 (by simp)) hn
  have HW : Hid _ := hw1
  clear hw1 h1 n1 hsz
  go_enter Tryz.func62, Tryz.ntmps62
  go_wp2_with (go_at_call 68; rw [HW.out]; refine (HC.out _).mono ?_; rintro e w2 ⟨err, rfl, hc2, _, hk2⟩; have e2 : w2.cell? ⟨w.heap.size + 1, 0, none⟩ = some (.pointer none) := cellAt (hk2.get s1 (by simp)) rfl)
  go_ret2
  exact ⟨err, rfl, hc2, trivial, k1.trans hk2⟩

set_option maxHeartbeats 1000000 in
theorem POpen_of (a : Nat) (w : World) (R : Ending → World → Prop) (hR : Calls Tryz.prog 62 #[.iface 37 (.pointer (some ⟨a, 0, none⟩))] w fun e w' => ∃ v u, e = .returned (.tuple #[v, u]) ∧ R e w') :
    Calls Tryz.prog 35 #[.pointer (some ⟨a, 0, none⟩)] w R := by
  have HR : Hid (Calls _ _ _ _ _) := hR
  clear hR
  go_enter Tryz.func35, Tryz.ntmps35
  go_wp2_with (go_at_call 62; refine HR.out.mono ?_; rintro e w2 ⟨v, u, rfl, h2⟩)
  exact h2

end Go.Proofs.YtnofaofjgjgkgaaGreatDoor
