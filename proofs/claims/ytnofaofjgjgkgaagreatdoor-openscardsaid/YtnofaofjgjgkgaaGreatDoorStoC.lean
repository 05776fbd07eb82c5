import Derived.Test.YtnofaofjgjgkgaaGreatDoorStoB
namespace Go.Proofs.YtnofaofjgjgkgaaGreatDoor
open Go.RowKit

/-- what Open's work leaves: the variable of the store -/
def SVar (sv a g n : Nat) (L : List UInt8) (wr t : Int) (W : World) : Prop := ∃ st c, W.heap[sv]? = some (.cells #[.pointer (some ⟨st, 0, none⟩)] 61 (0, 0)) ∧ Dev W a g n L c wr t
def SNil (sv a g n : Nat) (L : List UInt8) (wr t : Int) (W : World) : Prop := ∃ c, W.heap[sv]? = some (.cells #[.pointer none] 61 (0, 0)) ∧ Dev W a g n L c wr t

set_option maxRecDepth 100000 in
set_option maxHeartbeats 2000000 in
theorem Open1_fits (p sv a g n k : Nat) (L : List UInt8) (c wr t : Int) (w : World) (hp : w.heap[p]? = some (.cells #[.iface 37 (.pointer (some ⟨a, 0, none⟩))] 113 (0, 0))) (hsv : w.heap[sv]? = some (.cells #[.pointer none] 61 (0, 0))) (h : Dev w a g n L c wr t) (hn8 : 8 ≤ n) (hn : n ≤ 400) (hk : k ≤ 50000) (hk0 : 0 < k) (hs : St k L) :
    Calls Tryz.prog 78 #[.pointer (some ⟨p, 0, none⟩), .pointer (some ⟨sv, 0, none⟩)] w (Ends [a, sv] (SVar sv a g n L wr t) w) := by
  have c0 : w.cell? ⟨p, 0, none⟩ = some (.iface 37 (.pointer (some ⟨a, 0, none⟩))) := cellAt hp rfl
  have hla := lt_heap h.d
  have hlg := lt_heap h.b
  have hls := lt_heap hsv
  have nag := h.ne
  have nsa : sv ≠ a := ne_tag hsv h.d (by decide)
  have nsg : sv ≠ g := ne_tag hsv h.b (by decide)
  have hd0 : decide (0 < k) = true := by simpa using hk0
  obtain ⟨q0, hq0⟩ : ∃ q, q = 2 * k := ⟨_, rfl⟩
  have HN : Hid (∀ v W c, Vol W v a → Dev W a g n L c wr t → Calls Tryz.prog 71 #[.pointer (some ⟨v, 0, none⟩)] W (ReadR a g n L wr t q0 true W)) := by
    intro v W c hV hD; rw [hq0]; have := Newest_any v a g n k L c wr t W hV hD hn8 (by omega) (by omega) hs; rwa [hd0] at this
  clear hs hq0 hd0
  go_enter Tryz.func78, Tryz.ntmps78
  go_wp2_with fail
  refine (On_fits a n n _ _ c wr t w h.d hn8 hn).mono ?_
  rintro e w1 ⟨v, rfl, hv1, hvl, hk1⟩
  have h1 := h.kept hk1 (by simp) (by simp)
  have nva : v ≠ a := by omega
  go_wp2_with fail
  refine (HN.out v w1 c hv1 h1).mono ?_
  rintro e w2 ⟨rfl, ⟨c2, hd2⟩, hk2⟩
  have s2 := hk2.get (hk1.get hsv (by simp)) (by simpa using nsa)
  have hk02 : Kept [a, sv] w w2 := (hk1.mono (by simp)).trans (hk2.mono (by simp))
  have k3 := ((Kept.refl [] w2).alloc (.cells #[.int .u64 q0] 119)).alloc (.cells #[.pointer (some ⟨v, 0, none⟩)] 138)
  have s3 := k3.get s2 (by simp)
  have e3 : ((w2.alloc (.cells #[.int .u64 q0] 119)).alloc (.cells #[.pointer (some ⟨v, 0, none⟩)] 138)).cell? ⟨sv, 0, none⟩ = some (.pointer none) := cellAt s3 rfl
  have f3 : ((w2.alloc (.cells #[.int .u64 q0] 119)).alloc (.cells #[.pointer (some ⟨v, 0, none⟩)] 138)).frozen? ⟨sv, 0, none⟩ = false := frozen_of_row _ _ _ _ _ s3
  have hls2 := lt_heap s2
  go_wp2
  go_end0
  have k4 : Kept [sv] w2 (((w2.setCell ⟨sv, 0, none⟩ (.pointer (some ⟨w2.heap.size + 1, 0, none⟩))).alloc (.cells #[.int .u64 q0] 119)).alloc (.cells #[.pointer (some ⟨v, 0, none⟩)] 138)) := (((Kept.refl _ _).setCell (Or.inl (by simp)) _).alloc _).alloc _
  refine ⟨rfl, ⟨w2.heap.size + 1, c2, ?_, hd2.kept k4 (by simpa using nsa.symm) (by simpa using nsg.symm)⟩, hk02.trans2 k4 (by simp)⟩
  have := setCellAt (i := 0) (.pointer (some ⟨w2.heap.size + 1, 0, none⟩)) s2
  exact (((Kept.refl [] _).alloc _).alloc _).get this (by simp)

set_option maxRecDepth 100000 in
set_option maxHeartbeats 2000000 in
theorem Open1_none (p sv a g n : Nat) (L : List UInt8) (c wr t : Int) (w : World) (hp : w.heap[p]? = some (.cells #[.iface 37 (.pointer (some ⟨a, 0, none⟩))] 113 (0, 0))) (hsv : w.heap[sv]? = some (.cells #[.pointer none] 61 (0, 0))) (h : Dev w a g n L c wr t) (hn8 : 8 ≤ n) (hn : n ≤ 400) (hs : St 0 L) :
    Calls Tryz.prog 78 #[.pointer (some ⟨p, 0, none⟩), .pointer (some ⟨sv, 0, none⟩)] w (Throws 7 [a] (SNil sv a g n L wr t) w) := by
  have c0 : w.cell? ⟨p, 0, none⟩ = some (.iface 37 (.pointer (some ⟨a, 0, none⟩))) := cellAt hp rfl
  have hla := lt_heap h.d
  have hlg := lt_heap h.b
  have hls := lt_heap hsv
  have nsa : sv ≠ a := ne_tag hsv h.d (by decide)
  have HN : Hid (∀ v W c, Vol W v a → Dev W a g n L c wr t → Calls Tryz.prog 71 #[.pointer (some ⟨v, 0, none⟩)] W (ReadR a g n L wr t 0 false W)) := by
    intro v W c hV hD; exact Newest_any v a g n 0 L c wr t W hV hD hn8 (by omega) (by omega) hs
  clear hs
  go_enter Tryz.func78, Tryz.ntmps78
  go_wp2_with fail
  refine (On_fits a n n _ _ c wr t w h.d hn8 hn).mono ?_
  rintro e w1 ⟨v, rfl, hv1, hvl, hk1⟩
  have h1 := h.kept hk1 (by simp) (by simp)
  have nva : v ≠ a := by omega
  go_wp2_with fail
  refine (HN.out v w1 c hv1 h1).mono ?_
  rintro e w2 ⟨rfl, ⟨c2, hd2⟩, hk2⟩
  have s2 := hk2.get (hk1.get hsv (by simp)) (by simpa using nsa)
  have hk02 : Kept [a] w w2 := (hk1.mono (by simp)).trans (hk2.mono (by simp))
  go_wp2_with (go_at_call 79; refine (Throw_any _ _ _).mono ?_; rintro e w3 ⟨f, o, rfl, hf, hk3⟩)
  have k3 : Kept [] w2 w3 := ((Kept.refl [] w2).alloc _).trans hk3
  exact ⟨rfl, f, o, rfl, hf, ⟨c2, k3.get s2 (by simp), hd2.kept k3 (by simp) (by simp)⟩, hk02.trans2 k3 (by simp)⟩

set_option maxHeartbeats 1000000 in
theorem Open1_no (p a n cap : Nat) (sv : Value) (ao : Option Addr) (cache : Value) (c wr t : Int) (w : World) (hp : w.heap[p]? = some (.cells #[.iface 37 (.pointer (some ⟨a, 0, none⟩))] 113 (0, 0))) (h : w.heap[a]? = some (.cells (dcells (.slice ao n cap) cache c wr t) 93 (0, 0))) (hn : n < 8 ∨ 400 < n) :
    Calls Tryz.prog 78 #[.pointer (some ⟨p, 0, none⟩), sv] w (Throws 8 [] Always w) := by
  have c0 : w.cell? ⟨p, 0, none⟩ = some (.iface 37 (.pointer (some ⟨a, 0, none⟩))) := cellAt hp rfl
  go_enter Tryz.func78, Tryz.ntmps78
  go_wp2_with fail
  refine (On_no a n cap ao cache c wr t w h hn).mono ?_
  rintro e w1 ⟨f, o, rfl, hf, hk⟩
  exact ⟨rfl, f, o, rfl, hf, trivial, hk⟩

/-- what Open gives: a store; an error -/
def OpenOk (a g n : Nat) (L : List UInt8) (wr t : Int) (w : World) (e : Ending) (w' : World) : Prop :=
  ∃ st c, e = .returned (.tuple #[.pointer (some ⟨st, 0, none⟩), .nilIface]) ∧ Dev w' a g n L c wr t ∧ Kept [a] w w'
def OpenNo (x : Int) (S : List Nat) (R : World → Prop) (w : World) (e : Ending) (w' : World) : Prop :=
  ∃ err, e = .returned (.tuple #[.pointer none, err]) ∧ Chain w' err x ∧ R w' ∧ Kept S w w'

/-- the two variables of Open -/
theorem open_vars (w : World) (d : Value) : ((w.alloc (.cells #[d] 113)).alloc (.cells #[.pointer none] 61)).heap[w.heap.size]? = some (.cells #[d] 113 (0, 0)) ∧
    ((w.alloc (.cells #[d] 113)).alloc (.cells #[.pointer none] 61)).heap[w.heap.size + 1]? = some (.cells #[.pointer none] 61 (0, 0)) := by
  constructor
  · exact ((Kept.refl [] _).alloc _).get (heap_alloc_new _ _) (by simp)
  · have := heap_alloc_new (w.alloc (.cells #[d] 113)) (.cells #[.pointer none] 61)
    rwa [World.size_alloc] at this

set_option maxRecDepth 100000 in
set_option maxHeartbeats 1000000 in
theorem Open_fits (a g n k : Nat) (L : List UInt8) (c wr t : Int) (w : World) (h : Dev w a g n L c wr t) (hn8 : 8 ≤ n) (hn : n ≤ 400) (hk : k ≤ 50000) (hk0 : 0 < k) (hs : St k L) :
    Calls Tryz.prog 62 #[.iface 37 (.pointer (some ⟨a, 0, none⟩))] w (OpenOk a g n L wr t w) := by
  have hmf := makes
  have hla := lt_heap h.d
  have hlg := lt_heap h.b
  have k1 := ((Kept.refl [] w).alloc (.cells #[.iface 37 (.pointer (some ⟨a, 0, none⟩))] 113)).alloc (.cells #[.pointer none] 61)
  obtain ⟨n1, s1⟩ := open_vars w (.iface 37 (.pointer (some ⟨a, 0, none⟩)))
  have h1 := h.kept k1 (by simp) (by simp)
  have hsz : ((w.alloc (.cells #[.iface 37 (.pointer (some ⟨a, 0, none⟩))] 113)).alloc (.cells #[.pointer none] 61)).heap.size = w.heap.size + 2 := by simp
  generalize hw1 : (w.alloc (.cells #[.iface 37 (.pointer (some ⟨a, 0, none⟩))] 113)).alloc (.cells #[.pointer none] 61) = w1 at *
  have HC : Hid (∀ b, Calls Tryz.prog 68 #[.string b, .func (.func 78) #[] #[.pointer (some ⟨w.heap.size, 0, none⟩), .pointer (some ⟨w.heap.size + 1, 0, none⟩)]] w1 fun e w' => e = .returned .nilIface ∧ SVar (w.heap.size + 1) a g n L wr t w' ∧ Kept [a, w.heap.size + 1] w1 w') := by
    intro b
    refine Catch_ok_Open1 b _ _ [a, w.heap.size + 1] (SVar (w.heap.size + 1) a g n L wr t) w1 ?_ ?_ ?_
    · intro x hx; simp at hx; omega
    · rintro W W' T ⟨st, c', hs', hd'⟩ hK hT
      have hnot : ∀ y, y < w1.heap.size → y ∉ T := fun y hy hx => by have := (hT _ hx).1; omega
      exact ⟨st, c', hK.get hs' (hnot _ (by omega)), hd'.kept hK (hnot _ (by omega)) (hnot _ (by omega))⟩
    · intro W hW _
      exact Open1_fits w.heap.size (w.heap.size + 1) a g n k L c wr t W (hW.get n1 (by simp)) (hW.get s1 (by simp)) (h1.kept hW (by simp) (by simp)) hn8 hn hk hk0 hs
  have HW : Hid _ := hw1
  clear hw1 h1 n1 s1 hs hsz
  go_enter Tryz.func62, Tryz.ntmps62
  go_wp2_with (go_at_call 68; rw [HW.out]; refine (HC.out _).mono ?_; rintro e w2 ⟨rfl, ⟨st, c2, hs2, hd2⟩, hk2⟩; have e2 : w2.cell? ⟨w.heap.size + 1, 0, none⟩ = some (.pointer (some ⟨st, 0, none⟩)) := cellAt hs2 rfl)
  go_ret2
  exact ⟨st, c2, rfl, hd2, (k1.mono (by simp)).trans2 hk2 (by intro x hx; simp at hx; rcases hx with rfl | rfl; exact Or.inl (by simp); exact Or.inr (by omega))⟩

end Go.Proofs.YtnofaofjgjgkgaaGreatDoor
