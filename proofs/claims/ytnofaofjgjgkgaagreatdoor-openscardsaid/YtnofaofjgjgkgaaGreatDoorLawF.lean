import Derived.Test.YtnofaofjgjgkgaaGreatDoorLawE
namespace Go.Proofs.YtnofaofjgjgkgaaGreatDoor
open Go.RowKit

/-- a step of a script, as it is handed on -/
def opc (K X A B : Int) (s t : ByteArray) : Array Value := #[.int .i64 K, .int .i64 X, .int .i64 A, .int .i64 B, .string s, .string t]

set_option maxRecDepth 100000 in
set_option maxHeartbeats 400000 in
theorem outer_no (p K X A B : _) (s t : ByteArray) (w : World) (hK : K < 5 ∨ 9 < K) :
    Calls Tryz.prog 25 #[.pointer (some ⟨p, 0, none⟩), .agg (opc K X A B s t)] w fun e w' => e = .returned (.bool false) ∧ Kept [] w w' := by
  unfold opc
  by_cases h5 : K < 5
  · go_enter Tryz.func25, Tryz.ntmps25
    go_wp2
    go_ret
    exact ⟨rfl, (Kept.refl _ _).alloc _⟩
  · have h9 : 9 < K := by omega
    have d5 : decide (K < 5) = false := by simpa using h5
    go_enter Tryz.func25, Tryz.ntmps25
    go_wp2
    go_ret
    exact ⟨rfl, (Kept.refl _ _).alloc _⟩

set_option maxRecDepth 100000 in
set_option maxHeartbeats 400000 in
theorem outer_none (p : Nat) (X A B : Int) (s t : ByteArray) (kv : Value) (pd : Option Addr) (cap : Nat) (w : World) (hw : WC w p kv (.slice pd 0 cap)) :
    Calls Tryz.prog 25 #[.pointer (some ⟨p, 0, none⟩), .agg (opc 5 X A B s t)] w fun e w' => e = .returned (.bool true) ∧ Kept [] w w' := by
  have c1 : w.cell? ⟨p, 1, none⟩ = some (.slice pd 0 cap) := cellAt hw rfl
  have hl := lt_heap hw
  unfold opc
  go_enter Tryz.func25, Tryz.ntmps25
  go_wp2
  go_ret
  exact ⟨rfl, (Kept.refl _ _).alloc _⟩

set_option maxRecDepth 100000 in
set_option maxHeartbeats 400000 in
theorem owner_outer (p K : _) (X A B : Int) (s t : ByteArray) (w : World) (b : Bool) (R : World → Prop) (hK : K < 1 ∨ 4 < K)
    (hR : ∀ W, Kept [] w W → Calls Tryz.prog 25 #[.pointer (some ⟨p, 0, none⟩), .agg (opc K X A B s t)] W fun e w' => e = .returned (.bool b) ∧ R w') :
    Calls Tryz.prog 12 #[.pointer (some ⟨p, 0, none⟩), .agg (opc K X A B s t)] w fun e w' => e = .returned (.bool b) ∧ R w' := by
  have HR : Hid (∀ W, Kept [] w W → Calls Tryz.prog 25 #[.pointer (some ⟨p, 0, none⟩), .agg (opc K X A B s t)] W fun e w' => e = .returned (.bool b) ∧ R w') := hR
  clear hR
  have e1 : ¬ K = 1 := by omega
  have e2 : ¬ K = 2 := by omega
  have e3 : ¬ K = 3 := by omega
  have e4 : ¬ K = 4 := by omega
  have b1 : (K == 1) = false := by simpa using e1
  have b2 : (K == 2) = false := by simpa using e2
  have b3 : (K == 3) = false := by simpa using e3
  have b4 : (K == 4) = false := by simpa using e4
  unfold opc at HR ⊢
  go_enter Tryz.func12, Tryz.ntmps12
  go_wp2_with (first
    | (go_at_call 25; refine (HR.out _ ((Kept.refl [] w).alloc _)).mono ?_; rintro e w2 ⟨rfl, h2⟩))
  go_ret
  exact ⟨rfl, h2⟩

end Go.Proofs.YtnofaofjgjgkgaaGreatDoor
