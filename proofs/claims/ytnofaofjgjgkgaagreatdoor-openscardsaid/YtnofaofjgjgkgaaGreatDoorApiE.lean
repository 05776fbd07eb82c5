import Derived.Test.YtnofaofjgjgkgaaGreatDoorApiD
namespace Go.Proofs.YtnofaofjgjgkgaaGreatDoor
open Go.RowKit

/-- how many blocks NewDisk makes of a number -/
def nb (x : Int) : Nat := if x < 0 then 0 else (x % 1000).toNat
theorem nb_lt (x : Int) : nb x < 1000 := by unfold nb; split <;> omega

theorem iblk : (Tryz.prog.info? 94).map (fun i => (i.zero, i.size, i.bytes)) = some (some (.agg (zl 128).toArray), 128, 128) := by kernel_rfl
theorem zl_get (n j : Nat) (h : j < (zl n).length) : (zl n)[j] = .int .u8 0 := by simp [zl]
theorem made_zl (n : Nat) : madeCells (zl 128).toArray n = (u8s (List.replicate n 0)).toArray := by
  apply Array.ext'
  apply List.ext_getElem?
  intro j
  by_cases hj : j < n
  · have h128 : j % 128 < (zl 128).length := by rw [length_zl]; omega
    simp only [madeCells, u8s, List.size_toArray, length_zl, Array.toList_map, Array.toList_range, List.getElem?_map, List.getElem?_range hj, Option.map_some, List.getElem?_replicate, if_pos hj]
    rw [List.getElem!_toArray, List.getElem!_eq_getElem?_getD, List.getElem?_eq_getElem h128, zl_get]
    rfl
  · simp [madeCells, u8s, hj]

theorem mkblocks (m : Nat) (hm : m < 1000) (w : World) : (Instr.makeSlice 90 (.int .i64 m) (.int .i64 m)).run Tryz.prog w = .ok (.slice (some ⟨w.heap.size, 0, none⟩) m m) (w.alloc (.cells (u8s (List.replicate (m * 128) 0)).toArray 94)) := by
  obtain ⟨ie, hie, hz1, hz2, hz3⟩ := info_parts iblk
  have := run_make (P := Tryz.prog) w 90 94 ie _ Tryz.underlying90 hie hz1 .i64 .i64 m m (by omega) (by omega) (by rw [hz3]; omega) (by omega)
  rw [this, hz2]
  simp only [Int.toNat_natCast, Value.cells, made_zl]

/-- a new device of noughts -/
def NewDev (a g n : Nat) (w w' : World) : Prop := Dev w' a g n (List.replicate (n * 128) 0) 0 0 0 ∧ w.heap.size ≤ a ∧ w.heap.size ≤ g ∧ Kept [] w w'

def RetDev (n : Nat) (w : World) (e : Ending) (w' : World) : Prop := ∃ a g, e = .returned (.pointer (some ⟨a, 0, none⟩)) ∧ NewDev a g n w w'

theorem newDev_of {w w3 : World} {m : Nat} (hn3 : w3.heap[w.heap.size]? = some (.cells (u8s (List.replicate (m * 128) 0)).toArray 94 (0, 0))) (hk3 : Kept [] w w3) (hs : w3.heap.size = w.heap.size + 1) :
    NewDev (w.heap.size + 1) w.heap.size m w (w3.alloc (.cells #[.slice (some ⟨w.heap.size, 0, none⟩) m m, .slice none 0 0, .int .i64 0, .int .i64 0, .int .i64 0, .int .i64 (-1), .int .i64 0, .int .i64 0] 93)) := by
  have hk := (Kept.refl [] w3).alloc (.cells #[.slice (some ⟨w.heap.size, 0, none⟩) m m, .slice none 0 0, .int .i64 0, .int .i64 0, .int .i64 0, .int .i64 (-1), .int .i64 0, .int .i64 0] 93)
  refine ⟨⟨?_, hk.get hn3 (by simp), by simp⟩, by omega, by omega, hk3.trans hk⟩
  rw [← hs]; exact heap_alloc_new _ _

set_option maxRecDepth 100000 in
set_option maxHeartbeats 400000 in
theorem NewDisk_any (x : Int) (w : World) : Calls Tryz.prog 23 #[.int .i64 x] w (RetDev (nb x) w) := by
  by_cases hx : x < 0
  · have hnb : nb x = 0 := by unfold nb; rw [if_pos hx]
    rw [hnb]
    go_enter Tryz.func23, Tryz.ntmps23
    go_wp2_with (first
      | (at_make; refine wpList_make_k rfl _ _ _ rfl _ _ rfl rfl _ _ (mkblocks 0 (by omega) w) ?_; intro w3 hn3 hk3 hs3; have HS : Hid (w3.heap.size = w.heap.size + 1) := hs3))
    go_ret
    exact ⟨_, _, rfl, newDev_of hn3 hk3 HS.out⟩
  · have hlt := nb_lt x
    have Hm : Hid (x % 1000 = nb x) := by show _ = _; unfold nb; rw [if_neg hx]; omega
    generalize nb x = m at *
    go_enter Tryz.func23, Tryz.ntmps23
    go_wp2_with (first
      | (at_make; rw [Hm.out]; refine wpList_make_k rfl _ _ _ rfl _ _ rfl rfl _ _ (mkblocks m hlt w) ?_; intro w3 hn3 hk3 hs3; have HS : Hid (w3.heap.size = w.heap.size + 1) := hs3))
    go_ret
    exact ⟨_, _, rfl, newDev_of hn3 hk3 HS.out⟩

theorem ret_int {k : IntKind} {a b : Int} (h : a = b) : Ending.returned (.int k a) = .returned (.int k b) := by rw [h]

/-- which of n things a raw number speaks of -/
def pk (c : Int) (n : Nat) : Nat := if c < 0 then ((-(c + 1)) % n).toNat else (c % n).toNat
theorem pk_lt (c : Int) (n : Nat) (hn : 0 < n) : pk c n < n := by
  unfold pk
  split
  · have := Int.emod_lt_of_pos (-(c + 1)) (show (0 : Int) < n by omega); have := Int.emod_nonneg (-(c + 1)) (show (n : Int) ≠ 0 by omega); omega
  · have := Int.emod_lt_of_pos c (show (0 : Int) < n by omega); have := Int.emod_nonneg c (show (n : Int) ≠ 0 by omega); omega

set_option maxHeartbeats 400000 in
theorem pick_any (c : Int) (n : Nat) (w : World) (hn : 0 < n) (hb : (n : Int) ≤ 1000000) (h1 : -9223372036854775808 ≤ c) (h2 : c ≤ 9223372036854775807) :
    Calls Tryz.prog 13 #[.int .i64 c, .int .i64 n] w fun e w' => e = .returned (.int .i64 (pk c n)) ∧ w' = w := by
  by_cases hc : c < 0
  · have hp : (pk c n : Int) = (-(c + 1)) % n := by unfold pk; rw [if_pos hc]; have := Int.emod_nonneg (-(c + 1)) (show (n : Int) ≠ 0 by omega); omega
    have H : Hid (-((c + 1).tmod n) = (pk c n : Int)) := by show _ = _; rw [hp, ← Int.neg_tmod, Int.tmod_eq_emod_of_nonneg (by omega)]
    clear hp
    have hnz : ¬ (n : Int) = 0 := by omega
    go_enter Tryz.func13, Tryz.ntmps13
    go_wp2
    go_ret
    exact ⟨ret_int H.out, rfl⟩
  · have hp : (pk c n : Int) = c % n := by unfold pk; rw [if_neg hc]; have := Int.emod_nonneg c (show (n : Int) ≠ 0 by omega); omega
    have H : Hid ((pk c n : Int) = c % n) := hp
    clear hp
    have hnz : ¬ (n : Int) = 0 := by omega
    go_enter Tryz.func13, Tryz.ntmps13
    go_wp2
    go_ret
    exact ⟨ret_int H.out.symm, rfl⟩

set_option maxHeartbeats 400000 in
theorem near_any (c : Int) (w : World) (h1 : -9223372036854775808 ≤ c) (h2 : c ≤ 9223372036854775807) :
    Calls Tryz.prog 53 #[.int .i64 c] w fun e w' => e = .returned (.int .i64 (pk c 600)) ∧ w' = w := by
  go_enter Tryz.func53, Tryz.ntmps53
  go_wp2_with fail
  refine (pick_any c 600 w (by omega) (by omega) h1 h2).mono ?_
  rintro e w' ⟨rfl, rfl⟩
  go_wp2
  go_ret
  exact ⟨rfl, rfl⟩

set_option maxHeartbeats 400000 in
theorem blocks_any (x : Int) (w : World) :
    Calls Tryz.prog 22 #[.int .i64 x] w fun e w' => e = .returned (.int .i64 (nb x)) ∧ w' = w := by
  by_cases hx : x < 0
  · have hp : nb x = 0 := by unfold nb; rw [if_pos hx]
    rw [hp]
    go_enter Tryz.func22, Tryz.ntmps22
    go_wp2
    go_ret
    exact ⟨rfl, rfl⟩
  · have H : Hid (x % 1000 = nb x) := by show _ = _; unfold nb; rw [if_neg hx]; omega
    generalize nb x = m at *
    go_enter Tryz.func22, Tryz.ntmps22
    go_wp2
    go_ret
    exact ⟨ret_int H.out, rfl⟩

end Go.Proofs.YtnofaofjgjgkgaaGreatDoor
