import Derived.Test.YtloihcnbcknbnaaGreatDoorPtab
import Derived.BigRegion
namespace Go.Proofs.YtloihcnbcknbnaaGreatDoor
open Go.RowKit

def partly (L : List UInt8) (k n : Nat) : List UInt8 := L.take k ++ List.replicate (n * 128 - k) 0
theorem length_partly (L : List UInt8) (k n : Nat) (h : L.length = n * 128) (hk : k ≤ n * 128) : (partly L k n).length = n * 128 := by
  simp [partly, h]; omega
theorem partly_set (L : List UInt8) (k n : Nat) (h : L.length = n * 128) (hk : k < n * 128) (b : UInt8) (hb : L[k]? = some b) : (partly L k n).set k b = partly L (k + 1) n := by
  have hk' : k < L.length := by omega
  have hb' : L[k] = b := by rw [List.getElem?_eq_getElem hk'] at hb; simpa using hb
  have e1 : n * 128 - k = (n * 128 - (k + 1)) + 1 := by omega
  have hl : (L.take k).length = k := by rw [List.length_take]; omega
  rw [partly, partly, e1, List.replicate_succ, List.set_append_right _ _ (by omega), hl, Nat.sub_self, List.set_cons_zero, List.take_succ_eq_append_getElem hk', hb', List.append_assoc]
  rfl
theorem u8s_set (l : List UInt8) (k : Nat) (b : UInt8) : (u8s l).toArray.setIfInBounds k (.int .u8 b.toNat) = (u8s (l.set k b)).toArray := by
  simp [u8s, List.map_set]

/-- a new device with bytes -/
def RetLaid (L : List UInt8) (n : Nat) (w : World) (e : Ending) (w' : World) : Prop :=
  ∃ a g, e = .returned (.pointer (some ⟨a, 0, none⟩)) ∧ Dev w' a g n L 0 0 0 ∧ w.heap.size ≤ a ∧ w.heap.size ≤ g ∧ Kept [] w w'

set_option maxRecDepth 100000 in
set_option maxHeartbeats 400000 in
theorem Laid_any (n : Nat) (L : List UInt8) (w : World) (hn : n < 1000) (hL : L.length = n * 128) :
    Calls Tryz.prog 103 #[.int .i64 n, .string ⟨L.toArray⟩] w (RetLaid L n w) := by
  have hnb : nb n = n := by unfold nb; rw [if_neg (by omega)]; omega
  have hsz : (ByteArray.mk L.toArray).size = n * 128 := by rw [← hL]; rfl
  have Hs : Hid ((ByteArray.mk L.toArray).size = n * 128) := hsz
  have Hg : Hid (∀ (k : Nat) (h : k < (ByteArray.mk L.toArray).size), L[k]? = some ((ByteArray.mk L.toArray)[k])) := by
    intro k h
    have h' : k < L.length := h
    rw [List.getElem?_eq_getElem h']; rfl
  generalize ByteArray.mk L.toArray = s at *
  clear hsz
  go_enter Tryz.func103, Tryz.ntmps103
  go_wp2_with fail
  refine (NewDisk_any n w).mono ?_
  rintro e w1 ⟨a, g, rfl, hd1, ha1, hg1, hk1⟩
  rw [hnb] at hd1
  clear hnb
  go_wp2
  go_loopw [6] (fun i wr => ∃ k : Nat, k ≤ n * 128 ∧ i = .int .i64 k ∧ Dev wr a g n (partly L k n) 0 0 0 ∧ Kept [] w wr) (fun i _ => n * 128 - (intOf i).toNat)
  case atStart => exact ⟨0, Nat.zero_le _, rfl, by simpa [partly] using hd1, hk1⟩
  case round =>
    obtain ⟨k, hk, rfl, hd, hkr⟩ := hrel
    have c0 : wr.cell? ⟨a, 0, none⟩ = some (.slice (some ⟨g, 0, none⟩) n n) := cellAt hd.d rfl
    by_cases hlt : k < n * 128
    · have hss : (k : Int) < (s.size : Int) := by rw [Hs.out]; omega
      have hkd : k / 128 < n := by omega
      have hb := hd.b
      have hlp := length_partly L k n hL hk
      obtain ⟨old, hold⟩ : ∃ old, wr.cell? ⟨g, k / 128 * 128 + k % 128, none⟩ = some old := by
        rw [cell_of_row _ _ _ _ _ _ hb]
        exact ⟨_, Array.getElem?_eq_getElem (by simp only [List.size_toArray, length_u8s, hlp]; omega)⟩
      have hfz : wr.frozen? ⟨g, k / 128 * 128 + k % 128, none⟩ = false := frozen_of_row _ _ _ _ _ hb
      clear hb
      go_wp2
      go_region
      rw [Nat.div_add_mod'] at hold hfz ⊢
      have hkss : k < s.size := by omega
      have hd3 : Dev (wr.setCell ⟨g, k, none⟩ (.int .u8 s[k].toNat)).drew a g n (partly L (k + 1) n) 0 0 0 := by
        refine ⟨?_, ?_, length_partly L (k + 1) n hL (by omega)⟩
        · exact ((Kept.refl [g] wr).setCell (p := ⟨g, k, none⟩) (Or.inl (by simp)) (.int .u8 s[k].toNat)).drew.get hd.d (by simpa using hd.ne)
        · have := setCellAt (i := k) (.int .u8 s[k].toNat) hd.b
          rw [u8s_set, partly_set L k n hL hlt s[k] (Hg.out k hkss)] at this
          exact this
      have hk3 : Kept [] w (wr.setCell ⟨g, k, none⟩ (.int .u8 s[k].toNat)).drew := (hkr.setCell (Or.inr hg1) _).drew
      generalize (wr.setCell ⟨g, k, none⟩ (.int .u8 s[k].toNat)).drew = w3 at *
      clear hold hfz hd c0
      go_wp2
      go_roundw
      case rel => exact ⟨k + 1, by omega, by go_num, hd3, hk3⟩
      case measure => simp [intOf]; omega
    · have hkn : k = n * 128 := by omega
      subst hkn
      have hss : ¬ ((n * 128 : Nat) : Int) < (s.size : Int) := by rw [Hs.out]; omega
      have hfull : partly L (n * 128) n = L := by simp [partly, ← hL]
      rw [hfull] at hd
      clear hfull
      go_wp2
      go_ret
      exact ⟨a, g, rfl, hd, ha1, hg1, hkr⟩

end Go.Proofs.YtloihcnbcknbnaaGreatDoor
