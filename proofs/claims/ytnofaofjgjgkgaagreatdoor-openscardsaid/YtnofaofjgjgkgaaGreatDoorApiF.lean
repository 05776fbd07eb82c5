import Derived.Test.YtnofaofjgjgkgaaGreatDoorApiE
import Derived.Laws.IdiomStrings
namespace Go.Proofs.YtnofaofjgjgkgaaGreatDoor
open Go.RowKit

theorem iu8 : (Tryz.prog.info? 5).map (fun i => (i.zero, i.size, i.bytes)) = some (some (.int .u8 0), 1, 1) := by kernel_rfl

theorem grown_kept {w w' : World} {row : Option Nat} (h : w.grownBy w' row) (S : List Nat) (hr : ∀ k, row = some k → k ∈ S) : Kept S w w' :=
  ⟨h.os, h.tape, h.output, h.size, fun k hk hn => h.block k hk fun e => hn (hr k e.symm)⟩

theorem take_block (L : List UInt8) (k : Nat) : L.take (k * 128) ++ blockOf L k = L.take ((k + 1) * 128) := by
  rw [blockOf, Nat.add_mul, Nat.one_mul, List.take_add]

theorem convert_owned {w : World} {base : Nat} {v : Value} {l : List UInt8} (h : w.ownsRow base 5 1 v l.length (u8s l)) : (convert 109 9 v).run Tryz.prog w = .ok (.string ⟨l.toArray⟩) w := by
  obtain ⟨hl, ⟨rfl, h0⟩ | ⟨g, cap, cur, rfl, hg, hh, h1, h2, h3, h4⟩⟩ := h
  · have : l = [] := List.eq_nil_of_length_eq_zero h0
    subst this
    rw [run_convert_bytes_string w 109 9 5 none 0 0 Tryz.underlying109 Tryz.underlying5 Tryz.underlying9]
    simp [Conv.bytesToString]; rfl
  · refine run_convert_bytes_back (P := Tryz.prog) w 109 9 5 ⟨g, 0, none⟩ cap l Tryz.underlying109 Tryz.underlying5 Tryz.underlying9 ?_
    intro j hj
    rw [add_lit, cell_of_row _ _ _ _ _ _ hh]
    have := congrArg (fun x => x[j]?) h4
    simp only [List.getElem?_take, Nat.mul_one, hj, if_true, u8s_get, List.getElem?_eq_getElem hj, Option.map_some] at this
    simpa using this

set_option maxRecDepth 100000 in
set_option maxHeartbeats 400000 in
theorem Bytes_any (a g n : Nat) (L : List UInt8) (c nw t : Int) (w : World) (h : Dev w a g n L c nw t) (hn : n < 1000) :
    Calls Tryz.prog 54 #[.pointer (some ⟨a, 0, none⟩)] w fun e w' => e = .returned (.string ⟨L.toArray⟩) ∧ Kept [] w w' := by
  have c0 : w.cell? ⟨a, 0, none⟩ = some (.slice (some ⟨g, 0, none⟩) n n) := cellAt h.d rfl
  have hla := lt_heap h.d
  have hlg := lt_heap h.b
  obtain ⟨ie, hie, hz1, hz2, hz3⟩ := info_parts iu8
  go_enter Tryz.func54, Tryz.ntmps54
  go_wp2_with (first
    | (at_make; refine wpList_make_own _ rfl _ _ 109 rfl w.heap.size 5 ie (.int .u8 0) 1 Tryz.underlying109 hie hz1 hz2 .i64 .i64 _ (n * 128) rfl rfl (by omega) (by rw [hz3]; omega) (by unfold maxLen; omega) (Nat.le_refl _) ?_; intro w1 hown1 hgr1; have hk1 := grown_kept hgr1 [] (by simp); have c01 : w1.cell? ⟨a, 0, none⟩ = some (.slice (some ⟨g, 0, none⟩) n n) := cellAt (hk1.get h.d (by simp)) rfl))
  clear c0 c01
  go_loopw [3, 17] (fun v i wr => ∃ k : Nat, k ≤ n ∧ i = .int .i64 k ∧ wr.ownsRow w.heap.size 5 1 v (L.take (k * 128)).length (u8s (L.take (k * 128))) ∧ Kept [] w wr) (fun _ i _ => n - (intOf i).toNat)
  case atStart => exact ⟨0, Nat.zero_le _, rfl, by simpa [u8s] using hown1, hk1⟩
  case round =>
    obtain ⟨k, hk, rfl, hown, hkr⟩ := hrel
    have hl := h.l
    by_cases hlt : k < n
    · have hlen : (L.take (k * 128)).length = k * 128 := by rw [List.length_take, hl]; omega
      have c0 : wr.cell? ⟨a, 0, none⟩ = some (.slice (some ⟨g, 0, none⟩) n n) := cellAt (hkr.get h.d (by simp)) rfl
      have hb := hkr.get h.b (by simp)
      have hlb := length_blockOf L n k hl hlt
      rw [hlen] at hown
      go_wp2_with (first
        | (at_builtin; refine wpList_append_own _ rfl (.tmp 20) (.tmp 27) 109 rfl w.heap.size 5 ie (.int .u8 0) 1 1 Tryz.underlying109 hie hz1 hz2 hz3 rfl (by decide) u3 (k * 128) _ rfl hown ⟨g, k * 128, none⟩ 128 128 (u8s (blockOf L k)) rfl (by rw [length_u8s, hlb]) (block_src k hb) (one_u8s _) (by unfold maxLen; omega) (by omega) hkr.size ?_; intro v2 w2 hown2 hgr2 _))
      have hk2 : Kept [] w w2 := by
        refine hkr.trans2 (grown_kept hgr2 u3.ownBlock.toList (by intro x hx; rw [hx]; simp)) ?_
        intro x hx
        have hx' : u3.ownBlock = some x := by cases hu : u3.ownBlock with | none => rw [hu] at hx; cases hx | some y => rw [hu] at hx; simp at hx; rw [hx]
        exact Or.inr (hown.lt x hx').1
      have hown3 : w2.ownsRow w.heap.size 5 1 v2 (L.take ((k + 1) * 128)).length (u8s (L.take ((k + 1) * 128))) := by
        have e : u8s (L.take (k * 128)) ++ u8s (blockOf L k) = u8s (L.take ((k + 1) * 128)) := by rw [← take_block]; simp [u8s]
        rw [e] at hown2
        have : (L.take ((k + 1) * 128)).length = k * 128 + 128 := by rw [List.length_take, hl]; omega
        rw [this]; exact hown2
      clear hown2 hgr2 hown c0
      go_roundw
      case rel => exact ⟨k + 1, by omega, by go_num, hown3, hk2⟩
      case measure => simp [intOf]; omega
    · have hkn : k = n := by omega
      subst hkn
      have hLl : L.take (k * 128) = L := List.take_of_length_le (by omega)
      rw [hLl] at hown
      have hcv := convert_owned hown
      clear hLl hl
      go_wp2
      go_ret
      exact ⟨rfl, hkr⟩

end Go.Proofs.YtnofaofjgjgkgaaGreatDoor
