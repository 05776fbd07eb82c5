import Derived.Test.YtcklgafpgdhnaaaGreatDoorPtbh
import Derived.Test.YtcklgafpgdhnaaaGreatDoorPtah
set_option maxRecDepth 100000
set_option maxHeartbeats 4000000
open List renaming getElem_toArray → zA, getElem_cons_succ → zB, getElem_cons_zero → zC, setIfInBounds_toArray → zD, set_cons_succ → zE, set_cons_zero → zF
namespace Go.Proofs.YtcklgafpgdhnaaaGreatDoor
open Go.RowKit

theorem spl_get {α : Type} {l cs : List α} {o : Nat} (h : o + cs.length ≤ l.length) (j : Nat) : (splice l o cs)[j]? = if j < o then l[j]? else if j < o + cs.length then cs[j - o]? else l[j]? := by
 unfold splice
 by_cases h1 : j < o
 ·rw [if_pos h1, List.getElem?_append_left (by rw [List.length_take]; omega), List.getElem?_take, if_pos h1]
 ·rw [if_neg h1, List.getElem?_append_right (by rw [List.length_take]; omega), List.length_take, Nat.min_eq_left (by omega)]
  by_cases h2 : j < o + cs.length
  ·rw [if_pos h2, List.getElem?_append_left (by omega)]
  ·rw [if_neg h2, List.getElem?_append_right (by omega), List.getElem?_drop]
   congr 1
   omega
theorem spl_mid {α : Type} {l cs : List α} {o : Nat} (h : o + cs.length ≤ l.length) (m : Nat) (hm : m = cs.length) : ((splice l o cs).drop o).take m = cs := by
 subst hm
 apply List.ext_getElem?
 intro j
 rw [List.getElem?_take, List.getElem?_drop, spl_get h]
 by_cases hj : j < cs.length
 ·rw [if_pos hj, if_neg (by omega), if_pos (by omega)]
  congr 1
  omega
 ·rw [if_neg hj, List.getElem?_eq_none (by omega)]
theorem spl_off {α : Type} {l cs : List α} {o p m : Nat} (h : o + cs.length ≤ l.length) (hp : p + m ≤ o ∨ o + cs.length ≤ p) : ((splice l o cs).drop p).take m = (l.drop p).take m := by
 apply List.ext_getElem?
 intro j
 rw [List.getElem?_take, List.getElem?_take, List.getElem?_drop, List.getElem?_drop, spl_get h]
 by_cases hj : j < m
 ·rw [if_pos hj, if_pos hj]
  rcases hp with hp | hp
  ·rw [if_pos (by omega)]
  ·rw [if_neg (by omega), if_neg (by omega)]
 ·rw [if_neg hj, if_neg hj]
theorem sec_turn (t r : Nat) : ((sec t r).drop 8).take 8 = bytesOf t 8 := by
 unfold sec sealL
 rw [length_sec2, spl_off (by rw [length_bytesOf, length_sec2]; omega) (Or.inl (by omega))]
 unfold sec2
 rw [spl_off (by rw [length_bytesOf, length_sec1]; omega) (Or.inl (by omega))]
 unfold sec1
 exact spl_mid (by rw [length_bytesOf, length_sec0]; omega) _ (by rw [length_bytesOf])
theorem sec_root (t r : Nat) : ((sec t r).drop 16).take 2 = bytesOf r 2 := by
 unfold sec sealL
 rw [length_sec2, spl_off (by rw [length_bytesOf, length_sec2]; omega) (Or.inl (by omega))]
 unfold sec2
 exact spl_mid (by rw [length_bytesOf, length_sec1]; omega) _ (by rw [length_bytesOf])
theorem sec_mark (t r : Nat) : (sec t r).take 8 = markL := by
 have h : ((sec t r).drop 0).take 8 = markL := by
  unfold sec sealL
  rw [length_sec2, spl_off (by rw [length_bytesOf, length_sec2]; omega) (Or.inl (by omega))]
  unfold sec2
  rw [spl_off (by rw [length_bytesOf, length_sec1]; omega) (Or.inl (by omega))]
  unfold sec1
  rw [spl_off (by rw [length_bytesOf, length_sec0]; omega) (Or.inl (by omega))]
  decide
 simpa using h
theorem blk_sec (t r : Nat) : (blk t r).take 32 = sec t r := by
 have h : ((blk t r).drop 0).take 32 = sec t r := spl_mid (by rw [length_sec, List.length_replicate]; omega) _ (by rw [length_sec])
 simpa using h
theorem take_in {α : Type} (B : List α) (p m k : Nat) (h : p + m ≤ k) : (B.drop p).take m = ((B.take k).drop p).take m := by
 rw [List.drop_take, List.take_take, Nat.min_eq_left (by omega)]
theorem rdH_sec {t r : Nat} {B : List UInt8} (hB : B.take 32 = sec t r) (ht : t < 18446744073709551616) (hr : r < 65536) : rdH (t % 2) B = some (t, r) := by
 unfold rdH
 rw [take_in B 8 8 32 (by omega), take_in B 16 2 32 (by omega), hB, sec_turn, sec_root, leNum_bytesOf, leNum_bytesOf, show t % 2 ^ (8 * 8) = t from Nat.mod_eq_of_lt (by simpa using ht), show r % 2 ^ (8 * 2) = r from Nat.mod_eq_of_lt (by simpa using hr), if_pos ⟨rfl, rfl⟩]
theorem rdH_blk {t r : Nat} (ht : t < 18446744073709551616) (hr : r < 65536) : rdH (t % 2) (blk t r) = some (t, r) := rdH_sec (blk_sec t r) ht hr
theorem rdH_some {i t r : Nat} {B : List UInt8} (h : rdH i B = some (t, r)) : t % 2 = i ∧ B.take 32 = sec t r := by
 unfold rdH at h
 split at h
 ·rename_i hc
  simp only [Option.some.injEq, Prod.mk.injEq] at h
  rw [h.1, h.2] at hc
  exact ⟨hc.1, hc.2.symm⟩
 ·cases h
theorem rdH_none {i : Nat} {B : List UInt8} (h : B.take 8 ≠ markL) : rdH i B = none := by
 cases hc : rdH i B with
 | none => rfl
 | some x =>
  obtain ⟨t, r⟩ := x
  have h2 := (rdH_some hc).2
  have h3 := sec_mark t r
  rw [← h2, List.take_take, Nat.min_eq_left (by omega)] at h3
  exact absurd h3 h
theorem block_set {L B : List UInt8} {n i : Nat} (hL : L.length = n * 128) (hi : i < n) (hB : B.length = 128) (j : Nat) : blockOf (setBlock L i B) j = if j = i then B else blockOf L j := by
 have hn : i * 128 + 128 ≤ n * 128 := by omega
 unfold blockOf setBlock
 by_cases h : j = i
 ·subst h
  rw [if_pos rfl]
  exact spl_mid (by rw [hB, hL]; omega) _ hB.symm
 ·rw [if_neg h]
  exact spl_off (by rw [hB, hL]; omega) (by rw [hB]; omega)

end Go.Proofs.YtcklgafpgdhnaaaGreatDoor

namespace Go.Proofs.YtcklgafpgdhnaaaGreatDoor
open Go.RowKit

def St (k : Nat) (L : List UInt8) : Prop := if k = 0 then rdH 0 (blockOf L 0) = none ∧ rdH 1 (blockOf L 1) = none else rdH 0 (blockOf L 0) = some (2 * k, 0) ∧ rdH 1 (blockOf L 1) = some (2 * k - 1, 0)
theorem newest_q {L : List UInt8} {c wr t : Int} : newestD (Dq L c wr t) = nwst (rdH 0 (blockOf L 0)) (rdH 1 (blockOf L 1)) := rfl
theorem St.newest {k : Nat} {L : List UInt8} (h : St k L) (hk : k ≤ 50000) {c wr t : Int} : newestD (Dq L c wr t) = ((2 * k, 0), decide (0 < k)) := by
 rw [newest_q]
 unfold St at h
 split at h
 ·subst k
  rw [h.1, h.2]
  rfl
 ·rw [h.1, h.2]
  have e : nwr (2 * k - 1) (2 * k) = false := by
   unfold nwr
   have e1 : (((2 * k - 1 : Nat) : Int) - ((2 * k : Nat) : Int)) = -1 := by omega
   rw [e1]
   have e3 : IntKind.u64.wrap (-1) = 18446744073709551615 := by kernel_rfl
   rw [e3]
   exact decide_eq_false (by simp [wrap64])
  have e2 : decide (0 < k) = true := decide_eq_true (by omega)
  simp [nwst, e, e2]
theorem St_zero (N : Nat) (h : 1024 ≤ N) : St 0 (List.replicate N 0) := by
 have key : ∀ i, i ≤ 1 → (blockOf (List.replicate N 0) i).take 8 ≠ markL := by
  intro i hi
  unfold blockOf
  rw [List.drop_replicate, List.take_replicate, List.take_replicate, Nat.min_eq_left (by omega)]
  decide
 unfold St
 rw [if_pos rfl]
 exact ⟨rdH_none (key 0 (by omega)), rdH_none (key 1 (by omega))⟩
theorem Lh.dev {L : List UInt8} {c wr t : Int} {T R : Nat} {D' : Dv} (h : Lh (Dq L c wr t) T R D') : D' = Dq (setBlock L (T % 2) (blk T R)) D'.c D'.wr t := by
 obtain ⟨D1, h1, h2⟩ := h
 have a1 := h2.L
 have a2 := h2.q
 have a3 := h2.t.trans h1.t
 have a4 := h2.off.trans h1.off
 have a5 := h2.fr.trans h1.fr
 have a6 := h2.to.trans h1.to
 rw [h1.L, h1.q] at a1
 obtain ⟨L', q', c', wr', t', o', f', u'⟩ := D'
 simp only [Dq] at *
 subst a1 a2 a3 a4 a5 a6
 rfl
theorem Lf.bad {L : List UInt8} {c wr t : Int} {T R : Nat} {D' : Dv} (h : Lf (Dq L c wr t) T R D') : False := by
 rcases h with h | ⟨D1, h1, h2⟩
 ·exact h.bad ⟨rfl, rfl, rfl⟩
 ·exact h2.bad (h1.good.2 ⟨rfl, rfl, rfl⟩)
theorem St.next {k n : Nat} {L : List UInt8} (hk : k ≤ 50000) (hL : L.length = n * 128) (hn : 8 ≤ n) : St (k + 1) (setBlock (setBlock L ((2 * k + 1) % 2) (blk (2 * k + 1) 0)) ((2 * k + 2) % 2) (blk (2 * k + 2) 0)) := by
 have e1 : (2 * k + 1) % 2 = 1 := by omega
 have e2 : (2 * k + 2) % 2 = 0 := by omega
 have g1 := rdH_blk (t := 2 * k + 1) (r := 0) (by omega) (by omega)
 have g2 := rdH_blk (t := 2 * k + 2) (r := 0) (by omega) (by omega)
 rw [e1] at g1
 rw [e2] at g2
 unfold St
 rw [if_neg (by omega), e1, e2]
 have hl := length_setBlock L (blk (2 * k + 1) 0) n 1 hL (by omega) (length_blk _ _)
 rw [block_set hl (by omega) (length_blk _ _), if_pos rfl, block_set hl (by omega) (length_blk _ _), if_neg (by omega), block_set hL (by omega) (length_blk _ _), if_pos rfl]
 exact ⟨g2, g1⟩

end Go.Proofs.YtcklgafpgdhnaaaGreatDoor
