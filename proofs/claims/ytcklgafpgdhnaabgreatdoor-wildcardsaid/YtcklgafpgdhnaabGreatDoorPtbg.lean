import Derived.Test.YtcklgafpgdhnaabGreatDoorPtbf
import Derived.Test.YtcklgafpgdhnaabGreatDoorPtbe
import Derived.Test.YtcklgafpgdhnaabGreatDoorPtaq
import Derived.Test.YtcklgafpgdhnaabGreatDoorPtbd
import Derived.Test.YtcklgafpgdhnaabGreatDoorPtar
set_option maxRecDepth 100000
set_option maxHeartbeats 4000000
open List renaming getElem_toArray → zA, getElem_cons_succ → zB, getElem_cons_zero → zC, setIfInBounds_toArray → zD, set_cons_succ → zE, set_cons_zero → zF
namespace Go.Proofs.YtcklgafpgdhnaabGreatDoor
open Go.RowKit

theorem tMany_snoc {α : Type} (t : List UInt8 → Option (α × List UInt8)) : ∀ (j : Nat) (R : List UInt8), tMany t (j + 1) R = match tMany t j R with
  | none => none
  | some (l, R1) => match t R1 with
   | none => none
   | some (a, R2) => some (l ++ [a], R2)
 | 0, R => by
  simp only [tMany]
  cases t R with
  | none => rfl
  | some r => obtain ⟨a, R2⟩ := r; rfl
 | j + 1, R => by
  rw [tMany]
  cases h : t R with
  | none => simp only [tMany, h]
  | some r =>
   obtain ⟨a, R1⟩ := r
   simp only [tMany_snoc t j R1]
   rw [tMany, h]
   simp only
   cases tMany t j R1 with
   | none => rfl
   | some q =>
    obtain ⟨l, R2⟩ := q
    simp only
    cases t R2 with
    | none => rfl
    | some z => obtain ⟨b, R3⟩ := z; rfl
theorem tMany_break {α : Type} (t : List UInt8 → Option (α × List UInt8)) (j : Nat) (R R1 : List UInt8) (l : List α) (h1 : tMany t j R = some (l, R1)) (h2 : t R1 = none) : ∀ k, tMany t (j + 1 + k) R = none
 | 0 => by rw [Nat.add_zero, tMany_snoc, h1]; simp only [h2]
 | k + 1 => by rw [← Nat.add_assoc, tMany_snoc, tMany_break t j R R1 l h1 h2 k]

def encQ (p : Pr) : Value := .agg #[.string p.1, .string p.2]
def encK (k : ByteArray × Nat) : Value := .agg #[.string k.1, .int .i64 (k.2 : Nat), .nilIface]
theorem zpairD (w : World) : (Instr.alloc 138 true (.tuple #[])).run Tryz.prog w = .ok (.pointer (some ⟨w.heap.size, 0, none⟩)) (w.alloc (.cells #[.string ⟨#[]⟩, .string ⟨#[]⟩] 138)) := by kernel_rfl
theorem one2p (p : Pr) : ∀ u ∈ pe p, u.oneCell' = true := by intro u hu; simp [pe] at hu; rcases hu with rfl | rfl <;> rfl

theorem takePair_any (q g : Nat) (B R : List UInt8) (w : World) (h : Rst w q g B R) : Calls Tryz.prog 138 #[.pointer (some ⟨q, 0, none⟩)] w (TkE q g B encQ (tPair R) w) := by
 have hq := lt_heap h.v
 have HT : Hid (∀ m R W, Rst W q g B R → Calls Tryz.prog 148 #[.pointer (some ⟨q, 0, none⟩), .int .i64 (m : Nat)] W (TkE q g B Value.string (tText m R) W)) := fun m R W hW => text_any q g B R m W hW
 have HR : Hid (Rst w q g B R) := h
 clear h
 cases h1 : tText 8 R with
 | none =>
  have HE : Hid (tPair R = none) := by show _ = _; unfold tPair; rw [h1]
  have HT1 : Hid (∀ W, Rst W q g B R → Calls Tryz.prog 148 #[.pointer (some ⟨q, 0, none⟩), .int .i64 8] W (TkE q g B Value.string none W)) := fun W hW => h1 ▸ HT.out 8 R W hW
  go_enter Tryz.func138, Tryz.ntmps138
  go_wp2_with (first
   | (refine wpList_alloc_d rfl 2 rfl 138 rfl _ (zpairD _) ?_; intro w1 n1 k1 hs1)
   | (go_at_call 148; refine (HT1.out w1 (HR.out.k k1)).mono ?_; rintro e w2 ⟨ht, k2⟩; obtain ⟨f, o, rfl, hf⟩ := Thr.ex ht))
  refine ⟨rfl, ?_⟩
  rw [HE.out]
  exact ⟨ht, (k1.mono (by simp)).trans k2⟩
 | some z =>
  obtain ⟨k, R1⟩ := z
  have HT1 : Hid (∀ W, Rst W q g B R → Calls Tryz.prog 148 #[.pointer (some ⟨q, 0, none⟩), .int .i64 8] W (TkE q g B Value.string (some (k, R1)) W)) := fun W hW => h1 ▸ HT.out 8 R W hW
  cases h2 : tText 12 R1 with
  | none =>
   have HE : Hid (tPair R = none) := by show _ = _; unfold tPair; rw [h1]; simp only [h2]
   have HT2 : Hid (∀ W, Rst W q g B R1 → Calls Tryz.prog 148 #[.pointer (some ⟨q, 0, none⟩), .int .i64 12] W (TkE q g B Value.string none W)) := fun W hW => h2 ▸ HT.out 12 R1 W hW
   go_enter Tryz.func138, Tryz.ntmps138
   go_wp2_with (refine wpList_alloc_d rfl 2 rfl 138 rfl _ (zpairD _) ?_; intro w1 n1 k1 hs1)
   refine (HT1.out w1 (HR.out.k k1)).mono ?_
   rintro e w2 ⟨⟨rfl, r2⟩, k2⟩
   go_wp2_with fail
   refine (HT2.out w2 r2).mono ?_
   rintro e w3 ⟨ht, k3⟩
   obtain ⟨f, o, rfl, hf⟩ := Thr.ex ht
   refine ⟨rfl, ?_⟩
   rw [HE.out]
   exact ⟨ht, ((k1.mono (by simp)).trans k2).trans k3⟩
  | some z2 =>
   obtain ⟨v, R2⟩ := z2
   have HE : Hid (tPair R = some ((k, v), R2)) := by show _ = _; unfold tPair; rw [h1]; simp only [h2]
   have HT2 : Hid (∀ W, Rst W q g B R1 → Calls Tryz.prog 148 #[.pointer (some ⟨q, 0, none⟩), .int .i64 12] W (TkE q g B Value.string (some (v, R2)) W)) := fun W hW => h2 ▸ HT.out 12 R1 W hW
   go_enter Tryz.func138, Tryz.ntmps138
   go_wp2_with (refine wpList_alloc_d rfl 2 rfl 138 rfl _ (zpairD _) ?_; intro w1 n1 k1 hs1)
   refine (HT1.out w1 (HR.out.k k1)).mono ?_
   rintro e w2 ⟨⟨rfl, r2⟩, k2⟩
   go_wp2_with fail
   refine (HT2.out w2 r2).mono ?_
   rintro e w3 ⟨⟨rfl, r3⟩, k3⟩
   have n3 := k3.get (k2.get n1 (by simp; omega)) (by simp; omega)
   have hb : ∀ W : World, (Instr.build 52 #[(0, .string k), (1, .string v)]).run Tryz.prog W = .ok (.agg #[.string k, .string v]) W := fun W => by kernel_rfl
   have hb2 : ∀ W : World, (Instr.build 138 #[(0, .agg #[.string k, .string v])]).run Tryz.prog W = .ok (.agg #[.string k, .string v]) W := fun W => by kernel_rfl
   go_wp2_with (refine wpList_store_k rfl 138 (.tmp 2) (.tmp 10) rfl w.heap.size #[.string k, .string v] rfl rfl 138 _ n3 stp rfl (all_of (one2p (k, v))) ?_; intro w4 n4 k4)
   refine bodyPost_ret (results_cell_row rfl _ w4 w.heap.size 138 _ (0, 0) _ rfl n4 Tryz.underlying138 rfl stp) rfl ?_
   rw [HE.out]
   refine ⟨⟨rfl, ⟨k4.get r3.v (by simp; omega), k4.get r3.b (by simp; have h1 := lt_heap HR.out.b; omega), r3.l, r3.r, r3.e⟩⟩, (((k1.mono (by simp)).trans k2).trans k3).trans2 k4 (by intro y hy; simp at hy; subst hy; exact Or.inr (Nat.le_refl _))⟩

theorem takeKid_any (q g : Nat) (B R : List UInt8) (w : World) (h : Rst w q g B R) : Calls Tryz.prog 140 #[.pointer (some ⟨q, 0, none⟩)] w (TkE q g B encK (tKid R) w) := by
 have hq := lt_heap h.v
 have HT := text_any q g B R 8
 have HR : Hid (Rst w q g B R) := h
 clear h
 cases h1 : tText 8 R with
 | none =>
  have HE : Hid (tKid R = none) := by show _ = _; unfold tKid; rw [h1]
  have HT1 : Hid (∀ W, Rst W q g B R → Calls Tryz.prog 148 #[.pointer (some ⟨q, 0, none⟩), .int .i64 8] W (TkE q g B Value.string none W)) := fun W hW => h1 ▸ HT W hW
  clear HT
  go_enter Tryz.func140, Tryz.ntmps140
  go_wp2_with (refine wpList_alloc_d rfl 2 rfl 75 rfl _ (zkid _) ?_; intro w1 n1 k1 hs1)
  refine (HT1.out w1 (HR.out.k k1)).mono ?_
  rintro e w2 ⟨ht, k2⟩
  obtain ⟨f, o, rfl, hf⟩ := Thr.ex ht
  refine ⟨rfl, ?_⟩
  rw [HE.out]
  exact ⟨ht, (k1.mono (by simp)).trans k2⟩
 | some z =>
  obtain ⟨k, R1⟩ := z
  have hk8 := (tText_some h1).2
  have HT1 : Hid (∀ W, Rst W q g B R → Calls Tryz.prog 148 #[.pointer (some ⟨q, 0, none⟩), .int .i64 8] W (TkE q g B Value.string (some (k, R1)) W)) := fun W hW => h1 ▸ HT W hW
  have hsub : (8 : Int) - (k.size : Int) = ((8 - k.size : Nat) : Int) := by omega
  clear HT
  by_cases hb : 8 - k.size ≤ R1.length
  ·have HB : Hid (∀ W, Rst W q g B R1 → Calls Tryz.prog 149 #[.pointer (some ⟨q, 0, none⟩), .int .i64 ((8 : Int) - (k.size : Int))] W fun e w' => e = .returned (.slice (some ⟨g, 124 - R1.length, none⟩) (8 - k.size) (R1.length + 4)) ∧ Rst w' q g B (R1.drop (8 - k.size)) ∧ Kept [q] W w') := fun W hW => by rw [hsub]; exact bytes_ok q g B R1 (8 - k.size) W hW hb
   by_cases hb2 : 8 - k.size + 2 ≤ R1.length
   ·have HE : Hid (tKid R = some ((k, leNum ((R1.drop (8 - k.size)).take 2)), R1.drop (8 - k.size + 2))) := by show _ = _; unfold tKid; rw [h1]; simp only; rw [if_pos hb2]
    have HN : Hid (∀ W, Rst W q g B (R1.drop (8 - k.size)) → Calls Tryz.prog 150 #[.pointer (some ⟨q, 0, none⟩), .int .i64 2] W fun e w' => e = .returned (.int .i64 (leNum ((R1.drop (8 - k.size)).take 2) : Nat)) ∧ Rst w' q g B (R1.drop (8 - k.size + 2)) ∧ Kept [q] W w') := fun W hW => by
     have := number_ok q g B (R1.drop (8 - k.size)) 2 W hW (by rw [List.length_drop]; omega) (by omega)
     rw [List.drop_drop] at this
     exact this
    generalize leNum ((R1.drop (8 - k.size)).take 2) = m at *
    have hbd : ∀ W : World, (Instr.build 75 #[(0, .string k), (1, .int .i64 (m : Nat))]).run Tryz.prog W = .ok (.agg #[.string k, .int .i64 (m : Nat), .nilIface]) W := fun W => by kernel_rfl
    clear hsub
    go_enter Tryz.func140, Tryz.ntmps140
    go_wp2_with (refine wpList_alloc_d rfl 2 rfl 75 rfl _ (zkid _) ?_; intro w1 n1 k1 hs1)
    refine (HT1.out w1 (HR.out.k k1)).mono ?_
    rintro e w2 ⟨⟨rfl, r2⟩, k2⟩
    go_wp2_with fail
    refine (HB.out w2 r2).mono ?_
    rintro e w3 ⟨rfl, r3, k3⟩
    go_wp2_with fail
    refine (HN.out w3 r3).mono ?_
    rintro e w4 ⟨rfl, r4, k4⟩
    have n4 := k4.get (k3.get (k2.get n1 (by simp; omega)) (by simp; omega)) (by simp; omega)
    go_wp2_with (refine wpList_store_k rfl 75 (.tmp 2) (.tmp 14) rfl w.heap.size #[.string k, .int .i64 (m : Nat), .nilIface] rfl rfl 75 _ n4 stk rfl (all_of (one3f _ _ rfl)) ?_; intro w5 n5 k5)
    refine bodyPost_ret (results_cell_row rfl _ w5 w.heap.size 75 _ (0, 0) _ rfl n5 Tryz.underlying75 rfl stk) rfl ?_
    rw [HE.out]
    refine ⟨⟨rfl, ⟨k5.get r4.v (by simp; omega), k5.get r4.b (by simp; have h1 := lt_heap HR.out.b; omega), r4.l, r4.r, r4.e⟩⟩, ((((k1.mono (by simp)).trans k2).trans k3).trans k4).trans2 k5 (by intro y hy; simp at hy; subst hy; exact Or.inr (Nat.le_refl _))⟩
   ·have HE : Hid (tKid R = none) := by show _ = _; unfold tKid; rw [h1]; simp only; rw [if_neg hb2]
    have HN : Hid (∀ W, Rst W q g B (R1.drop (8 - k.size)) → Calls Tryz.prog 150 #[.pointer (some ⟨q, 0, none⟩), .int .i64 2] W fun e w' => Thr 7 e w' ∧ Kept [] W w') := fun W hW => number_no q g B (R1.drop (8 - k.size)) 2 W hW (by rw [List.length_drop]; omega)
    clear hsub
    go_enter Tryz.func140, Tryz.ntmps140
    go_wp2_with (refine wpList_alloc_d rfl 2 rfl 75 rfl _ (zkid _) ?_; intro w1 n1 k1 hs1)
    refine (HT1.out w1 (HR.out.k k1)).mono ?_
    rintro e w2 ⟨⟨rfl, r2⟩, k2⟩
    go_wp2_with fail
    refine (HB.out w2 r2).mono ?_
    rintro e w3 ⟨rfl, r3, k3⟩
    go_wp2_with fail
    refine (HN.out w3 r3).mono ?_
    rintro e w4 ⟨ht, k4⟩
    obtain ⟨f, o, rfl, hf⟩ := ht.ex
    refine ⟨rfl, ?_⟩
    rw [HE.out]
    exact ⟨ht, (((k1.mono (by simp)).trans k2).trans k3).trans2 k4 (by simp)⟩
  ·have HE : Hid (tKid R = none) := by show _ = _; unfold tKid; rw [h1]; simp only; rw [if_neg (by omega)]
   have HB : Hid (∀ W, Rst W q g B R1 → Calls Tryz.prog 149 #[.pointer (some ⟨q, 0, none⟩), .int .i64 ((8 : Int) - (k.size : Int))] W fun e w' => Thr 7 e w' ∧ Kept [] W w') := fun W hW => by rw [hsub]; exact bytes_no q g B R1 (8 - k.size) W hW (by omega)
   clear hsub
   go_enter Tryz.func140, Tryz.ntmps140
   go_wp2_with (refine wpList_alloc_d rfl 2 rfl 75 rfl _ (zkid _) ?_; intro w1 n1 k1 hs1)
   refine (HT1.out w1 (HR.out.k k1)).mono ?_
   rintro e w2 ⟨⟨rfl, r2⟩, k2⟩
   go_wp2_with fail
   refine (HB.out w2 r2).mono ?_
   rintro e w3 ⟨ht, k3⟩
   obtain ⟨f, o, rfl, hf⟩ := ht.ex
   refine ⟨rfl, ?_⟩
   rw [HE.out]
   exact ⟨ht, ((k1.mono (by simp)).trans k2).trans2 k3 (by simp)⟩

end Go.Proofs.YtcklgafpgdhnaabGreatDoor

namespace Go.Proofs.YtcklgafpgdhnaabGreatDoor
open Go.RowKit

theorem dBlockL (p : Option Addr) (n c : Nat) : Disp "store/tree.block" (.iface 135 (.slice p n c)) 183 (.slice p n c) := ⟨_, rfl, fun _ => by kernel_rfl, fun _ _ => by kernel_rfl⟩
theorem dBlockB (p : Option Addr) (n c : Nat) : Disp "store/tree.block" (.iface 180 (.slice p n c)) 213 (.slice p n c) := ⟨_, rfl, fun _ => by kernel_rfl, fun _ _ => by kernel_rfl⟩

theorem leafBlock_any (v : Value) (l : List Pr) (w : World) (h : LF w v l) (hk : fitsN (.leaf l)) :
  Calls Tryz.prog 183 #[v] w fun e w' => e = .returned (.agg (u8s (encL l)).toArray) ∧ Kept [] w w' := by
 have hsum : (l.flatMap pkP).length ≤ 122 := by rw [length_flatP]; exact hk.2
 have hln : l.length ≤ 200 := by have := sum_ge2 l; have := hk.2; omega
 have hel : (encL l).length = 128 := length_encI _ _ _ hsum
 have HB : Hid (∀ W, Kept [] w W → Calls Tryz.prog 194 #[.int .u8 76, v] W fun e w' => e = .returned (.agg (u8s (encL l)).toArray) ∧ Kept [] W w') := fun W kW => blockP_any 76 v l W (SL.kept h kW) hln hk.1 hsum
 generalize encL l = E at *
 go_enter Tryz.func183, Tryz.ntmps183
 go_wp2_with (first
  | (refine wpList_alloc_d rfl 2 rfl 80 rfl _ (zblk _) ?_; intro w1 n1 k1 hs1)
  | (go_at_call 194; refine (HB.out w1 k1).mono ?_; rintro e w2 ⟨rfl, k2⟩)
  | (refine wpList_store_k rfl 80 (.tmp 2) (.tmp 4) rfl w.heap.size (u8s E).toArray rfl rfl 80 _ (k2.get n1 (by simp)) (by rw [sblk]; simp [length_u8s, hel]) (by simp [length_u8s, hel]) (all_of (one_u8s _)) ?_; intro w3 n3 k3))
 refine bodyPost_ret (results_cell_row rfl _ w3 w.heap.size 80 _ (0, 0) _ rfl n3 Tryz.underlying80 rfl (by rw [sblk]; simp [length_u8s, hel])) rfl ?_
 exact ⟨rfl, (k1.trans k2).trans2 k3 (by intro y hy; simp at hy; subst hy; exact Or.inr (Nat.le_refl _))⟩

theorem brBlock_any (v : Value) (l : List KE) (w : World) (h : SL w 75 3 v (l.map ke)) (hk : fitsN (.branch (l.map kp))) (ho : ∀ x ∈ l, x.2 = .nilIface ∨ ∃ t v, x.2 = .iface t v) :
  Calls Tryz.prog 213 #[v] w fun e w' => e = .returned (.agg (u8s (encB (l.map kp))).toArray) ∧ Kept [] w w' := by
 have hk1 : ∀ x ∈ l, x.1.size ≤ 8 ∧ x.3 < 65536 := fun x hx => hk.1 (kp x) (List.mem_map.2 ⟨x, hx, rfl⟩)
 have hln := hk.2
 rw [List.length_map] at hln
 have hsum : ((l.map kp).flatMap pkK).length ≤ 122 := by rw [length_flatB _ fun k hm => (hk.1 k hm).1, List.length_map]; exact hln
 have hel : (encB (l.map kp)).length = 128 := length_encI _ _ _ hsum
 have HB : Hid (∀ W, Kept [] w W → Calls Tryz.prog 224 #[.int .u8 66, v] W fun e w' => e = .returned (.agg (u8s (encB (l.map kp))).toArray) ∧ Kept [] W w') := fun W kW => by
  have := blockK_any 66 v l W (SL.kept h kW) (by omega) hk1 hsum ho
  unfold encB
  rw [List.length_map]
  exact this
 generalize encB (l.map kp) = E at *
 go_enter Tryz.func213, Tryz.ntmps213
 go_wp2_with (first
  | (refine wpList_alloc_d rfl 2 rfl 80 rfl _ (zblk _) ?_; intro w1 n1 k1 hs1)
  | (go_at_call 224; refine (HB.out w1 k1).mono ?_; rintro e w2 ⟨rfl, k2⟩)
  | (refine wpList_store_k rfl 80 (.tmp 2) (.tmp 4) rfl w.heap.size (u8s E).toArray rfl rfl 80 _ (k2.get n1 (by simp)) (by rw [sblk]; simp [length_u8s, hel]) (by simp [length_u8s, hel]) (all_of (one_u8s _)) ?_; intro w3 n3 k3))
 refine bodyPost_ret (results_cell_row rfl _ w3 w.heap.size 80 _ (0, 0) _ rfl n3 Tryz.underlying80 rfl (by rw [sblk]; simp [length_u8s, hel])) rfl ?_
 exact ⟨rfl, (k1.trans k2).trans2 k3 (by intro y hy; simp at hy; subst hy; exact Or.inr (Nat.le_refl _))⟩

theorem F2.kps {w : World} {A : Nat → Prop} {h : Nat} {ks : List (Kid h)} {xs : List KE} (hf : F2 (KR w A h) ks xs) : xs.map kp = ks.map fun k => (k.1, k.3) := by
 apply List.ext_getElem?
 intro i
 rw [List.getElem?_map, List.getElem?_map]
 rcases Nat.lt_or_ge i ks.length with hi | hi
 ·obtain ⟨b, hb, hr⟩ := hf.get (List.getElem?_eq_getElem hi)
  rw [hb, List.getElem?_eq_getElem hi]
  simp [kp, hr.1.1, hr.1.2]
 ·rw [List.getElem?_eq_none (by rw [← hf.1]; exact hi), List.getElem?_eq_none hi]
  rfl
theorem block_nd {w : World} {A : Nat → Prop} : ∀ {h : Nat} {n : Nd h} {x : Value}, ND w A h n x → fitsN (nbN h n) → ∃ fn v, Disp "store/tree.block" x fn v ∧ Calls Tryz.prog fn #[v] w fun e w' => e = .returned (.agg (u8s (encN (nbN h n))).toArray) ∧ Kept [] w w'
 | 0, n, x, hx, hk => by
  obtain ⟨v, rfl, hl, _⟩ := hx
  have HC := leafBlock_any v n w hl hk
  obtain ⟨p, c, ev⟩ := SL.shape hl
  subst ev
  exact ⟨_, _, dBlockL _ _ _, HC⟩
 | h + 1, n, x, hx, hk => by
  obtain ⟨v, xs, rfl, hl, _, hf⟩ := ND_succ.1 hx
  have e := hf.kps
  have HC := brBlock_any v xs w hl (by rw [e]; exact hk) fun x hx => Or.inr (kids_iface hf x hx)
  rw [e] at HC
  obtain ⟨p, c, ev⟩ := SL.shape hl
  subst ev
  exact ⟨_, _, dBlockB _ _ _, HC⟩

end Go.Proofs.YtcklgafpgdhnaabGreatDoor

namespace Go.Proofs.YtcklgafpgdhnaabGreatDoor
open Go.RowKit

theorem prog_nm : 291 + Made.depth = 391 := by kernel_rfl
theorem exec_invoke0 {o : Oper} {a : Act} {w : World} (x : Operand) (nm : String) (ho : o.op = .call { callee := .invoke x nm, args := #[], argTypes := #[] }) (t : TypeId) (v : Value) (hx : a.eval x = .iface t v) (f : FuncId) (hm : (Go.method 391 t v nm).run Tryz.prog w = .ok (f, v) w) (he : (callFunc f #[v]).run Tryz.prog w = .ok (.enter f #[v]) w) :
  (execOp a.eval o).run Tryz.prog w = .ok (.enter f #[v]) w := by
 simp [execOp, ho, hx, resolve, invoke, callMethod, prog_nm, hm, he]
theorem exec_callV {P : Program} {o : Oper} {a : Act} {w : World} (x y : Operand) (t : TypeId) (ho : o.op = .call { callee := .value x, args := #[y], argTypes := #[t] }) (f : FuncId) (cs : Array Value) (hx : a.eval x = .func (.func f) #[] cs) (vy : Value) (hy : a.eval y = vy) (he : (callFunc f (#[vy] ++ cs)).run P w = .ok (.enter f (#[vy] ++ cs)) w) :
  (execOp a.eval o).run P w = .ok (.enter f (#[vy] ++ cs)) w := by
 simp [execOp, ho, hx, hy, resolve, invoke, Deferred.ofValue, he]

theorem mapO_some {α β σ : Type} (f : α → σ → β × σ) : ∀ (l : List α) (s : σ), mapO (fun a s => some (f a s)) l s = some (mapS f l s)
 | [], _ => rfl
 | x :: l, s => by simp only [mapO, mapO_some f l, mapS]
def CkN : (h : Nat) → Nd h → Prop
 | 0, l => fitsN (.leaf l)
 | h + 1, ks => 11 * List.length (α := Kid h) ks ≤ 122 ∧ ∀ k : Kid h, List.Mem k ks → k.1.size ≤ 8 ∧ k.3 < 65536 ∧ (k.3 = 0 → CkN h k.2)
def CkK (h : Nat) (k : Kid h) : Prop := k.1.size ≤ 8 ∧ k.3 < 65536 ∧ (k.3 = 0 → CkN h k.2)
theorem CkN_succ {h : Nat} {ks : List (Kid h)} : CkN (h + 1) ks ↔ 11 * ks.length ≤ 122 ∧ ∀ k ∈ ks, CkK h k := Iff.rfl
theorem mapS_mem {α β σ : Type} {f : α → σ → β × σ} {T : σ → σ → Prop} (ht : ∀ a s, T s (f a s).2) (h0 : ∀ s, T s s) (htr : ∀ a b c, T a b → T b c → T a c) {G : α → β → σ → Prop} (hG : ∀ a s s', T (f a s).2 s' → G a (f a s).1 s') : ∀ {l : List α} {s : σ} {b : β}, b ∈ (mapS f l s).1 → T s (mapS f l s).2 ∧ ∃ a ∈ l, G a b (mapS f l s).2 := by
 have hT : ∀ (l : List α) (s : σ), T s (mapS f l s).2 := by
  intro l
  induction l with
  | nil => intro s; exact h0 s
  | cons x l ih => intro s; exact htr _ _ _ (ht x s) (ih _)
 intro l
 induction l with
 | nil => intro s b hb; cases hb
 | cons x l ih =>
  intro s b hb
  refine ⟨hT _ _, ?_⟩
  rcases List.mem_cons.1 hb with rfl | hb
  ·exact ⟨x, by simp, hG x s _ (hT l _)⟩
  ·obtain ⟨_, a, ha, hg⟩ := ih hb
   exact ⟨a, by simp [ha], hg⟩
theorem layK_stp (h : Nat) (k : Kid h) (s : Ls) : Stp s (layK h k s).2 := by
 unfold layK
 split
 ·exact (lay_stp h k.2 s).1.step _
 ·exact .refl s
theorem Stp.us {s s' : Ls} (h : Stp s s') : ∀ b ∈ s.us, b ∈ s'.us := by
 induction h with
 | refl => exact fun _ h => h
 | step _ B ih => exact fun b hb => by simp [Ls.step, ih b hb]
theorem lay_fits (h : Nat) (n : Nd h) (s : Ls) (hc : CkN h n) (hu : ∀ u ∈ (layN h n s).2.us, u < 65536) : fitsN (nbN h (layN h n s).1) := by
 cases h with
 | zero => exact hc
 | succ h =>
  have key : ∀ (ks : List (Kid h)), (11 * ks.length ≤ 122 ∧ ∀ k ∈ ks, CkK h k) → (∀ u ∈ (mapS (layK h) ks s).2.us, u < 65536) → fitsN (.branch ((mapS (layK h) ks s).1.map fun k : Kid h => (k.1, k.3))) := by
   intro ks hc hu
   refine ⟨?_, by rw [List.length_map, mapS_len]; exact hc.1⟩
   intro q hq
   obtain ⟨k', hk', rfl⟩ := List.mem_map.1 hq
   obtain ⟨_, k, hk, h1, h2⟩ := mapS_mem (T := Stp) (fun a s => layK_stp h a s) Stp.refl (fun _ _ _ => Stp.trans) (G := fun (k k' : Kid h) s' => k'.1 = k.1 ∧ (k'.3 = k.3 ∨ k'.3 ∈ s'.us)) (by
    intro a s s' hs
    unfold layK at hs ⊢
    split
    ·rename_i e
     rw [if_pos e] at hs
     exact ⟨rfl, Or.inr (hs.us _ (by simp [Ls.step]))⟩
    ·exact ⟨rfl, Or.inl rfl⟩) hk'
   have := hc.2 k hk
   refine ⟨by show k'.1.size ≤ 8; rw [h1]; exact this.1, ?_⟩
   rcases h2 with e | e
   ·show k'.3 < 65536
    rw [e]
    exact this.2.1
   ·exact hu _ e
  exact key n (CkN_succ.1 hc) hu

structure Lyr (fid : FuncId) (c1 c2 : Value) (I : Ls → World → Prop) (J : Ending → World → Prop) (B : Nat) : Prop where
 en : ∀ (args : Array Value) (W : World), (callFunc fid args).run Tryz.prog W = .ok (.enter fid args) W
 call : ∀ (s : Ls) (b : List UInt8) (W : World), I s W → b.length = 128 → B ≤ W.heap.size → Calls Tryz.prog fid #[.agg (u8s b).toArray, c1, c2] W fun e W' => ((e = .returned (.int .i64 (tk s.us : Nat)) ∧ I (s.step b) W') ∨ J e W') ∧ KA Tru W W'
 fresh : ∀ (s : Ls) (W W' : World) (S : List Nat), I s W → Kept S W W' → (∀ y ∈ S, B ≤ y ∧ Tg W y 75) → I s W'
 bnd : ∀ (s : Ls) (W : World), I s W → ∀ u ∈ s.us, u < 65536
 jp : ∀ (e : Ending) (W : World), J e W → ∃ c, e = .panicked c
def lfv (fid : FuncId) (c1 c2 : Value) : Value := .func (.func fid) #[] #[c1, c2]
def LdR (I : Ls → World → Prop) (J : Ending → World → Prop) (h : Nat) (s : Ls) (k : Kid h) (A : Nat → Prop) (W : World) (e : Ending) (W' : World) : Prop :=
 ((∃ x', e = .returned (.agg #[.string k.1, .int .i64 ((layK h k s).1.3 : Nat), x']) ∧ ND W' (fun y => A y ∨ W.heap.size ≤ y) h (layK h k s).1.2 x' ∧ I (layK h k s).2 W') ∨ J e W') ∧ KA Tru W W'
def LdOk (fid : FuncId) (c1 c2 : Value) (I : Ls → World → Prop) (J : Ending → World → Prop) (B : Nat) (h : Nat) : Prop :=
 ∀ (s : Ls) (k : Kid h) (x : Value) (A : Nat → Prop) (W : World), ND W A h k.2 x → (∀ y, A y → y < W.heap.size) → CkK h k → I s W → B ≤ W.heap.size → Calls Tryz.prog 94 #[.agg #[.string k.1, .int .i64 (k.3 : Nat), x], lfv fid c1 c2] W (LdR I J h s k A W)

end Go.Proofs.YtcklgafpgdhnaabGreatDoor
