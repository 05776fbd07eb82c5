import Derived.Test.YtcklgafpgdhnaabGreatDoorPqam
import Derived.Shelf.Abstract
set_option maxRecDepth 100000
set_option maxHeartbeats 4000000
open Go.Proofs.Tryz
namespace Go.Proofs.YtcklgafpgdhnaabGreatDoor
open Go.RowKit
theorem Q4J (p : Option Addr) (n c : Nat) : qY "store/tree.first" (.iface 135 (.slice p n c)) 186 (.slice p n c) := ⟨_, rfl, fun _ => by kernel_rfl, fun _ _ => by kernel_rfl⟩
theorem Q4K (p : Option Addr) (n c : Nat) : qY "store/tree.first" (.iface 180 (.slice p n c)) 216 (.slice p n c) := ⟨_, rfl, fun _ => by kernel_rfl, fun _ _ => by kernel_rfl⟩
theorem Q4L (p : Option Addr) (n c : Nat) : qY "store/tree.halves" (.iface 135 (.slice p n c)) 187 (.slice p n c) := ⟨_, rfl, fun _ => by kernel_rfl, fun _ _ => by kernel_rfl⟩
theorem Q4M (p : Option Addr) (n c : Nat) : qY "store/tree.halves" (.iface 180 (.slice p n c)) 217 (.slice p n c) := ⟨_, rfl, fun _ => by kernel_rfl, fun _ _ => by kernel_rfl⟩
theorem Q4N (p : Option Addr) (n c : Nat) : qY "store/tree.joined" (.iface 135 (.slice p n c)) 188 (.slice p n c) := ⟨_, rfl, fun _ => by kernel_rfl, fun _ _ => by kernel_rfl⟩
theorem Q4O (p : Option Addr) (n c : Nat) : qY "store/tree.joined" (.iface 180 (.slice p n c)) 218 (.slice p n c) := ⟨_, rfl, fun _ => by kernel_rfl, fun _ _ => by kernel_rfl⟩
theorem jB : (prog.info? 75).map (·.size) = some 3 := by kernel_rfl
theorem ZE (v : Value) (q : Pr) (r : List Pr) (w : World) (h : LF w v (q :: r)) : Calls prog 186 #[v] w fun e w' => e = .returned (.string q.1) /\ y5 [] w w' := by
 obtain ⟨g, off, cap, cur, ev, hg, hc1, hc2, hc3, hcur⟩ := SL.at_ h (by simp)
 subst ev
 have hc := (hcur 0 (pe q) rfl).2 0 _ rfl
 have c1 : w.cell? ⟨g, off, none⟩ = some (.string q.1) := by rw [cell_of_row _ _ _ _ _ _ hg]; simpa using hc
 have hlt : 0 < (List.map pe (q :: r)).length := by simp
 generalize (List.map pe (q :: r)).length = m at hlt ⊢
 clear hcur hc
 go_enter func186, ntmps186
 go_wp2_with (first
  | (refine y8 rfl _ _ (ya 135 (.tmp 3) (.const (.int .i64 0)) rfl g off m cap 0 2 rfl rfl 138 underlying135 stp hlt off (by omega)) ?_))
 go_ret
 exact ⟨rfl, y5.refl _ _⟩
theorem Q4P (v : Value) (q : KE) (r : List KE) (w : World) (h : SL w 75 3 v ((q :: r).map ke)) : Calls prog 216 #[v] w fun e w' => e = .returned (.string q.1) /\ y5 [] w w' := by
 obtain ⟨g, off, cap, cur, ev, hg, hc1, hc2, hc3, hcur⟩ := SL.at_ h (by simp)
 subst ev
 have hc := (hcur 0 (ke q) rfl).2 0 _ rfl
 have c1 : w.cell? ⟨g, off, none⟩ = some (.string q.1) := by rw [cell_of_row _ _ _ _ _ _ hg]; simpa using hc
 have hlt : 0 < (List.map ke (q :: r)).length := by simp
 generalize (List.map ke (q :: r)).length = m at hlt ⊢
 clear hcur hc
 go_enter func216, ntmps216
 go_wp2_with (first
  | (refine y8 rfl _ _ (ya 180 (.tmp 3) (.const (.int .i64 0)) rfl g off m cap 0 3 rfl rfl 75 underlying180 jB hlt off (by omega)) ?_))
 go_ret
 exact ⟨rfl, y5.refl _ _⟩
theorem Q4Q (v : Value) (l : List Pr) (w : World) (h : LF w v l) (hs : Sm 0 l) (h0 : yJ psz l < l.length) : Calls prog 187 #[v] w fun e w' =>
  ∃ a b, e = .returned (.tuple #[.iface 135 a, .iface 135 b]) /\ LF w' a (l.take (yJ psz l)) /\ LF w' b (l.drop (yJ psz l)) /\ (∀ y, a.ownBlock = some y -> v.ownBlock = some y) /\ (∀ y, b.ownBlock = some y -> v.ownBlock = some y) /\ y5 [] w w' := by
 have HM : Hid (Calls _ _ _ _ _) := Q3w v l w h (by have := hs.2; omega) (fun x hx => Z5 (hs.1 x hx)) h0
 obtain ⟨p, c, ev⟩ := SL.shape h
 rw [List.length_map] at ev
 subst ev
 clear h hs h0
 go_enter func187, ntmps187
 go_wp2_with (first | (go_at_call 195; refine HM.out.mono ?_; rintro e w1 ⟨a, b, rfl, ha, hb, oa, ob, hk1⟩))
 go_ret2
 exact ⟨_, _, rfl, ha, hb, oa, ob, hk1⟩
theorem Q4R (v : Value) (l : List KE) (w : World) (h : SL w 75 3 v (l.map ke)) (hl : l.length <= 1000) (ho : ∀ x ∈ l, ∃ t v, x.2 = .iface t v) (h0 : yJ ksz l < l.length) : Calls prog 217 #[v] w fun e w' =>
  ∃ a b, e = .returned (.tuple #[.iface 180 a, .iface 180 b]) /\ SL w' 75 3 a ((l.take (yJ ksz l)).map ke) /\ SL w' 75 3 b ((l.drop (yJ ksz l)).map ke) /\ (∀ y, a.ownBlock = some y -> v.ownBlock = some y) /\ (∀ y, b.ownBlock = some y -> v.ownBlock = some y) /\ y5 [] w w' := by
 have HM : Hid (Calls _ _ _ _ _) := Q3x v l w h (by omega) (fun x hx => by show 11 <= 22; omega) ho h0
 obtain ⟨p, c, ev⟩ := SL.shape h
 rw [List.length_map] at ev
 subst ev
 clear h hl ho h0
 go_enter func217, ntmps217
 go_wp2_with (first | (go_at_call 228; refine HM.out.mono ?_; rintro e w1 ⟨a, b, rfl, ha, hb, oa, ob, hk1⟩))
 go_ret2
 exact ⟨_, _, rfl, ha, hb, oa, ob, hk1⟩
theorem Q4S {α β : Type} (whole : Nat) : ∀ (part : Nat) (l : List α) (l' : List β), l.length = l'.length -> Q4 (fun _ : α => 11) whole part l = Q4 (fun _ : β => 11) whole part l'
 | _, [], [], _ => rfl
 | _, [], _ :: _, h => by simp at h
 | _, _ :: _, [], h => by simp at h
 | part, _ :: r, _ :: r', h => by
  rw [Q4, Q4, Q4S whole (part + 11) r r' (by simpa using h)]
theorem Q4T {α : Type} (l : List α) : (l.map fun _ : α => 11).sum = 11 * l.length := by
 induction l with
 | nil => rfl
 | cons a r ih => simp [ih]; omega
theorem Q4U {α β : Type} (l : List α) (l' : List β) (h : l.length = l'.length) : yJ (fun _ : α => 11) l = yJ (fun _ : β => 11) l' := by
 unfold yJ
 rw [Q4T, Q4T, h]
 exact Q4S _ _ _ _ h
def Hf : (h : Nat) -> Nd h -> Prop
 | 0, l => yJ psz l < List.length (α := Pr) l
 | h + 1, ks => yJ (fun _ : Kid h => 11) ks < List.length (α := Kid h) ks
theorem Q4V {w : World} {A : Nat -> Prop} {h : Nat} {n : Nd h} {x : Value} (hx : ND w A h n x) (hs : Sm h n) (h0 : Hf h n) :
  ∃ f v, qY "store/tree.halves" x f v /\ ∀ W, y5 [] w W -> Calls prog f #[v] W fun e w' => ∃ a b, e = .returned (.tuple #[a, b]) /\ ND w' A h (yZ h n).1 a /\ ND w' A h (yZ h n).2 b /\ y5 [] W w' := by
 cases h with
 | zero =>
  obtain ⟨v, rfl, hl, hA⟩ := hx
  have HC := fun W k => Q4Q v n W (hl.kept k) hs h0
  obtain ⟨p, c, ev⟩ := SL.shape hl
  subst ev
  refine ⟨_, _, Q4L _ _ _, fun W k => (HC W k).mono ?_⟩
  rintro e w' ⟨a, b, rfl, ha, hb, oa, ob, hk⟩
  exact ⟨_, _, rfl, ⟨a, rfl, ha, fun y hy => hA y (oa y hy)⟩, ⟨b, rfl, hb, fun y hy => hA y (ob y hy)⟩, hk⟩
 | succ h =>
  obtain ⟨v, xs, rfl, hl, hA, hf⟩ := qE.1 hx
  have hlen : xs.length = List.length (α := Kid h) n := hf.1.symm
  have hk11 : (ksz : KE -> Nat) = fun _ => 11 := rfl
  have hhalf : yJ ksz xs = yJ (fun _ : Kid h => 11) n := by rw [hk11]; exact Q4U (β := Kid h) xs n hlen
  have HC := fun W k => Q4R v xs W (hl.kept k) (by rw [hlen]; exact hs) (qS hf) (by rw [hhalf, hlen]; exact h0)
  rw [hhalf] at HC
  obtain ⟨p, c, ev⟩ := SL.shape hl
  subst ev
  refine ⟨_, _, Q4M _ _ _, fun W k => (HC W k).mono ?_⟩
  rintro e w' ⟨a, b, rfl, ha, hb, oa, ob, hk⟩
  have hf' := (hf.k k).k hk
  exact ⟨_, _, rfl, qE.2 ⟨a, _, rfl, ha, fun y hy => hA y (oa y hy), hf'.take _⟩, qE.2 ⟨b, _, rfl, hb, fun y hy => hA y (ob y hy), hf'.drop _⟩, hk⟩
theorem Q4W {w : World} {A : Nat -> Prop} {h : Nat} {n : Nd h} {x : Value} (hx : ND w A h n x) (h0 : 0 < yl h n) :
  ∃ f v, qY "store/tree.first" x f v /\ ∀ W, y5 [] w W -> Calls prog f #[v] W fun e w' => e = .returned (.string (j4 h n)) /\ y5 [] W w' := by
 cases h with
 | zero =>
  obtain ⟨v, rfl, hl, hA⟩ := hx
  cases n with
  | nil => simp [yl] at h0
  | cons q r =>
   have HC := fun W k => ZE v q r W (hl.kept k)
   obtain ⟨p, c, ev⟩ := SL.shape hl
   subst ev
   exact ⟨_, _, Q4J _ _ _, HC⟩
 | succ h =>
  obtain ⟨v, xs, rfl, hl, hA, hf⟩ := qE.1 hx
  cases n with
  | nil => simp [yl] at h0
  | cons q r =>
   obtain ⟨y, hy, hr⟩ := hf.get (i := 0) (a := q) rfl
   cases xs with
   | nil => simp at hy
   | cons z zs =>
    simp at hy
    subst hy
    have HC := fun W k => Q4P v z zs W (hl.kept k)
    rw [hr.1.1] at HC
    obtain ⟨p, c, ev⟩ := SL.shape hl
    subst ev
    exact ⟨_, _, Q4K _ _ _, HC⟩
theorem Q4X (v : Value) (w : World) : (Instr.typeAssert (.iface 135 v) 73 135 false).run prog w = .ok v w := by kernel_rfl
theorem Q4Y (v : Value) (w : World) : (Instr.typeAssert (.iface 180 v) 73 180 false).run prog w = .ok v w := by kernel_rfl
theorem bs2L (p p' : Option Addr) (n c n' c' : Nat) (w : World) : (Instr.buildSlice 274 2 #[(0, .slice p n c), (1, .slice p' n' c')]).run prog w = .ok (.slice (some ⟨w.heap.size, 0, none⟩) 2 2) (w.alloc (.cells #[.slice p n c, .slice p' n' c'] 135)) := by kernel_rfl
theorem bs2B (p p' : Option Addr) (n c n' c' : Nat) (w : World) : (Instr.buildSlice 276 2 #[(0, .slice p n c), (1, .slice p' n' c')]).run prog w = .ok (.slice (some ⟨w.heap.size, 0, none⟩) 2 2) (w.alloc (.cells #[.slice p n c, .slice p' n' c'] 180)) := by kernel_rfl
theorem Q4Z (v v2 : Value) (l l2 : List Pr) (w : World) (h : LF w v l) (h2 : LF w v2 l2) (hl : l.length + l2.length <= 50000) : Calls prog 188 #[v, .iface 135 v2] w fun e w' =>
  ∃ a, e = .returned (.iface 135 a) /\ LF w' a (l ++ l2) /\ (∀ y, a.ownBlock = some y -> w.heap.size <= y) /\ y5 [] w w' := by
 obtain ⟨p, c, ev⟩ := SL.shape h
 obtain ⟨p2, c2, ev2⟩ := SL.shape h2
 rw [List.length_map] at ev ev2
 have k1 := (y5.refl [] w).alloc (.cells #[v, v2] 135)
 have HC : Hid (Calls _ _ _ _ _) := Q4b w.heap.size v v2 (l.map pe) (l2.map pe) (w.alloc (.cells #[v, v2] 135)) (heap_alloc_new _ _) (SL.kept h k1) (SL.kept h2 k1) (ZY l) (ZY l2) (by simpa using hl)
 subst ev
 subst ev2
 have hb := bs2L
 have ha := Q4X
 go_enter func188, ntmps188
 go_wp2_with (first
  | (go_at_call 233; refine HC.out.mono ?_; rintro e w1 ⟨a, rfl, how, hk1⟩))
 go_ret
 refine ⟨_, rfl, ?_, fun y hy => ?_, k1.trans hk1⟩
 ·have := how.sl
  rw [<- List.map_append] at this
  exact this
 ·have := qm how.1 y (by rw [hy]; simp)
  simp at this
  omega
theorem Q50 (v v2 : Value) (l l2 : List KE) (w : World) (h : SL w 75 3 v (l.map ke)) (h2 : SL w 75 3 v2 (l2.map ke)) (o1 : ∀ x ∈ l, ∃ t v, x.2 = .iface t v) (o2 : ∀ x ∈ l2, ∃ t v, x.2 = .iface t v) (hl : l.length + l2.length <= 50000) : Calls prog 218 #[v, .iface 180 v2] w fun e w' =>
  ∃ a, e = .returned (.iface 180 a) /\ SL w' 75 3 a ((l ++ l2).map ke) /\ (∀ y, a.ownBlock = some y -> w.heap.size <= y) /\ y5 [] w w' := by
 obtain ⟨p, c, ev⟩ := SL.shape h
 obtain ⟨p2, c2, ev2⟩ := SL.shape h2
 rw [List.length_map] at ev ev2
 have k1 := (y5.refl [] w).alloc (.cells #[v, v2] 180)
 have HC : Hid (Calls _ _ _ _ _) := Q4c w.heap.size v v2 (l.map ke) (l2.map ke) (w.alloc (.cells #[v, v2] 180)) (heap_alloc_new _ _) (SL.kept h k1) (SL.kept h2 k1) (ZZ o1) (ZZ o2) (by simpa using hl)
 subst ev
 subst ev2
 have hb := bs2B
 have ha := Q4Y
 go_enter func218, ntmps218
 go_wp2_with (first
  | (go_at_call 234; refine HC.out.mono ?_; rintro e w1 ⟨a, rfl, how, hk1⟩))
 go_ret
 refine ⟨_, rfl, ?_, fun y hy => ?_, k1.trans hk1⟩
 ·have := how.sl
  rw [<- List.map_append] at this
  exact this
 ·have := qm how.1 y (by rw [hy]; simp)
  simp at this
  omega
theorem Q51 {w : World} {A : Nat -> Prop} {h : Nat} {n n2 : Nd h} {x x2 : Value} (hx : ND w A h n x) (hx2 : ND w A h n2 x2) (hs : Sm h n) (hs2 : Sm h n2) :
  ∃ f v, qY "store/tree.joined" x f v /\ ∀ W, y5 [] w W -> Calls prog f #[v, x2] W fun e w' => ∃ a, e = .returned a /\ ND w' (fun y => A y \/ w.heap.size <= y) h (jK h n n2) a /\ y5 [] W w' := by
 cases h with
 | zero =>
  obtain ⟨v, rfl, hl, hA⟩ := hx
  obtain ⟨v2, rfl, hl2, hA2⟩ := hx2
  have HC := fun W k => Q4Z v v2 n n2 W (hl.kept k) (hl2.kept k) (by have := hs.2; have := hs2.2; omega)
  obtain ⟨p, c, ev⟩ := SL.shape hl
  subst ev
  refine ⟨_, _, Q4N _ _ _, fun W k => (HC W k).mono ?_⟩
  rintro e w' ⟨a, rfl, ha, oa, hk⟩
  exact ⟨_, rfl, ⟨a, rfl, ha, fun y hy => Or.inr (Nat.le_trans k.size (oa y hy))⟩, hk⟩
 | succ h =>
  obtain ⟨v, xs, rfl, hl, hA, hf⟩ := qE.1 hx
  obtain ⟨v2, xs2, rfl, hl2, hA2, hf2⟩ := qE.1 hx2
  have hlen : xs.length = List.length (α := Kid h) n := hf.1.symm
  have hlen2 : xs2.length = List.length (α := Kid h) n2 := hf2.1.symm
  have HC := fun W k => Q50 v v2 xs xs2 W (hl.kept k) (hl2.kept k) (qS hf) (qS hf2) (by have : List.length (α := Kid h) n <= 1000 := hs; have : List.length (α := Kid h) n2 <= 1000 := hs2; omega)
  obtain ⟨p, c, ev⟩ := SL.shape hl
  subst ev
  refine ⟨_, _, Q4O _ _ _, fun W k => (HC W k).mono ?_⟩
  rintro e w' ⟨a, rfl, ha, oa, hk⟩
  have up : ∀ (ks : List (Kid h)) (ys : List KE), F2 (KR w A h) ks ys -> F2 (KR w' (fun y => A y \/ w.heap.size <= y) h) ks ys := fun ks ys hh => hh.mono fun _ _ _ hr => KR.kept hr (k.trans hk) (by simp) fun _ h => Or.inl h
  exact ⟨_, rfl, qE.2 ⟨a, _, rfl, ha, fun y hy => Or.inr (Nat.le_trans k.size (oa y hy)), (up _ _ hf).append (up _ _ hf2)⟩, hk⟩
theorem Q52 (p : Option Addr) (n c : Nat) : qY "store/tree.leaf" (.iface 135 (.slice p n c)) 190 (.slice p n c) := ⟨_, rfl, fun _ => by kernel_rfl, fun _ _ => by kernel_rfl⟩
theorem Q53 (p : Option Addr) (n c : Nat) : qY "store/tree.leaf" (.iface 180 (.slice p n c)) 220 (.slice p n c) := ⟨_, rfl, fun _ => by kernel_rfl, fun _ _ => by kernel_rfl⟩
theorem Q54 (xs : List KE) : (xs.map ke).map List.head? = (xs.map (·.1)).map fun q => some (Value.string q) := by
 rw [List.map_map, List.map_map]; rfl
theorem Q55 (l : List Pr) : (l.map pe).map List.head? = (l.map (·.1)).map fun q => some (Value.string q) := by
 rw [List.map_map, List.map_map]; rfl
theorem Q56 (h : Nat) (A : Nat -> Prop) (v : Value) (xs : List KE) (ks : List (Kid h)) (k : ByteArray) (w : World) (hl : SL w 75 3 v (xs.map ke)) (hf : F2 (KR w A h) ks xs) (hk : KW h ks) (hkl : ks.length <= 1000) :
  Calls prog 225 #[v, .string k] w fun e w' => e = .returned (.int .i64 (qs ks k : Nat)) /\ y5 [] w w' := by
 have hlen : (xs.map ke).length = ks.length := by rw [List.length_map, hf.1]
 have hpos := Q4t (Q4g hk) k
 have hway := Q4h hk hpos (Q4s (ks.map (·.1)) k)
 have hcall := (Q3p v (xs.map ke) (ks.map (·.1)) k w hl (by rw [Q54, Q4d hf]) (Q4g hk) (by omega)).mono fun _ _ h => Z9 h
 have hib := hpos.1
 rw [List.length_map] at hib
 obtain ⟨p, c, ev⟩ := hl.shape
 rw [List.length_map] at ev
 subst ev
 generalize pK (ks.map (·.1)) k = i at *
 generalize bK (ks.map (·.1)) k = b at *
 have HF : Hid (Calls _ _ _ _ _) := hcall
 have HW : Hid _ := hway
 clear hk hf hcall hway hpos
 cases b with
 | true =>
  go_enter func225, ntmps225
  go_wp2_with (first | (go_at_call 231; refine HF.out.mono ?_; rintro e w1 ⟨rfl, hk1⟩))
  go_ret
  exact ⟨by rw [HW.out]; rfl, hk1⟩
 | false =>
  rcases Nat.eq_zero_or_pos i with rfl | hi
  ·go_enter func225, ntmps225
   go_wp2_with (first | (go_at_call 231; refine HF.out.mono ?_; rintro e w1 ⟨rfl, hk1⟩))
   go_ret
   exact ⟨by rw [HW.out]; rfl, hk1⟩
  ·have hi' : (0 : Int) < (i : Int) := by omega
   go_enter func225, ntmps225
   go_wp2_with (first | (go_at_call 231; refine HF.out.mono ?_; rintro e w1 ⟨rfl, hk1⟩))
   go_ret
   refine ⟨?_, hk1⟩
   rw [HW.out]
   simp
   omega
theorem Q57 {h : Nat} {f : ByteArray} {ks : List (Kid h)} (k : ByteArray) (hw : WFN (h + 1) f ks) : qs ks k < ks.length := by
 obtain ⟨⟨n0, x0, r0, e0⟩, _⟩ := (yF h f ks).1 hw
 have : (ks.takeWhile fun a => !bl k a.1).length <= ks.length := (List.takeWhile_prefix _).length_le
 have h1 : 0 < ks.length := by rw [e0]; simp
 unfold qs
 omega
theorem Q58 (p : Option Addr) (n c : Nat) (k : ByteArray) (w : World) : Calls prog 190 #[.slice p n c, .string k] w fun e w' => e = .returned (.slice p n c) /\ y5 [] w w' := by
 go_enter func190, ntmps190
 go_wp2
 go_ret
 exact ⟨rfl, y5.refl _ _⟩
def Q59 (k : ByteArray) (h : Nat) : Prop := ∀ (w : World) (A : Nat -> Prop) (f : ByteArray) (n : Nd h) (x : Value), ND w A h n x -> WFN h f n -> q7 h n -> yl h n <= 1000 ->
  ∃ f v, qY "store/tree.leaf" x f v /\ ∀ W, y5 [] w W -> Calls prog f #[v, .string k] W fun e w' => ∃ v', e = .returned v' /\ LF w' v' (qV k h n) /\ y5 [] W w'
theorem Q5a (k : ByteArray) (h : Nat) (IH : Q59 k h) (A : Nat -> Prop) (f0 : ByteArray) (v : Value) (xs : List KE) (ks : List (Kid h)) (w : World) (hl : SL w 75 3 v (xs.map ke)) (hf : F2 (KR w A h) ks xs) (hw : WFN (h + 1) f0 ks) (hfu : q7 (h + 1) ks) (hsz : ks.length <= 1000) :
  Calls prog 220 #[v, .string k] w fun e w' => ∃ v', e = .returned v' /\ LF w' v' (qV k (h + 1) ks) /\ y5 [] w w' := by
 have hlen : (xs.map ke).length = ks.length := by rw [List.length_map, hf.1]
 have hkw := ((yF h f0 ks).1 hw).2
 have HWy : Hid (Calls _ _ _ _ _) := Q56 h A v xs ks k w hl hf hkw (by omega)
 have hlt := Q57 k hw
 obtain ⟨q, hq⟩ : ∃ q, ks[qs ks k]? = some q := ⟨_, List.getElem?_eq_getElem hlt⟩
 have hqm := List.mem_of_getElem? hq
 have hqf := (yM h ks).1 hfu q hqm
 obtain ⟨y, hy, hr⟩ := hf.get hq
 have hleaf : qV k (h + 1) ks = qV k h q.2 := QJ k h ks q hq
 obtain ⟨f, vv, ⟨t, ex, hm, he⟩, hcall⟩ := IH _ _ _ _ _ hr.2 (hkw.all q hqm) hqf.2 (by have := hqf.1.2; omega)
 obtain ⟨g, off, cap, cur, e, hg, hc1, hc2, hc3, hcur⟩ := hl.at_ (by omega)
 rw [hlen] at e
 subst e
 have hc := (hcur (qs ks k) (ke y) (by rw [List.getElem?_map, hy]; rfl)).2
 simp only [ke, ex] at hc
 have hcell : ∀ W, y5 [] w W -> W.cell? ⟨g, off + qs ks k * 3 + 2, none⟩ = some (.iface t vv) := fun W kW => by rw [cell_of_row _ _ _ _ _ _ (kW.get hg (by simp))]; exact hc 2 _ rfl
 rw [hleaf]
 have HC : Hid (∀ W, y5 [] w W -> _) := hcall
 have HCell : Hid _ := hcell
 generalize qs ks k = i at *
 clear hcall hcell hcur hc hleaf hy hq hr hqf hqm hw hfu hf
 go_enter func220, ntmps220
 go_wp2_with (first
  | (go_at_call 225; refine HWy.out.mono ?_; rintro e w1 ⟨rfl, hk1⟩; have c1 := HCell.out w1 hk1)
  | (refine y8 rfl _ _ (ya 180 (.tmp 5) (.tmp 8) rfl g off ks.length cap i 3 rfl rfl 75 underlying180 jB hlt (off + i * 3) rfl) ?_)
  | (go_at_fn f; refine (HC.out _ hk1).mono ?_; rintro e w2 ⟨v2, rfl, hl2, hk2⟩))
 go_ret
 exact ⟨_, rfl, hl2, hk1.trans hk2⟩
theorem Q5b (k : ByteArray) : ∀ h, Q59 k h
 | 0 => by
  intro w A f n x hx _ _ _
  obtain ⟨v, rfl, hl, hA⟩ := hx
  have hl' := hl
  obtain ⟨p, c, ev⟩ := SL.shape hl
  subst ev
  refine ⟨_, _, Q52 _ _ _, fun W kW => (Q58 _ _ _ k W).mono ?_⟩
  rintro e w' ⟨rfl, hk⟩
  exact ⟨_, rfl, (hl'.kept kW).kept hk, hk⟩
 | h + 1 => by
  intro w A f n x hx hw hfu hs
  obtain ⟨v, xs, rfl, hl, hA, hf⟩ := qE.1 hx
  have hsz : List.length (α := Kid h) n <= 1000 := by have : 11 * List.length (α := Kid h) n <= 1000 := hs; omega
  have HC := fun W kW => Q5a k h (Q5b k h) A f v xs n W (hl.kept kW) (hf.k kW) hw hfu hsz
  obtain ⟨p, c, ev⟩ := SL.shape hl
  subst ev
  exact ⟨_, _, Q53 _ _ _, HC⟩
def Q5c (v : Value) (l : List Pr) (w : World) (e : Ending) (w' : World) : Prop := ∃ v', e = .returned v' /\ LF w' v' l /\ (∀ y, v'.ownBlock = some y -> v.ownBlock = some y \/ w.heap.size <= y) /\ y5 [] w w'
theorem Q5d (v : Value) (l : List Pr) (k : ByteArray) (w : World) (h : LF w v l) (hs : Srt l) (hl : l.length <= 1000) (hh : (qC k l).isSome = true) : Calls prog 90 #[v, .string k] w (Q5c v (yx k l) w) := by
 have hpos := Q4t (j6 hs) k
 have hres := Q4m hs hpos (Q4s (l.map (·.1)) k)
 have hbi := Q4s (l.map (·.1)) k
 have hgp := Q4q hs hpos hbi
 have hcall := (Zo v (l.map pe) (l.map (·.1)) k w h (Q55 l) (j6 hs) (by simp; omega)).mono fun _ _ h => Z9 h
 have hib := hpos.1
 rw [List.length_map] at hib
 have hlen : (l.map pe).length = l.length := List.length_map _
 have h' := h
 obtain ⟨p, c, ev⟩ := SL.shape h'
 rw [hlen] at ev
 subst ev
 generalize pK (l.map (·.1)) k = i at *
 generalize bK (l.map (·.1)) k = b at *
 have HF : Hid (Calls _ _ _ _ _) := hcall
 have HR : Hid _ := hres
 clear hcall hres hpos
 cases b with
 | false =>
  rw [hgp] at hh
  simp at hh
 | true =>
  have hil : i < l.length := by
   have := (List.getElem?_eq_some_iff.1 (hbi.1 rfl)).1
   rwa [List.length_map] at this
  have HCl : Hid (∀ W, y5 [] w W -> _) := fun W kW => Q3D _ (l.map pe) W (SL.kept h kW) (ZY l) (by simp; omega)
  have hl2 : (l.map pe).length <= 50000 := by simp; omega
  have hi2 : i < (l.map pe).length := by simpa using hil
  have HD : Hid (∀ B vl W, OW W B 138 2 vl (l.map pe) -> _) := fun B vl W ho => Q3K B vl (l.map pe) i W ho (ZY l) hi2 hl2
  clear hbi hl2 hi2
  go_enter func90, ntmps90
  go_wp2_with (first
   | (go_at_call 83; refine HF.out.mono ?_; rintro e w1 ⟨rfl, hk1⟩)
   | (go_at_call 108; refine (HCl.out _ hk1).mono ?_; rintro e w2 ⟨v2, rfl, ho2, hk2⟩)
   | (go_at_call 114; refine (HD.out _ _ _ ho2).mono ?_; rintro e w3 ⟨v3, rfl, ho3, hk3⟩))
  go_ret
  have k3 : y5 [] w w3 := (hk1.trans hk2).trans2 hk3 fun y hy => Or.inr (Nat.le_trans hk1.size (qm ho2.1 y hy))
  refine ⟨v3, rfl, ?_, fun y hy => Or.inr ?_, k3⟩
  ·have := ho3.sl
   rw [<- List.map_take, <- List.map_drop, <- List.map_append] at this
   rw [HR.out]
   exact this
  ·have := qm ho3.1 y (by rw [hy]; simp)
   exact Nat.le_trans hk1.size this
theorem Q5e (B : Nat) (vl : Value) (es : List El) (i : Nat) (w : World) (h : OW w B 138 2 vl es) (h1 : One 2 es) (hi : i <= es.length) (hl : es.length <= 50000) (hBw : B <= w.heap.size)
  (gv off cv : Nat) (vs : List El) (hv : SL w 138 2 (.slice (some ⟨gv, off, none⟩) vs.length cv) vs) (hv1 : One 2 vs) (hv0 : 0 < vs.length) (hv2 : vs.length <= 1000) (hap : vl.ownBlock ≠ some gv) :
  Calls prog 107 #[vl, .int .i64 i, .int .i64 i, .slice (some ⟨gv, off, none⟩) vs.length cv] w (gj B 138 2 vl (es.take i ++ vs ++ es.drop i) w) := by
 have HI : Hid (Calls _ _ _ _ _) := Q47 B vl es i w h h1 hi hl hBw gv off cv vs hv hv1 hv0 hv2 hap
 obtain ⟨ie, hie, hz1, hz2, hz3⟩ := info_parts itp
 obtain ⟨p, c, rfl⟩ := h.sl.shape
 have hc : es.length <= c := by
  obtain ⟨_, ⟨e, h0⟩ | ⟨g, cap, cur, e, _, _, h1, _⟩⟩ := h.1
  ·injection e with e1 e2 e3; omega
  ·injection e with e1 e2 e3; omega
 have hic : i <= c := by omega
 obtain ⟨rs, hrs⟩ : ∃ rs, rs = (if c = i then p else p.map (·.add (i * 2))) := ⟨_, rfl⟩
 obtain ⟨rc, hrc⟩ : ∃ rc, rc = c - i := ⟨_, rfl⟩
 have hsl : ∀ W : World, (Instr.sliceAt 135 (.slice p es.length c) (some (.int .i64 (i : Int))) (some (.int .i64 (i : Int))) none).run prog W = .ok (.slice rs 0 rc) W := by
  intro W
  rw [hrs, hrc]
  simp [Instr.sliceAt, Instr.slice, run_underlying underlying135, Instr.sliceBounds, Instr.sliceBound, asIntOf, sizeOf, typeInfo, hie, hz2, hic]
 clear hrs hrc
 go_enter func107, ntmps107
 go_wp2_with (first | (go_at_call 122; refine HI.out.mono ?_; rintro e w3 ⟨v3, rfl, ho3, hk3⟩))
 go_ret
 exact ⟨_, rfl, ho3, hk3⟩
theorem Q5f {α : Type} (sz : α -> Nat) (b : Nat) (l : List α) (hs : ∀ x ∈ l, sz x <= b) (hb : 0 < b) (hb2 : b <= 22) (h1 : 122 < (l.map sz).sum) : yJ sz l < l.length /\ 0 < ((l.drop (yJ sz l)).map sz).sum := by
 obtain ⟨a1, a2⟩ := ZS sz b l hs (by omega) hb
 have hsp := Qq sz l (yJ sz l)
 have hpos : 0 < ((l.drop (yJ sz l)).map sz).sum := by omega
 refine ⟨?_, hpos⟩
 obtain ⟨a, r, e⟩ := gi sz _ hpos
 have := congrArg List.length e
 rw [List.length_drop, List.length_cons] at this
 omega
theorem Q5g {h : Nat} (ks : List (Kid h)) (h1 : 122 < 11 * ks.length) : yJ (fun _ : Kid h => 11) ks < ks.length /\ 0 < 11 * (ks.drop (yJ (fun _ : Kid h => 11) ks)).length := by
 have := Q5f (fun _ : Kid h => 11) 11 ks (by simp) (by omega) (by omega) (by rw [Q2N]; exact h1)
 rw [Q2N] at this
 exact this
theorem Q5h {h : Nat} {f : ByteArray} {n : Nd h} (hw : WFN h f n) (h1 : 122 < yl h n) : Hf h n /\ 0 < yl h (yZ h n).2 := by
 cases h with
 | zero => exact Q5f psz 22 n (fun x hx => Z5 (hw.2 x hx).2) (by omega) (by omega) h1
 | succ h => exact Q5g n h1
theorem bkid (f : ByteArray) (t : TypeId) (v : Value) (w : World) : (Instr.build 75 #[(0, .string f), (2, .iface t v)]).run prog w = .ok (.agg #[.string f, .int .i64 0, .iface t v]) w := by kernel_rfl
theorem bs1K (f : ByteArray) (t : TypeId) (v : Value) (w : World) : (Instr.buildSlice 177 1 #[(0, .agg #[.string f, .int .i64 0, .iface t v])]).run prog w = .ok (.slice (some ⟨w.heap.size, 0, none⟩) 1 1) (w.alloc (.cells #[.string f, .int .i64 0, .iface t v] 75)) := by kernel_rfl
theorem bs2K (f f2 : ByteArray) (t t2 : TypeId) (v v2 : Value) (w : World) : (Instr.buildSlice 177 2 #[(0, .agg #[.string f, .int .i64 0, .iface t v]), (1, .agg #[.string f2, .int .i64 0, .iface t2 v2])]).run prog w = .ok (.slice (some ⟨w.heap.size, 0, none⟩) 2 2) (w.alloc (.cells #[.string f, .int .i64 0, .iface t v, .string f2, .int .i64 0, .iface t2 v2] 75)) := by kernel_rfl
theorem Q5i (q : KE) (A B : List Value) : ∀ (j : Nat) (u : Value), (ke q)[j]? = some u -> ((A ++ ke q ++ B).toArray)[A.length + j]? = some u := by
 intro j u hj
 have hl : j < (ke q).length := (List.getElem?_eq_some_iff.1 hj).1
 rw [List.getElem?_toArray, List.append_assoc, List.getElem?_append_right (by omega), Nat.add_sub_cancel_left, List.getElem?_append_left hl]
 exact hj
def FitR {h : Nat} (A : Nat -> Prop) (M : List (Kid h)) (w : World) (e : Ending) (w' : World) : Prop :=
 ∃ gv cv xs, e = .returned (.slice (some ⟨gv, 0, none⟩) xs.length cv) /\ SL w' 75 3 (.slice (some ⟨gv, 0, none⟩) xs.length cv) (xs.map ke) /\ F2 (KR w' A h) M xs /\ w.heap.size <= gv /\ y5 [] w w'
theorem Q5j {w : World} {A : Nat -> Prop} {h : Nat} {f : ByteArray} {n : Nd h} {x : Value} (hx : ND w A h n x) (hw : WFN h f n) (h2 : yl h n <= 161) :
  Calls prog 106 #[.string f, x] w (FitR A (qB h f n) w) := by
 have hs := Sm.of hw (by omega)
 obtain ⟨f1, v1, ⟨t1, e1, hm1, he1⟩, hc1⟩ := Qb hx hs
 have hx' := hx
 subst e1
 have hb := bkid
 by_cases hsz : yl h n <= 122
 ·have eM : qB h f n = [⟨f, n, 0⟩] := by unfold qB; rw [if_pos hsz]
  have hle : ((yl h n : Nat) : Int) <= 122 := by omega
  generalize yl h n = S at *
  have HC1 : Hid (∀ W, y5 [] w W -> _) := hc1
  have HX : Hid _ := hx
  have HM : Hid _ := eM
  clear hc1 eM hw hx hx' hs
  have hbs := bs1K
  go_enter func106, ntmps106
  go_wp2_with (first
   | (go_at_fn f1; refine (HC1.out _ (y5.refl _ _)).mono ?_; rintro e w1 ⟨rfl, hk1⟩))
  go_ret
  refine ⟨w1.heap.size, 1, [⟨f, .iface t1 v1, 0⟩], rfl, ?_, ?_, hk1.size, hk1.alloc _⟩
  ·refine Or.inr ⟨w1.heap.size, 0, 1, _, rfl, heap_alloc_new _ _, Nat.le_refl _, by unfold maxLen; omega, by simp, ?_⟩
   intro i e he
   cases i with
   | zero => simp at he; subst he; exact ⟨rfl, fun j u hj => by simpa [ke] using Q5i ⟨f, .iface t1 v1, 0⟩ [] [] j u hj⟩
   | succ i => simp at he
  ·rw [HM.out]
   exact F2.one ⟨⟨rfl, rfl⟩, ND.k HX.out (hk1.alloc _)⟩
 ·obtain ⟨hh0, hr0⟩ := Q5h hw (by omega)
  have eM : qB h f n = [⟨f, (yZ h n).1, 0⟩, ⟨j4 h (yZ h n).2, (yZ h n).2, 0⟩] := by unfold qB; rw [if_neg hsz]
  obtain ⟨f2, v2, ⟨t2, e2, hm2, he2⟩, hc2⟩ := Q4V hx hs hh0
  cases e2
  have hle : ¬ ((yl h n : Nat) : Int) <= 122 := by omega
  generalize yl h n = S at *
  have HC1 : Hid (∀ W, y5 [] w W -> _) := hc1
  have HC2 : Hid (∀ W, y5 [] w W -> _) := hc2
  have HF : Hid (∀ W x, ND W A h (yZ h n).2 x -> _) := fun W x hx => Q4W hx hr0
  have HM : Hid _ := eM
  clear hc1 hc2 eM hw hx hx' hs hr0 hh0
  have hbs := bs2K
  go_enter func106, ntmps106
  go_wp2_with (first
   | (go_at_fn f1; refine (HC1.out _ (y5.refl _ _)).mono ?_; rintro e w1 ⟨rfl, hk1⟩)
   | (go_at_fn f2; refine (HC2.out _ hk1).mono ?_; rintro e w2 ⟨a, b, rfl, ha, hb2, hk2⟩; obtain ⟨f3, v3, ⟨t3, e3, hm3, he3⟩, hc3⟩ := HF.out w2 b hb2; obtain ⟨ta, va, ea⟩ := ha.iface; have HA : Hid _ := ha; have HB : Hid _ := hb2; have HC3 : Hid (∀ W, y5 [] w2 W -> _) := hc3; clear ha hb2 hc3; subst e3; subst ea)
   | (go_at_fn f3; refine (HC3.out _ (y5.refl _ _)).mono ?_; rintro e w3 ⟨rfl, hk3⟩))
  go_ret
  have k23 := hk3.alloc (.cells #[.string f, .int .i64 0, .iface ta va, .string (j4 h (yZ h n).2), .int .i64 0, .iface t3 v3] 75)
  refine ⟨w3.heap.size, 2, [⟨f, .iface ta va, 0⟩, ⟨j4 h (yZ h n).2, .iface t3 v3, 0⟩], rfl, ?_, ?_, ((hk1.trans hk2).trans hk3).size, (hk1.trans hk2).trans k23⟩
  ·refine Or.inr ⟨w3.heap.size, 0, 2, _, rfl, heap_alloc_new _ _, Nat.le_refl _, by unfold maxLen; omega, by simp, ?_⟩
   intro i e he
   rcases i with _ | _ | i
   ·simp at he; subst he; exact ⟨rfl, fun j u hj => by simpa [ke] using Q5i ⟨f, .iface ta va, 0⟩ [] (ke ⟨j4 h (yZ h n).2, .iface t3 v3, 0⟩) j u hj⟩
   ·simp at he; subst he; exact ⟨rfl, fun j u hj => by simpa [ke] using Q5i ⟨j4 h (yZ h n).2, .iface t3 v3, 0⟩ (ke ⟨f, .iface ta va, 0⟩) [] j u hj⟩
   ·simp at he
  ·rw [HM.out]
   exact (F2.one (R := KR _ A h) (a := ⟨f, (yZ h n).1, 0⟩) (b := ⟨f, .iface ta va, 0⟩) ⟨⟨rfl, rfl⟩, ND.k HA.out k23⟩).append (F2.one ⟨⟨rfl, rfl⟩, ND.k HB.out k23⟩)
def Q5k {h : Nat} (B : Nat) (A : Nat -> Prop) (v : Value) (L : List (Kid h)) (w : World) (e : Ending) (w' : World) : Prop :=
 ∃ v' xs', e = .returned v' /\ OW w' B 75 3 v' (xs'.map ke) /\ F2 (KR w' A h) L xs' /\ y5 v.ownBlock.toList w w'
theorem Q5l {h : Nat} {B : Nat} {A : Nat -> Prop} {v : Value} {xs : List KE} {ks : List (Kid h)} {w : World} (ho : OW w B 75 3 v (xs.map ke)) (hB : B <= w.heap.size) (hf : F2 (KR w A h) ks xs) (hA : ∀ y, A y -> v.ownBlock ≠ some y) (hkl : ks.length <= 1000)
  {i j : Nat} {M : List (Kid h)} {gv cv : Nat} {xs1 : List KE} {W : World} (hW : y5 [] w W) (hij : i < j) (hj : j <= ks.length) (hv : SL W 75 3 (.slice (some ⟨gv, 0, none⟩) xs1.length cv) (xs1.map ke)) (hf1 : F2 (KR W (fun y => A y \/ w.heap.size <= y) h) M xs1) (hgv : w.heap.size <= gv) (hM : M.length = 1 \/ M.length = 2) (iv jv : Int) (hiv : iv = i) (hjv : jv = j) :
  Calls prog 232 #[v, .int .i64 iv, .int .i64 jv, .slice (some ⟨gv, 0, none⟩) xs1.length cv] W (Q5k B (fun y => A y \/ w.heap.size <= y) v (ks.take i ++ (M ++ ks.drop j)) w) := by
 subst hiv
 subst hjv
 have hlt := Q2B ho.1
 have hln : (xs.map ke).length = ks.length := by rw [List.length_map, hf.1]
 have ho' : OW W B 75 3 v (xs.map ke) := ⟨yQ ho.1 hW (by simp), ho.2⟩
 have hl1 : xs1.length = M.length := hf1.1.symm
 have hv' : SL W 75 3 (.slice (some ⟨gv, 0, none⟩) (xs1.map ke).length cv) (xs1.map ke) := by rw [List.length_map]; exact hv
 have hc := Q45 B v (xs.map ke) i j W ho' (ZZ (qS hf)) hij (by omega) (by omega) (Nat.le_trans hB hW.size) gv 0 cv (xs1.map ke) hv' (ZZ (qS hf1)) (by rw [List.length_map]; omega) (by rw [List.length_map]; omega) (by
  intro e
  have := hlt gv (by rw [e]; simp)
  omega)
 rw [List.length_map] at hc
 refine hc.mono ?_
 rintro e w' ⟨v', rfl, ho3, hk3⟩
 have hS : ∀ y ∈ v.ownBlock.toList, ¬ (A y \/ w.heap.size <= y) := by
  intro y hy hA'
  rcases hA' with h1 | h1
  ·exact hA y h1 (by simpa using hy)
  ·have := hlt y hy; omega
 refine ⟨v', xs.take i ++ (xs1 ++ xs.drop j), rfl, ?_, ?_, (hW.mono (by simp)).trans hk3⟩
 ·have e : (xs.map ke).take i ++ xs1.map ke ++ (xs.map ke).drop j = (xs.take i ++ (xs1 ++ xs.drop j)).map ke := by simp
  rw [e] at ho3
  exact ho3
 ·have up : F2 (KR w' (fun y => A y \/ w.heap.size <= y) h) ks xs := hf.mono fun _ _ _ hr => KR.kept (KR.kept hr hW (by simp) fun _ h => Or.inl h) hk3 hS fun _ h => h
  have up1 : F2 (KR w' (fun y => A y \/ w.heap.size <= y) h) M xs1 := hf1.mono fun _ _ _ hr => KR.kept hr hk3 hS fun _ h => h
  exact (up.take i).append (up1.append (up.drop j))
theorem Q5m {h : Nat} {ks : List (Kid h)} {i : Nat} (hl : ZC h ks i) {a : Kid h} (ha : ks[i]? = some a) (hs : yl h a.2 < 40) :
  ∃ x y, ks[i - 1]? = some x /\ ks[i - 1 + 1]? = some y /\ WFN h x.1 (jK h x.2 y.2) /\ yl h (jK h x.2 y.2) <= 161 /\ qw h ks i = ks.take (i - 1) ++ (qB h x.1 (jK h x.2 y.2) ++ ks.drop (i - 1 + 2)) := by
 obtain ⟨l1, l2⟩ := hl.lo a ha
 have hmem : ∀ {j b}, ks[j]? = some b -> b ∈ ks := fun h => List.mem_of_getElem? h
 have h2 := hl.two
 have hlt := hl.lt
 obtain ⟨x, hx⟩ : ∃ x, ks[i - 1]? = some x := ⟨_, List.getElem?_eq_getElem (by omega)⟩
 obtain ⟨y, hy⟩ : ∃ y, ks[i - 1 + 1]? = some y := ⟨_, List.getElem?_eq_getElem (by omega)⟩
 have hsp := Q2Z ks (i - 1) x y hx hy
 have hord := hl.kw.ord
 rw [hsp] at hord
 have hb : Bef h x y := by
  have := (List.pairwise_append.1 (List.pairwise_append.1 hord).2.1).1
  exact (List.pairwise_cons.1 this).1 y (by simp)
 have hw := Q2X h x y hb (hl.kw.all x (hmem hx)) (hl.kw.all y (hmem hy)) (hl.full x (hmem hx))
 have hsz := Zm h x.2 y.2
 have hrange : yl h x.2 + yl h y.2 <= 161 := by
  by_cases hi0 : i = 0
  ·subst hi0
   have hxa : x = a := by rw [ha] at hx; cases hx; rfl
   have t2 := (hl.rt _ y hy (by omega)).2
   subst hxa; omega
  ·have hya : y = a := by rw [show i - 1 + 1 = i by omega, ha] at hy; cases hy; rfl
   have t2 := (hl.rt _ x hx (by omega)).2
   subst hya; omega
 refine ⟨x, y, hx, hy, hw, by omega, ?_⟩
 unfold qw
 rw [ha]
 simp only
 rw [if_pos hs, hx, hy]
theorem Q5n (h : Nat) (f : ByteArray) (n : Nd h) : (qB h f n).length = 1 \/ (qB h f n).length = 2 := by
 unfold qB
 split
 ·exact Or.inl rfl
 ·exact Or.inr rfl
theorem Q5o {h : Nat} {B : Nat} {A : Nat -> Prop} {v : Value} {xs : List KE} {ks : List (Kid h)} {w : World} (ho : OW w B 75 3 v (xs.map ke)) (hB : B <= w.heap.size) (hf : F2 (KR w A h) ks xs) (hA : ∀ y, A y -> v.ownBlock ≠ some y) (hkl : ks.length <= 1000)
  {i : Nat} (hl : ZC h ks i) {a : Kid h} (ha : ks[i]? = some a) (hs : ¬ yl h a.2 < 40) :
  Calls prog 227 #[v, .int .i64 i] w (Q5k B (fun y => A y \/ w.heap.size <= y) v (qw h ks i) w) := by
 have hres : qw h ks i = ks.take i ++ (qB h a.1 a.2 ++ ks.drop (i + 1)) := by
  unfold qw
  rw [ha]
  simp only
  rw [if_neg hs]
 have hlt := hl.lt
 have hwa := hl.kw.all a (List.mem_of_getElem? ha)
 have hla := hl.lo a ha
 obtain ⟨y, hy, hr⟩ := hf.get ha
 obtain ⟨f1, v1, ⟨t1, e1, hm1, he1⟩, hc1⟩ := Qb hr.2 (Sm.of hwa (by omega))
 have hln : (xs.map ke).length = ks.length := by rw [List.length_map, hf.1]
 obtain ⟨g, off, cap, cur, ev, hg, hc2, hc3, hc4, hcur⟩ := ho.sl.at_ (by omega)
 rw [hln] at ev
 have hcl := hcur i (ke y) (by rw [List.getElem?_map, hy]; rfl)
 simp only [ke, e1, hr.1.1] at hcl
 have hcell : ∀ W, y5 [] w W -> W.cell? ⟨g, off + i * 3, none⟩ = some (.string a.1) := fun W kW => by rw [cell_of_row _ _ _ _ _ _ (kW.get hg (by simp))]; exact hcl.2 0 _ rfl
 have c0 : w.cell? ⟨g, off + i * 3 + 2, none⟩ = some (.iface t1 v1) := by rw [cell_of_row _ _ _ _ _ _ hg]; exact hcl.2 2 _ rfl
 have HFit : Hid (∀ W, y5 [] w W -> _) := fun W kW => Q5j (A := fun y => A y \/ w.heap.size <= y) (f := a.1) (ND.kept kW (by simp) (fun _ h => Or.inl h) hr.2) hwa (by omega)
 rw [e1] at HFit
 have HRp : Hid (∀ W gv cv xs1, y5 [] w W -> SL W 75 3 (.slice (some ⟨gv, 0, none⟩) xs1.length cv) (xs1.map ke) -> F2 (KR W (fun y => A y \/ w.heap.size <= y) h) (qB h a.1 a.2) xs1 -> w.heap.size <= gv -> _) := fun W gv cv xs1 hW hv hf1 hgv => Q5l ho hB hf hA hkl hW (i := i) (j := i + 1) (by omega) (by omega) hv hf1 hgv (Q5n h a.1 a.2) (i : Int) ((i : Int) + 1) rfl (by omega)
 rw [hres]
 have HC1 : Hid (∀ W, y5 [] w W -> _) := hc1
 have HCell : Hid _ := hcell
 have hge : ¬ ((yl h a.2 : Nat) : Int) < 40 := by omega
 have hib : i <= 1000 := by omega
 subst ev
 generalize yl h a.2 = S at *
 generalize ks.length = m at *
 clear hcell hcl hcur hc1 hwa hla hl hy hr hf ho hA hres ha e1
 go_enter func227, ntmps227
 go_wp2_with (first
  | (refine y8 rfl _ _ (ya 180 (.tmp 7) (.tmp 8) rfl g off m cap i 3 rfl rfl 75 underlying180 jB hlt (off + i * 3) rfl) ?_)
  | (go_at_fn f1; refine (HC1.out _ (y5.refl _ _)).mono ?_; rintro e w1 ⟨rfl, hk1⟩; have c1 := HCell.out w1 hk1)
  | (refine y8 rfl _ _ (ya 180 (.tmp 39) (.tmp 40) rfl g off m cap i 3 rfl rfl 75 underlying180 jB hlt (off + i * 3) rfl) ?_)
  | (go_at_call 106; refine (HFit.out _ hk1).mono ?_; rintro e w2 ⟨gv, cv, xs1, rfl, hv1, hf1, hgv, hk2⟩)
  | (go_at_call 232; refine (HRp.out _ gv cv xs1 (hk1.trans hk2) hv1 hf1 (Nat.le_trans hk1.size hgv)).mono ?_; rintro e w3 ⟨v3, xs3, rfl, ho3, hf3, hk3⟩))
 go_ret
 exact ⟨_, _, rfl, ho3, hf3, hk3⟩
end Go.Proofs.YtcklgafpgdhnaabGreatDoor
