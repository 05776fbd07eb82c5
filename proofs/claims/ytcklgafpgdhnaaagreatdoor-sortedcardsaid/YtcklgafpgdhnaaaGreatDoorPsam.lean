import Derived.Test.YtcklgafpgdhnaaaGreatDoorPsal
import Derived.Shelf.Abstract
set_option maxRecDepth 100000
set_option maxHeartbeats 4000000
open Go.Proofs.Tryz
namespace Go.Proofs.YtcklgafpgdhnaaaGreatDoor
open Go.RowKit
theorem Q7b (p : Option Addr) (n c : Nat) : Disp "store/tree.first" (.iface 116 (.slice p n c)) 234 (.slice p n c) := ⟨_, rfl, fun _ => by kernel_rfl, fun _ _ => by kernel_rfl⟩
theorem Q7c (p : Option Addr) (n c : Nat) : Disp "store/tree.first" (.iface 168 (.slice p n c)) 253 (.slice p n c) := ⟨_, rfl, fun _ => by kernel_rfl, fun _ _ => by kernel_rfl⟩
theorem Q7d (p : Option Addr) (n c : Nat) : Disp "store/tree.halves" (.iface 116 (.slice p n c)) 235 (.slice p n c) := ⟨_, rfl, fun _ => by kernel_rfl, fun _ _ => by kernel_rfl⟩
theorem Q7e (p : Option Addr) (n c : Nat) : Disp "store/tree.halves" (.iface 168 (.slice p n c)) 254 (.slice p n c) := ⟨_, rfl, fun _ => by kernel_rfl, fun _ _ => by kernel_rfl⟩
theorem Q7f (p : Option Addr) (n c : Nat) : Disp "store/tree.joined" (.iface 116 (.slice p n c)) 236 (.slice p n c) := ⟨_, rfl, fun _ => by kernel_rfl, fun _ _ => by kernel_rfl⟩
theorem Q7g (p : Option Addr) (n c : Nat) : Disp "store/tree.joined" (.iface 168 (.slice p n c)) 255 (.slice p n c) := ⟨_, rfl, fun _ => by kernel_rfl, fun _ _ => by kernel_rfl⟩
theorem stk' : (prog.info? 80).map (·.size) = some 3 := by kernel_rfl
theorem Q7h (v : Value) (q : Pr) (r : List Pr) (w : World) (h : LF w v (q :: r)) : Calls prog 234 #[v] w fun e w' => e = .returned (.string q.1) /\ Kept [] w w' := by
 obtain ⟨g, off, cap, cur, ev, hg, hc1, hc2, hc3, hcur⟩ := SL.at_ h (by simp)
 subst ev
 have hc := (hcur 0 (pe q) rfl).2 0 _ rfl
 have c1 : w.cell? ⟨g, off, none⟩ = some (.string q.1) := by rw [cell_of_row _ _ _ _ _ _ hg]; simpa using hc
 have hlt : 0 < (List.map pe (q :: r)).length := by simp
 generalize (List.map pe (q :: r)).length = m at hlt ⊢
 clear hcur hc
 go_enter func234, ntmps234
 go_wp2_with (first
  | (refine Q04 rfl _ _ (Q0v 116 (.tmp 3) (.const (.int .i64 0)) rfl g off m cap 0 2 rfl rfl 122 underlying116 stp hlt off (by omega)) ?_))
 go_ret
 exact ⟨rfl, Kept.refl _ _⟩
theorem Q7i (v : Value) (q : KE) (r : List KE) (w : World) (h : SL w 80 3 v ((q :: r).map ke)) : Calls prog 253 #[v] w fun e w' => e = .returned (.string q.1) /\ Kept [] w w' := by
 obtain ⟨g, off, cap, cur, ev, hg, hc1, hc2, hc3, hcur⟩ := SL.at_ h (by simp)
 subst ev
 have hc := (hcur 0 (ke q) rfl).2 0 _ rfl
 have c1 : w.cell? ⟨g, off, none⟩ = some (.string q.1) := by rw [cell_of_row _ _ _ _ _ _ hg]; simpa using hc
 have hlt : 0 < (List.map ke (q :: r)).length := by simp
 generalize (List.map ke (q :: r)).length = m at hlt ⊢
 clear hcur hc
 go_enter func253, ntmps253
 go_wp2_with (first
  | (refine Q04 rfl _ _ (Q0v 168 (.tmp 3) (.const (.int .i64 0)) rfl g off m cap 0 3 rfl rfl 80 underlying168 stk' hlt off (by omega)) ?_))
 go_ret
 exact ⟨rfl, Kept.refl _ _⟩
theorem Q7j (v : Value) (l : List Pr) (w : World) (h : LF w v l) (hs : Sm 0 l) (h0 : Q4n psz l < l.length) : Calls prog 235 #[v] w fun e w' =>
  ∃ a b, e = .returned (.tuple #[.iface 116 a, .iface 116 b]) /\ LF w' a (l.take (Q4n psz l)) /\ LF w' b (l.drop (Q4n psz l)) /\ (∀ y, a.ownBlock = some y -> v.ownBlock = some y) /\ (∀ y, b.ownBlock = some y -> v.ownBlock = some y) /\ Kept [] w w' := by
 have HM : Hid (Calls _ _ _ _ _) := Q5u v l w h (by have := hs.2; omega) (fun x hx => Q4g (hs.1 x hx)) h0
 obtain ⟨p, c, ev⟩ := SL.shape h
 rw [List.length_map] at ev
 subst ev
 clear h hs h0
 go_enter func235, ntmps235
 go_wp2_with (first | (go_at_call 243; refine HM.out.mono ?_; rintro e w1 ⟨a, b, rfl, ha, hb, oa, ob, hk1⟩))
 go_ret2
 exact ⟨_, _, rfl, ha, hb, oa, ob, hk1⟩
theorem Q7k (v : Value) (l : List KE) (w : World) (h : SL w 80 3 v (l.map ke)) (hl : l.length <= 1000) (ho : ∀ x ∈ l, ∃ t v, x.2 = .iface t v) (h0 : Q4n ksz l < l.length) : Calls prog 254 #[v] w fun e w' =>
  ∃ a b, e = .returned (.tuple #[.iface 168 a, .iface 168 b]) /\ SL w' 80 3 a ((l.take (Q4n ksz l)).map ke) /\ SL w' 80 3 b ((l.drop (Q4n ksz l)).map ke) /\ (∀ y, a.ownBlock = some y -> v.ownBlock = some y) /\ (∀ y, b.ownBlock = some y -> v.ownBlock = some y) /\ Kept [] w w' := by
 have HM : Hid (Calls _ _ _ _ _) := Q5v v l w h (by omega) (fun x hx => by show 11 <= 22; omega) ho h0
 obtain ⟨p, c, ev⟩ := SL.shape h
 rw [List.length_map] at ev
 subst ev
 clear h hl ho h0
 go_enter func254, ntmps254
 go_wp2_with (first | (go_at_call 265; refine HM.out.mono ?_; rintro e w1 ⟨a, b, rfl, ha, hb, oa, ob, hk1⟩))
 go_ret2
 exact ⟨_, _, rfl, ha, hb, oa, ob, hk1⟩
theorem Q7l {α β : Type} (whole : Nat) : ∀ (part : Nat) (l : List α) (l' : List β), l.length = l'.length -> cutI (fun _ : α => 11) whole part l = cutI (fun _ : β => 11) whole part l'
 | _, [], [], _ => rfl
 | _, [], _ :: _, h => by simp at h
 | _, _ :: _, [], h => by simp at h
 | part, _ :: r, _ :: r', h => by
  rw [cutI, cutI, Q7l whole (part + 11) r r' (by simpa using h)]
theorem Q7m {α : Type} (l : List α) : (l.map fun _ : α => 11).sum = 11 * l.length := by
 induction l with
 | nil => rfl
 | cons a r ih => simp [ih]; omega
theorem Q7n {α β : Type} (l : List α) (l' : List β) (h : l.length = l'.length) : Q4n (fun _ : α => 11) l = Q4n (fun _ : β => 11) l' := by
 unfold Q4n
 rw [Q7m, Q7m, h]
 exact Q7l _ _ _ _ h
def Hf : (h : Nat) -> Nd h -> Prop
 | 0, l => Q4n psz l < List.length (α := Pr) l
 | h + 1, ks => Q4n (fun _ : Kid h => 11) ks < List.length (α := Kid h) ks
theorem Q7o {w : World} {A : Nat -> Prop} {h : Nat} {n : Nd h} {x : Value} (hx : ND w A h n x) (hs : Sm h n) (h0 : Hf h n) :
  ∃ f v, Disp "store/tree.halves" x f v /\ ∀ W, Kept [] w W -> Calls prog f #[v] W fun e w' => ∃ a b, e = .returned (.tuple #[a, b]) /\ ND w' A h (Q4q h n).1 a /\ ND w' A h (Q4q h n).2 b /\ Kept [] W w' := by
 cases h with
 | zero =>
  obtain ⟨v, rfl, hl, hA⟩ := hx
  have HC := fun W k => Q7j v n W (hl.kept k) hs h0
  obtain ⟨p, c, ev⟩ := SL.shape hl
  subst ev
  refine ⟨_, _, Q7d _ _ _, fun W k => (HC W k).mono ?_⟩
  rintro e w' ⟨a, b, rfl, ha, hb, oa, ob, hk⟩
  exact ⟨_, _, rfl, ⟨a, rfl, ha, fun y hy => hA y (oa y hy)⟩, ⟨b, rfl, hb, fun y hy => hA y (ob y hy)⟩, hk⟩
 | succ h =>
  obtain ⟨v, xs, rfl, hl, hA, hf⟩ := Q6u.1 hx
  have hlen : xs.length = List.length (α := Kid h) n := hf.1.symm
  have hk11 : (ksz : KE -> Nat) = fun _ => 11 := rfl
  have hhalf : Q4n ksz xs = Q4n (fun _ : Kid h => 11) n := by rw [hk11]; exact Q7n (β := Kid h) xs n hlen
  have HC := fun W k => Q7k v xs W (hl.kept k) (by rw [hlen]; exact hs) (Q6w hf) (by rw [hhalf, hlen]; exact h0)
  rw [hhalf] at HC
  obtain ⟨p, c, ev⟩ := SL.shape hl
  subst ev
  refine ⟨_, _, Q7e _ _ _, fun W k => (HC W k).mono ?_⟩
  rintro e w' ⟨a, b, rfl, ha, hb, oa, ob, hk⟩
  have hf' := (hf.k k).k hk
  exact ⟨_, _, rfl, Q6u.2 ⟨a, _, rfl, ha, fun y hy => hA y (oa y hy), hf'.take _⟩, Q6u.2 ⟨b, _, rfl, hb, fun y hy => hA y (ob y hy), hf'.drop _⟩, hk⟩
theorem Q7p {w : World} {A : Nat -> Prop} {h : Nat} {n : Nd h} {x : Value} (hx : ND w A h n x) (h0 : 0 < Q4a h n) :
  ∃ f v, Disp "store/tree.first" x f v /\ ∀ W, Kept [] w W -> Calls prog f #[v] W fun e w' => e = .returned (.string (Q4t h n)) /\ Kept [] W w' := by
 cases h with
 | zero =>
  obtain ⟨v, rfl, hl, hA⟩ := hx
  cases n with
  | nil => simp [Q4a] at h0
  | cons q r =>
   have HC := fun W k => Q7h v q r W (hl.kept k)
   obtain ⟨p, c, ev⟩ := SL.shape hl
   subst ev
   exact ⟨_, _, Q7b _ _ _, HC⟩
 | succ h =>
  obtain ⟨v, xs, rfl, hl, hA, hf⟩ := Q6u.1 hx
  cases n with
  | nil => simp [Q4a] at h0
  | cons q r =>
   obtain ⟨y, hy, hr⟩ := hf.get (i := 0) (a := q) rfl
   cases xs with
   | nil => simp at hy
   | cons z zs =>
    simp at hy
    subst hy
    have HC := fun W k => Q7i v z zs W (hl.kept k)
    rw [hr.1.1] at HC
    obtain ⟨p, c, ev⟩ := SL.shape hl
    subst ev
    exact ⟨_, _, Q7c _ _ _, HC⟩
theorem Q7q (v : Value) (w : World) : (Instr.typeAssert (.iface 116 v) 78 116 false).run prog w = .ok v w := by kernel_rfl
theorem Q7r (v : Value) (w : World) : (Instr.typeAssert (.iface 168 v) 78 168 false).run prog w = .ok v w := by kernel_rfl
theorem bs2L (p p' : Option Addr) (n c n' c' : Nat) (w : World) : (Instr.buildSlice 312 2 #[(0, .slice p n c), (1, .slice p' n' c')]).run prog w = .ok (.slice (some ⟨w.heap.size, 0, none⟩) 2 2) (w.alloc (.cells #[.slice p n c, .slice p' n' c'] 116)) := by kernel_rfl
theorem bs2B (p p' : Option Addr) (n c n' c' : Nat) (w : World) : (Instr.buildSlice 314 2 #[(0, .slice p n c), (1, .slice p' n' c')]).run prog w = .ok (.slice (some ⟨w.heap.size, 0, none⟩) 2 2) (w.alloc (.cells #[.slice p n c, .slice p' n' c'] 168)) := by kernel_rfl
theorem Q7s (v v2 : Value) (l l2 : List Pr) (w : World) (h : LF w v l) (h2 : LF w v2 l2) (hl : l.length + l2.length <= 50000) : Calls prog 236 #[v, .iface 116 v2] w fun e w' =>
  ∃ a, e = .returned (.iface 116 a) /\ LF w' a (l ++ l2) /\ (∀ y, a.ownBlock = some y -> w.heap.size <= y) /\ Kept [] w w' := by
 obtain ⟨p, c, ev⟩ := SL.shape h
 obtain ⟨p2, c2, ev2⟩ := SL.shape h2
 rw [List.length_map] at ev ev2
 have k1 := (Kept.refl [] w).alloc (.cells #[v, v2] 116)
 have HC : Hid (Calls _ _ _ _ _) := Q6s w.heap.size v v2 (l.map pe) (l2.map pe) (w.alloc (.cells #[v, v2] 116)) (heap_alloc_new _ _) (SL.kept h k1) (SL.kept h2 k1) (Q6v l) (Q6v l2) (by simpa using hl)
 subst ev
 subst ev2
 have hb := bs2L
 have ha := Q7q
 go_enter func236, ntmps236
 go_wp2_with (first
  | (go_at_call 270; refine HC.out.mono ?_; rintro e w1 ⟨a, rfl, how, hk1⟩))
 go_ret
 refine ⟨_, rfl, ?_, fun y hy => ?_, k1.trans hk1⟩
 ·have := how.sl
  rw [<- List.map_append] at this
  exact this
 ·have := Q3I how.1 y (by rw [hy]; simp)
  simp at this
  omega
theorem Q7t (v v2 : Value) (l l2 : List KE) (w : World) (h : SL w 80 3 v (l.map ke)) (h2 : SL w 80 3 v2 (l2.map ke)) (o1 : ∀ x ∈ l, ∃ t v, x.2 = .iface t v) (o2 : ∀ x ∈ l2, ∃ t v, x.2 = .iface t v) (hl : l.length + l2.length <= 50000) : Calls prog 255 #[v, .iface 168 v2] w fun e w' =>
  ∃ a, e = .returned (.iface 168 a) /\ SL w' 80 3 a ((l ++ l2).map ke) /\ (∀ y, a.ownBlock = some y -> w.heap.size <= y) /\ Kept [] w w' := by
 obtain ⟨p, c, ev⟩ := SL.shape h
 obtain ⟨p2, c2, ev2⟩ := SL.shape h2
 rw [List.length_map] at ev ev2
 have k1 := (Kept.refl [] w).alloc (.cells #[v, v2] 168)
 have HC : Hid (Calls _ _ _ _ _) := Q6t w.heap.size v v2 (l.map ke) (l2.map ke) (w.alloc (.cells #[v, v2] 168)) (heap_alloc_new _ _) (SL.kept h k1) (SL.kept h2 k1) (Q6x o1) (Q6x o2) (by simpa using hl)
 subst ev
 subst ev2
 have hb := bs2B
 have ha := Q7r
 go_enter func255, ntmps255
 go_wp2_with (first
  | (go_at_call 271; refine HC.out.mono ?_; rintro e w1 ⟨a, rfl, how, hk1⟩))
 go_ret
 refine ⟨_, rfl, ?_, fun y hy => ?_, k1.trans hk1⟩
 ·have := how.sl
  rw [<- List.map_append] at this
  exact this
 ·have := Q3I how.1 y (by rw [hy]; simp)
  simp at this
  omega
theorem Q7u {w : World} {A : Nat -> Prop} {h : Nat} {n n2 : Nd h} {x x2 : Value} (hx : ND w A h n x) (hx2 : ND w A h n2 x2) (hs : Sm h n) (hs2 : Sm h n2) :
  ∃ f v, Disp "store/tree.joined" x f v /\ ∀ W, Kept [] w W -> Calls prog f #[v, x2] W fun e w' => ∃ a, e = .returned a /\ ND w' (fun y => A y \/ w.heap.size <= y) h (Q4u h n n2) a /\ Kept [] W w' := by
 cases h with
 | zero =>
  obtain ⟨v, rfl, hl, hA⟩ := hx
  obtain ⟨v2, rfl, hl2, hA2⟩ := hx2
  have HC := fun W k => Q7s v v2 n n2 W (hl.kept k) (hl2.kept k) (by have := hs.2; have := hs2.2; omega)
  obtain ⟨p, c, ev⟩ := SL.shape hl
  subst ev
  refine ⟨_, _, Q7f _ _ _, fun W k => (HC W k).mono ?_⟩
  rintro e w' ⟨a, rfl, ha, oa, hk⟩
  exact ⟨_, rfl, ⟨a, rfl, ha, fun y hy => Or.inr (Nat.le_trans k.size (oa y hy))⟩, hk⟩
 | succ h =>
  obtain ⟨v, xs, rfl, hl, hA, hf⟩ := Q6u.1 hx
  obtain ⟨v2, xs2, rfl, hl2, hA2, hf2⟩ := Q6u.1 hx2
  have hlen : xs.length = List.length (α := Kid h) n := hf.1.symm
  have hlen2 : xs2.length = List.length (α := Kid h) n2 := hf2.1.symm
  have HC := fun W k => Q7t v v2 xs xs2 W (hl.kept k) (hl2.kept k) (Q6w hf) (Q6w hf2) (by have : List.length (α := Kid h) n <= 1000 := hs; have : List.length (α := Kid h) n2 <= 1000 := hs2; omega)
  obtain ⟨p, c, ev⟩ := SL.shape hl
  subst ev
  refine ⟨_, _, Q7g _ _ _, fun W k => (HC W k).mono ?_⟩
  rintro e w' ⟨a, rfl, ha, oa, hk⟩
  have up : ∀ (ks : List (Kid h)) (ys : List KE), F2 (KR w A h) ks ys -> F2 (KR w' (fun y => A y \/ w.heap.size <= y) h) ks ys := fun ks ys hh => hh.mono fun _ _ _ hr => KR.kept hr (k.trans hk) (by simp) fun _ h => Or.inl h
  exact ⟨_, rfl, Q6u.2 ⟨a, _, rfl, ha, fun y hy => Or.inr (Nat.le_trans k.size (oa y hy)), (up _ _ hf).append (up _ _ hf2)⟩, hk⟩
theorem Q7v (p : Option Addr) (n c : Nat) : Disp "store/tree.leaf" (.iface 116 (.slice p n c)) 238 (.slice p n c) := ⟨_, rfl, fun _ => by kernel_rfl, fun _ _ => by kernel_rfl⟩
theorem Q7w (p : Option Addr) (n c : Nat) : Disp "store/tree.leaf" (.iface 168 (.slice p n c)) 257 (.slice p n c) := ⟨_, rfl, fun _ => by kernel_rfl, fun _ _ => by kernel_rfl⟩
theorem Q7x (xs : List KE) : (xs.map ke).map List.head? = (xs.map (·.1)).map fun q => some (Value.string q) := by
 rw [List.map_map, List.map_map]; rfl
theorem Q7y (l : List Pr) : (l.map pe).map List.head? = (l.map (·.1)).map fun q => some (Value.string q) := by
 rw [List.map_map, List.map_map]; rfl
theorem Q7z (h : Nat) (A : Nat -> Prop) (v : Value) (xs : List KE) (ks : List (Kid h)) (k : ByteArray) (w : World) (hl : SL w 80 3 v (xs.map ke)) (hf : F2 (KR w A h) ks xs) (hk : KW h ks) (hkl : ks.length <= 1000) :
  Calls prog 262 #[v, .string k] w fun e w' => e = .returned (.int .i64 (wayK ks k : Nat)) /\ Kept [] w w' := by
 have hlen : (xs.map ke).length = ks.length := by rw [List.length_map, hf.1]
 have hpos := Q6T (Q6C hk) k
 have hway := Q6E hk hpos (Q6S (ks.map (·.1)) k)
 have hcall := (Q5n v (xs.map ke) (ks.map (·.1)) k w hl (by rw [Q7x, Q6y hf]) (Q6C hk) (by omega)).mono fun _ _ h => Q6U h
 have hib := hpos.1
 rw [List.length_map] at hib
 obtain ⟨p, c, ev⟩ := hl.shape
 rw [List.length_map] at ev
 subst ev
 generalize pK (ks.map (·.1)) k = i at *
 generalize bK (ks.map (·.1)) k = b at *
 have HF : Hid (Calls _ _ _ _ _) := hcall
 have HW : Hid _ := hway
 clear hk hf hcall hway hpos
 cases b with
 | true =>
  go_enter func262, ntmps262
  go_wp2_with (first | (go_at_call 268; refine HF.out.mono ?_; rintro e w1 ⟨rfl, hk1⟩))
  go_ret
  exact ⟨by rw [HW.out]; rfl, hk1⟩
 | false =>
  rcases Nat.eq_zero_or_pos i with rfl | hi
  ·go_enter func262, ntmps262
   go_wp2_with (first | (go_at_call 268; refine HF.out.mono ?_; rintro e w1 ⟨rfl, hk1⟩))
   go_ret
   exact ⟨by rw [HW.out]; rfl, hk1⟩
  ·have hi' : (0 : Int) < (i : Int) := by omega
   go_enter func262, ntmps262
   go_wp2_with (first | (go_at_call 268; refine HF.out.mono ?_; rintro e w1 ⟨rfl, hk1⟩))
   go_ret
   refine ⟨?_, hk1⟩
   rw [HW.out]
   simp
   omega
theorem Q7A {h : Nat} {f : ByteArray} {ks : List (Kid h)} (k : ByteArray) (hw : WFN (h + 1) f ks) : wayK ks k < ks.length := by
 obtain ⟨⟨n0, x0, r0, e0⟩, _⟩ := (Q4i h f ks).1 hw
 have : (ks.takeWhile fun a => !bl k a.1).length <= ks.length := (List.takeWhile_prefix _).length_le
 have h1 : 0 < ks.length := by rw [e0]; simp
 unfold wayK
 omega
theorem Q7B (p : Option Addr) (n c : Nat) (k : ByteArray) (w : World) : Calls prog 238 #[.slice p n c, .string k] w fun e w' => e = .returned (.slice p n c) /\ Kept [] w w' := by
 go_enter func238, ntmps238
 go_wp2
 go_ret
 exact ⟨rfl, Kept.refl _ _⟩
def Q7C (k : ByteArray) (h : Nat) : Prop := ∀ (w : World) (A : Nat -> Prop) (f : ByteArray) (n : Nd h) (x : Value), ND w A h n x -> WFN h f n -> Q4j h n -> Q4a h n <= 1000 ->
  ∃ f v, Disp "store/tree.leaf" x f v /\ ∀ W, Kept [] w W -> Calls prog f #[v, .string k] W fun e w' => ∃ v', e = .returned v' /\ LF w' v' (Q6P k h n) /\ Kept [] W w'
theorem Q7D (k : ByteArray) (h : Nat) (IH : Q7C k h) (A : Nat -> Prop) (f0 : ByteArray) (v : Value) (xs : List KE) (ks : List (Kid h)) (w : World) (hl : SL w 80 3 v (xs.map ke)) (hf : F2 (KR w A h) ks xs) (hw : WFN (h + 1) f0 ks) (hfu : Q4j (h + 1) ks) (hsz : ks.length <= 1000) :
  Calls prog 257 #[v, .string k] w fun e w' => ∃ v', e = .returned v' /\ LF w' v' (Q6P k (h + 1) ks) /\ Kept [] w w' := by
 have hlen : (xs.map ke).length = ks.length := by rw [List.length_map, hf.1]
 have hkw := ((Q4i h f0 ks).1 hw).2
 have HWy : Hid (Calls _ _ _ _ _) := Q7z h A v xs ks k w hl hf hkw (by omega)
 have hlt := Q7A k hw
 obtain ⟨q, hq⟩ : ∃ q, ks[wayK ks k]? = some q := ⟨_, List.getElem?_eq_getElem hlt⟩
 have hqm := List.mem_of_getElem? hq
 have hqf := (Q4k h ks).1 hfu q hqm
 obtain ⟨y, hy, hr⟩ := hf.get hq
 have hleaf : Q6P k (h + 1) ks = Q6P k h q.2 := Q6Q k h ks q hq
 obtain ⟨f, vv, ⟨t, ex, hm, he⟩, hcall⟩ := IH _ _ _ _ _ hr.2 (hkw.all q hqm) hqf.2 (by have := hqf.1.2; omega)
 obtain ⟨g, off, cap, cur, e, hg, hc1, hc2, hc3, hcur⟩ := hl.at_ (by omega)
 rw [hlen] at e
 subst e
 have hc := (hcur (wayK ks k) (ke y) (by rw [List.getElem?_map, hy]; rfl)).2
 simp only [ke, ex] at hc
 have hcell : ∀ W, Kept [] w W -> W.cell? ⟨g, off + wayK ks k * 3 + 2, none⟩ = some (.iface t vv) := fun W kW => by rw [cell_of_row _ _ _ _ _ _ (kW.get hg (by simp))]; exact hc 2 _ rfl
 rw [hleaf]
 have HC : Hid (∀ W, Kept [] w W -> _) := hcall
 have HCell : Hid _ := hcell
 generalize wayK ks k = i at *
 clear hcall hcell hcur hc hleaf hy hq hr hqf hqm hw hfu hf
 go_enter func257, ntmps257
 go_wp2_with (first
  | (go_at_call 262; refine HWy.out.mono ?_; rintro e w1 ⟨rfl, hk1⟩; have c1 := HCell.out w1 hk1)
  | (refine Q04 rfl _ _ (Q0v 168 (.tmp 5) (.tmp 8) rfl g off ks.length cap i 3 rfl rfl 80 underlying168 stk' hlt (off + i * 3) rfl) ?_)
  | (go_at_fn f; refine (HC.out _ hk1).mono ?_; rintro e w2 ⟨v2, rfl, hl2, hk2⟩))
 go_ret
 exact ⟨_, rfl, hl2, hk1.trans hk2⟩
theorem Q7E (k : ByteArray) : ∀ h, Q7C k h
 | 0 => by
  intro w A f n x hx _ _ _
  obtain ⟨v, rfl, hl, hA⟩ := hx
  have hl' := hl
  obtain ⟨p, c, ev⟩ := SL.shape hl
  subst ev
  refine ⟨_, _, Q7v _ _ _, fun W kW => (Q7B _ _ _ k W).mono ?_⟩
  rintro e w' ⟨rfl, hk⟩
  exact ⟨_, rfl, (hl'.kept kW).kept hk, hk⟩
 | h + 1 => by
  intro w A f n x hx hw hfu hs
  obtain ⟨v, xs, rfl, hl, hA, hf⟩ := Q6u.1 hx
  have hsz : List.length (α := Kid h) n <= 1000 := by have : 11 * List.length (α := Kid h) n <= 1000 := hs; omega
  have HC := fun W kW => Q7D k h (Q7E k h) A f v xs n W (hl.kept kW) (hf.k kW) hw hfu hsz
  obtain ⟨p, c, ev⟩ := SL.shape hl
  subst ev
  exact ⟨_, _, Q7w _ _ _, HC⟩
def Q7F (v : Value) (l : List Pr) (w : World) (e : Ending) (w' : World) : Prop := ∃ v', e = .returned v' /\ LF w' v' l /\ (∀ y, v'.ownBlock = some y -> v.ownBlock = some y \/ w.heap.size <= y) /\ Kept [] w w'
theorem Q7G (v : Value) (l : List Pr) (k : ByteArray) (w : World) (h : LF w v l) (hs : Srt l) (hl : l.length <= 1000) (hh : (getL k l).isSome = true) : Calls prog 74 #[v, .string k] w (Q7F v (Q3s k l) w) := by
 have hpos := Q6T (Q6D hs) k
 have hres := Q6K hs hpos (Q6S (l.map (·.1)) k)
 have hbi := Q6S (l.map (·.1)) k
 have hgp := Q6O hs hpos hbi
 have hcall := (Q5i v (l.map pe) (l.map (·.1)) k w h (Q7y l) (Q6D hs) (by simp; omega)).mono fun _ _ h => Q6U h
 have hib := hpos.1
 rw [List.length_map] at hib
 have hlen : (l.map pe).length = l.length := List.length_map _
 have h' := h
 obtain ⟨p, c, ev⟩ := SL.shape h'
 rw [hlen] at ev
 subst ev
 generalize pK (l.map (·.1)) k = i at *
 generalize bK (l.map (·.1)) k = b at *
 have HF : Hid (Calls _ _ _ _ _) := hcall
 have HR : Hid _ := hres
 clear hcall hres hpos
 cases b with
 | false =>
  rw [hgp] at hh
  simp at hh
 | true =>
  have hil : i < l.length := by
   have := (List.getElem?_eq_some_iff.1 (hbi.1 rfl)).1
   rwa [List.length_map] at this
  have HCl : Hid (∀ W, Kept [] w W -> _) := fun W kW => Q5B _ (l.map pe) W (SL.kept h kW) (Q6v l) (by simp; omega)
  have hl2 : (l.map pe).length <= 50000 := by simp; omega
  have hi2 : i < (l.map pe).length := by simpa using hil
  have HD : Hid (∀ B vl W, OW W B 122 2 vl (l.map pe) -> _) := fun B vl W ho => Q5R B vl (l.map pe) i W ho (Q6v l) hi2 hl2
  clear hbi hl2 hi2
  go_enter func74, ntmps74
  go_wp2_with (first
   | (go_at_call 70; refine HF.out.mono ?_; rintro e w1 ⟨rfl, hk1⟩)
   | (go_at_call 112; refine (HCl.out _ hk1).mono ?_; rintro e w2 ⟨v2, rfl, ho2, hk2⟩)
   | (go_at_call 111; refine (HD.out _ _ _ ho2).mono ?_; rintro e w3 ⟨v3, rfl, ho3, hk3⟩))
  go_ret
  have k3 : Kept [] w w3 := (hk1.trans hk2).trans2 hk3 fun y hy => Or.inr (Nat.le_trans hk1.size (Q3I ho2.1 y hy))
  refine ⟨v3, rfl, ?_, fun y hy => Or.inr ?_, k3⟩
  ·have := ho3.sl
   rw [<- List.map_take, <- List.map_drop, <- List.map_append] at this
   rw [HR.out]
   exact this
  ·have := Q3I ho3.1 y (by rw [hy]; simp)
   exact Nat.le_trans hk1.size this
theorem Q7H (B : Nat) (vl : Value) (es : List El) (i : Nat) (w : World) (h : OW w B 122 2 vl es) (h1 : One 2 es) (hi : i <= es.length) (hl : es.length <= 50000) (hBw : B <= w.heap.size)
  (gv off cv : Nat) (vs : List El) (hv : SL w 122 2 (.slice (some ⟨gv, off, none⟩) vs.length cv) vs) (hv1 : One 2 vs) (hv0 : 0 < vs.length) (hv2 : vs.length <= 1000) (hap : vl.ownBlock ≠ some gv) :
  Calls prog 125 #[vl, .int .i64 i, .int .i64 i, .slice (some ⟨gv, off, none⟩) vs.length cv] w (OwnR B 122 2 vl (es.take i ++ vs ++ es.drop i) w) := by
 have HI : Hid (Calls _ _ _ _ _) := Q6n B vl es i w h h1 hi hl hBw gv off cv vs hv hv1 hv0 hv2 hap
 obtain ⟨ie, hie, hz1, hz2, hz3⟩ := info_parts itp
 obtain ⟨p, c, rfl⟩ := h.sl.shape
 have hc : es.length <= c := by
  obtain ⟨_, ⟨e, h0⟩ | ⟨g, cap, cur, e, _, _, h1, _⟩⟩ := h.1
  ·injection e with e1 e2 e3; omega
  ·injection e with e1 e2 e3; omega
 have hic : i <= c := by omega
 obtain ⟨rs, hrs⟩ : ∃ rs, rs = (if c = i then p else p.map (·.add (i * 2))) := ⟨_, rfl⟩
 obtain ⟨rc, hrc⟩ : ∃ rc, rc = c - i := ⟨_, rfl⟩
 have hsl : ∀ W : World, (Instr.sliceAt 116 (.slice p es.length c) (some (.int .i64 (i : Int))) (some (.int .i64 (i : Int))) none).run prog W = .ok (.slice rs 0 rc) W := by
  intro W
  rw [hrs, hrc]
  simp [Instr.sliceAt, Instr.slice, run_underlying underlying116, Instr.sliceBounds, Instr.sliceBound, asIntOf, sizeOf, typeInfo, hie, hz2, hic]
 clear hrs hrc
 go_enter func125, ntmps125
 go_wp2_with (first | (go_at_call 156; refine HI.out.mono ?_; rintro e w3 ⟨v3, rfl, ho3, hk3⟩))
 go_ret
 exact ⟨_, rfl, ho3, hk3⟩
theorem Q7I {α : Type} (sz : α -> Nat) (b : Nat) (l : List α) (hs : ∀ x ∈ l, sz x <= b) (hb : 0 < b) (hb2 : b <= 22) (h1 : 122 < (l.map sz).sum) : Q4n sz l < l.length /\ 0 < ((l.drop (Q4n sz l)).map sz).sum := by
 obtain ⟨a1, a2⟩ := Q4p sz b l hs (by omega) hb
 have hsp := Q4o sz l (Q4n sz l)
 have hpos : 0 < ((l.drop (Q4n sz l)).map sz).sum := by omega
 refine ⟨?_, hpos⟩
 obtain ⟨a, r, e⟩ := Q4w sz _ hpos
 have := congrArg List.length e
 rw [List.length_drop, List.length_cons] at this
 omega
theorem Q7J {h : Nat} (ks : List (Kid h)) (h1 : 122 < 11 * ks.length) : Q4n (fun _ : Kid h => 11) ks < ks.length /\ 0 < 11 * (ks.drop (Q4n (fun _ : Kid h => 11) ks)).length := by
 have := Q7I (fun _ : Kid h => 11) 11 ks (by simp) (by omega) (by omega) (by rw [Q4v]; exact h1)
 rw [Q4v] at this
 exact this
theorem Q7K {h : Nat} {f : ByteArray} {n : Nd h} (hw : WFN h f n) (h1 : 122 < Q4a h n) : Hf h n /\ 0 < Q4a h (Q4q h n).2 := by
 cases h with
 | zero => exact Q7I psz 22 n (fun x hx => Q4g (hw.2 x hx).2) (by omega) (by omega) h1
 | succ h => exact Q7J n h1
theorem bkid (f : ByteArray) (t : TypeId) (v : Value) (w : World) : (Instr.build 80 #[(0, .string f), (2, .iface t v)]).run prog w = .ok (.agg #[.string f, .int .i64 0, .iface t v]) w := by kernel_rfl
theorem bs1K (f : ByteArray) (t : TypeId) (v : Value) (w : World) : (Instr.buildSlice 165 1 #[(0, .agg #[.string f, .int .i64 0, .iface t v])]).run prog w = .ok (.slice (some ⟨w.heap.size, 0, none⟩) 1 1) (w.alloc (.cells #[.string f, .int .i64 0, .iface t v] 80)) := by kernel_rfl
theorem bs2K (f f2 : ByteArray) (t t2 : TypeId) (v v2 : Value) (w : World) : (Instr.buildSlice 165 2 #[(0, .agg #[.string f, .int .i64 0, .iface t v]), (1, .agg #[.string f2, .int .i64 0, .iface t2 v2])]).run prog w = .ok (.slice (some ⟨w.heap.size, 0, none⟩) 2 2) (w.alloc (.cells #[.string f, .int .i64 0, .iface t v, .string f2, .int .i64 0, .iface t2 v2] 80)) := by kernel_rfl
theorem Q7L (q : KE) (A B : List Value) : ∀ (j : Nat) (u : Value), (ke q)[j]? = some u -> ((A ++ ke q ++ B).toArray)[A.length + j]? = some u := by
 intro j u hj
 have hl : j < (ke q).length := (List.getElem?_eq_some_iff.1 hj).1
 rw [List.getElem?_toArray, List.append_assoc, List.getElem?_append_right (by omega), Nat.add_sub_cancel_left, List.getElem?_append_left hl]
 exact hj
def FitR {h : Nat} (A : Nat -> Prop) (M : List (Kid h)) (w : World) (e : Ending) (w' : World) : Prop :=
 ∃ gv cv xs, e = .returned (.slice (some ⟨gv, 0, none⟩) xs.length cv) /\ SL w' 80 3 (.slice (some ⟨gv, 0, none⟩) xs.length cv) (xs.map ke) /\ F2 (KR w' A h) M xs /\ w.heap.size <= gv /\ Kept [] w w'
theorem Q7M {w : World} {A : Nat -> Prop} {h : Nat} {f : ByteArray} {n : Nd h} {x : Value} (hx : ND w A h n x) (hw : WFN h f n) (h2 : Q4a h n <= 161) :
  Calls prog 110 #[.string f, x] w (FitR A (fitN h f n) w) := by
 have hs := Sm.of hw (by omega)
 obtain ⟨f1, v1, ⟨t1, e1, hm1, he1⟩, hc1⟩ := Q7a hx hs
 have hx' := hx
 subst e1
 have hb := bkid
 by_cases hsz : Q4a h n <= 122
 ·have eM : fitN h f n = [⟨f, n, 0⟩] := by unfold fitN; rw [if_pos hsz]
  have hle : ((Q4a h n : Nat) : Int) <= 122 := by omega
  generalize Q4a h n = S at *
  have HC1 : Hid (∀ W, Kept [] w W -> _) := hc1
  have HX : Hid _ := hx
  have HM : Hid _ := eM
  clear hc1 eM hw hx hx' hs
  have hbs := bs1K
  go_enter func110, ntmps110
  go_wp2_with (first
   | (go_at_fn f1; refine (HC1.out _ (Kept.refl _ _)).mono ?_; rintro e w1 ⟨rfl, hk1⟩))
  go_ret
  refine ⟨w1.heap.size, 1, [⟨f, .iface t1 v1, 0⟩], rfl, ?_, ?_, hk1.size, hk1.alloc _⟩
  ·refine Or.inr ⟨w1.heap.size, 0, 1, _, rfl, heap_alloc_new _ _, Nat.le_refl _, by unfold maxLen; omega, by simp, ?_⟩
   intro i e he
   cases i with
   | zero => simp at he; subst he; exact ⟨rfl, fun j u hj => by simpa [ke] using Q7L ⟨f, .iface t1 v1, 0⟩ [] [] j u hj⟩
   | succ i => simp at he
  ·rw [HM.out]
   exact F2.one ⟨⟨rfl, rfl⟩, ND.k HX.out (hk1.alloc _)⟩
 ·obtain ⟨hh0, hr0⟩ := Q7K hw (by omega)
  have eM : fitN h f n = [⟨f, (Q4q h n).1, 0⟩, ⟨Q4t h (Q4q h n).2, (Q4q h n).2, 0⟩] := by unfold fitN; rw [if_neg hsz]
  obtain ⟨f2, v2, ⟨t2, e2, hm2, he2⟩, hc2⟩ := Q7o hx hs hh0
  cases e2
  have hle : ¬ ((Q4a h n : Nat) : Int) <= 122 := by omega
  generalize Q4a h n = S at *
  have HC1 : Hid (∀ W, Kept [] w W -> _) := hc1
  have HC2 : Hid (∀ W, Kept [] w W -> _) := hc2
  have HF : Hid (∀ W x, ND W A h (Q4q h n).2 x -> _) := fun W x hx => Q7p hx hr0
  have HM : Hid _ := eM
  clear hc1 hc2 eM hw hx hx' hs hr0 hh0
  have hbs := bs2K
  go_enter func110, ntmps110
  go_wp2_with (first
   | (go_at_fn f1; refine (HC1.out _ (Kept.refl _ _)).mono ?_; rintro e w1 ⟨rfl, hk1⟩)
   | (go_at_fn f2; refine (HC2.out _ hk1).mono ?_; rintro e w2 ⟨a, b, rfl, ha, hb2, hk2⟩; obtain ⟨f3, v3, ⟨t3, e3, hm3, he3⟩, hc3⟩ := HF.out w2 b hb2; obtain ⟨ta, va, ea⟩ := ha.iface; have HA : Hid _ := ha; have HB : Hid _ := hb2; have HC3 : Hid (∀ W, Kept [] w2 W -> _) := hc3; clear ha hb2 hc3; subst e3; subst ea)
   | (go_at_fn f3; refine (HC3.out _ (Kept.refl _ _)).mono ?_; rintro e w3 ⟨rfl, hk3⟩))
  go_ret
  have k23 := hk3.alloc (.cells #[.string f, .int .i64 0, .iface ta va, .string (Q4t h (Q4q h n).2), .int .i64 0, .iface t3 v3] 80)
  refine ⟨w3.heap.size, 2, [⟨f, .iface ta va, 0⟩, ⟨Q4t h (Q4q h n).2, .iface t3 v3, 0⟩], rfl, ?_, ?_, ((hk1.trans hk2).trans hk3).size, (hk1.trans hk2).trans k23⟩
  ·refine Or.inr ⟨w3.heap.size, 0, 2, _, rfl, heap_alloc_new _ _, Nat.le_refl _, by unfold maxLen; omega, by simp, ?_⟩
   intro i e he
   rcases i with _ | _ | i
   ·simp at he; subst he; exact ⟨rfl, fun j u hj => by simpa [ke] using Q7L ⟨f, .iface ta va, 0⟩ [] (ke ⟨Q4t h (Q4q h n).2, .iface t3 v3, 0⟩) j u hj⟩
   ·simp at he; subst he; exact ⟨rfl, fun j u hj => by simpa [ke] using Q7L ⟨Q4t h (Q4q h n).2, .iface t3 v3, 0⟩ (ke ⟨f, .iface ta va, 0⟩) [] j u hj⟩
   ·simp at he
  ·rw [HM.out]
   exact (F2.one (R := KR _ A h) (a := ⟨f, (Q4q h n).1, 0⟩) (b := ⟨f, .iface ta va, 0⟩) ⟨⟨rfl, rfl⟩, ND.k HA.out k23⟩).append (F2.one ⟨⟨rfl, rfl⟩, ND.k HB.out k23⟩)
def Q7N {h : Nat} (B : Nat) (A : Nat -> Prop) (v : Value) (L : List (Kid h)) (w : World) (e : Ending) (w' : World) : Prop :=
 ∃ v' xs', e = .returned v' /\ OW w' B 80 3 v' (xs'.map ke) /\ F2 (KR w' A h) L xs' /\ Kept v.ownBlock.toList w w'
theorem Q7O {h : Nat} {B : Nat} {A : Nat -> Prop} {v : Value} {xs : List KE} {ks : List (Kid h)} {w : World} (ho : OW w B 80 3 v (xs.map ke)) (hB : B <= w.heap.size) (hf : F2 (KR w A h) ks xs) (hA : ∀ y, A y -> v.ownBlock ≠ some y) (hkl : ks.length <= 1000)
  {i j : Nat} {M : List (Kid h)} {gv cv : Nat} {xs1 : List KE} {W : World} (hW : Kept [] w W) (hij : i < j) (hj : j <= ks.length) (hv : SL W 80 3 (.slice (some ⟨gv, 0, none⟩) xs1.length cv) (xs1.map ke)) (hf1 : F2 (KR W (fun y => A y \/ w.heap.size <= y) h) M xs1) (hgv : w.heap.size <= gv) (hM : M.length = 1 \/ M.length = 2) (iv jv : Int) (hiv : iv = i) (hjv : jv = j) :
  Calls prog 269 #[v, .int .i64 iv, .int .i64 jv, .slice (some ⟨gv, 0, none⟩) xs1.length cv] W (Q7N B (fun y => A y \/ w.heap.size <= y) v (ks.take i ++ (M ++ ks.drop j)) w) := by
 subst hiv
 subst hjv
 have hlt := Q3J ho.1
 have hln : (xs.map ke).length = ks.length := by rw [List.length_map, hf.1]
 have ho' : OW W B 80 3 v (xs.map ke) := ⟨Q0T ho.1 hW (by simp), ho.2⟩
 have hl1 : xs1.length = M.length := hf1.1.symm
 have hv' : SL W 80 3 (.slice (some ⟨gv, 0, none⟩) (xs1.map ke).length cv) (xs1.map ke) := by rw [List.length_map]; exact hv
 have hc := Q6l B v (xs.map ke) i j W ho' (Q6x (Q6w hf)) hij (by omega) (by omega) (Nat.le_trans hB hW.size) gv 0 cv (xs1.map ke) hv' (Q6x (Q6w hf1)) (by rw [List.length_map]; omega) (by rw [List.length_map]; omega) (by
  intro e
  have := hlt gv (by rw [e]; simp)
  omega)
 rw [List.length_map] at hc
 refine hc.mono ?_
 rintro e w' ⟨v', rfl, ho3, hk3⟩
 have hS : ∀ y ∈ v.ownBlock.toList, ¬ (A y \/ w.heap.size <= y) := by
  intro y hy hA'
  rcases hA' with h1 | h1
  ·exact hA y h1 (by simpa using hy)
  ·have := hlt y hy; omega
 refine ⟨v', xs.take i ++ (xs1 ++ xs.drop j), rfl, ?_, ?_, (hW.mono (by simp)).trans hk3⟩
 ·have e : (xs.map ke).take i ++ xs1.map ke ++ (xs.map ke).drop j = (xs.take i ++ (xs1 ++ xs.drop j)).map ke := by simp
  rw [e] at ho3
  exact ho3
 ·have up : F2 (KR w' (fun y => A y \/ w.heap.size <= y) h) ks xs := hf.mono fun _ _ _ hr => KR.kept (KR.kept hr hW (by simp) fun _ h => Or.inl h) hk3 hS fun _ h => h
  have up1 : F2 (KR w' (fun y => A y \/ w.heap.size <= y) h) M xs1 := hf1.mono fun _ _ _ hr => KR.kept hr hk3 hS fun _ h => h
  exact (up.take i).append (up1.append (up.drop j))
theorem Q7P {h : Nat} {ks : List (Kid h)} {i : Nat} (hl : Q4L h ks i) {a : Kid h} (ha : ks[i]? = some a) (hs : Q4a h a.2 < 40) :
  ∃ x y, ks[i - 1]? = some x /\ ks[i - 1 + 1]? = some y /\ WFN h x.1 (Q4u h x.2 y.2) /\ Q4a h (Q4u h x.2 y.2) <= 161 /\ Q4I h ks i = ks.take (i - 1) ++ (fitN h x.1 (Q4u h x.2 y.2) ++ ks.drop (i - 1 + 2)) := by
 obtain ⟨l1, l2⟩ := hl.lo a ha
 have hmem : ∀ {j b}, ks[j]? = some b -> b ∈ ks := fun h => List.mem_of_getElem? h
 have h2 := hl.two
 have hlt := hl.lt
 obtain ⟨x, hx⟩ : ∃ x, ks[i - 1]? = some x := ⟨_, List.getElem?_eq_getElem (by omega)⟩
 obtain ⟨y, hy⟩ : ∃ y, ks[i - 1 + 1]? = some y := ⟨_, List.getElem?_eq_getElem (by omega)⟩
 have hsp := Q4K ks (i - 1) x y hx hy
 have hord := hl.kw.ord
 rw [hsp] at hord
 have hb : Bef h x y := by
  have := (List.pairwise_append.1 (List.pairwise_append.1 hord).2.1).1
  exact (List.pairwise_cons.1 this).1 y (by simp)
 have hw := Q4H h x y hb (hl.kw.all x (hmem hx)) (hl.kw.all y (hmem hy)) (hl.full x (hmem hx))
 have hsz := Q4F h x.2 y.2
 have hrange : Q4a h x.2 + Q4a h y.2 <= 161 := by
  by_cases hi0 : i = 0
  ·subst hi0
   have hxa : x = a := by rw [ha] at hx; cases hx; rfl
   have t2 := (hl.rt _ y hy (by omega)).2
   subst hxa; omega
  ·have hya : y = a := by rw [show i - 1 + 1 = i by omega, ha] at hy; cases hy; rfl
   have t2 := (hl.rt _ x hx (by omega)).2
   subst hya; omega
 refine ⟨x, y, hx, hy, hw, by omega, ?_⟩
 unfold Q4I
 rw [ha]
 simp only
 rw [if_pos hs, hx, hy]
theorem Q7Q (h : Nat) (f : ByteArray) (n : Nd h) : (fitN h f n).length = 1 \/ (fitN h f n).length = 2 := by
 unfold fitN
 split
 ·exact Or.inl rfl
 ·exact Or.inr rfl
theorem Q7R {h : Nat} {B : Nat} {A : Nat -> Prop} {v : Value} {xs : List KE} {ks : List (Kid h)} {w : World} (ho : OW w B 80 3 v (xs.map ke)) (hB : B <= w.heap.size) (hf : F2 (KR w A h) ks xs) (hA : ∀ y, A y -> v.ownBlock ≠ some y) (hkl : ks.length <= 1000)
  {i : Nat} (hl : Q4L h ks i) {a : Kid h} (ha : ks[i]? = some a) (hs : ¬ Q4a h a.2 < 40) :
  Calls prog 264 #[v, .int .i64 i] w (Q7N B (fun y => A y \/ w.heap.size <= y) v (Q4I h ks i) w) := by
 have hres : Q4I h ks i = ks.take i ++ (fitN h a.1 a.2 ++ ks.drop (i + 1)) := by
  unfold Q4I
  rw [ha]
  simp only
  rw [if_neg hs]
 have hlt := hl.lt
 have hwa := hl.kw.all a (List.mem_of_getElem? ha)
 have hla := hl.lo a ha
 obtain ⟨y, hy, hr⟩ := hf.get ha
 obtain ⟨f1, v1, ⟨t1, e1, hm1, he1⟩, hc1⟩ := Q7a hr.2 (Sm.of hwa (by omega))
 have hln : (xs.map ke).length = ks.length := by rw [List.length_map, hf.1]
 obtain ⟨g, off, cap, cur, ev, hg, hc2, hc3, hc4, hcur⟩ := ho.sl.at_ (by omega)
 rw [hln] at ev
 have hcl := hcur i (ke y) (by rw [List.getElem?_map, hy]; rfl)
 simp only [ke, e1, hr.1.1] at hcl
 have hcell : ∀ W, Kept [] w W -> W.cell? ⟨g, off + i * 3, none⟩ = some (.string a.1) := fun W kW => by rw [cell_of_row _ _ _ _ _ _ (kW.get hg (by simp))]; exact hcl.2 0 _ rfl
 have c0 : w.cell? ⟨g, off + i * 3 + 2, none⟩ = some (.iface t1 v1) := by rw [cell_of_row _ _ _ _ _ _ hg]; exact hcl.2 2 _ rfl
 have HFit : Hid (∀ W, Kept [] w W -> _) := fun W kW => Q7M (A := fun y => A y \/ w.heap.size <= y) (f := a.1) (ND.kept kW (by simp) (fun _ h => Or.inl h) hr.2) hwa (by omega)
 rw [e1] at HFit
 have HRp : Hid (∀ W gv cv xs1, Kept [] w W -> SL W 80 3 (.slice (some ⟨gv, 0, none⟩) xs1.length cv) (xs1.map ke) -> F2 (KR W (fun y => A y \/ w.heap.size <= y) h) (fitN h a.1 a.2) xs1 -> w.heap.size <= gv -> _) := fun W gv cv xs1 hW hv hf1 hgv => Q7O ho hB hf hA hkl hW (i := i) (j := i + 1) (by omega) (by omega) hv hf1 hgv (Q7Q h a.1 a.2) (i : Int) ((i : Int) + 1) rfl (by omega)
 rw [hres]
 have HC1 : Hid (∀ W, Kept [] w W -> _) := hc1
 have HCell : Hid _ := hcell
 have hge : ¬ ((Q4a h a.2 : Nat) : Int) < 40 := by omega
 have hib : i <= 1000 := by omega
 subst ev
 generalize Q4a h a.2 = S at *
 generalize ks.length = m at *
 clear hcell hcl hcur hc1 hwa hla hl hy hr hf ho hA hres ha e1
 go_enter func264, ntmps264
 go_wp2_with (first
  | (refine Q04 rfl _ _ (Q0v 168 (.tmp 7) (.tmp 8) rfl g off m cap i 3 rfl rfl 80 underlying168 stk' hlt (off + i * 3) rfl) ?_)
  | (go_at_fn f1; refine (HC1.out _ (Kept.refl _ _)).mono ?_; rintro e w1 ⟨rfl, hk1⟩; have c1 := HCell.out w1 hk1)
  | (refine Q04 rfl _ _ (Q0v 168 (.tmp 39) (.tmp 40) rfl g off m cap i 3 rfl rfl 80 underlying168 stk' hlt (off + i * 3) rfl) ?_)
  | (go_at_call 110; refine (HFit.out _ hk1).mono ?_; rintro e w2 ⟨gv, cv, xs1, rfl, hv1, hf1, hgv, hk2⟩)
  | (go_at_call 269; refine (HRp.out _ gv cv xs1 (hk1.trans hk2) hv1 hf1 (Nat.le_trans hk1.size hgv)).mono ?_; rintro e w3 ⟨v3, xs3, rfl, ho3, hf3, hk3⟩))
 go_ret
 exact ⟨_, _, rfl, ho3, hf3, hk3⟩
end Go.Proofs.YtcklgafpgdhnaaaGreatDoor
