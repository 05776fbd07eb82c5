import Derived.Test.YtcklgafpgdhnaaaGreatDoorPsbe
import Derived.Test.YtcklgafpgdhnaaaGreatDoorPsae
import Derived.Test.YtcklgafpgdhnaaaGreatDoorPsac
import Derived.Test.YtcklgafpgdhnaaaGreatDoorPsau
import Derived.Test.YtcklgafpgdhnaaaGreatDoorPsag
import Derived.Test.YtcklgafpgdhnaaaGreatDoorPsba
set_option maxRecDepth 100000
set_option maxHeartbeats 4000000
open Go.Proofs.Tryz
namespace Go.Proofs.YtcklgafpgdhnaaaGreatDoor
open Go.RowKit
theorem QcU (w : World) (d : Value) : ((w.alloc (.cells #[d] 126)).alloc (.cells #[.pointer none] 27)).heap[w.heap.size]? = some (.cells #[d] 126 (0, 0)) /\
  ((w.alloc (.cells #[d] 126)).alloc (.cells #[.pointer none] 27)).heap[w.heap.size + 1]? = some (.cells #[.pointer none] 27 (0, 0)) := by
 constructor
 ·exact ((Kept.refl [] _).alloc _).get (heap_alloc_new _ _) (by simp)
 ·have := heap_alloc_new (w.alloc (.cells #[d] 126)) (.cells #[.pointer none] 27)
  rwa [World.size_alloc] at this
def QcV (a : Nat) (bv : Value) (n : Nat) (cv : Value) (D : Dv) (h : (Nat × Nat) × Bool) (rt : Option Tr) (w : World) (e : Ending) (w' : World) : Prop :=
 ∃ o pv err D', e = .returned (.tuple #[pv, err]) /\ CEnd o err w' /\ DQ w' a bv n cv D' /\ Kept [a] w w' /\ ((o = some 6 /\ Er D D' /\ pv = .pointer none) \/ (o = some 7 /\ Qt D D' /\ pv = .pointer none /\ (h.2 = false \/ rt = none)) \/
  (o = none /\ Qt D D' /\ h.2 = true /\ ∃ t r x v, rt = some t /\ pv = .pointer (some ⟨x, 0, none⟩) /\ Rec x v a n ⟨1, h.1.1, h.1.2, t, r⟩ r t w' /\ w.heap.size <= x))
theorem QcW (a : Nat) (bv : Value) (n : Nat) (cv : Value) (D : Dv) (rt : Option Tr) (w : World) (h : DQ w a bv n cv D) (hn8 : 8 <= n) (hn : n <= 400) (hq : D.q.length < 1000000) (hT : Good D \/ Tab w)
  (hR : ∀ v W D1, Vol W v a n -> DQ W a bv n cv D1 -> Qt D D1 -> (Good D1 \/ Tab W) -> (Tab w -> Tab W) -> Calls prog 90 #[.pointer (some ⟨v, 0, none⟩), .int .i64 ((Q9z D).1.2 : Nat)] W (TrdR a bv n cv D1 rt W)) :
  Calls prog 55 #[.iface 26 (.pointer (some ⟨a, 0, none⟩))] w (QcV a bv n cv D (Q9z D) rt w) := by
 have hmf := Q2H
 have hla := Q00 h.d
 have k1 := ((Kept.refl [] w).alloc (.cells #[.iface 26 (.pointer (some ⟨a, 0, none⟩))] 126)).alloc (.cells #[.pointer none] 27)
 obtain ⟨n1, s1⟩ := QcU w (.iface 26 (.pointer (some ⟨a, 0, none⟩)))
 have h1 := h.k0 k1
 have hT1 := hT.imp id fun hT : Tab w => hT.k k1
 have hsz : ((w.alloc (.cells #[.iface 26 (.pointer (some ⟨a, 0, none⟩))] 126)).alloc (.cells #[.pointer none] 27)).heap.size = w.heap.size + 2 := by simp
 generalize hw1 : (w.alloc (.cells #[.iface 26 (.pointer (some ⟨a, 0, none⟩))] 126)).alloc (.cells #[.pointer none] 27) = w1 at *
 have HC : Hid (∀ b, Calls prog 42 #[.string b, .func (.func 89) #[] #[.pointer (some ⟨w.heap.size, 0, none⟩), .pointer (some ⟨w.heap.size + 1, 0, none⟩)]] w1 (Q2X [a, w.heap.size + 1] (OpE (w.heap.size + 1) a bv n cv D (Q9z D) rt w1.heap.size) w1)) := by
  intro b
  refine Q2Y b 89 _ (fun _ _ => by kernel_rfl) _ _ w1 ?_ (fun o W W' T hR hK hT => hR.err hK fun x hx => (hT x hx).2.2) ?_
  ·intro x hx; simp at hx; omega
  ·intro W hW hWs
   refine (QcT w.heap.size (w.heap.size + 1) a bv n cv D rt W (hW.get n1 (by simp)) (hW.get s1 (by simp)) (h1.k0 hW) hn8 hn hq (hT1.imp id fun hT => hT.k hW) (fun v W' D1 g1 g2 g3 g4 g5 => hR v W' D1 g1 g2 g3 g4 fun hT => g5 ((hT.k k1).k hW))).mono ?_
   rintro e w' ⟨o, h1, ⟨D', h2, h3⟩, h4⟩
   refine ⟨o, h1, ⟨D', h2, ?_⟩, h4⟩
   rcases h3 with h3 | h3 | ⟨g1, g2, g3, t, r, x, v, g4, g5, g6, g7, g8⟩
   ·exact Or.inl h3
   ·exact Or.inr (Or.inl h3)
   ·exact Or.inr (Or.inr ⟨g1, g2, g3, t, r, x, v, g4, g5, g6, Nat.le_trans hW.size g7, Nat.le_trans hW.size g8⟩)
 have HW : Hid _ := hw1
 clear hw1 h1 n1 s1 hT1 hR
 go_enter func55, ntmps55
 go_wp2_with (go_at_call 42; rw [HW.out]; refine (HC.out _).mono ?_; rintro e w2 ⟨o, err, rfl, hc2, ⟨D2, hd2, hr2⟩, hk2⟩; obtain ⟨pv, hpv, hs2⟩ : ∃ pv, (∃ q, pv = .pointer q) /\ w2.heap[w.heap.size + 1]? = some (.cells #[pv] 27 (0, 0)) := (by rcases hr2 with h3 | h3 | ⟨g1, g2, g3, t, r, x, v, g4, g5, g6, g7, g8⟩; exact ⟨_, ⟨_, rfl⟩, h3.2.2⟩; exact ⟨_, ⟨_, rfl⟩, h3.2.2.1⟩; exact ⟨_, ⟨_, rfl⟩, g5⟩); obtain ⟨q, rfl⟩ := hpv; have e2 : w2.cell? ⟨w.heap.size + 1, 0, none⟩ = some (.pointer q) := Q02 hs2 rfl)
 go_ret2
 refine ⟨o, .pointer q, err, D2, rfl, hc2, hd2, (k1.mono (by simp)).trans2 hk2 ?_, ?_⟩
 ·intro y hy
  simp at hy
  rcases hy with rfl | rfl
  ·exact Or.inl (by simp)
  ·exact Or.inr (by omega)
 ·rcases hr2 with ⟨g1, g2, g3⟩ | ⟨g1, g2, g3, g4⟩ | ⟨g1, g2, g3, t, r, x, v, g4, g5, g6, g7, g8⟩
  ·have e := g3.symm.trans hs2
   simp at e
   exact Or.inl ⟨g1, g2, by rw [<- e]⟩
  ·have e := g3.symm.trans hs2
   simp at e
   exact Or.inr (Or.inl ⟨g1, g2, by rw [<- e], g4⟩)
  ·have e := g5.symm.trans hs2
   simp at e
   exact Or.inr (Or.inr ⟨g1, g2, g3, t, r, x, v, g4, by rw [<- e], g6, by omega⟩)
theorem QcX (a : Nat) (w : World) (R : Ending -> World -> Prop) (hR : Calls prog 55 #[.iface 26 (.pointer (some ⟨a, 0, none⟩))] w fun e w' => ∃ v u, e = .returned (.tuple #[v, u]) /\ R e w') :
  Calls prog 34 #[.pointer (some ⟨a, 0, none⟩)] w R := by
 have HR : Hid (Calls _ _ _ _ _) := hR
 clear hR
 go_enter func34, ntmps34
 go_wp2_with (go_at_call 55; refine HR.out.mono ?_; rintro e w2 ⟨v, u, rfl, h2⟩)
 exact h2
theorem QcY (f : Value) (w : World) : Calls prog 122 #[.int .i64 0, f] w fun e w' => e = .returned (.agg #[.string ⟨#[]⟩, .int .i64 0, .nilIface]) /\ Kept [] w w' := by
 have hz : ∀ W : World, (Instr.build 82 #[]).run prog W = .ok (.agg #[.string ⟨#[]⟩, .int .i64 0, .nilIface]) W := fun W => by kernel_rfl
 have k1 := (Kept.refl [] w).alloc (.cells #[.string ⟨#[]⟩, .int .i64 0, .nilIface] 82)
 have n1 := heap_alloc_new w (.cells #[.string ⟨#[]⟩, .int .i64 0, .nilIface] 82)
 go_enter func122, ntmps122
 go_wp2_with (first
  | (refine Q0c rfl 82 (.tmp 4) (.tmp 8) rfl w.heap.size #[.string ⟨#[]⟩, .int .i64 0, .nilIface] rfl rfl 82 _ n1 stT rfl (one3 _ rfl) ?_; intro w2 hg2 hk2))
 refine bodyPost_ret (results_cell_row rfl _ _ w.heap.size 82 _ (0, 0) _ rfl hg2 underlying82 rfl stT) rfl ?_
 exact ⟨rfl, k1.trans2 hk2 (by intro y hy; simp at hy; subst hy; exact Or.inr (Nat.le_refl _))⟩
theorem QcZ (v a n : Nat) (w : World) (hv : Vol w v a n) (hn : 8 <= n) : Calls prog 90 #[.pointer (some ⟨v, 0, none⟩), .int .i64 0] w fun e w' => e = .returned (.agg #[.string ⟨#[]⟩, .int .i64 0, .nilIface]) /\ Kept [] w w' := by
 have hmf := Q2H
 have k1 := ((Kept.refl [] w).alloc (.cells #[.pointer (some ⟨v, 0, none⟩)] 73)).alloc (.cells #[.string ⟨#[]⟩, .int .i64 0, .nilIface] 82)
 have hs : (w.alloc (.cells #[.pointer (some ⟨v, 0, none⟩)] 73)).heap.size = w.heap.size + 1 := World.size_alloc _ _
 have n1 := heap_alloc_new (w.alloc (.cells #[.pointer (some ⟨v, 0, none⟩)] 73)) (.cells #[.string ⟨#[]⟩, .int .i64 0, .nilIface] 82)
 rw [hs] at n1
 have HS : Hid (∀ W, Kept [] w W -> Calls prog 76 #[.pointer (some ⟨v, 0, none⟩)] W _) := fun W kW => Qam v a n W (kW.get hv (by simp))
 go_enter func90, ntmps90
 go_wp2_with (first
  | (go_at_call 76; refine (HS.out _ k1).mono ?_; rintro e w2 ⟨rfl, hk2⟩)
  | (go_at_call 75; refine (Q3a n _ hn).mono ?_; rintro e w3 ⟨b, rfl, hsp, hb, hk3⟩)
  | (go_at_call 122; refine (QcY _ _).mono ?_; rintro e w4 ⟨rfl, hk4⟩; have k5 := (Kept.refl [] w3).alloc (.cells #[.int .i64 (n : Int), .map (some b)] 131); have K4 : Kept [] w w4 := (((k1.trans hk2).trans hk3).trans k5).trans hk4; have n4 := (((hk2.trans hk3).trans k5).trans hk4).get n1 (by simp))
  | (refine Q0c rfl 82 (.tmp 4) (.tmp 11) rfl (w.heap.size + 1) #[.string ⟨#[]⟩, .int .i64 0, .nilIface] rfl rfl 82 _ n4 stT rfl (one3 _ rfl) ?_; intro w5 hg5 hk5))
 refine bodyPost_ret (results_cell_row rfl _ _ (w.heap.size + 1) 82 _ (0, 0) _ rfl hg5 underlying82 rfl stT) rfl ?_
 exact ⟨rfl, K4.trans2 hk5 (by intro y hy; simp at hy; subst hy; exact Or.inr (by omega))⟩
def Dq (L : List UInt8) (c wr t : Int) : Dv := ⟨L, [], c, wr, t, -1, 0, 0⟩
structure Dev (w : World) (a g n : Nat) (L : List UInt8) (c wr t : Int) : Prop where
 d : DC w a (.slice (some ⟨g, 0, none⟩) n n) (.slice none 0 0) (Dq L c wr t)
 b : w.heap[g]? = some (.cells (u8s L).toArray 92 (0, 0))
 l : L.length = n * 128
 m : n <= 1000
section
variable {w w' : World} {a g n : Nat} {L : List UInt8} {c wr t : Int}
theorem Dev.dq (h : Dev w a g n L c wr t) : DQ w a (.slice (some ⟨g, 0, none⟩) n n) n (.slice none 0 0) (Dq L c wr t) :=
 ⟨h.d, Q0W (by rw [Q08]; exact h.l) h.b (Nat.zero_le _) (Nat.le_refl _) (by have := h.m; unfold maxLen; omega) (by rw [Q08]; exact h.l) (List.take_of_length_le (by rw [Q08]; exact Nat.le_of_eq h.l)), World.ownsRow_nil _ _ _ _, by simp [Fit, Dq], fun _ => rfl⟩
theorem Dev.good (L : List UInt8) (c wr t : Int) : Good (Dq L c wr t) := ⟨rfl, rfl, rfl⟩
theorem DQ.dev {cv : Value} {D : Dv} (h : DQ w a (.slice (some ⟨g, 0, none⟩) n n) n cv D) (hq : D.q = []) (hg : Good D) (hn : n <= 1000) : Dev w a g n D.L D.c D.wr D.t := by
 obtain rfl := h.z hq
 have e : D = Dq D.L D.c D.wr D.t := by
  obtain ⟨h1, h2, h3⟩ := hg
  obtain ⟨L, q, c, wr, t, o, f, u⟩ := D
  simp only at hq h1 h2 h3
  subst hq h1 h2 h3
  rfl
 refine ⟨by rw [<- e]; exact h.d, ?_, h.l, hn⟩
 obtain ⟨hl, h | ⟨g', cap, cur, e, _, hh, h1, h2, h3, h4⟩⟩ := h.b
 ·exact absurd h.1 (by simp)
 ·simp only [Value.slice.injEq, Option.some.injEq, Addr.mk.injEq] at e
  obtain ⟨⟨rfl, -⟩, -, rfl⟩ := e
  rw [hh]
  congr 1
  congr 1
  rw [<- h4, List.take_of_length_le (by simpa using Nat.le_of_eq h3)]
end
theorem Qd0 (x : Int) (w : World) : Calls prog 32 #[.int .i64 x] w fun e w' => ∃ a g, e = .returned (.pointer (some ⟨a, 0, none⟩)) /\ Dev w' a g (nb x) (List.replicate (nb x * 128) 0) 0 0 0 /\ w.heap.size <= a /\ w.heap.size <= g /\ Kept [] w w' := by
 refine (Q1Q x w).mono ?_
 rintro e w' ⟨a, bv, h1, h2, h3, ⟨g, rfl, h4⟩, h5⟩
 exact ⟨a, g, h1, h2.dev rfl ⟨rfl, rfl, rfl⟩ (Nat.le_of_lt (Q1J x)), h3, h4, h5⟩
def St (k : Nat) (L : List UInt8) : Prop := if k = 0 then rdH 0 (Q10 L 0) = none /\ rdH 1 (Q10 L 1) = none else rdH 0 (Q10 L 0) = some (2 * k, 0) /\ rdH 1 (Q10 L 1) = some (2 * k - 1, 0)
theorem Qd1 {L : List UInt8} {c wr t : Int} : Q9z (Dq L c wr t) = nwst (rdH 0 (Q10 L 0)) (rdH 1 (Q10 L 1)) := rfl
theorem St.newest {k : Nat} {L : List UInt8} (h : St k L) (hk : k <= 50000) {c wr t : Int} : Q9z (Dq L c wr t) = ((2 * k, 0), decide (0 < k)) := by
 rw [Qd1]
 unfold St at h
 split at h
 ·subst k
  rw [h.1, h.2]
  rfl
 ·rw [h.1, h.2]
  have e : nwr (2 * k - 1) (2 * k) = false := by
   unfold nwr
   have e1 : (((2 * k - 1 : Nat) : Int) - ((2 * k : Nat) : Int)) = -1 := by omega
   rw [e1]
   have e3 : IntKind.u64.wrap (-1) = 18446744073709551615 := by kernel_rfl
   rw [e3]
   exact decide_eq_false (by simp [wrap64])
  have e2 : decide (0 < k) = true := decide_eq_true (by omega)
  simp [nwst, e, e2]
theorem Qd2 (N : Nat) (h : 1024 <= N) : St 0 (List.replicate N 0) := by
 have key : ∀ i, i <= 1 -> (Q10 (List.replicate N 0) i).take 8 ≠ Q2h := by
  intro i hi
  unfold Q10
  rw [List.drop_replicate, List.take_replicate, List.take_replicate, Nat.min_eq_left (by omega)]
  decide
 unfold St
 rw [if_pos rfl]
 exact ⟨QcE (key 0 (by omega)), QcE (key 1 (by omega))⟩
theorem Lh.dev {L : List UInt8} {c wr t : Int} {T R : Nat} {D' : Dv} (h : Lh (Dq L c wr t) T R D') : D' = Dq (Q1C L (T % 2) (blk T R)) D'.c D'.wr t := by
 obtain ⟨D1, h1, h2⟩ := h
 have a1 := h2.L
 have a2 := h2.q
 have a3 := h2.t.trans h1.t
 have a4 := h2.off.trans h1.off
 have a5 := h2.fr.trans h1.fr
 have a6 := h2.to.trans h1.to
 rw [h1.L, h1.q] at a1
 obtain ⟨L', q', c', wr', t', o', f', u'⟩ := D'
 simp only [Dq] at *
 subst a1 a2 a3 a4 a5 a6
 rfl
theorem Lf.bad {L : List UInt8} {c wr t : Int} {T R : Nat} {D' : Dv} (h : Lf (Dq L c wr t) T R D') : False := by
 rcases h with h | ⟨D1, h1, h2⟩
 ·exact h.bad ⟨rfl, rfl, rfl⟩
 ·exact h2.bad (h1.good.2 ⟨rfl, rfl, rfl⟩)
theorem St.next {k n : Nat} {L : List UInt8} (hk : k <= 50000) (hL : L.length = n * 128) (hn : 8 <= n) : St (k + 1) (Q1C (Q1C L ((2 * k + 1) % 2) (blk (2 * k + 1) 0)) ((2 * k + 2) % 2) (blk (2 * k + 2) 0)) := by
 have e1 : (2 * k + 1) % 2 = 1 := by omega
 have e2 : (2 * k + 2) % 2 = 0 := by omega
 have g1 := QcC (t := 2 * k + 1) (r := 0) (by omega) (by omega)
 have g2 := QcC (t := 2 * k + 2) (r := 0) (by omega) (by omega)
 rw [e1] at g1
 rw [e2] at g2
 unfold St
 rw [if_neg (by omega), e1, e2]
 have hl := Q1F L (blk (2 * k + 1) 0) n 1 hL (by omega) (Q9u _ _)
 rw [QcF hl (by omega) (Q9u _ _), if_pos rfl, QcF hl (by omega) (Q9u _ _), if_neg (by omega), QcF hL (by omega) (Q9u _ _), if_pos rfl]
 exact ⟨g2, g1⟩
theorem Lh.wr {D D' : Dv} {T R : Nat} (h : Lh D T R D') : D'.wr = wrap64 (D.wr + 1) := by
 obtain ⟨D1, h1, h2⟩ := h
 rw [h2.wr, h1.wr]
theorem Qd3 {w : World} {a g n k : Nat} {L : List UInt8} {c wr t : Int} (h : Dev w a g n L c wr t) (h8 : 8 <= n) (h4 : n <= 400) (hk : k <= 50000) (hs : St k L) : Calls prog 33 #[.pointer (some ⟨a, 0, none⟩)] w fun e w' =>
  e = .returned .nilIface /\ (∃ L' c' wr', Dev w' a g n L' c' wr' t /\ St (k + 1) L' /\ wr' = wrap64 (wrap64 (wr + 1) + 1)) /\ Kept [a, g] w w' := by
 refine (Q9E a w _ _ (Q9D a _ n _ _ w h.dq h8 h4 (by show ([] : List _).length < _; simp) (Or.inl (Dev.good L c wr t)))).mono ?_
 rintro e w' ⟨o, err, rfl, hc, ⟨cv', D', hd', _, hP⟩, hk'⟩
 have e0 : nxt (2 * k) = 2 * k + 1 := Nat.mod_eq_of_lt (by omega)
 have e1 : nxt (2 * k + 1) = 2 * k + 2 := Nat.mod_eq_of_lt (by omega)
 unfold FmtP at hP
 rw [hs.newest hk] at hP
 simp only [e0, e1] at hP
 rcases hP with ⟨rfl, D1, l1, l2⟩ | ⟨rfl, hP⟩
 ·have hw1 := l1.wr
  have d1 := l1.dev
  rw [d1] at l2
  have hw2 := l2.wr
  have d2 := l2.dev
  have herr : err = .nilIface := hc
  subst herr
  rw [d2] at hd'
  exact ⟨rfl, ⟨_, _, _, hd'.dev rfl ⟨rfl, rfl, rfl⟩ (by omega), St.next hk h.l h8, by
   rw [hw2]
   show wrap64 (D1.wr + 1) = _
   rw [hw1]
   rfl⟩, hk'.mono (by intro y hy; simpa [Q0Z, Value.ownBlock] using hy)⟩
 ·rcases hP with hP | ⟨D1, l1, hP⟩
  ·exact hP.bad.elim
  ·have d1 := l1.dev
   rw [d1] at hP
   exact hP.bad.elim
theorem Qd4 {w : World} {a g n k : Nat} {L : List UInt8} {c wr t : Int} (h : Dev w a g n L c wr t) (h8 : 8 <= n) (h4 : n <= 400) (hk : k <= 50000) (hs : St k L) : Calls prog 33 #[.pointer (some ⟨a, 0, none⟩)] w fun e w' =>
  e = .returned .nilIface /\ (∃ L' c' wr', Dev w' a g n L' c' wr' t /\ St (k + 1) L') /\ Kept [a, g] w w' :=
 (Qd3 h h8 h4 hk hs).mono fun _ _ ⟨h1, ⟨L', c', wr', h2, h3, _⟩, h4⟩ => ⟨h1, ⟨L', c', wr', h2, h3⟩, h4⟩
theorem Qd5 {a n : Nat} {bv cv : Value} (h8 : 8 <= n) : ∀ v W D1, Vol W v a n -> DQ W a bv n cv D1 -> Calls prog 90 #[.pointer (some ⟨v, 0, none⟩), .int .i64 0] W (TrdR a bv n cv D1 (some ⟨0, ([] : List Pr), 0⟩) W) := by
 intro v W D1 hv hd
 refine (QcZ v a n W hv h8).mono ?_
 rintro e w' ⟨rfl, k⟩
 exact ⟨D1, hd.k0 k, k.mono (by simp), Or.inl ⟨Qt.refl D1, _, _, rfl, rfl, Or.inl ⟨rfl, rfl⟩⟩⟩
theorem Qd6 {w : World} {a g n k : Nat} {L : List UInt8} {c wr t : Int} (h : Dev w a g n L c wr t) (h8 : 8 <= n) (h4 : n <= 400) (hk : k <= 50000) (hs : St k L) :
  Calls prog 55 #[.iface 26 (.pointer (some ⟨a, 0, none⟩))] w (QcV a (.slice (some ⟨g, 0, none⟩) n n) n (.slice none 0 0) (Dq L c wr t) ((2 * k, 0), decide (0 < k)) (some ⟨0, ([] : List Pr), 0⟩) w) := by
 have hR := QcW a _ n _ _ (some ⟨0, ([] : List Pr), 0⟩) w h.dq h8 h4 (by show ([] : List _).length < _; simp) (Or.inl (Dev.good L c wr t)) (by
  rw [hs.newest hk]
  exact fun v W D1 hv hd _ _ _ => Qd5 h8 v W D1 hv hd)
 rw [hs.newest hk] at hR
 exact hR
structure Sd (n : Nat) (c : Hd) (t : Tr) (D : Dv) : Prop where
 s : c.s = 1 \/ c.s = 2
 st : StK n D.view c.lt t
 gd : Good D
 q : D.q = []
 hd : Q9z D = ((c.tu, c.ro), true)
 ro : c.ro = c.lt.pl
 tu : c.tu < 18446744073709551616
structure Smm (w0 : World) (x a : Nat) (bv : Value) (n : Nat) (c : Hd) (t : Tr) (D : Dv) (w : World) : Prop where
 rc : ∃ v r, Rec x v a n c r t w
 dq : DQ w a bv n (.slice none 0 0) D
 k : Kept [] w0 w
 fx : w0.heap.size <= x
 fd : ∀ y ∈ Q0Z a bv (.slice none 0 0), w0.heap.size <= y
def ft (x a : Nat) (bv : Value) : List Nat := x :: Q0Z a bv (.slice none 0 0)
def Rm (n : Nat) (l : List Pr) : Prop := 4 * l.length + 8 <= 3 * n
theorem Rm.cnt {n : Nat} {t : Tr} (h : Rm n (Q4V t)) (hn : 8 <= n) (ht : TW t) : ¬ (n - 2) / 2 < cntT t := by
 have := Q55 t ht
 unfold Rm at h
 omega
theorem Rm.two {n : Nat} {t u : Tr} (h : Rm n (Q4V t)) (g : Rm n (Q4V u)) (hn : 8 <= n) (ht : TW t) (hu : TW u) : cntT t + 2 + cntT u <= n := by
 have h1 := Q55 t ht
 have h2 := Q55 u hu
 unfold Rm at h g
 omega
section
variable {w0 w w' : World} {x a : Nat} {bv : Value} {n : Nat} {c : Hd} {t : Tr} {D : Dv}
theorem Smm.k0 (h : Smm w0 x a bv n c t D w) (k : Kept [] w w') : Smm w0 x a bv n c t D w' := by
 obtain ⟨v, r, hr⟩ := h.rc
 exact ⟨⟨v, r, hr.k k⟩, h.dq.k0 k, h.k.trans k, h.fx, h.fd⟩
theorem Smm.no (h : Smm w0 x a bv n c t D w) : x ∉ Q0Z a bv (.slice none 0 0) := by
 obtain ⟨v, r, hr⟩ := h.rc
 exact h.dq.no hr.row (by decide)
theorem Smm.old (h : Smm w0 x a bv n c t D w) (k : Kept (ft x a bv) w w') : Kept [] w0 w' := h.k.trans2 k fun y hy => by
 rcases List.mem_cons.1 hy with rfl | hy
 ·exact Or.inr h.fx
 ·exact Or.inr (h.fd y hy)
theorem Sd.put {k y : ByteArray} (h : Sd n c t D) (hk : Q3O k) (hy : y.size <= 12) : Sd n c (chgT (Q3r k y) k t) D := { h with st := h.st.chg (Q4T k y hk hy) }
theorem Sd.del {k : ByteArray} (h : Sd n c t D) : Sd n c (delT k t) D := by
 refine { h with st := ?_ }
 unfold delT
 split
 ·exact h.st.chg (Q4U k)
 ·exact h.st
theorem Smm.put {k y : ByteArray} (h : Smm w0 x a bv n c t D w) (hs : Sd n c t D) (hk : Q3O k) (hy : y.size <= 12) (h8 : 8 <= n) (h4 : n <= 400) (hr : Rm n (Q3r k y (Q4V t))) :
  Calls prog 36 #[.pointer (some ⟨x, 0, none⟩), .string k, .string y] w fun e w' => e = .returned .nilIface /\ Smm w0 x a bv n c (chgT (Q3r k y) k t) D w' /\ Kept [x] w w' := by
 obtain ⟨v, r, hR⟩ := h.rc
 obtain ⟨htw, hfl⟩ := Q51 (Q4T k y hk hy) t hs.st.tw
 have hro : ¬ (n - 2) / 2 < cntT (chgT (Q3r k y) k t) := Rm.cnt (by rw [hfl]; exact hr) h8 htw
 refine (Qbq x v a n c r t k y w hR hs.s hs.st.tw hk hy h8 h4 hro).mono ?_
 rintro e w' ⟨err, rfl, ⟨rfl, r', hr'⟩, hk'⟩
 exact ⟨rfl, ⟨⟨v, r', hr'⟩, h.dq.k1 hk' h.no, h.k.trans2 hk' (by intro q hq; simp at hq; subst hq; exact Or.inr h.fx), h.fx, h.fd⟩, hk'⟩
theorem Smm.del {k : ByteArray} (h : Smm w0 x a bv n c t D w) (hs : Sd n c t D) (hk : Q3O k) :
  Calls prog 22 #[.pointer (some ⟨x, 0, none⟩), .string k] w fun e w' => e = .returned .nilIface /\ Smm w0 x a bv n c (delT k t) D w' /\ Kept [x] w w' := by
 obtain ⟨v, r, hR⟩ := h.rc
 refine (Qbc x v a n c r t k w hR hs.st.tw hs.s hk).mono ?_
 rintro e w' ⟨err, rfl, ⟨rfl, r', hr'⟩, hk'⟩
 exact ⟨rfl, ⟨⟨v, r', hr'⟩, h.dq.k1 hk' h.no, h.k.trans2 hk' (by intro q hq; simp at hq; subst hq; exact Or.inr h.fx), h.fx, h.fd⟩, hk'⟩
end
theorem Qd7 {n : Nat} {lk : Nat -> List UInt8} {c : Hd} {t : Tr} (h : StK n lk c.lt t) (e : (sysL c t).1.pl = c.lt.pl) : (sysL c t).2.ws = [] := by
 unfold sysL at *
 cases hn : nilN t.h t.n with
 | true =>
  have e : (layT t ⟨usL c.lt, []⟩).2 = ⟨usL c.lt, []⟩ := by unfold layT; simp [hn]
  rw [e]
 | false =>
  rw [QaY hn] at *
  by_cases hz : t.pl = 0
  ·exfalso
   have e1 : layK t.h ⟨nil8, t.n, t.pl⟩ ⟨usL c.lt, []⟩ = _ := Q8x (k := rtK t) hz ⟨usL c.lt, []⟩
   rw [e1] at e
   have e : tk (layN t.h t.n ⟨usL c.lt, []⟩).2.us = c.lt.pl := e
   have h1 := Q8q (layN t.h t.n ⟨usL c.lt, []⟩).2.us
   obtain ⟨ws, _, h2, _, _⟩ := Stp.ws (Q8H t.h t.n ⟨usL c.lt, []⟩).1
   rw [e, h2] at h1
   apply h1
   apply List.mem_append_right
   show c.lt.pl ∈ usL c.lt
   unfold usL
   cases hl : nilN c.lt.h c.lt.n with
   | true => rw [h.ltw.nil hl]; simp
   | false => exact List.mem_append_left _ (List.mem_reverse.2 (by unfold preT; rw [hl]; simp))
  ·rw [show layK t.h ⟨nil8, t.n, t.pl⟩ ⟨usL c.lt, []⟩ = _ from Q8w (k := rtK t) hz ⟨usL c.lt, []⟩]
theorem StK.lpl {n : Nat} {lk : Nat -> List UInt8} {lt t : Tr} (h : StK n lk lt t) (hn : n <= 65536) : lt.pl < 65536 := by
 cases hl : nilN lt.h lt.n with
 | true => rw [h.ltw.nil hl]; omega
 | false =>
  have := h.ub lt.pl (by unfold preT; rw [hl]; simp)
  omega
def syN (c : Hd) (t : Tr) : Nat := if (sysL c t).1.pl = c.lt.pl then 0 else (sysL c t).2.ws.length + 1
theorem Smm.sync {w0 w : World} {x a : Nat} {bv : Value} {n : Nat} {c : Hd} {t : Tr} {D : Dv} (h : Smm w0 x a bv n c t D w) (hs : Sd n c t D) (h8 : 8 <= n) (h4 : n <= 400) (hr : Rm n (Q4V t)) (hl : Rm n (Q4V c.lt)) (htu : c.tu + 1 < 18446744073709551616) :
  Calls prog 28 #[.pointer (some ⟨x, 0, none⟩)] w fun e w' => e = .returned .nilIface /\ Kept (ft x a bv) w w' /\ ∃ c' D', Smm w0 x a bv n c' c'.lt D' w' /\ Sd n c' c'.lt D' /\ c'.s = 2 /\ c'.lt = (sysL c t).1 /\ Q4V c'.lt = Q4V t /\ c.tu <= c'.tu /\ c'.tu <= c.tu + 1 /\ D'.wr = wrN (syN c t) D.wr := by
 obtain ⟨v, r, hR⟩ := h.rc
 have hnx : nxt c.tu = c.tu + 1 := Nat.mod_eq_of_lt htu
 refine (QcM x v a n _ _ c r t D w hR hs.s h.dq hs.st hs.gd h8 h4 (by rw [hs.q]; simp) (by rw [hnx]; omega) (Rm.two hl hr h8 hs.st.ltw hs.st.tw)).mono ?_
 rintro e w' ⟨rfl, hk, cv', D', r', tu', ro', D0, hd', hR', hst', hg', h0, hok, hfr⟩
 obtain ⟨hhd, hro, htu'⟩ := QcS (by omega) h.dq.l h.dq.q h0 hok hfr hs.hd hs.ro hs.tu (hst'.lpl (by omega))
 have hw0 : D0.q = [] /\ D0.wr = D.wr := by
  rcases h0 with ⟨_, hf⟩ | ⟨_, rfl⟩
  ·exact ⟨hf.q, hf.wr⟩
  ·exact ⟨hs.q, rfl⟩
 have hq' : D'.q = [] /\ D'.wr = wrN (syN c t) D.wr /\ c.tu <= tu' /\ tu' <= c.tu + 1 := by
  unfold syN
  rcases hok with ⟨e1, e2, _, hw⟩ | ⟨e1, e2, _, D1, D2, D3, hw, hf1, hwn, hf2⟩
  ·have e3 := Qd7 hs.st e1
   rw [e3] at hw
   refine ⟨by rw [hw.q, hw0.1]; rfl, ?_, by omega, by omega⟩
   rw [if_pos e1, hw.wr, hw0.2]
   rfl
  ·refine ⟨hf2.q, ?_, by omega, by omega⟩
   rw [if_neg e1, hf2.wr, hwn.wr, hf1.wr, hw.wr, hw0.2]
   rfl
 obtain rfl := hd'.z hq'.1
 have hold := h.old hk
 exact ⟨rfl, hk, ⟨2, tu', ro', (sysL c t).1, r'⟩, D', ⟨⟨v, r', hR'⟩, hd', hold, h.fx, h.fd⟩, ⟨Or.inr rfl, hst', hg', hq'.1, hhd, hro, htu'⟩, rfl, rfl, (QcN c t).1, hq'.2.2.1, hq'.2.2.2, hq'.2.1⟩
theorem Qd8 {w0 w : World} {a g n : Nat} {L : List UInt8} {c wr t : Int} (h : Dev w a g n L c wr t) (h8 : 8 <= n) (h4 : n <= 400) (hs : St 1 L) (hk : Kept [] w0 w) (ha : w0.heap.size <= a) (hg : w0.heap.size <= g) : Calls prog 34 #[.pointer (some ⟨a, 0, none⟩)] w fun e w' =>
  ∃ x c D, e = .returned (.tuple #[.pointer (some ⟨x, 0, none⟩), .nilIface]) /\ Smm w0 x a (.slice (some ⟨g, 0, none⟩) n n) n c c.lt D w' /\ Sd n c c.lt D /\ Q4V c.lt = [] /\ c.tu = 2 /\ D.wr = wr /\ Kept [a] w w' := by
 refine QcX a w _ ((Qd6 h h8 h4 (by omega) hs).mono ?_)
 rintro e w' ⟨o, pv, err, D', rfl, hc, hd, hkk, h1 | h1 | ⟨rfl, h2, _, t', r, x, v, h3, rfl, h5, h6⟩⟩
 ·exact absurd (Dev.good L c wr t) h1.2.1.bad
 ·rcases h1.2.2.2 with h2 | h2
  ·cases h2
  ·cases h2
 ·have herr : err = .nilIface := hc
  subst herr
  simp only [Option.some.injEq] at h3
  subst h3
  have hsz := hk.size
  refine ⟨_, _, rfl, x, _, D', rfl, ⟨⟨v, r, h5⟩, hd, hk.trans2 hkk (by intro q hq; simp at hq; subst hq; exact Or.inr ha), by omega, (fun y hy => by simp [Q0Z, Value.ownBlock] at hy; rcases hy with rfl | rfl <;> assumption)⟩, ⟨Or.inl rfl, StK.none n _, h2.good.2 ⟨rfl, rfl, rfl⟩, h2.q, ?_, rfl, ?_⟩, rfl, rfl, h2.wr, hkk⟩
  ·have e1 : Q9z D' = Q9z (Dq L c wr t) := by
    unfold Q9z
    rw [h2.view, h2.view]
   rw [e1, hs.newest (by omega)]
   rfl
  ·show 2 < 18446744073709551616
   omega
theorem Qd9 {α : Type} [DecidableEq α] : ∀ {l m : List α}, l.Nodup -> (∀ x ∈ l, x ∈ m) -> l.length <= m.length
 | [], _, _, _ => Nat.zero_le _
 | a :: l, m, h, hs => by
  rw [List.nodup_cons] at h
  have h1 := hs a (by simp)
  have h2 : ∀ x ∈ l, x ∈ m.erase a := fun x hx => (List.mem_erase_of_ne (fun e => h.1 (by rw [<- e]; exact hx))).2 (hs x (by simp [hx]))
  have h3 := Qd9 h.2 h2
  rw [List.length_erase_of_mem h1] at h3
  have : 0 < m.length := List.length_pos_of_mem h1
  simp only [List.length_cons]
  omega
theorem Qda {α : Type} {l m : List α} (h : l.Nodup) (hs : ∀ x ∈ l, x ∈ m) : l.length <= m.length := by
 classical
 exact Qd9 h hs
def Am (m : List ByteArray) (l : List Pr) : Prop := ∀ p ∈ l, p.1 ∈ m
theorem Srt.nodup {l : List Pr} (h : Srt l) : (l.map fun p => p.1).Nodup := by
 unfold List.Nodup
 rw [List.pairwise_map]
 refine List.Pairwise.imp ?_ h
 intro p q hpq e
 rw [e] at hpq
 exact absurd hpq (by simp [Q3n])
theorem Am.len {m : List ByteArray} {t : Tr} (h : Am m (Q4V t)) (ht : TW t) : (Q4V t).length <= m.length := by
 have h1 := Srt.nodup (WFN.srt ht.wf)
 have h2 := Qda h1 (m := m) (by
  intro x hx
  obtain ⟨p, hp, rfl⟩ := List.mem_map.1 hx
  exact h p hp)
 rw [List.length_map] at h2
 exact h2
theorem Am.put {m : List ByteArray} {l : List Pr} {k y : ByteArray} (h : Am m l) (hk : k ∈ m) : Am m (Q3r k y l) := by
 intro p hp
 rcases Q44 hp with rfl | hp
 ·exact hk
 ·exact h p hp
theorem Am.del {m : List ByteArray} {l : List Pr} {k : ByteArray} (h : Am m l) : Am m (Q3s k l) := fun p hp => h p (Q45 hp)
theorem Qdb (c : Int) (n : Nat) (w : World) (hn : 0 < n) (hb : (n : Int) <= 4294967296) (h1 : -9223372036854775808 <= c) (h2 : c <= 9223372036854775807) :
  Calls prog 21 #[.int .i64 c, .int .i64 n] w fun e w' => e = .returned (.int .i64 (pk c n)) /\ w' = w := by
 by_cases hc : c < 0
 ·have hp : (pk c n : Int) = (-(c + 1)) % n := by unfold pk; rw [if_pos hc]; have := Int.emod_nonneg (-(c + 1)) (show (n : Int) ≠ 0 by omega); omega
  have H : Hid (-((c + 1).tmod n) = (pk c n : Int)) := by show _ = _; rw [hp, <- Int.neg_tmod, Int.tmod_eq_emod_of_nonneg (by omega)]
  clear hp
  have hnz : ¬ (n : Int) = 0 := by omega
  go_enter func21, ntmps21
  go_wp2
  go_ret
  exact ⟨Q1R H.out, rfl⟩
 ·have hp : (pk c n : Int) = c % n := by unfold pk; rw [if_neg hc]; have := Int.emod_nonneg c (show (n : Int) ≠ 0 by omega); omega
  have H : Hid ((pk c n : Int) = c % n) := hp
  clear hp
  have hnz : ¬ (n : Int) = 0 := by omega
  go_enter func21, ntmps21
  go_wp2
  go_ret
  exact ⟨Q1R H.out.symm, rfl⟩
def Qdc (w : World) (e : Ending) (w' : World) : Prop := e = .returned (.bool true) /\ Kept [] w w'
def Qdd : ByteArray := ⟨#[255, 255, 255, 255, 255, 255, 255, 255, 255]⟩
def mx (n : Nat) : Nat := (n * 1103515245 + 12345) % 2147483648
theorem Qde (n : Nat) : mx n < 2147483648 := Nat.mod_lt _ (by omega)
theorem Qdf (n : Nat) (w : World) (hn : n < 2147483648) : Calls prog 35 #[.int .i64 (n : Nat)] w fun e w' => e = .returned (.int .i64 (mx n : Nat)) /\ w' = w := by
 have H : Hid (((n : Int) * 1103515245 + 12345) % 2147483648 = (mx n : Int)) := by
  show _ = _
  unfold mx
  omega
 have h1 : (0 : Int) <= n := by omega
 have h2 : (n : Int) < 2147483648 := by omega
 go_enter func35, ntmps35
 go_wp2
 go_ret
 exact ⟨Q1R (by first | exact H.out | (rw [<- H.out]; rfl)), rfl⟩
def val0 : ByteArray := ⟨#[118, 97, 108, 117, 101, 48, 49, 50, 51, 52, 53, 54]⟩
theorem Qdg (n : Nat) (w : World) (hn : n < 2147483648) : Calls prog 40 #[.int .i64 (n : Nat)] w fun e w' => e = .returned (.string (val0.extract 0 (n % 13))) /\ w' = w := by
 have h1 : (0 : Int) <= n := by omega
 have h2 : (n : Int) < 2147483648 := by omega
 go_enter func40, ntmps40
 go_wp2
 go_ret
 exact ⟨rfl, rfl⟩
theorem Qdh (n : Nat) : (val0.extract 0 (n % 13)).size <= 12 := by
 have : (val0.extract 0 (n % 13)).size <= val0.size := by rw [ByteArray.size_extract]; omega
 exact this
end Go.Proofs.YtcklgafpgdhnaaaGreatDoor
