import Derived.Test.YtcklgafpgdhnaabGreatDoorPqbi
import Derived.Test.YtcklgafpgdhnaabGreatDoorPqag
import Derived.Test.YtcklgafpgdhnaabGreatDoorPqbl
set_option maxRecDepth 100000
set_option maxHeartbeats 4000000
open Go.Proofs.Tryz
namespace Go.Proofs.YtcklgafpgdhnaabGreatDoor
open Go.RowKit
theorem QaG (w : World) (d : Value) : ((w.alloc (.cells #[d] 103)).alloc (.cells #[.pointer none] 24)).heap[w.heap.size]? = some (.cells #[d] 103 (0, 0)) /\
  ((w.alloc (.cells #[d] 103)).alloc (.cells #[.pointer none] 24)).heap[w.heap.size + 1]? = some (.cells #[.pointer none] 24 (0, 0)) := by
 constructor
 ·exact ((y5.refl [] _).alloc _).get (heap_alloc_new _ _) (by simp)
 ·have := heap_alloc_new (w.alloc (.cells #[d] 103)) (.cells #[.pointer none] 24)
  rwa [World.size_alloc] at this
def QaH (a : Nat) (bv : Value) (n : Nat) (cv : Value) (D : Dv) (h : (Nat × Nat) × Bool) (rt : Option Tr) (w : World) (e : Ending) (w' : World) : Prop :=
 ∃ o pv err D', e = .returned (.tuple #[pv, err]) /\ CEnd o err w' /\ DQ w' a bv n cv D' /\ y5 [a] w w' /\ ((o = some 6 /\ Er D D' /\ pv = .pointer none) \/ (o = some 7 /\ Qt D D' /\ pv = .pointer none /\ (h.2 = false \/ rt = none)) \/
  (o = none /\ Qt D D' /\ h.2 = true /\ ∃ t r x v, rt = some t /\ pv = .pointer (some ⟨x, 0, none⟩) /\ Rec x v a n ⟨1, h.1.1, h.1.2, t, r⟩ r t w' /\ w.heap.size <= x))
theorem QaI (a : Nat) (bv : Value) (n : Nat) (cv : Value) (D : Dv) (rt : Option Tr) (w : World) (h : DQ w a bv n cv D) (hn8 : 8 <= n) (hn : n <= 400) (hq : D.q.length < 1000000) (hT : qc D \/ Tab w)
  (hR : ∀ v W D1, Vol W v a n -> DQ W a bv n cv D1 -> Qt D D1 -> (qc D1 \/ Tab W) -> (Tab w -> Tab W) -> Calls prog 71 #[.pointer (some ⟨v, 0, none⟩), .int .i64 ((yn D).1.2 : Nat)] W (TrdR a bv n cv D1 rt W)) :
  Calls prog 37 #[.iface 23 (.pointer (some ⟨a, 0, none⟩))] w (QaH a bv n cv D (yn D) rt w) := by
 have hmf := jb
 have hla := yt h.d
 have k1 := ((y5.refl [] w).alloc (.cells #[.iface 23 (.pointer (some ⟨a, 0, none⟩))] 103)).alloc (.cells #[.pointer none] 24)
 obtain ⟨n1, s1⟩ := QaG w (.iface 23 (.pointer (some ⟨a, 0, none⟩)))
 have h1 := h.k0 k1
 have hT1 := hT.imp id fun hT : Tab w => hT.k k1
 have hsz : ((w.alloc (.cells #[.iface 23 (.pointer (some ⟨a, 0, none⟩))] 103)).alloc (.cells #[.pointer none] 24)).heap.size = w.heap.size + 2 := by simp
 generalize hw1 : (w.alloc (.cells #[.iface 23 (.pointer (some ⟨a, 0, none⟩))] 103)).alloc (.cells #[.pointer none] 24) = w1 at *
 have HC : Hid (∀ b, Calls prog 32 #[.string b, .func (.func 68) #[] #[.pointer (some ⟨w.heap.size, 0, none⟩), .pointer (some ⟨w.heap.size + 1, 0, none⟩)]] w1 (Z1 [a, w.heap.size + 1] (OpE (w.heap.size + 1) a bv n cv D (yn D) rt w1.heap.size) w1)) := by
  intro b
  refine Q29 b 68 _ (fun _ _ => by kernel_rfl) _ _ w1 ?_ (fun o W W' T hR hK hT => hR.err hK fun x hx => (hT x hx).2.2) ?_
  ·intro x hx; simp at hx; omega
  ·intro W hW hWs
   refine (Qaq w.heap.size (w.heap.size + 1) a bv n cv D rt W (hW.get n1 (by simp)) (hW.get s1 (by simp)) (h1.k0 hW) hn8 hn hq (hT1.imp id fun hT => hT.k hW) (fun v W' D1 g1 g2 g3 g4 g5 => hR v W' D1 g1 g2 g3 g4 fun hT => g5 ((hT.k k1).k hW))).mono ?_
   rintro e w' ⟨o, h1, ⟨D', h2, h3⟩, h4⟩
   refine ⟨o, h1, ⟨D', h2, ?_⟩, h4⟩
   rcases h3 with h3 | h3 | ⟨g1, g2, g3, t, r, x, v, g4, g5, g6, g7, g8⟩
   ·exact Or.inl h3
   ·exact Or.inr (Or.inl h3)
   ·exact Or.inr (Or.inr ⟨g1, g2, g3, t, r, x, v, g4, g5, g6, Nat.le_trans hW.size g7, Nat.le_trans hW.size g8⟩)
 have HW : Hid _ := hw1
 clear hw1 h1 n1 s1 hT1 hR
 go_enter func37, ntmps37
 go_wp2_with (go_at_call 32; rw [HW.out]; refine (HC.out _).mono ?_; rintro e w2 ⟨o, err, rfl, hc2, ⟨D2, hd2, hr2⟩, hk2⟩; obtain ⟨pv, hpv, hs2⟩ : ∃ pv, (∃ q, pv = .pointer q) /\ w2.heap[w.heap.size + 1]? = some (.cells #[pv] 24 (0, 0)) := (by rcases hr2 with h3 | h3 | ⟨g1, g2, g3, t, r, x, v, g4, g5, g6, g7, g8⟩; exact ⟨_, ⟨_, rfl⟩, h3.2.2⟩; exact ⟨_, ⟨_, rfl⟩, h3.2.2.1⟩; exact ⟨_, ⟨_, rfl⟩, g5⟩); obtain ⟨q, rfl⟩ := hpv; have e2 : w2.cell? ⟨w.heap.size + 1, 0, none⟩ = some (.pointer q) := y6 hs2 rfl)
 go_ret2
 refine ⟨o, .pointer q, err, D2, rfl, hc2, hd2, (k1.mono (by simp)).trans2 hk2 ?_, ?_⟩
 ·intro y hy
  simp at hy
  rcases hy with rfl | rfl
  ·exact Or.inl (by simp)
  ·exact Or.inr (by omega)
 ·rcases hr2 with ⟨g1, g2, g3⟩ | ⟨g1, g2, g3, g4⟩ | ⟨g1, g2, g3, t, r, x, v, g4, g5, g6, g7, g8⟩
  ·have e := g3.symm.trans hs2
   simp at e
   exact Or.inl ⟨g1, g2, by rw [<- e]⟩
  ·have e := g3.symm.trans hs2
   simp at e
   exact Or.inr (Or.inl ⟨g1, g2, by rw [<- e], g4⟩)
  ·have e := g5.symm.trans hs2
   simp at e
   exact Or.inr (Or.inr ⟨g1, g2, g3, t, r, x, v, g4, by rw [<- e], g6, by omega⟩)
theorem QaJ (a : Nat) (w : World) (R : Ending -> World -> Prop) (hR : Calls prog 37 #[.iface 23 (.pointer (some ⟨a, 0, none⟩))] w fun e w' => ∃ v u, e = .returned (.tuple #[v, u]) /\ R e w') :
  Calls prog 17 #[.pointer (some ⟨a, 0, none⟩)] w R := by
 have HR : Hid (Calls _ _ _ _ _) := hR
 clear hR
 go_enter func17, ntmps17
 go_wp2_with (go_at_call 37; refine HR.out.mono ?_; rintro e w2 ⟨v, u, rfl, h2⟩)
 exact h2
theorem QaK (f : Value) (w : World) : Calls prog 100 #[.int .i64 0, f] w fun e w' => e = .returned (.agg #[.string ⟨#[]⟩, .int .i64 0, .nilIface]) /\ y5 [] w w' := by
 have hz : ∀ W : World, (Instr.build 77 #[]).run prog W = .ok (.agg #[.string ⟨#[]⟩, .int .i64 0, .nilIface]) W := fun W => by kernel_rfl
 have k1 := (y5.refl [] w).alloc (.cells #[.string ⟨#[]⟩, .int .i64 0, .nilIface] 77)
 have n1 := heap_alloc_new w (.cells #[.string ⟨#[]⟩, .int .i64 0, .nilIface] 77)
 go_enter func100, ntmps100
 go_wp2_with (first
  | (refine yb rfl 77 (.tmp 4) (.tmp 8) rfl w.heap.size #[.string ⟨#[]⟩, .int .i64 0, .nilIface] rfl rfl 77 _ n1 stT rfl (one3 _ rfl) ?_; intro w2 hg2 hk2))
 refine bodyPost_ret (results_cell_row rfl _ _ w.heap.size 77 _ (0, 0) _ rfl hg2 underlying77 rfl stT) rfl ?_
 exact ⟨rfl, k1.trans2 hk2 (by intro y hy; simp at hy; subst hy; exact Or.inr (Nat.le_refl _))⟩
theorem QaL (v a n : Nat) (w : World) (hv : Vol w v a n) (hn : 8 <= n) : Calls prog 71 #[.pointer (some ⟨v, 0, none⟩), .int .i64 0] w fun e w' => e = .returned (.agg #[.string ⟨#[]⟩, .int .i64 0, .nilIface]) /\ y5 [] w w' := by
 have hmf := jb
 have k1 := ((y5.refl [] w).alloc (.cells #[.pointer (some ⟨v, 0, none⟩)] 68)).alloc (.cells #[.string ⟨#[]⟩, .int .i64 0, .nilIface] 77)
 have hs : (w.alloc (.cells #[.pointer (some ⟨v, 0, none⟩)] 68)).heap.size = w.heap.size + 1 := World.size_alloc _ _
 have n1 := heap_alloc_new (w.alloc (.cells #[.pointer (some ⟨v, 0, none⟩)] 68)) (.cells #[.string ⟨#[]⟩, .int .i64 0, .nilIface] 77)
 rw [hs] at n1
 have HS : Hid (∀ W, y5 [] w W -> Calls prog 58 #[.pointer (some ⟨v, 0, none⟩)] W _) := fun W kW => Zr v a n W (kW.get hv (by simp))
 go_enter func71, ntmps71
 go_wp2_with (first
  | (go_at_call 58; refine (HS.out _ k1).mono ?_; rintro e w2 ⟨rfl, hk2⟩)
  | (go_at_call 57; refine (Q2g n _ hn).mono ?_; rintro e w3 ⟨b, rfl, hsp, hb, hk3⟩)
  | (go_at_call 100; refine (QaK _ _).mono ?_; rintro e w4 ⟨rfl, hk4⟩; have k5 := (y5.refl [] w3).alloc (.cells #[.int .i64 (n : Int), .map (some b)] 108); have K4 : y5 [] w w4 := (((k1.trans hk2).trans hk3).trans k5).trans hk4; have n4 := (((hk2.trans hk3).trans k5).trans hk4).get n1 (by simp))
  | (refine yb rfl 77 (.tmp 4) (.tmp 11) rfl (w.heap.size + 1) #[.string ⟨#[]⟩, .int .i64 0, .nilIface] rfl rfl 77 _ n4 stT rfl (one3 _ rfl) ?_; intro w5 hg5 hk5))
 refine bodyPost_ret (results_cell_row rfl _ _ (w.heap.size + 1) 77 _ (0, 0) _ rfl hg5 underlying77 rfl stT) rfl ?_
 exact ⟨rfl, K4.trans2 hk5 (by intro y hy; simp at hy; subst hy; exact Or.inr (by omega))⟩
def TrR (n : Nat) (lk : Nat -> List UInt8) (I : List Nat -> World -> Prop) (J : Bool -> Ending -> World -> Prop) (us : List Nat) (root : Nat) (W : World) (e : Ending) (W' : World) : Prop :=
 ((∃ u us' x' h, rdU n lk n root us = some (u, us') /\ qi n yp yp u = some h /\ e = .returned (.agg #[.string ⟨#[]⟩, .int .i64 (root : Nat), x']) /\ UND W' (fun y => W.heap.size <= y) n u x' /\ I us' W') \/ ∃ b, J b e W' /\ (b = true -> ∀ u us', rdU n lk n root us = some (u, us') -> qi n yp yp u = none)) /\ KA Tru W W'
theorem zTr (w : World) : (Instr.alloc 77 true (.tuple #[])).run prog w = .ok (.pointer (some ⟨w.heap.size, 0, none⟩)) (w.alloc (.cells #[.string ⟨#[]⟩, .int .i64 0, .nilIface] 77)) := by kernel_rfl
theorem QaM {fid : FuncId} {c1 c2 : Value} {n : Nat} {lk : Nat -> List UInt8} {I : List Nat -> World -> Prop} {J : Bool -> Ending -> World -> Prop} {B : Nat} (hL : Rdr fid c1 c2 n lk I J B) (hn : n <= 1000) (us : List Nat) (root : Nat) (w : World) (hI : I us w) (hr0 : root ≠ 0) (hr : root < 65536) (hB : B <= w.heap.size)
  (hfr : ∀ (us : List Nat) (W W' : World) (S : List Nat), I us W -> y5 S W W' -> (∀ y ∈ S, B <= y /\ Tg W y 77) -> I us W') :
  Calls prog 100 #[.int .i64 (root : Nat), lfv fid c1 c2] w (TrR n lk I J us root w) := by
 have HC : Hid (∀ W, y5 [] w W -> Calls prog 121 #[.agg #[.string ⟨#[]⟩, .int .i64 (root : Nat), .nilIface], lfv fid c1 c2] W (KrR n lk I J n us (⟨#[]⟩, root) W)) := fun W kW => Qap hL n us (⟨#[]⟩, root) W (hL.fresh _ _ _ [] hI kW (by simp)) (by omega) hr (Nat.le_trans hB kW.size)
 have hb : ∀ W : World, (Instr.build 75 #[(1, .int .i64 (root : Nat))]).run prog W = .ok (.agg #[.string ⟨#[]⟩, .int .i64 (root : Nat), .nilIface]) W := fun W => by kernel_rfl
 have hz : ((root : Int) == 0) = false := by simp; omega
 have hz' : ¬ ((root : Int) = 0) := by omega
 have hsd := QaF n hn
 clear hI
 go_enter func100, ntmps100
 go_wp2_with (first
  | (refine yc rfl 4 rfl 77 rfl _ (zTr _) ?_; intro w1 n1 q1 hs1))
 refine (HC.out _ q1).mono ?_
 rintro e w2 ⟨⟨u, us', x', hu, rfl, hn2, hI2⟩ | ⟨b, hJ, hb⟩, hK2⟩
 rotate_left
 ·obtain ⟨ch, rfl⟩ := hL.jp _ _ _ hJ
  exact ⟨rfl, Or.inr ⟨b, hJ, fun hbt u us' h => by rw [hb hbt] at h; cases h⟩, (KA.k0 q1).trans hK2⟩
 have n2 := hK2.row _ _ _ _ trivial (by decide) n1
 have ho := Qai hu
 obtain ⟨fn, vv, ⟨t, et, hm, he⟩, hcall⟩ := hsd _ u x' yp yp w2 hn2 ho
 have HN2 : Hid (UND _ _ n u x' /\ I us' w2) := ⟨hn2, hI2⟩
 have HU : Hid (rdU n lk n root us = some (u, us')) := hu
 have HCS : Hid (∀ W, y5 [] w2 W -> Calls prog fn #[vv, .string yp, .string yp] W (SdR (qi n yp yp u) W)) := hcall
 have hs2 := hK2.size
 have KA2 : KA Tru w w2 := (KA.k0 q1).trans hK2
 clear hn2 hI2 hu hcall hsd HC ho
 subst et
 go_wp2_with (first
  | (refine yc rfl 5 rfl 75 rfl _ (jP _) ?_; intro w3 n3 q3 hs3)
  | (refine yb rfl 75 (.tmp 5) (.tmp 12) rfl w2.heap.size #[.string ⟨#[]⟩, .int .i64 (root : Nat), .iface t vv] rfl rfl 75 _ n3 stk rfl (yU (qQ _ _ rfl)) ?_; intro w4 n4 q4; have K4 : y5 [] w2 w4 := q3.trans2 q4 (by intro y hy; simp at hy; subst hy; exact Or.inr (Nat.le_refl _)); have c4 : w4.cell? ⟨w2.heap.size, 2, none⟩ = some (.iface t vv) := y6 n4 rfl))
 refine (HCS.out w4 K4).mono ?_
 rintro e w5 ⟨hres, k5⟩
 have K5 : y5 [] w2 w5 := K4.trans k5
 cases hs : qi n yp yp u with
 | none =>
  rw [hs] at hres
  have hJ := hL.jt _ _ _ _ HN2.out.2 hres K5
  obtain ⟨ch, rfl⟩ := hL.jp _ _ _ hJ
  refine ⟨rfl, Or.inr ⟨true, hJ, fun _ u1 us1 h1 => ?_⟩, KA2.trans (KA.k0 K5)⟩
  rw [HU.out] at h1
  cases h1
  exact hs
 | some h =>
  rw [hs] at hres
  have hres : e = .returned (.int .i64 (h : Nat)) := hres
  subst hres
  have n5 := k5.get n4 (by simp)
  have m5 := K5.get n2 (by simp)
  have HS : Hid (qi n yp yp u = some h) := hs
  clear hs
  go_wp2_with (first
   | (refine wpList_load_row rfl 75 (.tmp 5) rfl w2.heap.size rfl 75 #[.string ⟨#[]⟩, .int .i64 (root : Nat), .iface t vv] (0, 0) _ n5 underlying75 rfl stk ?_)
   | (refine yb rfl 77 (.tmp 4) (.tmp 17) rfl w.heap.size #[.string ⟨#[]⟩, .int .i64 (root : Nat), .iface t vv] rfl rfl 77 _ m5 stT rfl (yU (qQ _ _ rfl)) ?_; intro w6 n6 k6))
  refine bodyPost_ret (results_cell_row rfl _ w6 w.heap.size 77 _ (0, 0) _ rfl n6 underlying77 rfl stT) rfl ?_
  have hI5 := hL.fresh _ _ _ [] HN2.out.2 K5 (by simp)
  refine ⟨Or.inl ⟨u, us', _, h, HU.out, HS.out, rfl, ?_, hfr _ _ _ [w.heap.size] hI5 k6 (by intro y hy; simp at hy; subst hy; exact ⟨hB, _, _, m5⟩)⟩, (KA2.trans (KA.k0 K5)).new k6 (by intro y hy; simp at hy; subst hy; exact Nat.le_refl _)⟩
  refine UND.amono (fun y hy => by omega) (UND.ka (KA.of k6 ?_) (UND.ka (KA.k0 K5) HN2.out.1))
  intro y hy
  simp at hy
  subst hy
  have := hs1
  omega
def toN : (d : Nat) -> UNd d -> (h : Nat) -> Nd h
 | 0, _, 0 => ([] : List Pr)
 | 0, _, h + 1 => ([] : List (Kid h))
 | _ + 1, .inl l, 0 => l
 | _ + 1, .inl _, h + 1 => ([] : List (Kid h))
 | _ + 1, .inr _, 0 => ([] : List Pr)
 | d + 1, .inr ks, h + 1 => ks.map fun k => (⟨k.1, toN d k.2 h, k.3⟩ : Kid h)
theorem QaN {α β : Type} {R : α -> β -> Prop} {f : α -> β} : ∀ {l : List α} {m : List β}, F2 R l m -> (∀ a ∈ l, ∀ b, R a b -> b = f a) -> m = l.map f := by
 intro l m h hf
 refine List.ext_getElem? fun i => ?_
 rw [List.getElem?_map]
 cases hl : l[i]? with
 | none =>
  simp only [Option.map_none]
  rw [List.getElem?_eq_none_iff] at hl ⊢
  rw [<- h.1]
  exact hl
 | some a =>
  simp only [Option.map_some]
  have hi : i < m.length := by rw [<- h.1]; exact (List.getElem?_eq_some_iff.1 hl).1
  rw [List.getElem?_eq_getElem hi]
  rw [hf a (List.mem_of_getElem? hl) _ (h.2 i a _ hl (List.getElem?_eq_getElem hi))]
theorem Rep.to : ∀ {d : Nat} {u : UNd d} {h : Nat} {n : Nd h}, Rep d u h n -> n = toN d u h
 | 0, _, _, _, hr => hr.elim
 | _ + 1, .inl l, 0, n, hr => hr
 | _ + 1, .inl _, _ + 1, _, hr => hr.elim
 | _ + 1, .inr _, 0, _, hr => hr.elim
 | d + 1, .inr ks, h + 1, ns, hr => QaN (show F2 _ ks ns from hr) fun k _ k' hk => by
  obtain ⟨⟨e1, e2⟩, e3⟩ := hk
  have := Rep.to e3
  obtain ⟨x1, x2, x3⟩ := k'
  simp only at e1 e2 this
  rw [e1, e2, this]
def rdT (n : Nat) (lk : Nat -> List UInt8) (root : Nat) : Option Tr :=
 if root = 0 then some ⟨0, ([] : List Pr), 0⟩ else match rdU n lk n root [1, 0] with
  | none => none
  | some (u, _) => match qi n yp yp u with
   | none => none
   | some x => some ⟨x - 1, toN n u (x - 1), root⟩
theorem QaO (n : Nat) (lk : Nat -> List UInt8) : rdT n lk 0 = some ⟨0, ([] : List Pr), 0⟩ := rfl
theorem QaP {n : Nat} {lk : Nat -> List UInt8} {root : Nat} {us' : List Nat} {u : UNd n} {x : Nat} (h0 : root ≠ 0) (h1 : rdU n lk n root [1, 0] = some (u, us')) (h2 : qi n yp yp u = some x) : rdT n lk root = some ⟨x - 1, toN n u (x - 1), root⟩ := by
 simp only [rdT, if_neg h0, h1, h2]
theorem QaQ {n : Nat} {lk : Nat -> List UInt8} {root : Nat} (h0 : root ≠ 0) (h : ∀ u us', rdU n lk n root [1, 0] = some (u, us') -> qi n yp yp u = none) : rdT n lk root = none := by
 simp only [rdT, if_neg h0]
 cases h1 : rdU n lk n root [1, 0] with
 | none => rfl
 | some p =>
  obtain ⟨u, us'⟩ := p
  simp only [h u us' h1]
theorem QaR : TW ⟨0, ([] : List Pr), 0⟩ := ⟨⟨List.Pairwise.nil, fun p hp => by cases hp⟩, trivial, by decide, (fun h => by cases h), fun _ => rfl⟩
theorem QaS {n : Nat} {lk : Nat -> List UInt8} {root : Nat} {t : Tr} (h : rdT n lk root = some t) : TW t /\ t.pl = root := by
 by_cases h0 : root = 0
 ·subst h0
  rw [QaO] at h
  cases h
  exact ⟨QaR, rfl⟩
 ·simp only [rdT, if_neg h0] at h
  split at h
  ·cases h
  ·rename_i u us' e1
   split at h
   ·cases h
   ·rename_i x e2
    cases h
    obtain ⟨hh, nn, rfl, hr, h1, h2, h3, _, h4, h5⟩ := Qah n u yp yp x e2 (Qai e1)
    have e := hr.to
    refine ⟨?_, rfl⟩
    show TW ⟨hh, toN n u hh, root⟩
    rw [<- e]
    exact ⟨h1, h2, h3, h4, fun h => by rw [h5] at h; cases h⟩
theorem RyI.fresh {a : Nat} {bv : Value} {n : Nat} {cv : Value} {b : Nat} {D : Dv} {w0 : World} {us : List Nat} {W W' : World} {S : List Nat} (hI : RyI a bv n cv b D w0 us W) (hk : y5 S W W') (hS : ∀ y ∈ S, w0.heap.size <= y /\ ∃ t, Tg W y t /\ t ∉ [65, 80, 82]) : RyI a bv n cv b D w0 us W' := by
 obtain ⟨D1, hd, hqt⟩ := hI.dq
 refine ⟨hI.sp.kept hk fun hm => ?_, hI.ul, hI.nd, ⟨D1, hd.kept hk fun y hy hm => ?_, hqt⟩, hI.kp.trans2 hk fun y hy => Or.inr (hS y hy).1⟩
 ·obtain ⟨_, t, ⟨cs, fr, hh⟩, _⟩ := hS _ hm
  exact hI.sp.ne hh rfl
 ·obtain ⟨_, t, ⟨cs, fr, hh⟩, ht⟩ := hS _ hm
  exact hd.no hh ht hy
theorem QaT (n : Int) (b : Nat) : (#[.int .i64 n, .map (some b)] : Array Value).all (·.oneCell') = true := yU (l := [.int .i64 n, .map (some b)]) (by intro u hu; simp at hu; rcases hu with rfl | rfl <;> rfl)
theorem QaU {m b a : Nat} (h : m <= b) : ∀ y ∈ [b, a], y ∈ [a] \/ m <= y := by
 intro y hy
 simp at hy
 rcases hy with rfl | rfl
 ·exact Or.inr h
 ·exact Or.inl (by simp)
theorem QaV (v a n root : Nat) (bv cv : Value) (D : Dv) (w : World) (hv : Vol w v a n) (hd : DQ w a bv n cv D) (hn8 : 8 <= n) (hn : n <= 1000) (hq : D.q.length <= 1000000) (hT : Tab w) (hr0 : root ≠ 0) (hr : root < 65536) :
  Calls prog 71 #[.pointer (some ⟨v, 0, none⟩), .int .i64 (root : Nat)] w (TrdR a bv n cv D (rdT n D.view root) w) := by
 have hmf := jb
 have HS : Hid (∀ W, y5 [] w W -> Calls prog 58 #[.pointer (some ⟨v, 0, none⟩)] W _) := fun W kW => Zr v a n W (kW.get hv (by simp))
 have HD : Hid (DQ w a bv n cv D /\ Tab w /\ Vol w v a n) := ⟨hd, hT, hv⟩
 have hza : ∀ W : World, (Instr.alloc 108 true (.tuple #[])).run prog W = .ok (.pointer (some ⟨W.heap.size, 0, none⟩)) (W.alloc (.cells #[.int .i64 0, .map none] 108)) := fun W => by kernel_rfl
 clear hd hT hv
 go_enter func71, ntmps71
 go_wp2_with (first
  | (refine yK rfl _ _ (gY 68 (.tmp 0) rfl (.pointer (some ⟨v, 0, none⟩)) rfl rfl) ?_; intro w1 n1 q1 hs1)
  | (refine yc rfl 4 rfl 77 rfl _ (zTr _) ?_; intro w2 n2 q2 hs2; rw [hs1] at n2 hs2; have m2 := q2.get n1 (by simp))
  | (refine ye rfl 68 (.tmp 2) rfl ⟨w.heap.size, 0, none⟩ rfl (.pointer (some ⟨v, 0, none⟩)) (yh underlying68 rfl (y6 m2 rfl)) ?_)
  | (go_at_call 58; refine (HS.out w2 (q1.trans q2)).mono ?_; rintro e w3 ⟨rfl, hk3⟩)
  | (go_at_call 57; refine (Q2g n _ hn8).mono ?_; rintro e w4 ⟨b, rfl, hsp, hb, hk4⟩)
  | (refine yc rfl 5 rfl 108 rfl _ (hza _) ?_; intro w5 n5 q5 hs5)
  | (refine yb rfl 108 (.tmp 5) (.tmp 8) rfl w4.heap.size #[.int .i64 (n : Int), .map (some b)] rfl rfl 108 _ n5 jT rfl (QaT _ _) ?_; intro w6 n6 q6))
 have hs3 := hk3.size
 have hs4 := hk4.size
 have K6 : y5 [] w w6 := ((((q1.trans q2).trans hk3).trans hk4).trans q5).trans2 q6 (by intro y hy; simp at hy; subst hy; right; omega)
 have k26 : y5 [] w2 w6 := ((hk3.trans hk4).trans q5).trans2 q6 (by intro y hy; simp at hy; subst hy; right; omega)
 have m6 := k26.get m2 (by simp)
 have t6 := k26.get n2 (by simp)
 have d6 := HD.out.1.k0 K6
 have v6 : Vol w6 v a n := K6.get HD.out.2.2 (by simp)
 have T6 := HD.out.2.1.k K6
 have sp6 : SpM w6 b [1, 0] := (hsp.kept q5 (by simp)).kept q6 (by have := hsp.lt; simp; omega)
 have hL := Qas v a n w4.heap.size w.heap.size b bv cv D w6 n6 m6 v6 d6 [1, 0] sp6 T6 hn hq
 have HT : Hid (Calls _ _ _ _ _) := QaM hL hn [1, 0] root w6 ⟨sp6, by simp; omega, by decide, ⟨D, d6, Qt.refl D⟩, y5.refl _ _⟩ hr0 hr (Nat.le_refl _) (fun us W W' S hI hk hS => hI.fresh hk fun y hy => ⟨(hS y hy).1, _, (hS y hy).2, by decide⟩)
 have hbw : w.heap.size <= b := by omega
 clear hsp hk3 hk4 q5 n5 q6 n6 m6 m2 v6 T6 sp6 hL n1 n2 q1 q2
 go_wp2_with fail
 refine HT.out.mono ?_
 rintro e w7 ⟨⟨u, us', x', h, hu, hs, rfl, hn7, hI7⟩ | ⟨x, ⟨D7, hd7, hk7, hc⟩, hx⟩, hK7⟩
 rotate_left
 ·have KK : y5 [a] w w7 := (K6.mono (by simp)).trans2 hk7 (QaU hbw)
  rcases hc with ⟨rfl, hq7, hth⟩ | ⟨rfl, he7, hth⟩
  ·obtain ⟨f, o, rfl, hf⟩ := hth.ex
   exact ⟨rfl, D7, hd7, KK, Or.inr (Or.inl ⟨hq7, QaQ hr0 (hx rfl), hth⟩)⟩
  ·obtain ⟨f, o, rfl, hf⟩ := hth.ex
   exact ⟨rfl, D7, hd7, KK, Or.inr (Or.inr ⟨he7, hth⟩)⟩
 ·obtain ⟨hh, nn, hxe, hrep, _, _, _, _, _, hnl⟩ := Qah n u yp yp h hs (Qai hu)
  have t7 := hK7.row _ _ _ _ trivial (by decide) t6
  obtain ⟨ty, vy, ey⟩ := hn7.iface
  have KK : y5 [a] w w7 := (K6.mono (by simp)).trans2 hI7.kp (QaU hbw)
  have HN : Hid (ND w7 (fun y => w6.heap.size <= y) hh nn x') := UND.nd hrep hn7
  have HR : Hid (rdT n D.view root = some ⟨hh, nn, root⟩) := by
   have := QaP hr0 hu hs
   rw [this]
   have e := hrep.to
   subst hxe
   show some (⟨hh, toN n u hh, root⟩ : Tr) = _
   rw [<- e]
  have HI7 : Hid (RyI a bv n cv b D w6 us' w7) := hI7
  clear hn7 hI7 hu hs hrep hxe t6
  subst ey
  go_wp2_with (first
   | (refine yb rfl 77 (.tmp 4) (.tmp 11) rfl (w.heap.size + 1) #[.string ⟨#[]⟩, .int .i64 (root : Nat), .iface ty vy] rfl rfl 77 _ t7 stT rfl (yU (qQ _ _ rfl)) ?_; intro w8 n8 k8))
  refine bodyPost_ret (results_cell_row rfl _ w8 (w.heap.size + 1) 77 _ (0, 0) _ rfl n8 underlying77 rfl stT) rfl ?_
  obtain ⟨D7, hd7, hq7⟩ := HI7.out.dq
  refine ⟨D7, hd7.kept k8 ?_, KK.trans2 k8 (by intro y hy; simp at hy; subst hy; right; omega), Or.inl ⟨hq7, ⟨hh, nn, root⟩, _, HR.out, rfl, Or.inr ⟨ND.kept k8 ?_ (fun _ _ => trivial) HN.out, hnl⟩⟩⟩
  ·intro y hy hm
   simp at hm
   subst hm
   exact hd7.no t7 (by decide) hy
  ·intro y hy hm
   simp at hy
   subst hy
   have := k26.size
   omega
theorem QaW (v a n root : Nat) (bv cv : Value) (D : Dv) (w : World) (hv : Vol w v a n) (hd : DQ w a bv n cv D) (hn8 : 8 <= n) (hn : n <= 1000) (hq : D.q.length <= 1000000) (hT : Tab w) (hr : root < 65536) :
  Calls prog 71 #[.pointer (some ⟨v, 0, none⟩), .int .i64 (root : Nat)] w (TrdR a bv n cv D (rdT n D.view root) w) := by
 by_cases h0 : root = 0
 ·subst h0
  refine (QaL v a n w hv hn8).mono ?_
  rintro e w' ⟨rfl, k⟩
  exact ⟨D, hd.k0 k, k.mono (by simp), Or.inl ⟨Qt.refl D, _, _, rfl, rfl, Or.inl ⟨rfl, rfl⟩⟩⟩
 ·exact QaV v a n root bv cv D w hv hd hn8 hn hq hT h0 hr
end Go.Proofs.YtcklgafpgdhnaabGreatDoor
