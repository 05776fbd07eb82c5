import Derived.Test.YtcklgafpgdhnaaaGreatDoorPtbq
import Derived.Test.YtcklgafpgdhnaaaGreatDoorPtbt
import Derived.Test.YtcklgafpgdhnaaaGreatDoorPtbh
import Derived.Test.YtcklgafpgdhnaaaGreatDoorPtbo
import Derived.Test.YtcklgafpgdhnaaaGreatDoorPtbf
set_option maxRecDepth 100000
set_option maxHeartbeats 4000000
open Go.Proofs.Tryz
namespace Go.Proofs.YtcklgafpgdhnaaaGreatDoor
open Go.RowKit
def TrR (n : Nat) (lk : Nat -> List UInt8) (I : List Nat -> World -> Prop) (J : Bool -> Ending -> World -> Prop) (us : List Nat) (root : Nat) (W : World) (e : Ending) (W' : World) : Prop :=
 ((∃ u us' x' h, rdU n lk n root us = some (u, us') /\ sndU n nil8 nil8 u = some h /\ e = .returned (.agg #[.string ⟨#[]⟩, .int .i64 (root : Nat), x']) /\ UND W' (fun y => W.heap.size <= y) n u x' /\ I us' W') \/ ∃ b, J b e W' /\ (b = true -> ∀ u us', rdU n lk n root us = some (u, us') -> sndU n nil8 nil8 u = none)) /\ KA Tru W W'
theorem zTr (w : World) : (Instr.alloc 82 true (.tuple #[])).run prog w = .ok (.pointer (some ⟨w.heap.size, 0, none⟩)) (w.alloc (.cells #[.string ⟨#[]⟩, .int .i64 0, .nilIface] 82)) := by kernel_rfl
theorem Qg1 {fid : FuncId} {c1 c2 : Value} {n : Nat} {lk : Nat -> List UInt8} {I : List Nat -> World -> Prop} {J : Bool -> Ending -> World -> Prop} {B : Nat} (hL : Rdr fid c1 c2 n lk I J B) (hn : n <= 1000) (us : List Nat) (root : Nat) (w : World) (hI : I us w) (hr0 : root ≠ 0) (hr : root < 65536) (hB : B <= w.heap.size)
  (hfr : ∀ (us : List Nat) (W W' : World) (S : List Nat), I us W -> Kept S W W' -> (∀ y ∈ S, B <= y /\ Tg W y 82) -> I us W') :
  Calls prog 122 #[.int .i64 (root : Nat), lfv fid c1 c2] w (TrR n lk I J us root w) := by
 have HC : Hid (∀ W, Kept [] w W -> Calls prog 155 #[.agg #[.string ⟨#[]⟩, .int .i64 (root : Nat), .nilIface], lfv fid c1 c2] W (KrR n lk I J n us (⟨#[]⟩, root) W)) := fun W kW => QfL hL n us (⟨#[]⟩, root) W (hL.fresh _ _ _ [] hI kW (by simp)) (by omega) hr (Nat.le_trans hB kW.size)
 have hb : ∀ W : World, (Instr.build 80 #[(1, .int .i64 (root : Nat))]).run prog W = .ok (.agg #[.string ⟨#[]⟩, .int .i64 (root : Nat), .nilIface]) W := fun W => by kernel_rfl
 have hz : ((root : Int) == 0) = false := by simp; omega
 have hz' : ¬ ((root : Int) = 0) := by omega
 have hsd := Qg0 n hn
 clear hI
 go_enter func122, ntmps122
 go_wp2_with (first
  | (refine Q2u rfl 4 rfl 82 rfl _ (zTr _) ?_; intro w1 n1 q1 hs1))
 refine (HC.out _ q1).mono ?_
 rintro e w2 ⟨⟨u, us', x', hu, rfl, hn2, hI2⟩ | ⟨b, hJ, hb⟩, hK2⟩
 rotate_left
 ·obtain ⟨ch, rfl⟩ := hL.jp _ _ _ hJ
  exact ⟨rfl, Or.inr ⟨b, hJ, fun hbt u us' h => by rw [hb hbt] at h; cases h⟩, (KA.k0 q1).trans hK2⟩
 have n2 := hK2.row _ _ _ _ trivial (by decide) n1
 have ho := QfE hu
 obtain ⟨fn, vv, ⟨t, et, hm, he⟩, hcall⟩ := hsd _ u x' nil8 nil8 w2 hn2 ho
 have HN2 : Hid (UND _ _ n u x' /\ I us' w2) := ⟨hn2, hI2⟩
 have HU : Hid (rdU n lk n root us = some (u, us')) := hu
 have HCS : Hid (∀ W, Kept [] w2 W -> Calls prog fn #[vv, .string nil8, .string nil8] W (SdR (sndU n nil8 nil8 u) W)) := hcall
 have hs2 := hK2.size
 have KA2 : KA Tru w w2 := (KA.k0 q1).trans hK2
 clear hn2 hI2 hu hcall hsd HC ho
 subst et
 go_wp2_with (first
  | (refine Q2u rfl 5 rfl 80 rfl _ (zkid _) ?_; intro w3 n3 q3 hs3)
  | (refine Q0c rfl 80 (.tmp 5) (.tmp 12) rfl w2.heap.size #[.string ⟨#[]⟩, .int .i64 (root : Nat), .iface t vv] rfl rfl 80 _ n3 stk rfl (Q0P (Qb8 _ _ rfl)) ?_; intro w4 n4 q4; have K4 : Kept [] w2 w4 := q3.trans2 q4 (by intro y hy; simp at hy; subst hy; exact Or.inr (Nat.le_refl _)); have c4 : w4.cell? ⟨w2.heap.size, 2, none⟩ = some (.iface t vv) := Q02 n4 rfl))
 refine (HCS.out w4 K4).mono ?_
 rintro e w5 ⟨hres, k5⟩
 have K5 : Kept [] w2 w5 := K4.trans k5
 cases hs : sndU n nil8 nil8 u with
 | none =>
  rw [hs] at hres
  have hJ := hL.jt _ _ _ _ HN2.out.2 hres K5
  obtain ⟨ch, rfl⟩ := hL.jp _ _ _ hJ
  refine ⟨rfl, Or.inr ⟨true, hJ, fun _ u1 us1 h1 => ?_⟩, KA2.trans (KA.k0 K5)⟩
  rw [HU.out] at h1
  cases h1
  exact hs
 | some h =>
  rw [hs] at hres
  have hres : e = .returned (.int .i64 (h : Nat)) := hres
  subst hres
  have n5 := k5.get n4 (by simp)
  have m5 := K5.get n2 (by simp)
  have HS : Hid (sndU n nil8 nil8 u = some h) := hs
  clear hs
  go_wp2_with (first
   | (refine wpList_load_row rfl 80 (.tmp 5) rfl w2.heap.size rfl 80 #[.string ⟨#[]⟩, .int .i64 (root : Nat), .iface t vv] (0, 0) _ n5 underlying80 rfl stk ?_)
   | (refine Q0c rfl 82 (.tmp 4) (.tmp 17) rfl w.heap.size #[.string ⟨#[]⟩, .int .i64 (root : Nat), .iface t vv] rfl rfl 82 _ m5 stT rfl (Q0P (Qb8 _ _ rfl)) ?_; intro w6 n6 k6))
  refine bodyPost_ret (results_cell_row rfl _ w6 w.heap.size 82 _ (0, 0) _ rfl n6 underlying82 rfl stT) rfl ?_
  have hI5 := hL.fresh _ _ _ [] HN2.out.2 K5 (by simp)
  refine ⟨Or.inl ⟨u, us', _, h, HU.out, HS.out, rfl, ?_, hfr _ _ _ [w.heap.size] hI5 k6 (by intro y hy; simp at hy; subst hy; exact ⟨hB, _, _, m5⟩)⟩, (KA2.trans (KA.k0 K5)).new k6 (by intro y hy; simp at hy; subst hy; exact Nat.le_refl _)⟩
  refine UND.amono (fun y hy => by omega) (UND.ka (KA.of k6 ?_) (UND.ka (KA.k0 K5) HN2.out.1))
  intro y hy
  simp at hy
  subst hy
  have := hs1
  omega
def toN : (d : Nat) -> UNd d -> (h : Nat) -> Nd h
 | 0, _, 0 => ([] : List Pr)
 | 0, _, h + 1 => ([] : List (Kid h))
 | _ + 1, .inl l, 0 => l
 | _ + 1, .inl _, h + 1 => ([] : List (Kid h))
 | _ + 1, .inr _, 0 => ([] : List Pr)
 | d + 1, .inr ks, h + 1 => ks.map fun k => (⟨k.1, toN d k.2 h, k.3⟩ : Kid h)
theorem Qg2 {α β : Type} {R : α -> β -> Prop} {f : α -> β} : ∀ {l : List α} {m : List β}, F2 R l m -> (∀ a ∈ l, ∀ b, R a b -> b = f a) -> m = l.map f := by
 intro l m h hf
 refine List.ext_getElem? fun i => ?_
 rw [List.getElem?_map]
 cases hl : l[i]? with
 | none =>
  simp only [Option.map_none]
  rw [List.getElem?_eq_none_iff] at hl ⊢
  rw [<- h.1]
  exact hl
 | some a =>
  simp only [Option.map_some]
  have hi : i < m.length := by rw [<- h.1]; exact (List.getElem?_eq_some_iff.1 hl).1
  rw [List.getElem?_eq_getElem hi]
  rw [hf a (List.mem_of_getElem? hl) _ (h.2 i a _ hl (List.getElem?_eq_getElem hi))]
theorem Rep.to : ∀ {d : Nat} {u : UNd d} {h : Nat} {n : Nd h}, Rep d u h n -> n = toN d u h
 | 0, _, _, _, hr => hr.elim
 | _ + 1, .inl l, 0, n, hr => hr
 | _ + 1, .inl _, _ + 1, _, hr => hr.elim
 | _ + 1, .inr _, 0, _, hr => hr.elim
 | d + 1, .inr ks, h + 1, ns, hr => Qg2 (show F2 _ ks ns from hr) fun k _ k' hk => by
  obtain ⟨⟨e1, e2⟩, e3⟩ := hk
  have := Rep.to e3
  obtain ⟨x1, x2, x3⟩ := k'
  simp only at e1 e2 this
  rw [e1, e2, this]
def rdT (n : Nat) (lk : Nat -> List UInt8) (root : Nat) : Option Tr :=
 if root = 0 then some ⟨0, ([] : List Pr), 0⟩ else match rdU n lk n root [1, 0] with
  | none => none
  | some (u, _) => match sndU n nil8 nil8 u with
   | none => none
   | some x => some ⟨x - 1, toN n u (x - 1), root⟩
theorem Qg3 (n : Nat) (lk : Nat -> List UInt8) : rdT n lk 0 = some ⟨0, ([] : List Pr), 0⟩ := rfl
theorem Qg4 {n : Nat} {lk : Nat -> List UInt8} {root : Nat} {us' : List Nat} {u : UNd n} {x : Nat} (h0 : root ≠ 0) (h1 : rdU n lk n root [1, 0] = some (u, us')) (h2 : sndU n nil8 nil8 u = some x) : rdT n lk root = some ⟨x - 1, toN n u (x - 1), root⟩ := by
 simp only [rdT, if_neg h0, h1, h2]
theorem Qg5 {n : Nat} {lk : Nat -> List UInt8} {root : Nat} (h0 : root ≠ 0) (h : ∀ u us', rdU n lk n root [1, 0] = some (u, us') -> sndU n nil8 nil8 u = none) : rdT n lk root = none := by
 simp only [rdT, if_neg h0]
 cases h1 : rdU n lk n root [1, 0] with
 | none => rfl
 | some p =>
  obtain ⟨u, us'⟩ := p
  simp only [h u us' h1]
theorem Qg6 : TW ⟨0, ([] : List Pr), 0⟩ := ⟨⟨List.Pairwise.nil, fun p hp => by cases hp⟩, trivial, by decide, (fun h => by cases h), fun _ => rfl⟩
theorem Qg7 {n : Nat} {lk : Nat -> List UInt8} {root : Nat} {t : Tr} (h : rdT n lk root = some t) : TW t /\ t.pl = root := by
 by_cases h0 : root = 0
 ·subst h0
  rw [Qg3] at h
  cases h
  exact ⟨Qg6, rfl⟩
 ·simp only [rdT, if_neg h0] at h
  split at h
  ·cases h
  ·rename_i u us' e1
   split at h
   ·cases h
   ·rename_i x e2
    cases h
    obtain ⟨hh, nn, rfl, hr, h1, h2, h3, _, h4, h5⟩ := QfD n u nil8 nil8 x e2 (QfE e1)
    have e := hr.to
    refine ⟨?_, rfl⟩
    show TW ⟨hh, toN n u hh, root⟩
    rw [<- e]
    exact ⟨h1, h2, h3, h4, fun h => by rw [h5] at h; cases h⟩
theorem RyI.fresh {a : Nat} {bv : Value} {n : Nat} {cv : Value} {b : Nat} {D : Dv} {w0 : World} {us : List Nat} {W W' : World} {S : List Nat} (hI : RyI a bv n cv b D w0 us W) (hk : Kept S W W') (hS : ∀ y ∈ S, w0.heap.size <= y /\ ∃ t, Tg W y t /\ t ∉ [91, 92, 94]) : RyI a bv n cv b D w0 us W' := by
 obtain ⟨D1, hd, hqt⟩ := hI.dq
 refine ⟨hI.sp.kept hk fun hm => ?_, hI.ul, hI.nd, ⟨D1, hd.kept hk fun y hy hm => ?_, hqt⟩, hI.kp.trans2 hk fun y hy => Or.inr (hS y hy).1⟩
 ·obtain ⟨_, t, ⟨cs, fr, hh⟩, _⟩ := hS _ hm
  exact hI.sp.ne hh rfl
 ·obtain ⟨_, t, ⟨cs, fr, hh⟩, ht⟩ := hS _ hm
  exact hd.no hh ht hy
theorem Qg8 (n : Int) (b : Nat) : (#[.int .i64 n, .map (some b)] : Array Value).all (·.oneCell') = true := Q0P (l := [.int .i64 n, .map (some b)]) (by intro u hu; simp at hu; rcases hu with rfl | rfl <;> rfl)
theorem Qg9 {m b a : Nat} (h : m <= b) : ∀ y ∈ [b, a], y ∈ [a] \/ m <= y := by
 intro y hy
 simp at hy
 rcases hy with rfl | rfl
 ·exact Or.inr h
 ·exact Or.inl (by simp)
theorem Qga (v a n root : Nat) (bv cv : Value) (D : Dv) (w : World) (hv : Vol w v a n) (hd : DQ w a bv n cv D) (hn8 : 8 <= n) (hn : n <= 1000) (hq : D.q.length <= 1000000) (hT : Tab w) (hr0 : root ≠ 0) (hr : root < 65536) :
  Calls prog 90 #[.pointer (some ⟨v, 0, none⟩), .int .i64 (root : Nat)] w (TrdR a bv n cv D (rdT n D.view root) w) := by
 have hmf := Q2X
 have HS : Hid (∀ W, Kept [] w W -> Calls prog 76 #[.pointer (some ⟨v, 0, none⟩)] W _) := fun W kW => QaW v a n W (kW.get hv (by simp))
 have HD : Hid (DQ w a bv n cv D /\ Tab w /\ Vol w v a n) := ⟨hd, hT, hv⟩
 have hza : ∀ W : World, (Instr.alloc 131 true (.tuple #[])).run prog W = .ok (.pointer (some ⟨W.heap.size, 0, none⟩)) (W.alloc (.cells #[.int .i64 0, .map none] 131)) := fun W => by kernel_rfl
 clear hd hT hv
 go_enter func90, ntmps90
 go_wp2_with (first
  | (refine Q06 rfl _ _ (Qbl 73 (.tmp 0) rfl (.pointer (some ⟨v, 0, none⟩)) rfl rfl) ?_; intro w1 n1 q1 hs1)
  | (refine Q2u rfl 4 rfl 82 rfl _ (zTr _) ?_; intro w2 n2 q2 hs2; rw [hs1] at n2 hs2; have m2 := q2.get n1 (by simp))
  | (refine Q0t rfl 73 (.tmp 2) rfl ⟨w.heap.size, 0, none⟩ rfl (.pointer (some ⟨v, 0, none⟩)) (Q0p underlying73 rfl (Q02 m2 rfl)) ?_)
  | (go_at_call 76; refine (HS.out w2 (q1.trans q2)).mono ?_; rintro e w3 ⟨rfl, hk3⟩)
  | (go_at_call 75; refine (Q3r n _ hn8).mono ?_; rintro e w4 ⟨b, rfl, hsp, hb, hk4⟩)
  | (refine Q2u rfl 5 rfl 131 rfl _ (hza _) ?_; intro w5 n5 q5 hs5)
  | (refine Q0c rfl 131 (.tmp 5) (.tmp 8) rfl w4.heap.size #[.int .i64 (n : Int), .map (some b)] rfl rfl 131 _ n5 Q3m rfl (Qg8 _ _) ?_; intro w6 n6 q6))
 have hs3 := hk3.size
 have hs4 := hk4.size
 have K6 : Kept [] w w6 := ((((q1.trans q2).trans hk3).trans hk4).trans q5).trans2 q6 (by intro y hy; simp at hy; subst hy; right; omega)
 have k26 : Kept [] w2 w6 := ((hk3.trans hk4).trans q5).trans2 q6 (by intro y hy; simp at hy; subst hy; right; omega)
 have m6 := k26.get m2 (by simp)
 have t6 := k26.get n2 (by simp)
 have d6 := HD.out.1.k0 K6
 have v6 : Vol w6 v a n := K6.get HD.out.2.2 (by simp)
 have T6 := HD.out.2.1.k K6
 have sp6 : SpM w6 b [1, 0] := (hsp.kept q5 (by simp)).kept q6 (by have := hsp.lt; simp; omega)
 have hL := QfN v a n w4.heap.size w.heap.size b bv cv D w6 n6 m6 v6 d6 [1, 0] sp6 T6 hn hq
 have HT : Hid (Calls _ _ _ _ _) := Qg1 hL hn [1, 0] root w6 ⟨sp6, by simp; omega, by decide, ⟨D, d6, Qt.refl D⟩, Kept.refl _ _⟩ hr0 hr (Nat.le_refl _) (fun us W W' S hI hk hS => hI.fresh hk fun y hy => ⟨(hS y hy).1, _, (hS y hy).2, by decide⟩)
 have hbw : w.heap.size <= b := by omega
 clear hsp hk3 hk4 q5 n5 q6 n6 m6 m2 v6 T6 sp6 hL n1 n2 q1 q2
 go_wp2_with fail
 refine HT.out.mono ?_
 rintro e w7 ⟨⟨u, us', x', h, hu, hs, rfl, hn7, hI7⟩ | ⟨x, ⟨D7, hd7, hk7, hc⟩, hx⟩, hK7⟩
 rotate_left
 ·have KK : Kept [a] w w7 := (K6.mono (by simp)).trans2 hk7 (Qg9 hbw)
  rcases hc with ⟨rfl, hq7, hth⟩ | ⟨rfl, he7, hth⟩
  ·obtain ⟨f, o, rfl, hf⟩ := hth.ex
   exact ⟨rfl, D7, hd7, KK, Or.inr (Or.inl ⟨hq7, Qg5 hr0 (hx rfl), hth⟩)⟩
  ·obtain ⟨f, o, rfl, hf⟩ := hth.ex
   exact ⟨rfl, D7, hd7, KK, Or.inr (Or.inr ⟨he7, hth⟩)⟩
 ·obtain ⟨hh, nn, hxe, hrep, _, _, _, _, _, hnl⟩ := QfD n u nil8 nil8 h hs (QfE hu)
  have t7 := hK7.row _ _ _ _ trivial (by decide) t6
  obtain ⟨ty, vy, ey⟩ := hn7.iface
  have KK : Kept [a] w w7 := (K6.mono (by simp)).trans2 hI7.kp (Qg9 hbw)
  have HN : Hid (ND w7 (fun y => w6.heap.size <= y) hh nn x') := UND.nd hrep hn7
  have HR : Hid (rdT n D.view root = some ⟨hh, nn, root⟩) := by
   have := Qg4 hr0 hu hs
   rw [this]
   have e := hrep.to
   subst hxe
   show some (⟨hh, toN n u hh, root⟩ : Tr) = _
   rw [<- e]
  have HI7 : Hid (RyI a bv n cv b D w6 us' w7) := hI7
  clear hn7 hI7 hu hs hrep hxe t6
  subst ey
  go_wp2_with (first
   | (refine Q0c rfl 82 (.tmp 4) (.tmp 11) rfl (w.heap.size + 1) #[.string ⟨#[]⟩, .int .i64 (root : Nat), .iface ty vy] rfl rfl 82 _ t7 stT rfl (Q0P (Qb8 _ _ rfl)) ?_; intro w8 n8 k8))
  refine bodyPost_ret (results_cell_row rfl _ w8 (w.heap.size + 1) 82 _ (0, 0) _ rfl n8 underlying82 rfl stT) rfl ?_
  obtain ⟨D7, hd7, hq7⟩ := HI7.out.dq
  refine ⟨D7, hd7.kept k8 ?_, KK.trans2 k8 (by intro y hy; simp at hy; subst hy; right; omega), Or.inl ⟨hq7, ⟨hh, nn, root⟩, _, HR.out, rfl, Or.inr ⟨ND.kept k8 ?_ (fun _ _ => trivial) HN.out, hnl⟩⟩⟩
  ·intro y hy hm
   simp at hm
   subst hm
   exact hd7.no t7 (by decide) hy
  ·intro y hy hm
   simp at hy
   subst hy
   have := k26.size
   omega
theorem Qgb (v a n root : Nat) (bv cv : Value) (D : Dv) (w : World) (hv : Vol w v a n) (hd : DQ w a bv n cv D) (hn8 : 8 <= n) (hn : n <= 1000) (hq : D.q.length <= 1000000) (hT : Tab w) (hr : root < 65536) :
  Calls prog 90 #[.pointer (some ⟨v, 0, none⟩), .int .i64 (root : Nat)] w (TrdR a bv n cv D (rdT n D.view root) w) := by
 by_cases h0 : root = 0
 ·subst h0
  refine (QdG v a n w hv hn8).mono ?_
  rintro e w' ⟨rfl, k⟩
  exact ⟨D, hd.k0 k, k.mono (by simp), Or.inl ⟨Qt.refl D, _, _, rfl, rfl, Or.inl ⟨rfl, rfl⟩⟩⟩
 ·exact Qga v a n root bv cv D w hv hd hn8 hn hq hT h0 hr
def cntU : (d : Nat) -> UNd d -> Nat
 | 0, _ => 0
 | _ + 1, .inl _ => 1
 | d + 1, .inr ks => 1 + (ks.map fun k => cntU d k.2).sum
theorem Qgc {n : Nat} {lk : Nat -> List UInt8} : ∀ {d i : Nat} {us us' : List Nat} {u : UNd d}, rdU n lk d i us = some (u, us') -> us.Nodup -> (∀ y ∈ us, y < n) -> us'.Nodup /\ (∀ y ∈ us', y < n) /\ us'.length = us.length + cntU d u
 | 0, _, _, _, _, h, _, _ => by cases h
 | d + 1, i, us, us', u, h, hn, hu => by
  rw [rdU] at h
  split at h
  ·rename_i hi
   have hn1 : (i :: us).Nodup := List.nodup_cons.2 ⟨hi.2, hn⟩
   have hu1 : ∀ y ∈ i :: us, y < n := by
    intro y hy
    rcases List.mem_cons.1 hy with rfl | hy
    ·exact hi.1
    ·exact hu y hy
   split at h
   ·cases h
   ·cases h
    exact ⟨hn1, hu1, rfl⟩
   ·rename_i ks hdec
    split at h
    ·cases h
    ·rename_i bs us2 e2
     cases h
     have key : ∀ (ks : List (ByteArray × Nat)) (s s' : List Nat) (bs : List (Q4H (UNd d))), mapO (rdK n lk d) ks s = some (bs, s') -> s.Nodup -> (∀ y ∈ s, y < n) -> s'.Nodup /\ (∀ y ∈ s', y < n) /\ s'.length = s.length + (bs.map fun k => cntU d k.2).sum := by
      intro ks
      induction ks with
      | nil => intro s s' bs h h1 h2; cases h; exact ⟨h1, h2, rfl⟩
      | cons k r ih =>
       intro s s' bs h h1 h2
       simp only [mapO] at h
       split at h
       ·cases h
       ·rename_i b s1 e1
        split at h
        ·cases h
        ·rename_i bs2 s2 e3
         cases h
         unfold rdK at e1
         split at e1
         ·cases e1
         ·rename_i u2 us3 e4
          cases e1
          obtain ⟨g1, g2, g3⟩ := Qgc e4 h1 h2
          obtain ⟨f1, f2, f3⟩ := ih _ _ _ e3 g1 g2
          refine ⟨f1, f2, ?_⟩
          simp only [List.map_cons, List.sum_cons]
          omega
     obtain ⟨g1, g2, g3⟩ := key _ (i :: us) us' bs e2 hn1 hu1
     refine ⟨g1, g2, ?_⟩
     simp only [cntU]
     simp only [List.length_cons] at g3
     omega
  ·cases h
theorem Rep.cnt : ∀ {d : Nat} {u : UNd d} {h : Nat} {n : Nd h}, Rep d u h n -> cntN h n = cntU d u
 | 0, _, _, _, hr => hr.elim
 | _ + 1, .inl _, 0, _, _ => rfl
 | _ + 1, .inl _, _ + 1, _, hr => hr.elim
 | _ + 1, .inr _, 0, _, hr => hr.elim
 | d + 1, .inr ks, h + 1, (ns : List (Kid h)), hr => by
  have hr : F2 (fun (k : Q4H (UNd d)) (k' : Kid h) => (k'.1 = k.1 /\ k'.3 = k.3) /\ Rep d k.2 h k'.2) ks ns := hr
  show 1 + (List.map (fun k : Kid h => cntN h k.2) ns).sum = 1 + (ks.map fun k => cntU d k.2).sum
  have : List.map (fun k : Kid h => cntN h k.2) ns = ks.map fun k => cntU d k.2 := by
   refine List.ext_getElem? fun i => ?_
   rw [List.getElem?_map, List.getElem?_map]
   cases hk : ks[i]? with
   | none =>
    have : ns[i]? = none := by
     rw [List.getElem?_eq_none_iff] at hk ⊢
     rw [<- hr.1]
     exact hk
    rw [this]
    rfl
   | some k =>
    have hi : i < ns.length := by rw [<- hr.1]; exact (List.getElem?_eq_some_iff.1 hk).1
    rw [List.getElem?_eq_getElem hi]
    simp only [Option.map_some]
    rw [Rep.cnt (hr.2 i k _ hk (List.getElem?_eq_getElem hi)).2]
  rw [this]
theorem Qgd {n : Nat} {lk : Nat -> List UInt8} {root : Nat} {t : Tr} (hn : 2 <= n) (h : rdT n lk root = some t) : cntT t + 2 <= n := by
 by_cases h0 : root = 0
 ·subst h0
  rw [Qg3] at h
  cases h
  exact hn
 ·simp only [rdT, if_neg h0] at h
  split at h
  ·cases h
  ·rename_i u us' e1
   split at h
   ·cases h
   ·rename_i x e2
    cases h
    obtain ⟨hh, nn, rfl, hr, _, _, _, _, _, hnl⟩ := QfD n u nil8 nil8 x e2 (QfE e1)
    obtain ⟨g1, g2, g3⟩ := Qgc e1 (by decide) (by simp; omega)
    have hl := Qbx n us' g1 g2
    have e := hr.to
    show cntT ⟨hh, toN n u hh, root⟩ + 2 <= n
    rw [<- e]
    unfold cntT
    simp only [hnl, hr.cnt]
    simp at g3 ⊢
    omega
theorem Qge {n : Nat} {lk : Nat -> List UInt8} {root : Nat} {t : Tr} (hn : 2 <= n) (hn4 : n <= 400) (h : rdT n lk root = some t) : (Q5u t).length <= 19000 := by
 have h1 := Qgd hn h
 have h2 := QeT t (Qg7 h).1
 omega
theorem Qgf {i : Nat} {B : List UInt8} {x : Nat × Nat} (h : rdH i B = some x) : x.2 < 65536 := by
 unfold rdH at h
 split at h
 ·cases h
  have h1 := Q2c ((B.drop 16).take 2)
  have h2 : ((B.drop 16).take 2).length <= 2 := by simp; omega
  have h3 : 2 ^ (8 * ((B.drop 16).take 2).length) <= 2 ^ (8 * 2) := Nat.pow_le_pow_right (by omega) (by omega)
  have h4 : 2 ^ (8 * 2) = 65536 := by decide
  show Q2a ((B.drop 16).take 2) < 65536
  omega
 ·cases h
theorem Qgg (D : Dv) : (Qa9 D).1.2 < 65536 := by
 unfold Qa9
 cases h0 : rdH 0 (D.view 0) with
 | none =>
  cases h1 : rdH 1 (D.view 1) with
  | none => decide
  | some y => exact Qgf h1
 | some x =>
  cases h1 : rdH 1 (D.view 1) with
  | none => exact Qgf h0
  | some y =>
   simp only [nwst]
   split
   ·exact Qgf h1
   ·exact Qgf h0
def Qgh (n : Nat) (D : Dv) : Option Tr := rdT n D.view (Qa9 D).1.2
theorem Qgi (a : Nat) (bv : Value) (n : Nat) (cv : Value) (D : Dv) (w : World) (h : DQ w a bv n cv D) (hn8 : 8 <= n) (hn : n <= 400) (hq : D.q.length < 1000000) (hT : Tab w) :
  Calls prog 55 #[.iface 26 (.pointer (some ⟨a, 0, none⟩))] w (QdC a bv n cv D (Qa9 D) (Qgh n D) w) :=
 QdD a bv n cv D (Qgh n D) w h hn8 hn hq (Or.inr hT) fun v W D1 hv hd hq1 _ hTT => by
  have e : Qgh n D = rdT n D1.view (Qa9 D).1.2 := by
   unfold Qgh
   rw [show D1.view = D.view from funext fun i => hq1.view i]
  rw [e]
  exact Qgb v a n _ bv cv D1 W hv hd hn8 (by omega) (by rw [hq1.q]; omega) (hTT hT) (Qgg D)
def FitA : (h : Nat) -> Nd h -> Prop
 | 0, l => Q46 (.leaf l)
 | h + 1, ks => Q46 (nbN (h + 1) ks) /\ ∀ k : Kid h, List.Mem k ks -> FitA h k.2
theorem FitA.fits : ∀ {h : Nat} {n : Nd h}, FitA h n -> Q46 (nbN h n)
 | 0, _, h => h
 | _ + 1, _, h => h.1
theorem Qgj {N : Nat} {lk : Nat -> List UInt8} : ∀ (h : Nat) (n : Nd h) (d i : Nat) (us : List Nat), h < d -> lk i = encN (nbN h n) -> Qcz lk h n -> FitA h n -> (i :: preN h n).Nodup -> (∀ b ∈ i :: preN h n, b ∉ us /\ b < N) -> ∃ u us', rdU N lk d i us = some (u, us') /\ Rep d u h n /\ ∀ b, b ∈ us' ↔ b ∈ us \/ b ∈ i :: preN h n
 | 0, l, d, i, us, hd, hi, _, hf, _, hu => by
  obtain ⟨d, rfl⟩ : ∃ d', d = d' + 1 := ⟨d - 1, by omega⟩
  have h1 := hu i (by simp)
  refine ⟨.inl l, i :: us, Qb1 ⟨h1.2, h1.1⟩ (by rw [hi]; exact Q4f hf.fits), rfl, fun b => ?_⟩
  simp [preN]
  exact Or.comm
 | h + 1, (ks : List (Kid h)), d, i, us, hd, hi, hl, hf, hnd, hu => by
  obtain ⟨d, rfl⟩ : ∃ d', d = d' + 1 := ⟨d - 1, by omega⟩
  have h1 := hu i (by simp)
  have key : ∀ (L : List (Kid h)) (s : List Nat), (∀ k ∈ L, (lk k.3 = encN (nbN h k.2) /\ Qcz lk h k.2) /\ FitA h k.2) -> (L.flatMap (preK h)).Nodup -> (∀ b ∈ L.flatMap (preK h), b ∉ s /\ b < N) ->
    ∃ bs s', mapO (rdK N lk d) (L.map fun k : Kid h => (k.1, k.3)) s = some (bs, s') /\ F2 (fun (k : Q4H (UNd d)) (k' : Kid h) => (k'.1 = k.1 /\ k'.3 = k.3) /\ Rep d k.2 h k'.2) bs L /\ ∀ b, b ∈ s' ↔ b ∈ s \/ b ∈ L.flatMap (preK h) := by
   intro L
   induction L with
   | nil =>
    intro s _ _ _
    exact ⟨[], s, rfl, F2.nil, fun b => by simp⟩
   | cons k r ih =>
    intro s hk hn hs
    rw [List.flatMap_cons] at hn hs
    have hn' := List.nodup_append.1 hn
    obtain ⟨u, s1, e1, hr1, hm1⟩ := Qgj h k.2 d k.3 s (by omega) (hk k (by simp)).1.1 (hk k (by simp)).1.2 (hk k (by simp)).2 hn'.1 (fun b hb => hs b (List.mem_append_left _ hb))
    obtain ⟨bs, s2, e2, hr2, hm2⟩ := ih s1 (fun k' hk' => hk k' (by simp [hk'])) hn'.2.1 (fun b hb => ⟨fun hm => by
     rcases (hm1 b).1 hm with h1 | h1
     ·exact (hs b (List.mem_append_right _ hb)).1 h1
     ·exact hn'.2.2 b h1 b hb rfl, (hs b (List.mem_append_right _ hb)).2⟩)
    refine ⟨⟨k.1, u, k.3⟩ :: bs, s2, ?_, F2.append (F2.one ⟨⟨rfl, rfl⟩, hr1⟩) hr2, fun b => ?_⟩
    ·simp only [List.map_cons, mapO]
     have : rdK N lk d (k.1, k.3) s = some (⟨k.1, u, k.3⟩, s1) := by unfold rdK; simp only; rw [e1]
     rw [this]
     simp only [e2]
    ·rw [hm2, hm1, List.flatMap_cons, List.mem_append]
     unfold preK
     exact or_assoc
  have hnd' := List.nodup_cons.1 hnd
  obtain ⟨bs, s', e1, hr, hm⟩ := key ks (i :: us) (fun k hk => ⟨QcA.1 hl k hk, hf.2 k hk⟩) hnd'.2 (fun b hb => ⟨fun hm => by
   rcases List.mem_cons.1 hm with e | hm
   ·subst e; exact hnd'.1 hb
   ·exact (hu b (List.mem_cons_of_mem _ hb)).1 hm, (hu b (List.mem_cons_of_mem _ hb)).2⟩)
  refine ⟨.inr bs, s', ?_, hr, fun b => ?_⟩
  ·rw [Qb2 ⟨h1.2, h1.1⟩ (by rw [hi]; exact Q4f hf.fits), e1]
  ·rw [hm, Q8L, List.mem_cons, List.mem_cons]
   constructor
   ·rintro ((h | h) | h)
    ·exact Or.inr (Or.inl h)
    ·exact Or.inl h
    ·exact Or.inr (Or.inr h)
   ·rintro (h | h | h)
    ·exact Or.inl (Or.inr h)
    ·exact Or.inl (Or.inl h)
    ·exact Or.inr h
theorem Qgk : ∀ {h : Nat} {n : Nd h}, 40 <= Q4J h n -> nilN h n = false
 | 0, l, hs => by
  cases hn : nilN 0 l with
  | false => rfl
  | true =>
   have h' : List.isEmpty (α := Pr) l = true := hn
   have : l = ([] : List Pr) := List.isEmpty_iff.1 h'
   subst this
   exact absurd hs (by decide)
 | _ + 1, _, _ => rfl
theorem Qgl : ∀ {h : Nat} {f : ByteArray} {n : Nd h}, WFN h f n -> Q4S h n -> nilN h n = false -> (0 < h -> 22 <= Q4J h n) -> ∃ p, p ∈ Q4I h n
 | 0, _, l, _, _, hn, _ => by
  cases l with
  | nil => cases hn
  | cons p r => exact ⟨p, List.mem_cons_self ..⟩
 | h + 1, f, (ks : List (Kid h)), hw, hf, _, _ => by
  obtain ⟨⟨n, x, r, e⟩, hk⟩ := (Q4R h f ks).1 hw
  have hm : (⟨f, n, x⟩ : Kid h) ∈ ks := by rw [e]; simp
  have h1 := (Q4T h ks).1 hf _ hm
  obtain ⟨p, hp⟩ := Qgl (hk.all _ hm) h1.2 (Qgk h1.1.1) (fun _ => by have := h1.1.1; omega)
  exact ⟨p, Q4O.2 ⟨_, hm, hp⟩⟩
theorem Qgm {a b c : ByteArray} (h1 : ge b a) (h2 : bl b c = true) : bl a c = true := by
 rcases Q3G a b with h | h | h
 ·exact Q3F h h2
 ·rw [h]; exact h2
 ·rw [show bl b a = false from h1] at h; cases h
theorem Qgn : ∀ (h : Nat) (n : Nd h) (d : Nat) (u : UNd d) (f t : ByteArray), Rep d u h n -> WFN h f n -> Q4S h n -> nilN h n = false -> (0 < h -> 22 <= Q4J h n) -> (t = nil8 \/ (bl f t = true /\ ∀ p ∈ Q4I h n, bl p.1 t = true)) -> sndU d f t u = some (h + 1)
 | _, _, 0, _, _, _, hr, _, _, _, _, _ => hr.elim
 | 0, (l : List Pr), d + 1, .inl l', f, t, hr, hw, _, hn, _, ht => by
  have e : l = l' := hr
  subst e
  have hL : sndL f t l = true := by
   have hrs : Rise (l.map fun p : Pr => p.1) := by
    unfold Rise
    rw [List.pairwise_map]
    exact hw.1
   have hri := Qfw (b := false) (f := f) (t := t) hrs (fun k hk => by
    obtain ⟨p, hp, rfl⟩ := List.mem_map.1 hk
    exact ⟨(hw.2 p hp).1, fun h => by cases h⟩) (ht.imp id fun h => ⟨h.1, fun k hk => by
    obtain ⟨p, hp, rfl⟩ := List.mem_map.1 hk
    exact h.2 p hp⟩)
   cases l with
   | nil => cases hn
   | cons p r =>
    have hp : be p.1 nil8 = false := (Q3C _ _).2 fun e => by
     have := (hw.2 p (List.mem_cons_self ..)).2.1
     rw [e] at this
     exact absurd this (by decide)
    simp only [sndL, hp, Bool.not_false, Bool.true_and]
    exact hri
  simp only [sndU, hL, if_true]
 | 0, _, _ + 1, .inr _, _, _, hr, _, _, _, _, _ => hr.elim
 | _ + 1, _, _ + 1, .inl _, _, _, hr, _, _, _, _, _ => hr.elim
 | h + 1, (ns : List (Kid h)), d + 1, .inr ks, f, t, hr, hw, hf, _, h2, ht => by
  have hr : F2 (fun (k : Q4H (UNd d)) (k' : Kid h) => (k'.1 = k.1 /\ k'.3 = k.3) /\ Rep d k.2 h k'.2) ks ns := hr
  obtain ⟨⟨n0, x0, r0, e0⟩, hk⟩ := (Q4R h f ns).1 hw
  have hfu := (Q4T h ns).1 hf
  have hlen : 2 <= ns.length := by have : 22 <= 11 * ns.length := h2 (by omega); omega
  have hkey : ks.map (fun k => k.1) = ns.map fun k => k.1 := by
   refine List.ext_getElem? fun i => ?_
   rw [List.getElem?_map, List.getElem?_map]
   cases hki : ks[i]? with
   | none =>
    have : ns[i]? = none := by rw [List.getElem?_eq_none_iff] at hki ⊢; rw [<- hr.1]; exact hki
    rw [this]; rfl
   | some k =>
    have hi : i < ns.length := by rw [<- hr.1]; exact (List.getElem?_eq_some_iff.1 hki).1
    rw [List.getElem?_eq_getElem hi]
    simp only [Option.map_some]
    rw [(hr.2 i k _ hki (List.getElem?_eq_getElem hi)).1.1]
  have hfl : ∀ k ∈ ns, ∀ p ∈ Q4I h k.2, p ∈ Q4I (h + 1) ns := fun k hk1 p hp => Q4O.2 ⟨k, hk1, hp⟩
  have hex : ∀ k ∈ ns, ∃ p, p ∈ Q4I h k.2 /\ ge p.1 k.1 := by
   intro k hk1
   have h3 := hfu k hk1
   obtain ⟨p, hp⟩ := Qgl (hk.all k hk1) h3.2 (Qgk h3.1.1) (fun _ => by have := h3.1.1; omega)
   exact ⟨p, hp, (WFN.keys (hk.all k hk1) p hp).1⟩
  have hB : sndB f t ks = true := by
   have hrs : Rise (ns.map fun k : Kid h => k.1) := by
    unfold Rise
    rw [List.pairwise_map]
    exact hk.ord.imp fun hb => hb.1
   have hri := Qfw (b := false) (f := f) (t := t) hrs (fun k hk1 => by
    obtain ⟨q, hq, rfl⟩ := List.mem_map.1 hk1
    refine ⟨?_, fun h => by cases h⟩
    rw [e0] at hq
    rcases List.mem_cons.1 hq with e | hq
    ·subst e
     exact Q4o f
    ·have := hk.ord
     rw [e0] at this
     exact Q4p ((List.pairwise_cons.1 this).1 q hq).1) (ht.imp id fun h3 => ⟨h3.1, fun k hk1 => by
    obtain ⟨q, hq, rfl⟩ := List.mem_map.1 hk1
    obtain ⟨p, hp, hge⟩ := hex q hq
    exact Qgm hge (h3.2 p (hfl q hq p hp))⟩)
   rw [<- hkey] at hri
   cases ks with
   | nil => rw [<- hr.1] at hlen; simp at hlen
   | cons k r =>
    have h3 := (hr.2 0 k ⟨f, n0, x0⟩ rfl (by rw [e0]; rfl)).1.1
    have h4 : be k.1 f = true := (Q3B _ _).2 h3.symm
    have h5 : decide (1 < (k :: r).length) = true := decide_eq_true (by rw [hr.1]; omega)
    simp only [sndB, h4, h5, Bool.true_and]
    exact hri
  have hG : Qb6 (sndU d) (szU d) t none ks = some (h + 1) := by
   refine Qfz (Or.inl rfl) (fun e => by rw [e] at hr; rw [<- hr.1] at hlen; simp at hlen) fun i k hki => ?_
   have hi : i < ns.length := by rw [<- hr.1]; exact (List.getElem?_eq_some_iff.1 hki).1
   obtain ⟨q, hq⟩ : ∃ q, ns[i]? = some q := ⟨_, List.getElem?_eq_getElem hi⟩
   have hrk := hr.2 i k q hki hq
   have hqm := List.mem_of_getElem? hq
   have h3 := hfu q hqm
   have hsz : szU d k.2 = Q4J h q.2 := QfC hrk.2
   refine ⟨?_, by rw [hsz]; exact h3.1.1⟩
   rw [<- hrk.1.1]
   refine Qgn h q.2 d k.2 q.1 _ hrk.2 (hk.all q hqm) h3.2 (Qgk h3.1.1) (fun _ => by have := h3.1.1; omega) ?_
   cases hnx : ks[i + 1]? with
   | none =>
    simp only [Option.map_none, Option.getD_none]
    refine ht.imp id fun h4 => ⟨?_, fun p hp => h4.2 p (hfl q hqm p hp)⟩
    obtain ⟨p, hp, hge⟩ := hex q hqm
    exact Qgm hge (h4.2 p (hfl q hqm p hp))
   | some k2 =>
    simp only [Option.map_some, Option.getD_some]
    have hi2 : i + 1 < ns.length := by rw [<- hr.1]; exact (List.getElem?_eq_some_iff.1 hnx).1
    obtain ⟨q2, hq2⟩ : ∃ q, ns[i + 1]? = some q := ⟨_, List.getElem?_eq_getElem hi2⟩
    have hb : Bef h q q2 := by
     have := List.pairwise_iff_getElem.1 hk.ord i (i + 1) hi hi2 (by omega)
     rw [(List.getElem?_eq_some_iff.1 hq).2, (List.getElem?_eq_some_iff.1 hq2).2] at this
     exact this
    rw [<- (hr.2 (i + 1) k2 q2 hnx hq2).1.1]
    exact Or.inr ⟨hb.1, fun p hp => hb.2 p hp⟩
  simp only [sndU, hB, if_true, hG, Option.map_some]
theorem Qgo : ∀ {h : Nat} {f : ByteArray} {n : Nd h}, WFN h f n -> Q4S h n -> Q4J h n <= 122 -> FmS h n -> (∀ b ∈ preN h n, b < 65536) -> FitA h n
 | 0, _, _, hw, _, hs, _, _ => ⟨fun p hp => ⟨(hw.2 p hp).2.2.1, (hw.2 p hp).2.2.2⟩, hs⟩
 | h + 1, f, (ks : List (Kid h)), hw, hf, hs, hm, hb => by
  have hk := ((Q4R h f ks).1 hw).2
  have hfu := (Q4T h ks).1 hf
  have hfm := Qd3.1 hm
  have hb : ∀ b ∈ ks.flatMap (preK h), b < 65536 := hb
  have hb1 : ∀ k ∈ ks, ∀ b ∈ preK h k, b < 65536 := fun k hk1 b hb1 => hb b (List.mem_flatMap.2 ⟨k, hk1, hb1⟩)
  refine ⟨⟨fun q hq => ?_, ?_⟩, fun k hk1 => Qgo (hk.all k hk1) (hfu k hk1).2 (hfu k hk1).1.2 (hfm k hk1).2 fun b hb2 => hb1 k hk1 b (List.mem_cons_of_mem _ hb2)⟩
  ·obtain ⟨k, hk1, rfl⟩ := List.mem_map.1 hq
   exact ⟨(hfm k hk1).1, hb1 k hk1 k.3 (List.mem_cons_self ..)⟩
  ·rw [List.length_map]
   exact hs
theorem Qgp : ∀ {h : Nat} {f : ByteArray} {n : Nd h}, WFN h f n -> h + 1 <= cntN h n
 | 0, _, _, _ => Nat.le_refl _
 | h + 1, f, (ks : List (Kid h)), hw => by
  obtain ⟨⟨n, x, r, e⟩, hk⟩ := (Q4R h f ks).1 hw
  have h1 := Qgp (hk.all ⟨f, n, x⟩ (by rw [e]; simp))
  show h + 1 + 1 <= 1 + (ks.map fun k : Kid h => cntN h k.2).sum
  rw [e]
  simp only [List.map_cons, List.sum_cons]
  have h1 : h + 1 <= cntN h n := h1
  omega
theorem Whl.read {n : Nat} {lk : Nat -> List UInt8} {t : Tr} (h : Whl n lk t) (hn : n <= 65536) : rdT n lk t.pl = some t := by
 have hp : t.pl ≠ 0 := by have := h.off t.pl (by simp); omega
 have hfit : FitA t.h t.n := Qgo h.tw.wf h.tw.full h.tw.hi h.frs fun b hb => by have := (h.off b (List.mem_cons_of_mem _ hb)).2; omega
 have hc := Qbx n _ h.nd fun b hb => (h.off b hb).2
 have hc2 := Q8M t.h t.n
 have hc3 := Qgp h.tw.wf
 simp only [List.length_cons] at hc
 obtain ⟨u, us', e1, hr, _⟩ := Qgj (N := n) t.h t.n n t.pl [1, 0] (by omega) h.at_ h.lies hfit h.nd (fun b hb => ⟨fun hm => by
  have := (h.off b hb).1
  simp at hm
  omega, (h.off b hb).2⟩)
 have e2 := Qgn t.h t.n n u nil8 nil8 hr h.tw.wf h.tw.full h.nil h.tw.two (Or.inl rfl)
 have e3 := Qg4 hp e1 e2
 rw [e3]
 have e4 := hr.to
 show some (⟨t.h, toN n u t.h, t.pl⟩ : Tr) = some t
 rw [<- e4]
theorem StK.whl {n : Nat} {lk : Nat -> List UInt8} {lt t : Tr} (h : StK n lk lt t) (hn : nilN lt.h lt.n = false) : Whl n lk lt := by
 have hp : preT lt = lt.pl :: preN lt.h lt.n := by unfold preT; rw [hn]; rfl
 rcases h.lies with h1 | h1
 ·rw [hn] at h1; cases h1
 ·refine ⟨h.ltw, hn, h1.1, h1.2, ?_, fun b hb => ?_, h.fm⟩
  ·have := (List.nodup_append.1 h.us).1
   rw [hp] at this
   exact ((List.reverse_perm _).nodup_iff).1 this
  ·rw [<- hp] at hb
   exact ⟨Qd8 h.us hb, h.ub b hb⟩
theorem StK.read {n : Nat} {lk : Nat -> List UInt8} {lt t : Tr} (h : StK n lk lt t) (hn : n <= 65536) : rdT n lk lt.pl = some lt := by
 cases hz : nilN lt.h lt.n with
 | true =>
  rw [Qd9 hz h.ltw]
  exact Qg3 n lk
 | false => exact (h.whl hz).read hn
end Go.Proofs.YtcklgafpgdhnaaaGreatDoor
