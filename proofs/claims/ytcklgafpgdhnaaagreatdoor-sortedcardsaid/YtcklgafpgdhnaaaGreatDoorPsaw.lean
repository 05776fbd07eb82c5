import Derived.Test.YtcklgafpgdhnaaaGreatDoorPsav
import Derived.Test.YtcklgafpgdhnaaaGreatDoorPsaq
import Derived.Test.YtcklgafpgdhnaaaGreatDoorPsaf
import Derived.Test.YtcklgafpgdhnaaaGreatDoorPsae
import Derived.Test.YtcklgafpgdhnaaaGreatDoorPsai
import Derived.Test.YtcklgafpgdhnaaaGreatDoorPsar
import Derived.Test.YtcklgafpgdhnaaaGreatDoorPsau
import Derived.Test.YtcklgafpgdhnaaaGreatDoorPsap
import Derived.Test.YtcklgafpgdhnaaaGreatDoorPsab
set_option maxRecDepth 100000
set_option maxHeartbeats 4000000
open Go.Proofs.Tryz
open Go.Act renaming put → zP
open List renaming getElem_toArray → zA, getElem_cons_succ → zB, getElem_cons_zero → zC, setIfInBounds_toArray → zD, set_cons_succ → zE, set_cons_zero → zF
namespace Go.Proofs.YtcklgafpgdhnaaaGreatDoor
open Go.RowKit
theorem Qa6 (k x : ByteArray) (w : World) : (Instr.build 122 #[(0, .agg #[.string k, .string x])]).run prog w = .ok (.agg #[.string k, .string x]) w := by kernel_rfl
theorem Qa7 : (prog.info? 41).map (·.size) = some 2 := by kernel_rfl
theorem Qa8 (k x : ByteArray) (w : World) (b : Nat) (hb : w.heap[b]? = some (.cells #[.string k, .string x] 41 (0, 0))) : Cl (Q3r k x) (fun _ => True) 92 (.pointer (some ⟨b, 0, none⟩)) w := by
 refine ⟨fun _ _ => by kernel_rfl, ?_⟩
 intro W v l kW hl hs hlen _
 have HC : Hid (Calls _ _ _ _ _) := Q82 v l k x W hl hs hlen
 have hbW := kW.get hb (by simp)
 have hld := Q56 (P := prog) (ty := 41) (e := pe (k, x)) (o := 0) _ hbW ⟨rfl, Q80 k x⟩ underlying41 Qa7
 simp only [pe] at hld
 have hbp := Qa6
 obtain ⟨p, c, ev⟩ := SL.shape hl
 rw [List.length_map] at ev
 subst ev
 clear hl hs hlen kW
 go_enter func92, ntmps92
 go_wp2_with (first
  | (refine Q0t rfl 41 (.tmp 1) rfl ⟨b, 0, none⟩ rfl _ hld ?_)
  | (go_at_call 93; refine HC.out.mono ?_; rintro e w1 ⟨v1, rfl, h1, h2, h3⟩))
 go_ret
 exact ⟨_, rfl, h1, h2, h3⟩
theorem Qa9 (k : ByteArray) (w : World) (b : Nat) (hb : w.heap[b]? = some (.cells #[.string k] 9 (0, 0))) : Cl (Q3s k) (fun l => (getL k l).isSome = true) 73 (.pointer (some ⟨b, 0, none⟩)) w := by
 refine ⟨fun _ _ => by kernel_rfl, ?_⟩
 intro W v l kW hl hs hlen hq
 have HC : Hid (Calls _ _ _ _ _) := Q7G v l k W hl hs hlen hq
 have c1 : W.cell? ⟨b, 0, none⟩ = some (.string k) := Q02 (kW.get hb (by simp)) rfl
 obtain ⟨p, c, ev⟩ := SL.shape hl
 rw [List.length_map] at ev
 subst ev
 clear hl hs hlen kW hq
 go_enter func73, ntmps73
 go_wp2_with (first
  | (go_at_call 74; refine HC.out.mono ?_; rintro e w1 ⟨v1, rfl, h1, h2, h3⟩))
 go_ret
 exact ⟨_, rfl, h1, h2, h3⟩
theorem Qaa {A : Nat -> Prop} {w W0 w1 w2 : World} {r1 : Value} {t : Tr} {q : Nat} (hA : ∀ y, A y -> y < w.heap.size) (K0 : Kept [] w W0) (hk1 : Kept [] W0 w1) (hq : w.heap.size <= q) (hq2 : q < W0.heap.size) (ht : TV w1 (fun y => A y \/ W0.heap.size <= y) t r1) (k4 : Kept [q] w1 w2) : TChR A t w (.returned (.agg #[.string ⟨#[]⟩, .int .i64 t.pl, r1])) w2 := by
 have s0 := K0.size
 refine ⟨_, rfl, TV.kept ht k4 ?_ ?_, (K0.trans hk1).trans2 k4 fun y hy => Or.inr (by simp at hy; subst hy; omega)⟩
 ·intro y hy
  simp at hy
  subst hy
  rintro (h1 | h1)
  ·have := hA _ h1; omega
  ·omega
 ·rintro y (h1 | h1)
  ·exact Or.inl h1
  ·exact Or.inr (by omega)
theorem one3 {r : Value} (p : Int) (h : r.oneCell' = true) : (#[.string ⟨#[]⟩, .int .i64 p, r] : Array Value).all (·.oneCell') = true := by
 have h1 : (Value.string ⟨#[]⟩).oneCell' = true := rfl
 have h2 : (Value.int .i64 p).oneCell' = true := rfl
 simp [h, h1, h2]
theorem Qab {w : World} {A : Nat -> Prop} {t : Tr} {r : Value} (hx : TV w A t r) (hAb : ∀ y, A y -> y < w.heap.size) (ht : TW t) (k x : ByteArray) (hk : Q3O k) (hv : x.size <= 12) :
  Calls prog 58 #[.agg #[.string ⟨#[]⟩, .int .i64 t.pl, r], .agg #[.string k, .string x]] w (TChR A (chgT (Q3r k x) k t) w) := by
 obtain ⟨W0, eW⟩ : ∃ W0, W0 = ((w.alloc (.cells #[.string ⟨#[]⟩, .int .i64 (t.pl : Int), r] 82)).alloc (.cells #[.string k, .string x] 41)).alloc (.cells #[.string ⟨#[]⟩, .int .i64 0, .nilIface] 82) := ⟨_, rfl⟩
 have K0 : Kept [] w W0 := by rw [eW]; exact (((Kept.refl [] w).alloc _).alloc _).alloc _
 have sW : W0.heap.size = w.heap.size + 1 + 1 + 1 := by rw [eW, World.size_alloc, World.size_alloc, World.size_alloc]
 have hb1 : W0.heap[w.heap.size + 1]? = some ((.cells #[.string k, .string x] 41 : Obj)) := by
  have := heap_alloc_new (w.alloc (.cells #[.string ⟨#[]⟩, .int .i64 (t.pl : Int), r] 82)) (.cells #[.string k, .string x] 41)
  rw [World.size_alloc] at this
  rw [eW]
  exact ((Kept.refl [] _).alloc (.cells #[.string ⟨#[]⟩, .int .i64 0, .nilIface] 82)).get this (by simp)
 have hb2 : W0.heap[w.heap.size + 1 + 1]? = some (.cells #[.string ⟨#[]⟩, .int .i64 0, .nilIface] 82 (0, 0)) := by
  have := heap_alloc_new ((w.alloc (.cells #[.string ⟨#[]⟩, .int .i64 (t.pl : Int), r] 82)).alloc (.cells #[.string k, .string x] 41)) (.cells #[.string ⟨#[]⟩, .int .i64 0, .nilIface] 82)
  rw [World.size_alloc, World.size_alloc] at this
  rw [eW]
  exact this
 have HC : Hid (Calls _ _ _ _ _) := Qa5 (Q4T k x hk hv) (hx.k K0) (fun y hy => Nat.lt_of_lt_of_le (hAb y hy) K0.size) ht (Qa8 k x W0 (w.heap.size + 1) hb1) trivial
 have HA : Hid _ := hAb
 generalize chgT (Q3r k x) k t = t' at *
 clear hx hAb ht hb1
 have hmf := Q9J
 go_enter func58, ntmps58
 go_wp2_with (first
  | (go_at_call 72; rw [<- eW]; refine HC.out.mono ?_; rintro e w1 ⟨r1, rfl, ht1, hk1⟩; have hb3 := hk1.get hb2 (by simp); have HT1 : Hid _ := ht1; have ho1 := ht1.one; clear ht1)
  | (refine Q0c rfl 82 (.tmp 4) (.tmp 9) rfl (w.heap.size + 1 + 1) #[.string ⟨#[]⟩, .int .i64 t'.pl, r1] rfl rfl 82 _ hb3 stT rfl (one3 _ ho1) ?_; intro w2 hg2 hk2))
 refine bodyPost_ret (results_cell_row rfl _ _ (w.heap.size + 1 + 1) 82 _ (0, 0) _ rfl hg2 underlying82 rfl stT) rfl ?_
 exact Qaa HA.out K0 hk1 (by omega) (by omega) HT1.out hk2
def delT (k : ByteArray) (t : Tr) : Tr := if (getL k (Q4V t)).isSome then chgT (Q3s k) k t else t
theorem Qac {k : ByteArray} : ∀ {l : List Pr}, (getL k l).isSome = false -> Q3s k l = l := by
 intro l h
 refine Q3X k l fun p hp => ?_
 cases hb : be p.1 k with
 | false => rfl
 | true =>
  exfalso
  induction l with
  | nil => cases hp
  | cons q r ih =>
   cases hq : be q.1 k with
   | true => simp [getL, hq] at h
   | false =>
    rcases List.mem_cons.1 hp with rfl | hp
    ·rw [hq] at hb; cases hb
    ·exact ih (by simpa [getL, hq] using h) hp
theorem Qad (k : ByteArray) (t : Tr) (ht : TW t) : TW (delT k t) /\ Q4V (delT k t) = Q3s k (Q4V t) := by
 unfold delT
 cases h : (getL k (Q4V t)).isSome with
 | true => exact Q51 (Q4U k) t ht
 | false => exact ⟨ht, (Qac h).symm⟩
theorem Qae {w : World} {A : Nat -> Prop} {t : Tr} {r : Value} (hx : TV w A t r) (hAb : ∀ y, A y -> y < w.heap.size) (ht : TW t) (k : ByteArray) :
  Calls prog 50 #[.agg #[.string ⟨#[]⟩, .int .i64 t.pl, r], .string k] w (TChR A (delT k t) w) := by
 obtain ⟨W0, eW⟩ : ∃ W0, W0 = ((w.alloc (.cells #[.string ⟨#[]⟩, .int .i64 (t.pl : Int), r] 82)).alloc (.cells #[.string k] 9)).alloc (.cells #[.string ⟨#[]⟩, .int .i64 0, .nilIface] 82) := ⟨_, rfl⟩
 have K0 : Kept [] w W0 := by rw [eW]; exact (((Kept.refl [] w).alloc _).alloc _).alloc _
 have sW : W0.heap.size = w.heap.size + 1 + 1 + 1 := by rw [eW, World.size_alloc, World.size_alloc, World.size_alloc]
 have hb0 : W0.heap[w.heap.size]? = some ((.cells #[.string ⟨#[]⟩, .int .i64 (t.pl : Int), r] 82 : Obj)) := by
  rw [eW]
  exact (((Kept.refl [] _).alloc _).alloc _).get (heap_alloc_new w _) (by simp)
 have hb1 : W0.heap[w.heap.size + 1]? = some ((.cells #[.string k] 9 : Obj)) := by
  have := heap_alloc_new (w.alloc (.cells #[.string ⟨#[]⟩, .int .i64 (t.pl : Int), r] 82)) (.cells #[.string k] 9)
  rw [World.size_alloc] at this
  rw [eW]
  exact ((Kept.refl [] _).alloc (.cells #[.string ⟨#[]⟩, .int .i64 0, .nilIface] 82)).get this (by simp)
 have hb2 : W0.heap[w.heap.size + 1 + 1]? = some (.cells #[.string ⟨#[]⟩, .int .i64 0, .nilIface] 82 (0, 0)) := by
  have := heap_alloc_new ((w.alloc (.cells #[.string ⟨#[]⟩, .int .i64 (t.pl : Int), r] 82)).alloc (.cells #[.string k] 9)) (.cells #[.string ⟨#[]⟩, .int .i64 0, .nilIface] 82)
  rw [World.size_alloc, World.size_alloc] at this
  rw [eW]
  exact this
 have HG : Hid (Calls _ _ _ _ _) := Q9N (hx.k K0) ht k
 have hone := hx.one
 have HA : Hid _ := hAb
 have HX : Hid _ := hx
 have hmf := Q9J
 unfold delT
 cases hh : (getL k (Q4V t)).isSome with
 | false =>
  rw [hh] at HG
  simp only [Bool.false_eq_true, if_false]
  clear hx hAb ht hb1
  go_enter func50, ntmps50
  go_wp2_with (first
   | (go_at_call 46; rw [<- eW]; refine HG.out.mono ?_; rintro e w1 ⟨rfl, hk1⟩; have hb3 := hk1.get hb2 (by simp); have hb4 := hk1.get hb0 (by simp))
   | (refine wpList_load_row rfl 82 (.tmp 2) rfl w.heap.size rfl 82 #[.string ⟨#[]⟩, .int .i64 (t.pl : Int), r] (0, 0) _ hb4 underlying82 rfl stT ?_)
   | (refine Q0c rfl 82 (.tmp 4) (.tmp 15) rfl (w.heap.size + 1 + 1) #[.string ⟨#[]⟩, .int .i64 t.pl, r] rfl rfl 82 _ hb3 stT rfl (one3 _ hone) ?_; intro w2 hg2 hk2))
  refine bodyPost_ret (results_cell_row rfl _ _ (w.heap.size + 1 + 1) 82 _ (0, 0) _ rfl hg2 underlying82 rfl stT) rfl ?_
  exact Qaa HA.out K0 hk1 (by omega) (by omega) ((TV.k HX.out (K0.trans hk1)).kept (Kept.refl [] _) (by simp) fun _ h => Or.inl h) hk2
 | true =>
  rw [hh] at HG
  simp only [if_true]
  obtain ⟨_, hget⟩ := Q6R k t.h nil8 t.n ht.wf (Q4X k)
  have hQ : (getL k (Q6P k t.h t.n)).isSome = true := by rw [hget]; exact hh
  have HC : Hid (∀ W, Kept [] W0 W -> _) := fun W kW => Qa5 (Q4U k) (hx.k (K0.trans kW)) (fun y hy => Nat.lt_of_lt_of_le (hAb y hy) (K0.trans kW).size) ht (Qa9 k W (w.heap.size + 1) (kW.get hb1 (by simp))) hQ
  generalize chgT (Q3s k) k t = t' at *
  clear hx hAb ht hget hQ
  go_enter func50, ntmps50
  go_wp2_with (first
   | (go_at_call 46; rw [<- eW]; refine HG.out.mono ?_; rintro e w1 ⟨rfl, hk1⟩; have hb3 := hk1.get hb2 (by simp); have hb4 := hk1.get hb0 (by simp); have hb5 := hk1.get hb1 (by simp); have c5 : w1.cell? ⟨w.heap.size + 1, 0, none⟩ = some (.string k) := Q02 hb5 rfl)
   | (refine wpList_load_row rfl 82 (.tmp 2) rfl w.heap.size rfl 82 #[.string ⟨#[]⟩, .int .i64 (t.pl : Int), r] (0, 0) _ hb4 underlying82 rfl stT ?_)
   | (go_at_call 72; refine (HC.out _ hk1).mono ?_; rintro e w2 ⟨r1, rfl, ht1, hk2⟩; have hb6 := hk2.get hb3 (by simp); have HT1 : Hid _ := ht1; have ho1 := ht1.one; clear ht1)
   | (refine Q0c rfl 82 (.tmp 4) (.tmp 19) rfl (w.heap.size + 1 + 1) #[.string ⟨#[]⟩, .int .i64 t'.pl, r1] rfl rfl 82 _ hb6 stT rfl (one3 _ ho1) ?_; intro w3 hg3 hk3))
  refine bodyPost_ret (results_cell_row rfl _ _ (w.heap.size + 1 + 1) 82 _ (0, 0) _ rfl hg3 underlying82 rfl stT) rfl ?_
  exact Qaa HA.out (K0.trans hk1) hk2 (by omega) (by have := hk1.size; omega) HT1.out hk3
theorem Qaf (args : Array Value) (w : World) : (callFunc 47 args).run prog w = .ok (.enter 47 args) w := Q31 func47 (by kernel_rfl) (by kernel_rfl) args w
theorem Qag : (prog.info? 41).map (·.size) = some 2 := by kernel_rfl
def FrS (w : World) (k x : ByteArray) (u v : Value) (W : World) : Prop := W.heap[w.heap.size]? = some (.cells #[.string k, .string x] 41 (0, 0)) /\ W.heap[w.heap.size + 1]? = some (.cells #[u, v] 41 (0, 0))
def Fr1 (w : World) (k x : ByteArray) (W : World) : Prop := W.heap[w.heap.size]? = some (.cells #[.string k, .string x] 41 (0, 0))
theorem FrS.k {w : World} {k x : ByteArray} {u v : Value} {W W' : World} (h : FrS w k x u v W) (kk : Kept [] W W') : FrS w k x u v W' := ⟨kk.get h.1 (by simp), kk.get h.2 (by simp)⟩
theorem Qah (k x : ByteArray) (w : World) (hk : k.size <= 1000) (hx : x.size <= 1000) : Calls prog 59 #[.agg #[.string k, .string x]] w fun e w' => e = .returned (.agg #[.string k, .string x]) /\ Kept [] w w' := by
 have k0 := ((Kept.refl [] w).alloc (.cells #[.string k, .string x] 41)).alloc (.cells #[.string ⟨#[]⟩, .string ⟨#[]⟩] 41)
 have hS : FrS w k x (.string ⟨#[]⟩) (.string ⟨#[]⟩) ((w.alloc (.cells #[.string k, .string x] 41)).alloc (.cells #[.string ⟨#[]⟩, .string ⟨#[]⟩] 41)).drew := by
  constructor
  ·exact ((Kept.refl [] _).alloc _).drew.get (heap_alloc_new w _) (by simp)
  ·have := heap_alloc_new (w.alloc (.cells #[.string k, .string x] 41)) (.cells #[.string ⟨#[]⟩, .string ⟨#[]⟩] 41)
   rw [World.size_alloc] at this
   exact this
 go_enter func59, ntmps59
 go_wp2
 refine Q1j (Fr1 w k x) (by kernel_rfl) ?_
 refine hu 0 (.pointer (some ⟨w.heap.size, 0 + 0, none⟩)) rfl (fun W hW => Q33 41 (.tmp 1) 0 rfl w.heap.size (0) rfl 0 (by rfl)) hS.1 ?_
 simp only [zP, zA, zC, zD, zE, zF]
 refine hu 1 (.string k) rfl (fun W hW => Q0l 9 (.tmp 3) rfl ⟨w.heap.size, 0 + 0, none⟩ rfl _ (Q0p underlying9 rfl (Q02 hW rfl))) hS.1 ?_
 simp only [zP, zA, zB, zC, zD, zE, zF]
 refine hu 3 (.pointer (some ⟨w.heap.size, 0 + 1, none⟩)) rfl (fun W hW => Q33 41 (.tmp 1) 1 rfl w.heap.size (0) rfl 1 (by rfl)) hS.1 ?_
 simp only [zP, zA, zB, zC, zD, zE, zF]
 refine hu 4 (.string x) rfl (fun W hW => Q0l 9 (.tmp 6) rfl ⟨w.heap.size, 0 + 1, none⟩ rfl _ (Q0p underlying9 rfl (Q02 hW rfl))) hS.1 ?_
 simp only [zP, zA, zB, zC, zD, zE, zF]
 refine Q0j (i := 2) (by kernel_rfl) (Q2Z rfl (by rfl) 47 #[.string k] (Q32 _ _ _ rfl _ (by simp [Act.eval]) (Qaf _ _)) _ (Q96 k _ (by omega)) ?_)
 rintro e w2 ⟨rfl, hk2⟩
 have hS2 := hS.k hk2
 refine ⟨_, rfl, hS2.1, ?_⟩
 simp only [zP, zA, zB, zC, zD, zE, zF]
 refine Q0j (i := 5) (by kernel_rfl) (Q2Z rfl (by rfl) 47 #[.string x] (Q32 _ _ _ rfl _ (by simp [Act.eval]) (Qaf _ _)) _ (Q96 x _ (by omega)) ?_)
 rintro e w3 ⟨rfl, hk3'⟩
 have hS3 := hS2.k hk3'
 have hk3 := hk2.trans hk3'
 refine ⟨_, rfl, hS3.1, ?_⟩
 simp only [zP, zA, zB, zC, zD, zE, zF]
 refine Q0j (i := 6) (by kernel_rfl) (Q1r rfl (by rfl) (.agg #[.string k, .string x]) w3 (Q1l 41 (.tmp 5) (.tmp 8) 0 1 rfl _ _ _ rfl rfl (by kernel_rfl)) ⟨hS3.1, ?_⟩)
 simp only [zP, zA, zB, zC, zD, zE, zF]
 have hst := Q0s (P := prog) w3 (w.heap.size + 1) 0 41 41 [.string ⟨#[]⟩, .string ⟨#[]⟩] [.string k, .string x] hS3.2 (by rw [Qag]; rfl) (by simp) (by intro u hu; simp at hu; rcases hu with rfl | rfl <;> rfl)
 have hS4 : FrS w k x (.string k) (.string x) (w3.setRow (w.heap.size + 1) (splice [.string ⟨#[]⟩, .string ⟨#[]⟩] 0 [.string k, .string x]).toArray) := ⟨((Kept.refl [w.heap.size + 1] w3).setRow (Or.inl (by simp)) _).get hS3.1 (by simp), setRow_heap _ _ _ _ _ _ hS3.2⟩
 refine Q0j (i := 7) (by kernel_rfl) (Q0i rfl rfl _ (Q0m 41 (.tmp 2) (.tmp 9) rfl ⟨w.heap.size + 1, 0, none⟩ rfl _ rfl hst) ⟨hS4.1, ?_⟩)
 simp only [zP, zA, zB, zC]
 refine wpAnyH_done (by kernel_rfl) ?_ _
 have K4 : Hid (Kept [] w (w3.setRow (w.heap.size + 1) (splice [.string ⟨#[]⟩, .string ⟨#[]⟩] 0 [.string k, .string x]).toArray)) := (k0.drew.trans hk3).trans2 ((Kept.refl [w.heap.size + 1] w3).setRow (Or.inl (by simp)) _) (fun y hy => Or.inr (by simp at hy; omega))
 clear hst hS hS2 hS3
 go_wp2
 refine bodyPost_ret (results_cell_row rfl _ _ (w.heap.size + 1) 41 #[.string k, .string x] (0, 0) _ rfl hS4.2 underlying41 rfl Qag) rfl ?_
 exact ⟨rfl, K4.out⟩
structure Hd where
 s : Nat
 tu : Nat
 ro : Nat
 lt : Tr
 lr : Value
def rowS (c : Hd) (v : Nat) (t : Tr) (r : Value) : Array Value := #[.int .i64 (c.s : Nat), .pointer (some ⟨v, 0, none⟩), .int .u64 (c.tu : Nat), .int .i64 (c.ro : Nat), .string ⟨#[]⟩, .int .i64 (c.lt.pl : Nat), c.lr, .string ⟨#[]⟩, .int .i64 (t.pl : Nat), r]
theorem Qai (x v : Nat) (c : Hd) (t : Tr) (r : Value) (w : World) (hs : 1 <= c.s) (h : w.heap[x]? = some (.cells (rowS c v t r) 84 (0, 0))) : Calls prog 44 #[.pointer (some ⟨x, 0, none⟩)] w fun e w' => e = .returned (.tuple #[]) /\ Kept [] w w' := by
 have c0 : w.cell? ⟨x, 0, none⟩ = some (.int .i64 (c.s : Nat)) := Q02 h rfl
 have h0 : ¬ (c.s : Int) = 0 := by omega
 go_enter func44, ntmps44
 go_wp2
 go_end0
 exact ⟨rfl, Kept.refl _ _⟩
theorem Qaj (x v : Nat) (c : Hd) (t : Tr) (r : Value) (w : World) (hs : c.s = 1 \/ c.s = 2) (h : w.heap[x]? = some (.cells (rowS c v t r) 84 (0, 0))) : Calls prog 49 #[.pointer (some ⟨x, 0, none⟩)] w fun e w' => e = .returned (.tuple #[]) /\ Kept [] w w' := by
 have HN : Hid (Calls _ _ _ _ _) := Qai x v c t r w (by omega) h
 have h0 : ¬ (c.s : Int) = 3 := by omega
 go_enter func49, ntmps49
 go_wp2_with (first | (go_at_call 44; refine HN.out.mono ?_; rintro e w1 ⟨rfl, hk1⟩; have c1 : w1.cell? ⟨x, 0, none⟩ = some (.int .i64 (c.s : Nat)) := Q02 (hk1.get h (by simp)) rfl))
 go_end0
 exact ⟨rfl, hk1⟩
theorem Qak (k : ByteArray) (w : World) (hk : 1 <= k.size /\ k.size <= 8) : Calls prog 45 #[.string k] w fun e w' => e = .returned (.tuple #[]) /\ Kept [] w w' := by
 have h1 : ¬ (k.size : Int) < 1 := by omega
 have h2 : ¬ (8 : Int) < (k.size : Int) := by omega
 go_enter func45, ntmps45
 go_wp2
 go_end0
 exact ⟨rfl, Kept.refl _ _⟩
theorem Qal (k : ByteArray) (w : World) (hk : k.size <= 12) : Calls prog 57 #[.string k] w fun e w' => e = .returned (.tuple #[]) /\ Kept [] w w' := by
 have h2 : ¬ (12 : Int) < (k.size : Int) := by omega
 go_enter func57, ntmps57
 go_wp2
 go_end0
 exact ⟨rfl, Kept.refl _ _⟩
theorem Qam (v a n : Nat) (w : World) (h : Vol w v a n) : Calls prog 76 #[.pointer (some ⟨v, 0, none⟩)] w fun e w' => e = .returned (.int .i64 n) /\ Kept [] w w' := by
 have c1 : w.cell? ⟨v, 1, none⟩ = some (.int .i64 n) := Q02 h rfl
 go_enter func76, ntmps76
 go_wp2
 go_ret
 exact ⟨rfl, Kept.refl _ _⟩
theorem Qan (x v a n : Nat) (c : Hd) (t : Tr) (r : Value) (w : World) (hx : w.heap[x]? = some (.cells (rowS c v t r) 84 (0, 0))) (h : Vol w v a n) (h8 : 8 <= n) (h4 : n <= 400) : Calls prog 61 #[.pointer (some ⟨x, 0, none⟩)] w fun e w' => e = .returned (.int .i64 (((n - 2) / 2 : Nat) : Int)) /\ Kept [] w w' := by
 have c0 : w.cell? ⟨x, 1, none⟩ = some (.pointer (some ⟨v, 0, none⟩)) := Q02 hx rfl
 have HC : Hid (Calls _ _ _ _ _) := Qam v a n w h
 clear h
 go_enter func61, ntmps61
 go_wp2_with (first | (go_at_call 76; refine HC.out.mono ?_; rintro e w1 ⟨rfl, hk1⟩))
 go_ret
 refine ⟨?_, hk1⟩
 have e : ((n : Int) - 2) / 2 = (((n - 2) / 2 : Nat) : Int) := by omega
 rw [<- e]
 rfl
def Tg (w : World) (y : Nat) (t : TypeId) : Prop := ∃ cs fr, w.heap[y]? = some (.cells cs t fr)
theorem Tg.ne {w : World} {y : Nat} {t t' : TypeId} (h : Tg w y t) (h' : Tg w y t') : t = t' := by
 obtain ⟨_, _, h⟩ := h
 obtain ⟨_, _, h'⟩ := h'
 rw [h] at h'
 cases h'
 rfl
theorem Tg.lt {w : World} {y : Nat} {t : TypeId} (h : Tg w y t) : y < w.heap.size := by
 obtain ⟨_, _, h⟩ := h
 exact Q00 h
theorem SL.tag {w : World} {t : TypeId} {d : Nat} {v : Value} {es : List El} (h : SL w t d v es) {b : Nat} (hb : v.ownBlock = some b) : Tg w b t := by
 rcases h with ⟨rfl, _⟩ | ⟨g, off, cap, cur, rfl, hh, _⟩
 ·cases hb
 ·cases hb
  exact ⟨_, _, hh⟩
def TT (w : World) (y : Nat) : Prop := Tg w y 122 \/ Tg w y 80
theorem TT.lt {w : World} {y : Nat} (h : TT w y) : y < w.heap.size := h.elim Tg.lt Tg.lt
theorem ND.tags {w : World} {A : Nat -> Prop} : ∀ {h : Nat} {n : Nd h} {x : Value}, ND w A h n x -> ND w (TT w) h n x
 | 0, _, _, ⟨v, e, hl, _⟩ => ⟨v, e, hl, fun _ h => Or.inl (SL.tag hl h)⟩
 | _ + 1, _, _, ⟨v, es, e, hl, _, hf⟩ => ⟨v, es, e, hl, fun _ h => Or.inr (SL.tag hl h), hf.mono fun _ _ _ hr => ⟨hr.1, ND.tags hr.2⟩⟩
theorem TV.tags {w : World} {A : Nat -> Prop} {t : Tr} {r : Value} (h : TV w A t r) : TV w (TT w) t r := h.imp id fun h => ⟨ND.tags h.1, h.2⟩
def Tru (_ : Nat) : Prop := True
structure Rec (x v a n : Nat) (c : Hd) (r : Value) (t : Tr) (w : World) : Prop where
 row : w.heap[x]? = some (.cells (rowS c v t r) 84 (0, 0))
 vol : Vol w v a n
 st : 1 <= c.s /\ c.s <= 3
 lv : TV w Tru c.lt c.lr
 tv : TV w Tru t r
theorem Rec.kept {x v a n : Nat} {c : Hd} {r : Value} {t : Tr} {w w' : World} {S : List Nat} (h : Rec x v a n c r t w) (k : Kept S w w') (hx : x ∉ S) (hS : ∀ y ∈ S, ¬ Tg w y 128 /\ ¬ TT w y) : Rec x v a n c r t w' :=
 ⟨k.get h.row hx, k.get h.vol (fun hm => (hS v hm).1 ⟨_, _, h.vol⟩), h.st, TV.kept h.lv.tags k (fun y hy => (hS y hy).2) fun _ _ => trivial, TV.kept h.tv.tags k (fun y hy => (hS y hy).2) fun _ _ => trivial⟩
theorem Rec.k {x v a n : Nat} {c : Hd} {r : Value} {t : Tr} {w w' : World} (h : Rec x v a n c r t w) (k : Kept [] w w') : Rec x v a n c r t w' := h.kept k (by simp) (by simp)
theorem Rec.err {x v a n : Nat} {c : Hd} {r : Value} {t : Tr} {w w' : World} {S : List Nat} (h : Rec x v a n c r t w) (k : Kept S w w') (hS : ∀ y ∈ S, Tg w y 35) : Rec x v a n c r t w' := by
 refine h.kept k (fun hm => ?_) fun y hy => ⟨fun ht => ?_, fun ht => ?_⟩
 ·have := (hS x hm).ne ⟨_, _, h.row⟩
  revert this; decide
 ·have := (hS y hy).ne ht
  revert this; decide
 ·rcases ht with ht | ht
  ·have := (hS y hy).ne ht
   revert this; decide
  ·have := (hS y hy).ne ht
   revert this; decide
def mapO {α β σ : Type} (f : α -> σ -> Option (β × σ)) : List α -> σ -> Option (List β × σ)
 | [], s => some ([], s)
 | x :: l, s => match f x s with
  | none => none
  | some (b, s1) => match mapO f l s1 with
   | none => none
   | some (bs, s2) => some (b :: bs, s2)
theorem Qao {α β σ : Type} (f : α -> σ -> Option (β × σ)) (l : List α) (x : α) : ∀ s : σ, mapO f (l ++ [x]) s = match mapO f l s with
  | none => none
  | some (bs, s1) => match f x s1 with
   | none => none
   | some (b, s2) => some (bs ++ [b], s2) := by
 induction l with
 | nil =>
  intro s
  simp only [List.nil_append, mapO]
 | cons y l ih =>
  intro s
  simp only [List.cons_append, mapO]
  cases hy : f y s with
  | none => rfl
  | some r =>
   obtain ⟨b, s1⟩ := r
   simp only [ih]
   cases mapO f l s1 with
   | none => rfl
   | some r2 =>
    obtain ⟨bs, s2⟩ := r2
    simp only
    cases f x s2 <;> rfl
theorem Qap {α β σ : Type} (f : α -> σ -> Option (β × σ)) (l r : List α) (x : α) (s s1 : σ) (bs : List β) (h1 : mapO f l s = some (bs, s1)) (h2 : f x s1 = none) : mapO f (l ++ (x :: r)) s = none := by
 induction l generalizing s bs with
 | nil =>
  simp only [mapO, Option.some.injEq, Prod.mk.injEq] at h1
  obtain ⟨_, rfl⟩ := h1
  simp [mapO, h2]
 | cons y l ih =>
  simp only [mapO] at h1
  simp only [List.cons_append, mapO]
  cases hy : f y s with
  | none => rfl
  | some q =>
   obtain ⟨b, s2⟩ := q
   rw [hy] at h1
   simp only at h1 ⊢
   cases hm : mapO f l s2 with
   | none => rw [hm] at h1; cases h1
   | some q2 =>
    obtain ⟨bs2, s3⟩ := q2
    rw [hm] at h1
    simp only [Option.some.injEq, Prod.mk.injEq] at h1
    obtain ⟨_, rfl⟩ := h1
    rw [ih s2 bs2 hm]
end Go.Proofs.YtcklgafpgdhnaaaGreatDoor
