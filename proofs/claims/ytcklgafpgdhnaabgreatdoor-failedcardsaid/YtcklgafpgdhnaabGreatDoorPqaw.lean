import Derived.Test.YtcklgafpgdhnaabGreatDoorPqav
import Derived.Test.YtcklgafpgdhnaabGreatDoorPqar
import Derived.Test.YtcklgafpgdhnaabGreatDoorPqag
import Derived.Test.YtcklgafpgdhnaabGreatDoorPqaf
import Derived.Test.YtcklgafpgdhnaabGreatDoorPqaj
import Derived.Test.YtcklgafpgdhnaabGreatDoorPqau
import Derived.Test.YtcklgafpgdhnaabGreatDoorPqap
import Derived.Test.YtcklgafpgdhnaabGreatDoorPqab
set_option maxRecDepth 100000
set_option maxHeartbeats 4000000
open Go.Proofs.Tryz
open Go.Act renaming put → zP
open List renaming getElem_toArray → zA, getElem_cons_succ → zB, getElem_cons_zero → zC, setIfInBounds_toArray → zD, set_cons_succ → zE, set_cons_zero → zF
namespace Go.Proofs.YtcklgafpgdhnaabGreatDoor
open Go.RowKit
theorem Q7j (k x : ByteArray) (w : World) : (Instr.build 138 #[(0, .agg #[.string k, .string x])]).run prog w = .ok (.agg #[.string k, .string x]) w := by kernel_rfl
theorem Q7k : (prog.info? 52).map (·.size) = some 2 := by kernel_rfl
theorem Q7l (k x : ByteArray) (w : World) (b : Nat) (hb : w.heap[b]? = some (.cells #[.string k, .string x] 52 (0, 0))) : Cl (yL k x) (fun _ => True) 78 (.pointer (some ⟨b, 0, none⟩)) w := by
 refine ⟨fun _ _ => by kernel_rfl, ?_⟩
 intro W v l kW hl hs hlen _
 have HC : Hid (Calls _ _ _ _ _) := Q5w v l k x W hl hs hlen
 have hbW := kW.get hb (by simp)
 have hld := gG (P := prog) (ty := 52) (e := pe (k, x)) (o := 0) _ hbW ⟨rfl, Q5u k x⟩ underlying52 Q7k
 simp only [pe] at hld
 have hbp := Q7j
 obtain ⟨p, c, ev⟩ := SL.shape hl
 rw [List.length_map] at ev
 subst ev
 clear hl hs hlen kW
 go_enter func78, ntmps78
 go_wp2_with (first
  | (refine ye rfl 52 (.tmp 1) rfl ⟨b, 0, none⟩ rfl _ hld ?_)
  | (go_at_call 79; refine HC.out.mono ?_; rintro e w1 ⟨v1, rfl, h1, h2, h3⟩))
 go_ret
 exact ⟨_, rfl, h1, h2, h3⟩
theorem Q7m (k : ByteArray) (w : World) (b : Nat) (hb : w.heap[b]? = some (.cells #[.string k] 9 (0, 0))) : Cl (yx k) (fun l => (qC k l).isSome = true) 89 (.pointer (some ⟨b, 0, none⟩)) w := by
 refine ⟨fun _ _ => by kernel_rfl, ?_⟩
 intro W v l kW hl hs hlen hq
 have HC : Hid (Calls _ _ _ _ _) := Q5d v l k W hl hs hlen hq
 have c1 : W.cell? ⟨b, 0, none⟩ = some (.string k) := y6 (kW.get hb (by simp)) rfl
 obtain ⟨p, c, ev⟩ := SL.shape hl
 rw [List.length_map] at ev
 subst ev
 clear hl hs hlen kW hq
 go_enter func89, ntmps89
 go_wp2_with (first
  | (go_at_call 90; refine HC.out.mono ?_; rintro e w1 ⟨v1, rfl, h1, h2, h3⟩))
 go_ret
 exact ⟨_, rfl, h1, h2, h3⟩
theorem Q7n {A : Nat -> Prop} {w W0 w1 w2 : World} {r1 : Value} {t : Tr} {q : Nat} (hA : ∀ y, A y -> y < w.heap.size) (K0 : y5 [] w W0) (hk1 : y5 [] W0 w1) (hq : w.heap.size <= q) (hq2 : q < W0.heap.size) (ht : TV w1 (fun y => A y \/ W0.heap.size <= y) t r1) (k4 : y5 [q] w1 w2) : TChR A t w (.returned (.agg #[.string ⟨#[]⟩, .int .i64 t.pl, r1])) w2 := by
 have s0 := K0.size
 refine ⟨_, rfl, TV.kept ht k4 ?_ ?_, (K0.trans hk1).trans2 k4 fun y hy => Or.inr (by simp at hy; subst hy; omega)⟩
 ·intro y hy
  simp at hy
  subst hy
  rintro (h1 | h1)
  ·have := hA _ h1; omega
  ·omega
 ·rintro y (h1 | h1)
  ·exact Or.inl h1
  ·exact Or.inr (by omega)
theorem one3 {r : Value} (p : Int) (h : r.oneCell' = true) : (#[.string ⟨#[]⟩, .int .i64 p, r] : Array Value).all (·.oneCell') = true := by
 have h1 : (Value.string ⟨#[]⟩).oneCell' = true := rfl
 have h2 : (Value.int .i64 p).oneCell' = true := rfl
 simp [h, h1, h2]
theorem Q7o {w : World} {A : Nat -> Prop} {t : Tr} {r : Value} (hx : TV w A t r) (hAb : ∀ y, A y -> y < w.heap.size) (ht : TW t) (k x : ByteArray) (hk : jy k) (hv : x.size <= 12) :
  Calls prog 42 #[.agg #[.string ⟨#[]⟩, .int .i64 t.pl, r], .agg #[.string k, .string x]] w (TChR A (qP (yL k x) k t) w) := by
 obtain ⟨W0, eW⟩ : ∃ W0, W0 = ((w.alloc (.cells #[.string ⟨#[]⟩, .int .i64 (t.pl : Int), r] 77)).alloc (.cells #[.string k, .string x] 52)).alloc (.cells #[.string ⟨#[]⟩, .int .i64 0, .nilIface] 77) := ⟨_, rfl⟩
 have K0 : y5 [] w W0 := by rw [eW]; exact (((y5.refl [] w).alloc _).alloc _).alloc _
 have sW : W0.heap.size = w.heap.size + 1 + 1 + 1 := by rw [eW, World.size_alloc, World.size_alloc, World.size_alloc]
 have hb1 : W0.heap[w.heap.size + 1]? = some ((.cells #[.string k, .string x] 52 : Obj)) := by
  have := heap_alloc_new (w.alloc (.cells #[.string ⟨#[]⟩, .int .i64 (t.pl : Int), r] 77)) (.cells #[.string k, .string x] 52)
  rw [World.size_alloc] at this
  rw [eW]
  exact ((y5.refl [] _).alloc (.cells #[.string ⟨#[]⟩, .int .i64 0, .nilIface] 77)).get this (by simp)
 have hb2 : W0.heap[w.heap.size + 1 + 1]? = some (.cells #[.string ⟨#[]⟩, .int .i64 0, .nilIface] 77 (0, 0)) := by
  have := heap_alloc_new ((w.alloc (.cells #[.string ⟨#[]⟩, .int .i64 (t.pl : Int), r] 77)).alloc (.cells #[.string k, .string x] 52)) (.cells #[.string ⟨#[]⟩, .int .i64 0, .nilIface] 77)
  rw [World.size_alloc, World.size_alloc] at this
  rw [eW]
  exact this
 have HC : Hid (Calls _ _ _ _ _) := Q7i (Zn k x hk hv) (hx.k K0) (fun y hy => Nat.lt_of_lt_of_le (hAb y hy) K0.size) ht (Q7l k x W0 (w.heap.size + 1) hb1) trivial
 have HA : Hid _ := hAb
 generalize qP (yL k x) k t = t' at *
 clear hx hAb ht hb1
 have hmf := Q6Y
 go_enter func42, ntmps42
 go_wp2_with (first
  | (go_at_call 77; rw [<- eW]; refine HC.out.mono ?_; rintro e w1 ⟨r1, rfl, ht1, hk1⟩; have hb3 := hk1.get hb2 (by simp); have HT1 : Hid _ := ht1; have ho1 := ht1.one; clear ht1)
  | (refine yb rfl 77 (.tmp 4) (.tmp 9) rfl (w.heap.size + 1 + 1) #[.string ⟨#[]⟩, .int .i64 t'.pl, r1] rfl rfl 77 _ hb3 stT rfl (one3 _ ho1) ?_; intro w2 hg2 hk2))
 refine bodyPost_ret (results_cell_row rfl _ _ (w.heap.size + 1 + 1) 77 _ (0, 0) _ rfl hg2 underlying77 rfl stT) rfl ?_
 exact Q7n HA.out K0 hk1 (by omega) (by omega) HT1.out hk2
def delT (k : ByteArray) (t : Tr) : Tr := if (qC k (y7 t)).isSome then qP (yx k) k t else t
theorem Q7p {k : ByteArray} : ∀ {l : List Pr}, (qC k l).isSome = false -> yx k l = l := by
 intro l h
 refine jY k l fun p hp => ?_
 cases hb : be p.1 k with
 | false => rfl
 | true =>
  exfalso
  induction l with
  | nil => cases hp
  | cons q r ih =>
   cases hq : be q.1 k with
   | true => simp [qC, hq] at h
   | false =>
    rcases List.mem_cons.1 hp with rfl | hp
    ·rw [hq] at hb; cases hb
    ·exact ih (by simpa [qC, hq] using h) hp
theorem Q7q (k : ByteArray) (t : Tr) (ht : TW t) : TW (delT k t) /\ y7 (delT k t) = yx k (y7 t) := by
 unfold delT
 cases h : (qC k (y7 t)).isSome with
 | true => exact Q39 (ZU k) t ht
 | false => exact ⟨ht, (Q7p h).symm⟩
theorem Q7r {w : World} {A : Nat -> Prop} {t : Tr} {r : Value} (hx : TV w A t r) (hAb : ∀ y, A y -> y < w.heap.size) (ht : TW t) (k : ByteArray) :
  Calls prog 54 #[.agg #[.string ⟨#[]⟩, .int .i64 t.pl, r], .string k] w (TChR A (delT k t) w) := by
 obtain ⟨W0, eW⟩ : ∃ W0, W0 = ((w.alloc (.cells #[.string ⟨#[]⟩, .int .i64 (t.pl : Int), r] 77)).alloc (.cells #[.string k] 9)).alloc (.cells #[.string ⟨#[]⟩, .int .i64 0, .nilIface] 77) := ⟨_, rfl⟩
 have K0 : y5 [] w W0 := by rw [eW]; exact (((y5.refl [] w).alloc _).alloc _).alloc _
 have sW : W0.heap.size = w.heap.size + 1 + 1 + 1 := by rw [eW, World.size_alloc, World.size_alloc, World.size_alloc]
 have hb0 : W0.heap[w.heap.size]? = some ((.cells #[.string ⟨#[]⟩, .int .i64 (t.pl : Int), r] 77 : Obj)) := by
  rw [eW]
  exact (((y5.refl [] _).alloc _).alloc _).get (heap_alloc_new w _) (by simp)
 have hb1 : W0.heap[w.heap.size + 1]? = some ((.cells #[.string k] 9 : Obj)) := by
  have := heap_alloc_new (w.alloc (.cells #[.string ⟨#[]⟩, .int .i64 (t.pl : Int), r] 77)) (.cells #[.string k] 9)
  rw [World.size_alloc] at this
  rw [eW]
  exact ((y5.refl [] _).alloc (.cells #[.string ⟨#[]⟩, .int .i64 0, .nilIface] 77)).get this (by simp)
 have hb2 : W0.heap[w.heap.size + 1 + 1]? = some (.cells #[.string ⟨#[]⟩, .int .i64 0, .nilIface] 77 (0, 0)) := by
  have := heap_alloc_new ((w.alloc (.cells #[.string ⟨#[]⟩, .int .i64 (t.pl : Int), r] 77)).alloc (.cells #[.string k] 9)) (.cells #[.string ⟨#[]⟩, .int .i64 0, .nilIface] 77)
  rw [World.size_alloc, World.size_alloc] at this
  rw [eW]
  exact this
 have HG : Hid (Calls _ _ _ _ _) := Q72 (hx.k K0) ht k
 have hone := hx.one
 have HA : Hid _ := hAb
 have HX : Hid _ := hx
 have hmf := Q6Y
 unfold delT
 cases hh : (qC k (y7 t)).isSome with
 | false =>
  rw [hh] at HG
  simp only [Bool.false_eq_true, if_false]
  clear hx hAb ht hb1
  go_enter func54, ntmps54
  go_wp2_with (first
   | (go_at_call 49; rw [<- eW]; refine HG.out.mono ?_; rintro e w1 ⟨rfl, hk1⟩; have hb3 := hk1.get hb2 (by simp); have hb4 := hk1.get hb0 (by simp))
   | (refine wpList_load_row rfl 77 (.tmp 2) rfl w.heap.size rfl 77 #[.string ⟨#[]⟩, .int .i64 (t.pl : Int), r] (0, 0) _ hb4 underlying77 rfl stT ?_)
   | (refine yb rfl 77 (.tmp 4) (.tmp 15) rfl (w.heap.size + 1 + 1) #[.string ⟨#[]⟩, .int .i64 t.pl, r] rfl rfl 77 _ hb3 stT rfl (one3 _ hone) ?_; intro w2 hg2 hk2))
  refine bodyPost_ret (results_cell_row rfl _ _ (w.heap.size + 1 + 1) 77 _ (0, 0) _ rfl hg2 underlying77 rfl stT) rfl ?_
  exact Q7n HA.out K0 hk1 (by omega) (by omega) ((TV.k HX.out (K0.trans hk1)).kept (y5.refl [] _) (by simp) fun _ h => Or.inl h) hk2
 | true =>
  rw [hh] at HG
  simp only [if_true]
  obtain ⟨_, hget⟩ := Q4r k t.h yp t.n ht.wf (gH k)
  have hQ : (qC k (qV k t.h t.n)).isSome = true := by rw [hget]; exact hh
  have HC : Hid (∀ W, y5 [] W0 W -> _) := fun W kW => Q7i (ZU k) (hx.k (K0.trans kW)) (fun y hy => Nat.lt_of_lt_of_le (hAb y hy) (K0.trans kW).size) ht (Q7m k W (w.heap.size + 1) (kW.get hb1 (by simp))) hQ
  generalize qP (yx k) k t = t' at *
  clear hx hAb ht hget hQ
  go_enter func54, ntmps54
  go_wp2_with (first
   | (go_at_call 49; rw [<- eW]; refine HG.out.mono ?_; rintro e w1 ⟨rfl, hk1⟩; have hb3 := hk1.get hb2 (by simp); have hb4 := hk1.get hb0 (by simp); have hb5 := hk1.get hb1 (by simp); have c5 : w1.cell? ⟨w.heap.size + 1, 0, none⟩ = some (.string k) := y6 hb5 rfl)
   | (refine wpList_load_row rfl 77 (.tmp 2) rfl w.heap.size rfl 77 #[.string ⟨#[]⟩, .int .i64 (t.pl : Int), r] (0, 0) _ hb4 underlying77 rfl stT ?_)
   | (go_at_call 77; refine (HC.out _ hk1).mono ?_; rintro e w2 ⟨r1, rfl, ht1, hk2⟩; have hb6 := hk2.get hb3 (by simp); have HT1 : Hid _ := ht1; have ho1 := ht1.one; clear ht1)
   | (refine yb rfl 77 (.tmp 4) (.tmp 19) rfl (w.heap.size + 1 + 1) #[.string ⟨#[]⟩, .int .i64 t'.pl, r1] rfl rfl 77 _ hb6 stT rfl (one3 _ ho1) ?_; intro w3 hg3 hk3))
  refine bodyPost_ret (results_cell_row rfl _ _ (w.heap.size + 1 + 1) 77 _ (0, 0) _ rfl hg3 underlying77 rfl stT) rfl ?_
  exact Q7n HA.out (K0.trans hk1) hk2 (by omega) (by have := hk1.size; omega) HT1.out hk3
theorem Qg (args : Array Value) (w : World) : (callFunc 50 args).run prog w = .ok (.enter 50 args) w := qA func50 (by kernel_rfl) (by kernel_rfl) args w
theorem Q7s : (prog.info? 52).map (·.size) = some 2 := by kernel_rfl
def FrS (w : World) (k x : ByteArray) (u v : Value) (W : World) : Prop := W.heap[w.heap.size]? = some (.cells #[.string k, .string x] 52 (0, 0)) /\ W.heap[w.heap.size + 1]? = some (.cells #[u, v] 52 (0, 0))
def Fr1 (w : World) (k x : ByteArray) (W : World) : Prop := W.heap[w.heap.size]? = some (.cells #[.string k, .string x] 52 (0, 0))
theorem FrS.k {w : World} {k x : ByteArray} {u v : Value} {W W' : World} (h : FrS w k x u v W) (kk : y5 [] W W') : FrS w k x u v W' := ⟨kk.get h.1 (by simp), kk.get h.2 (by simp)⟩
theorem Qy (k x : ByteArray) (w : World) (hk : k.size <= 1000) (hx : x.size <= 1000) : Calls prog 43 #[.agg #[.string k, .string x]] w fun e w' => e = .returned (.agg #[.string k, .string x]) /\ y5 [] w w' := by
 have k0 := ((y5.refl [] w).alloc (.cells #[.string k, .string x] 52)).alloc (.cells #[.string ⟨#[]⟩, .string ⟨#[]⟩] 52)
 have hS : FrS w k x (.string ⟨#[]⟩) (.string ⟨#[]⟩) ((w.alloc (.cells #[.string k, .string x] 52)).alloc (.cells #[.string ⟨#[]⟩, .string ⟨#[]⟩] 52)).drew := by
  constructor
  ·exact ((y5.refl [] _).alloc _).drew.get (heap_alloc_new w _) (by simp)
  ·have := heap_alloc_new (w.alloc (.cells #[.string k, .string x] 52)) (.cells #[.string ⟨#[]⟩, .string ⟨#[]⟩] 52)
   rw [World.size_alloc] at this
   exact this
 go_enter func43, ntmps43
 go_wp2
 refine yj (Fr1 w k x) (by kernel_rfl) ?_
 refine hu 0 (.pointer (some ⟨w.heap.size, 0 + 0, none⟩)) rfl (fun W hW => yv 52 (.tmp 1) 0 rfl w.heap.size (0) rfl 0 (by rfl)) hS.1 ?_
 simp only [zP, zA, zC, zD, zE, zF]
 refine hu 1 (.string k) rfl (fun W hW => y9 9 (.tmp 3) rfl ⟨w.heap.size, 0 + 0, none⟩ rfl _ (yh underlying9 rfl (y6 hW rfl))) hS.1 ?_
 simp only [zP, zA, zB, zC, zD, zE, zF]
 refine hu 3 (.pointer (some ⟨w.heap.size, 0 + 1, none⟩)) rfl (fun W hW => yv 52 (.tmp 1) 1 rfl w.heap.size (0) rfl 1 (by rfl)) hS.1 ?_
 simp only [zP, zA, zB, zC, zD, zE, zF]
 refine hu 4 (.string x) rfl (fun W hW => y9 9 (.tmp 6) rfl ⟨w.heap.size, 0 + 1, none⟩ rfl _ (yh underlying9 rfl (y6 hW rfl))) hS.1 ?_
 simp only [zP, zA, zB, zC, zD, zE, zF]
 refine yf (i := 2) (by kernel_rfl) (yo rfl (by rfl) 50 #[.string k] (yk _ _ _ rfl _ (by simp [Act.eval]) (Qg _ _)) _ (Q6s k _ (by omega)) ?_)
 rintro e w2 ⟨rfl, hk2⟩
 have hS2 := hS.k hk2
 refine ⟨_, rfl, hS2.1, ?_⟩
 simp only [zP, zA, zB, zC, zD, zE, zF]
 refine yf (i := 5) (by kernel_rfl) (yo rfl (by rfl) 50 #[.string x] (yk _ _ _ rfl _ (by simp [Act.eval]) (Qg _ _)) _ (Q6s x _ (by omega)) ?_)
 rintro e w3 ⟨rfl, hk3'⟩
 have hS3 := hS2.k hk3'
 have hk3 := hk2.trans hk3'
 refine ⟨_, rfl, hS3.1, ?_⟩
 simp only [zP, zA, zB, zC, zD, zE, zF]
 refine yf (i := 6) (by kernel_rfl) (yy rfl (by rfl) (.agg #[.string k, .string x]) w3 (ZM 52 (.tmp 5) (.tmp 8) 0 1 rfl _ _ _ rfl rfl (by kernel_rfl)) ⟨hS3.1, ?_⟩)
 simp only [zP, zA, zB, zC, zD, zE, zF]
 have hst := yE (P := prog) w3 (w.heap.size + 1) 0 52 52 [.string ⟨#[]⟩, .string ⟨#[]⟩] [.string k, .string x] hS3.2 (by rw [Q7s]; rfl) (by simp) (by intro u hu; simp at hu; rcases hu with rfl | rfl <;> rfl)
 have hS4 : FrS w k x (.string k) (.string x) (w3.setRow (w.heap.size + 1) (splice [.string ⟨#[]⟩, .string ⟨#[]⟩] 0 [.string k, .string x]).toArray) := ⟨((y5.refl [w.heap.size + 1] w3).setRow (Or.inl (by simp)) _).get hS3.1 (by simp), setRow_heap _ _ _ _ _ _ hS3.2⟩
 refine yf (i := 7) (by kernel_rfl) (qo rfl rfl _ (yH 52 (.tmp 2) (.tmp 9) rfl ⟨w.heap.size + 1, 0, none⟩ rfl _ rfl hst) ⟨hS4.1, ?_⟩)
 simp only [zP, zA, zB, zC]
 refine wpAnyH_done (by kernel_rfl) ?_ _
 have K4 : Hid (y5 [] w (w3.setRow (w.heap.size + 1) (splice [.string ⟨#[]⟩, .string ⟨#[]⟩] 0 [.string k, .string x]).toArray)) := (k0.drew.trans hk3).trans2 ((y5.refl [w.heap.size + 1] w3).setRow (Or.inl (by simp)) _) (fun y hy => Or.inr (by simp at hy; omega))
 clear hst hS hS2 hS3
 go_wp2
 refine bodyPost_ret (results_cell_row rfl _ _ (w.heap.size + 1) 52 #[.string k, .string x] (0, 0) _ rfl hS4.2 underlying52 rfl Q7s) rfl ?_
 exact ⟨rfl, K4.out⟩
structure Hd where
 s : Nat
 tu : Nat
 ro : Nat
 lt : Tr
 lr : Value
def qk (c : Hd) (v : Nat) (t : Tr) (r : Value) : Array Value := #[.int .i64 (c.s : Nat), .pointer (some ⟨v, 0, none⟩), .int .u64 (c.tu : Nat), .int .i64 (c.ro : Nat), .string ⟨#[]⟩, .int .i64 (c.lt.pl : Nat), c.lr, .string ⟨#[]⟩, .int .i64 (t.pl : Nat), r]
theorem jO (x v : Nat) (c : Hd) (t : Tr) (r : Value) (w : World) (hs : 1 <= c.s) (h : w.heap[x]? = some (.cells (qk c v t r) 79 (0, 0))) : Calls prog 48 #[.pointer (some ⟨x, 0, none⟩)] w fun e w' => e = .returned (.tuple #[]) /\ y5 [] w w' := by
 have c0 : w.cell? ⟨x, 0, none⟩ = some (.int .i64 (c.s : Nat)) := y6 h rfl
 have h0 : ¬ (c.s : Int) = 0 := by omega
 go_enter func48, ntmps48
 go_wp2
 go_end0
 exact ⟨rfl, y5.refl _ _⟩
theorem Qc (x v : Nat) (c : Hd) (t : Tr) (r : Value) (w : World) (hs : c.s = 1 \/ c.s = 2) (h : w.heap[x]? = some (.cells (qk c v t r) 79 (0, 0))) : Calls prog 34 #[.pointer (some ⟨x, 0, none⟩)] w fun e w' => e = .returned (.tuple #[]) /\ y5 [] w w' := by
 have HN : Hid (Calls _ _ _ _ _) := jO x v c t r w (by omega) h
 have h0 : ¬ (c.s : Int) = 3 := by omega
 go_enter func34, ntmps34
 go_wp2_with (first | (go_at_call 48; refine HN.out.mono ?_; rintro e w1 ⟨rfl, hk1⟩; have c1 : w1.cell? ⟨x, 0, none⟩ = some (.int .i64 (c.s : Nat)) := y6 (hk1.get h (by simp)) rfl))
 go_end0
 exact ⟨rfl, hk1⟩
theorem Q7t (x v : Nat) (c : Hd) (t : Tr) (r : Value) (w : World) (hs : c.s = 3) (h : w.heap[x]? = some (.cells (qk c v t r) 79 (0, 0))) : Calls prog 34 #[.pointer (some ⟨x, 0, none⟩)] w (Q1x 4 w) := by
 have HN : Hid (Calls _ _ _ _ _) := jO x v c t r w (by omega) h
 go_enter func34, ntmps34
 go_wp2_with (first
  | (go_at_call 48; refine HN.out.mono ?_; rintro e w1 ⟨rfl, hk1⟩; have c1 : w1.cell? ⟨x, 0, none⟩ = some (.int .i64 3) := y6 (hk1.get h (by simp)) (by simp [qk, hs]))
  | (go_at_call 46; refine (Qn _ _ _).mono ?_; rintro e w2 ⟨f, o, rfl, h2, h3⟩))
 exact ⟨rfl, f, o, rfl, h2, hk1.trans h3⟩
theorem Zb (k : ByteArray) (w : World) (hk : 1 <= k.size /\ k.size <= 8) : Calls prog 40 #[.string k] w fun e w' => e = .returned (.tuple #[]) /\ y5 [] w w' := by
 have h1 : ¬ (k.size : Int) < 1 := by omega
 have h2 : ¬ (8 : Int) < (k.size : Int) := by omega
 go_enter func40, ntmps40
 go_wp2
 go_end0
 exact ⟨rfl, y5.refl _ _⟩
theorem Q7u (k : ByteArray) (w : World) (hk : k.size <= 12) : Calls prog 41 #[.string k] w fun e w' => e = .returned (.tuple #[]) /\ y5 [] w w' := by
 have h2 : ¬ (12 : Int) < (k.size : Int) := by omega
 go_enter func41, ntmps41
 go_wp2
 go_end0
 exact ⟨rfl, y5.refl _ _⟩
theorem Zr (v a n : Nat) (w : World) (h : Vol w v a n) : Calls prog 58 #[.pointer (some ⟨v, 0, none⟩)] w fun e w' => e = .returned (.int .i64 n) /\ y5 [] w w' := by
 have c1 : w.cell? ⟨v, 1, none⟩ = some (.int .i64 n) := y6 h rfl
 go_enter func58, ntmps58
 go_wp2
 go_ret
 exact ⟨rfl, y5.refl _ _⟩
theorem Q7v (x v a n : Nat) (c : Hd) (t : Tr) (r : Value) (w : World) (hx : w.heap[x]? = some (.cells (qk c v t r) 79 (0, 0))) (h : Vol w v a n) (h8 : 8 <= n) (h4 : n <= 400) : Calls prog 45 #[.pointer (some ⟨x, 0, none⟩)] w fun e w' => e = .returned (.int .i64 (((n - 2) / 2 : Nat) : Int)) /\ y5 [] w w' := by
 have c0 : w.cell? ⟨x, 1, none⟩ = some (.pointer (some ⟨v, 0, none⟩)) := y6 hx rfl
 have HC : Hid (Calls _ _ _ _ _) := Zr v a n w h
 clear h
 go_enter func45, ntmps45
 go_wp2_with (first | (go_at_call 58; refine HC.out.mono ?_; rintro e w1 ⟨rfl, hk1⟩))
 go_ret
 refine ⟨?_, hk1⟩
 have e : ((n : Int) - 2) / 2 = (((n - 2) / 2 : Nat) : Int) := by omega
 rw [<- e]
 rfl
def Tg (w : World) (y : Nat) (t : TypeId) : Prop := ∃ cs fr, w.heap[y]? = some (.cells cs t fr)
theorem Tg.ne {w : World} {y : Nat} {t t' : TypeId} (h : Tg w y t) (h' : Tg w y t') : t = t' := by
 obtain ⟨_, _, h⟩ := h
 obtain ⟨_, _, h'⟩ := h'
 rw [h] at h'
 cases h'
 rfl
theorem Tg.lt {w : World} {y : Nat} {t : TypeId} (h : Tg w y t) : y < w.heap.size := by
 obtain ⟨_, _, h⟩ := h
 exact yt h
theorem SL.tag {w : World} {t : TypeId} {d : Nat} {v : Value} {es : List El} (h : SL w t d v es) {b : Nat} (hb : v.ownBlock = some b) : Tg w b t := by
 rcases h with ⟨rfl, _⟩ | ⟨g, off, cap, cur, rfl, hh, _⟩
 ·cases hb
 ·cases hb
  exact ⟨_, _, hh⟩
def TT (w : World) (y : Nat) : Prop := Tg w y 138 \/ Tg w y 75
theorem TT.lt {w : World} {y : Nat} (h : TT w y) : y < w.heap.size := h.elim Tg.lt Tg.lt
theorem ND.tags {w : World} {A : Nat -> Prop} : ∀ {h : Nat} {n : Nd h} {x : Value}, ND w A h n x -> ND w (TT w) h n x
 | 0, _, _, ⟨v, e, hl, _⟩ => ⟨v, e, hl, fun _ h => Or.inl (SL.tag hl h)⟩
 | _ + 1, _, _, ⟨v, es, e, hl, _, hf⟩ => ⟨v, es, e, hl, fun _ h => Or.inr (SL.tag hl h), hf.mono fun _ _ _ hr => ⟨hr.1, ND.tags hr.2⟩⟩
theorem TV.tags {w : World} {A : Nat -> Prop} {t : Tr} {r : Value} (h : TV w A t r) : TV w (TT w) t r := h.imp id fun h => ⟨ND.tags h.1, h.2⟩
def Tru (_ : Nat) : Prop := True
structure Rec (x v a n : Nat) (c : Hd) (r : Value) (t : Tr) (w : World) : Prop where
 row : w.heap[x]? = some (.cells (qk c v t r) 79 (0, 0))
 vol : Vol w v a n
 st : 1 <= c.s /\ c.s <= 3
 lv : TV w Tru c.lt c.lr
 tv : TV w Tru t r
theorem Rec.kept {x v a n : Nat} {c : Hd} {r : Value} {t : Tr} {w w' : World} {S : List Nat} (h : Rec x v a n c r t w) (k : y5 S w w') (hx : x ∉ S) (hS : ∀ y ∈ S, ¬ Tg w y 105 /\ ¬ TT w y) : Rec x v a n c r t w' :=
 ⟨k.get h.row hx, k.get h.vol (fun hm => (hS v hm).1 ⟨_, _, h.vol⟩), h.st, TV.kept h.lv.tags k (fun y hy => (hS y hy).2) fun _ _ => trivial, TV.kept h.tv.tags k (fun y hy => (hS y hy).2) fun _ _ => trivial⟩
theorem Rec.k {x v a n : Nat} {c : Hd} {r : Value} {t : Tr} {w w' : World} (h : Rec x v a n c r t w) (k : y5 [] w w') : Rec x v a n c r t w' := h.kept k (by simp) (by simp)
theorem Rec.err {x v a n : Nat} {c : Hd} {r : Value} {t : Tr} {w w' : World} {S : List Nat} (h : Rec x v a n c r t w) (k : y5 S w w') (hS : ∀ y ∈ S, Tg w y 35) : Rec x v a n c r t w' := by
 refine h.kept k (fun hm => ?_) fun y hy => ⟨fun ht => ?_, fun ht => ?_⟩
 ·have := (hS x hm).ne ⟨_, _, h.row⟩
  revert this; decide
 ·have := (hS y hy).ne ht
  revert this; decide
 ·rcases ht with ht | ht
  ·have := (hS y hy).ne ht
   revert this; decide
  ·have := (hS y hy).ne ht
   revert this; decide
def UNd : Nat -> Type
 | 0 => Unit
 | d + 1 => List Pr ⊕ List (qI (UNd d))
def gP {α β σ : Type} (f : α -> σ -> Option (β × σ)) : List α -> σ -> Option (List β × σ)
 | [], s => some ([], s)
 | x :: l, s => match f x s with
  | none => none
  | some (b, s1) => match gP f l s1 with
   | none => none
   | some (bs, s2) => some (b :: bs, s2)
theorem Q7w {α β σ : Type} (f : α -> σ -> Option (β × σ)) (l : List α) (x : α) : ∀ s : σ, gP f (l ++ [x]) s = match gP f l s with
  | none => none
  | some (bs, s1) => match f x s1 with
   | none => none
   | some (b, s2) => some (bs ++ [b], s2) := by
 induction l with
 | nil =>
  intro s
  simp only [List.nil_append, gP]
 | cons y l ih =>
  intro s
  simp only [List.cons_append, gP]
  cases hy : f y s with
  | none => rfl
  | some r =>
   obtain ⟨b, s1⟩ := r
   simp only [ih]
   cases gP f l s1 with
   | none => rfl
   | some r2 =>
    obtain ⟨bs, s2⟩ := r2
    simp only
    cases f x s2 <;> rfl
theorem Q7x {α β σ : Type} (f : α -> σ -> Option (β × σ)) (l r : List α) (x : α) (s s1 : σ) (bs : List β) (h1 : gP f l s = some (bs, s1)) (h2 : f x s1 = none) : gP f (l ++ (x :: r)) s = none := by
 induction l generalizing s bs with
 | nil =>
  simp only [gP, Option.some.injEq, Prod.mk.injEq] at h1
  obtain ⟨_, rfl⟩ := h1
  simp [gP, h2]
 | cons y l ih =>
  simp only [gP] at h1
  simp only [List.cons_append, gP]
  cases hy : f y s with
  | none => rfl
  | some q =>
   obtain ⟨b, s2⟩ := q
   rw [hy] at h1
   simp only at h1 ⊢
   cases hm : gP f l s2 with
   | none => rw [hm] at h1; cases h1
   | some q2 =>
    obtain ⟨bs2, s3⟩ := q2
    rw [hm] at h1
    simp only [Option.some.injEq, Prod.mk.injEq] at h1
    obtain ⟨_, rfl⟩ := h1
    rw [ih s2 bs2 hm]
theorem Q7y {α β σ : Type} {f : α -> σ -> Option (β × σ)} {G : α -> β -> Prop} (hf : ∀ x s b s', f x s = some (b, s') -> G x b) : ∀ {l : List α} {s s' : σ} {bs : List β}, gP f l s = some (bs, s') -> F2 G l bs := by
 intro l
 induction l with
 | nil =>
  intro s s' bs h
  simp only [gP, Option.some.injEq, Prod.mk.injEq] at h
  rw [<- h.1]
  exact F2.nil
 | cons x l ih =>
  intro s s' bs h
  simp only [gP] at h
  split at h
  ·cases h
  ·rename_i b s1 e1
   split at h
   ·cases h
   ·rename_i bs2 s2 e2
    simp only [Option.some.injEq, Prod.mk.injEq] at h
    rw [<- h.1]
    exact F2.append (F2.one (hf _ _ _ _ e1)) (ih e2)
def rdU (n : Nat) (lk : Nat -> List UInt8) : (d : Nat) -> Nat -> List Nat -> Option (UNd d × List Nat)
 | 0, _, _ => none
 | d + 1, i, us => if i < n /\ i ∉ us then match QV (lk i) with
   | none => none
   | some (.leaf l) => some (.inl l, i :: us)
   | some (.branch ks) => match gP (fun (k : ByteArray × Nat) (us : List Nat) => match rdU n lk d k.2 us with
     | none => none
     | some (u, us') => some ((⟨k.1, u, k.2⟩ : qI (UNd d)), us')) ks (i :: us) with
    | none => none
    | some (bs, us') => some (.inr bs, us')
  else none
def rdK (n : Nat) (lk : Nat -> List UInt8) (d : Nat) (k : ByteArray × Nat) (us : List Nat) : Option (qI (UNd d) × List Nat) := match rdU n lk d k.2 us with
 | none => none
 | some (u, us') => some ((⟨k.1, u, k.2⟩ : qI (UNd d)), us')
theorem Q7z {n : Nat} {lk : Nat -> List UInt8} {d i : Nat} {us : List Nat} {l : List Pr} (h : i < n /\ i ∉ us) (e : QV (lk i) = some (.leaf l)) : rdU n lk (d + 1) i us = some (.inl l, i :: us) := by
 rw [rdU, if_pos h, e]
theorem Q7A {n : Nat} {lk : Nat -> List UInt8} {d i : Nat} {us : List Nat} {ks : List (ByteArray × Nat)} (h : i < n /\ i ∉ us) (e : QV (lk i) = some (.branch ks)) : rdU n lk (d + 1) i us = match gP (rdK n lk d) ks (i :: us) with
  | none => none
  | some (bs, us') => some (.inr bs, us') := by
 rw [rdU, if_pos h, e]
 rfl
theorem Q7B {n : Nat} {lk : Nat -> List UInt8} {d i : Nat} {us : List Nat} (h : ¬ (i < n /\ i ∉ us)) : rdU n lk d i us = none := by
 cases d with
 | zero => rfl
 | succ d => rw [rdU, if_neg h]
theorem Q7C {n : Nat} {lk : Nat -> List UInt8} {d i : Nat} {us : List Nat} (h : QV (lk i) = none) : rdU n lk d i us = none := by
 cases d with
 | zero => rfl
 | succ d =>
  rw [rdU]
  split
  ·rw [h]
  ·rfl
def qp : Bool -> List ByteArray -> ByteArray -> ByteArray -> Bool
 | _, [], f, t => be t yp || bl f t
 | b, k :: r, f, t => if bl k f || (b && be k f) then false else qp true r k t
def qJ {α : Type} (sd : ByteArray -> ByteArray -> α -> Option Nat) (sz : α -> Nat) (t : ByteArray) : Option Nat -> List (qI α) -> Option Nat
 | hi, [] => hi
 | hi, k :: r => match sd k.1 (match r with | [] => t | k2 :: _ => k2.1) k.2 with
  | none => none
  | some b => if 40 <= sz k.2 /\ (hi = none \/ hi = some b) then qJ sd sz t (some b) r else none
def szU : (d : Nat) -> UNd d -> Nat
 | 0, _ => 0
 | _ + 1, .inl l => (List.map psz l).sum
 | _ + 1, .inr ks => 11 * ks.length
def sndL (f t : ByteArray) (l : List Pr) : Bool := match l with
 | [] => false
 | p :: _ => !be p.1 yp && qp false (l.map fun p => p.1) f t
def sndB {α : Type} (f t : ByteArray) (ks : List (qI α)) : Bool := match ks with
 | [] => false
 | k :: _ => decide (1 < ks.length) && be k.1 f && qp false (ks.map fun k => k.1) f t
def qi : (d : Nat) -> ByteArray -> ByteArray -> UNd d -> Option Nat
 | 0, _, _, _ => none
 | _ + 1, f, t, .inl l => if sndL f t l then some 1 else none
 | d + 1, f, t, .inr ks => if sndB f t ks then (qJ (qi d) (szU d) t none ks).map (· + 1) else none
def Rep : (d : Nat) -> UNd d -> (h : Nat) -> Nd h -> Prop
 | 0, _, _, _ => False
 | _ + 1, .inl l, 0, n => n = l
 | _ + 1, .inl _, _ + 1, _ => False
 | _ + 1, .inr _, 0, _ => False
 | d + 1, .inr ks, h + 1, ns => F2 (fun (k : qI (UNd d)) (k' : Kid h) => (k'.1 = k.1 /\ k'.3 = k.3) /\ Rep d k.2 h k'.2) ks ns
end Go.Proofs.YtcklgafpgdhnaabGreatDoor
