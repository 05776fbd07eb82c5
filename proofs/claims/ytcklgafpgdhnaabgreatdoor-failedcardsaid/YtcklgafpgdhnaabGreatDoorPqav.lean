import Derived.Test.YtcklgafpgdhnaabGreatDoorPqau
set_option maxRecDepth 100000
set_option maxHeartbeats 4000000
open Go.Proofs.Tryz
namespace Go.Proofs.YtcklgafpgdhnaabGreatDoor
open Go.RowKit
theorem stT : (prog.info? 77).map (·.size) = some 3 := by kernel_rfl
theorem Q73 (f : ByteArray) (p : Int) (v : Value) (w : World) : (Instr.build 77 #[(0, .agg #[.string f, .int .i64 p, v])]).run prog w = .ok (.agg #[.string f, .int .i64 p, v]) w := by kernel_rfl
theorem Q74 (w : World) : (Instr.build 77 #[]).run prog w = .ok (.agg #[.string ⟨#[]⟩, .int .i64 0, .nilIface]) w := by kernel_rfl
theorem Q75 (t : TypeId) (v : Value) (w : World) : (Instr.build 75 #[(2, .iface t v)]).run prog w = .ok (.agg #[.string ⟨#[]⟩, .int .i64 0, .iface t v]) w := by kernel_rfl
def TChR (A : Nat -> Prop) (t : Tr) (w : World) (e : Ending) (w' : World) : Prop := ∃ r, e = .returned (.agg #[.string ⟨#[]⟩, .int .i64 t.pl, r]) /\ TV w' (fun y => A y \/ w.heap.size <= y) t r /\ y5 [] w w'
def chW (w : World) (p : Int) (r : Value) : World := (w.alloc (.cells #[.string ⟨#[]⟩, .int .i64 p, r] 77)).alloc (.cells #[.string ⟨#[]⟩, .int .i64 0, .nilIface] 77)
def ResT (w : World) (f p r : Value) (W : World) : Prop := W.heap[w.heap.size + 1]? = some (.cells #[f, p, r] 77 (0, 0))
theorem res0 (w : World) (p : Int) (r : Value) : ResT w (.string ⟨#[]⟩) (.int .i64 0) .nilIface (chW w p r) := by
 have := heap_alloc_new (w.alloc (.cells #[.string ⟨#[]⟩, .int .i64 p, r] 77)) (.cells #[.string ⟨#[]⟩, .int .i64 0, .nilIface] 77)
 rw [World.size_alloc] at this
 exact this
theorem Q76 (w : World) (p : Int) (r : Value) : y5 [] w (chW w p r) := ((y5.refl [] w).alloc _).alloc _
theorem Q77 (w : World) (p : Int) (r : Value) : (chW w p r).heap.size = w.heap.size + 2 := by simp [chW]
theorem Qw (w : World) (p : Int) (r : Value) : (chW w p r).heap[w.heap.size]? = some (.cells #[.string ⟨#[]⟩, .int .i64 p, r] 77 (0, 0)) := ((y5.refl [] _).alloc _).get (heap_alloc_new w _) (by simp)
theorem Qx {F : List Pr -> List Pr} {Q : List Pr -> Prop} {k : ByteArray} {fid : FuncId} {cap : Value} (hF : Qf F k) {w : World} {A : Nat -> Prop} {h : Nat} {n : Nd h} {pl : Nat} (hAb : ∀ y, A y -> y < w.heap.size) (ht : TW ⟨h, n, pl⟩) (hc : Cl F Q fid cap w) (hQ : Q (qV k h n)) :
  (∀ W x, y5 [] w W -> ND W A h n x -> ∃ fn v, qY "store/tree.changed" x fn v /\ Calls prog fn #[v, .string k, .func (.func fid) #[] #[cap]] W fun e w' => ∃ a, e = .returned a /\ ND w' (fun y => A y \/ W.heap.size <= y) h (yD F k h n) a /\ y5 [] W w') /\
  ∀ (W W1 : World) (a : Value), ND W (fun y => A y \/ W1.heap.size <= y) h (yD F k h n) a -> Calls prog 106 #[.string ⟨#[]⟩, a] W (FitR (fun y => A y \/ W1.heap.size <= y) (qB h yp (yD F k h n)) W) := by
 have hcg := jZ hF h yp n ht.wf ht.full (gH k) ht.two
 have h1 := hcg.hi
 have h2 := ht.hi
 constructor
 ·intro W x kW hx
  exact Q5F hF h W A yp n x hx (fun y hy => Nat.lt_of_lt_of_le (hAb y hy) kW.size) ht.wf ht.full (gH k) ht.two ht.hi (hc.k kW) hQ
 ·intro W W1 a hn
  have h2' : yl h n <= 122 := h2
  exact Q5j (f := yp) hn hcg.wf (by omega)
theorem F2.one_inv {α β : Type} {R : α -> β -> Prop} {a : α} {xs : List β} (h : F2 R [a] xs) : ∃ z, xs = [z] /\ R a z := by
 obtain ⟨z, hz, hr⟩ := h.get (i := 0) (a := a) rfl
 have hl := h.1
 cases xs with
 | nil => simp at hl
 | cons y r =>
  simp at hl
  simp at hz
  subst hz
  cases r with
  | nil => exact ⟨y, rfl, hr⟩
  | cons b c => simp at hl
theorem SL.kid0 {w : World} {g off n cap : Nat} {z : KE} (h : SL w 75 3 (.slice (some ⟨g, off, none⟩) n cap) ([z].map ke)) : (loadVar 75 ⟨g, off, none⟩).run prog w = .ok (.agg #[.string z.1, .int .i64 z.3, z.2]) w := by
 obtain ⟨g', off', cap', cur, e, hg, _, _, _, hcur⟩ := h.at_ (by simp)
 cases e
 have := gG (P := prog) (ty := 75) (o := off) _ hg (by simpa using hcur 0 (ke z) rfl) underlying75 jB
 exact this
theorem Q78 {A : Nat -> Prop} {w w1 w3 W : World} {p0 : Int} {r u : Value} {t : Tr} (hA : ∀ y, A y -> y < w.heap.size) (hk1 : y5 [] (chW w p0 r) w1) (K3 : y5 [] (chW w p0 r) w3)
  (hn : (u = .nilIface /\ t = ⟨0, ([] : List Pr), 0⟩) \/ (ND w3 (fun y => A y \/ w1.heap.size <= y) t.h t.n u /\ qO t.h t.n = false)) (k4 : y5 [w.heap.size + 1] w3 W) : TChR A t w (.returned (.agg #[.string ⟨#[]⟩, .int .i64 t.pl, u])) W := by
 have s1 := hk1.size
 rw [Q77] at s1
 have hS : ∀ y ∈ [w.heap.size + 1], ¬ (A y \/ w1.heap.size <= y) := by
  intro y hy
  simp at hy
  subst hy
  rintro (h1 | h1)
  ·have := hA _ h1; omega
  ·omega
 have hT : TV w3 (fun y => A y \/ w1.heap.size <= y) t u := hn
 refine ⟨_, rfl, hT.kept k4 hS ?_, ((Q76 w p0 r).trans K3).trans2 k4 fun y hy => Or.inr (by simp at hy; subst hy; omega)⟩
 rintro y (h1 | h1)
 ·exact Or.inl h1
 ·exact Or.inr (by omega)
theorem Q79 (l : List Pr) (h : qO 0 l = false) : 0 < yl 0 l := by
 cases l with
 | nil => simp [qO] at h
 | cons a b =>
  have := Q2K a
  show 0 < (List.map psz (a :: b)).sum
  rw [List.map_cons, List.sum_cons]
  omega
theorem Q7a (p : Option Addr) (n c : Nat) (w : World) : (Go.method 391 135 (.slice p n c) "store/tree.kids").run prog w = .ok (189, .slice p n c) w := by kernel_rfl
theorem Q7b (p : Option Addr) (n c : Nat) (w : World) : (Go.method 391 180 (.slice p n c) "store/tree.kids").run prog w = .ok (219, .slice p n c) w := by kernel_rfl
theorem enL (args : Array Value) (w : World) : (callFunc 189 args).run prog w = .ok (.enter 189 args) w := qA func189 (by kernel_rfl) (by kernel_rfl) args w
theorem Q7c {h : Nat} (n : Nd (h + 1)) (hne : ∀ b : Kid h, n ≠ ([b] : List (Kid h))) : Q36 (h + 1) [⟨yp, n, 0⟩] = ⟨h + 1, n, 0⟩ := by
 show lowT (h + 1) n = _
 have : ∀ L : List (Kid h), (∀ b, L ≠ [b]) -> lowT (h + 1) L = ⟨h + 1, L, 0⟩ := by
  intro L hL
  match L, hL with
  | [], _ => rfl
  | [a], hL => exact absurd rfl (hL a)
  | a :: b :: c, _ => rfl
 exact this n hne
theorem Q7d {F : List Pr -> List Pr} {Q : List Pr -> Prop} {k : ByteArray} {fid : FuncId} {cap : Value} (hF : Qf F k) {w : World} {A : Nat -> Prop} {h : Nat} {n : Nd (h)} {pl : Nat} {r : Value} (hx : TV w A ⟨h, n, pl⟩ r) (hAb : ∀ y, A y -> y < w.heap.size) (ht : TW ⟨h, n, pl⟩) (hc : Cl F Q fid cap w) (hQ : Q (qV k (h) n)) (hs : ¬ yl h (yD F k h n) <= 122) :
  Calls prog 77 #[.agg #[.string ⟨#[]⟩, .int .i64 pl, r], .string k, .func (.func fid) #[] #[cap]] w (TChR A (qP F k ⟨h, n, pl⟩) w) := by
 have HT : Hid (∀ W, y5 [] w W -> Calls prog 82 #[.agg #[.string ⟨#[]⟩, .int .i64 pl, r]] W _) := fun W kW => QN (t := ⟨h, n, pl⟩) (hx.k kW)
 obtain ⟨hch, hfit⟩ := Qx hF hAb ht hc hQ
 have hcg := jZ hF (h) yp n ht.wf ht.full (gH k) ht.two
 have HCh : Hid (∀ W x, y5 [] w W -> ND W A (h) n x -> ∃ fn v, qY "store/tree.changed" x fn v /\ Calls prog fn #[v, .string k, .func (.func fid) #[] #[cap]] W fun e w' => ∃ a, e = .returned a /\ ND w' (fun y => A y \/ W.heap.size <= y) (h) (yD F k (h) n) a /\ y5 [] W w') := hch
 have HFit : Hid (∀ (W W1 : World) (a : Value), ND W (fun y => A y \/ W1.heap.size <= y) (h) (yD F k (h) n) a -> Calls prog 106 #[.string ⟨#[]⟩, a] W (FitR (fun y => A y \/ W1.heap.size <= y) (qB (h) yp (yD F k (h) n)) W)) := hfit
 have K0 : Hid (y5 [] w (chW w pl r)) := Q76 w pl r
 have R0 : Hid _ := res0 w pl r
 have C0 := Qw w pl r
 have hrs := hx.shape
 have hone := hx.one
 have eM : qB h yp (yD F k h n) = [⟨yp, (yZ h (yD F k h n)).1, 0⟩, ⟨j4 h (yZ h (yD F k h n)).2, (yZ h (yD F k h n)).2, 0⟩] := by unfold qB; rw [if_neg hs]
 have hR : qP F k ⟨h, n, pl⟩ = ⟨h + 1, qB h yp (yD F k h n), 0⟩ := by
  unfold qP
  simp only
  rw [eM]
  rfl
 have hl2 : (qB h yp (yD F k h n)).length = 2 := by rw [eM]; rfl
 rw [hR]
 generalize qB h yp (yD F k h n) = M at *
 have HA : Hid _ := hAb
 have hbt := Q73
 have hbt0 := Q74
 have hbk := Q75
 have HWW : Hid ((w.alloc (.cells #[.string ⟨#[]⟩, .int .i64 (pl : Int), r] 77)).alloc (.cells #[.string ⟨#[]⟩, .int .i64 0, .nilIface] 77) = chW w pl r) := rfl
 have d0 : (chW w pl r).cell? ⟨w.heap.size, 0, none⟩ = some (.string ⟨#[]⟩) := y6 C0 rfl
 have d1 : (chW w pl r).cell? ⟨w.heap.size, 1, none⟩ = some (.int .i64 pl) := y6 C0 rfl
 have d2 : (chW w pl r).cell? ⟨w.heap.size, 2, none⟩ = some r := y6 C0 rfl
 clear hch hfit hx hc ht hAb hF hQ hcg hs hR eM
 go_enter func77, ntmps77
 go_wp2_with fail
 rw [HWW.out]
 go_wp2_with (first
   | (go_at_call 82; refine (HT.out _ K0.out).mono ?_; rintro e w1 ⟨x, rfl, hx, hk1⟩; obtain ⟨fn, v1, ⟨t1, ex1, hm1, he1⟩, hcall⟩ := HCh.out w1 x (K0.out.trans hk1) hx; have HC1 : Hid (Calls _ _ _ _ _) := hcall; clear hcall hx; subst ex1)
   | (go_at_fn fn; refine HC1.out.mono ?_; rintro e w2 ⟨a, rfl, hn2, hk2⟩; have HF2 : Hid (Calls _ _ _ _ _) := HFit.out w2 w1 a hn2; obtain ⟨ta, va, ea⟩ := hn2.iface; clear hn2; subst ea)
   | (go_at_call 106; refine HF2.out.mono ?_; rintro e w3 ⟨gv, cv, xs1, rfl, hv3, hf3, hgv, hk3⟩; have hl3 : xs1.length = 2 := (by rw [<- hf3.1]; exact hl2); have K3 : y5 [] (chW w pl r) w3 := (hk1.trans hk2).trans hk3; have hr3 : ResT w (.string ⟨#[]⟩) (.int .i64 0) .nilIface w3 := K3.get R0.out (by simp); have c30 : w3.cell? ⟨w.heap.size + 1, 0, none⟩ = some (.string ⟨#[]⟩) := y6 hr3 rfl; have c31 : w3.cell? ⟨w.heap.size + 1, 1, none⟩ = some (.int .i64 0) := y6 hr3 rfl; have c32 : w3.cell? ⟨w.heap.size + 1, 2, none⟩ = some .nilIface := y6 hr3 rfl; have g30 : w3.frozen? ⟨w.heap.size + 1, 0, none⟩ = false := frozen_of_row _ _ _ _ _ hr3; have g31 : w3.frozen? ⟨w.heap.size + 1, 1, none⟩ = false := frozen_of_row _ _ _ _ _ hr3; have g32 : w3.frozen? ⟨w.heap.size + 1, 2, none⟩ = false := frozen_of_row _ _ _ _ _ hr3; have HV3 : Hid _ := hv3; have HF3 : Hid _ := hf3; clear hv3 hf3; rw [hl3]))
 have hv3 := HV3.out
 rw [hl3] at hv3
 have s2 := hk2.size
 refine bodyPost_ret (results_cell_row rfl _ _ (w.heap.size + 1) 77 #[.string ⟨#[]⟩, .int .i64 0, .iface 180 (.slice (some ⟨gv, 0, none⟩) 2 cv)] (0, 0) _ rfl (yg (i := 2) _ (yg (i := 1) _ (yg (i := 0) _ hr3))) underlying77 rfl stT) rfl ?_
 refine Q78 (t := ⟨h + 1, M, 0⟩) HA.out hk1 K3 (Or.inr ⟨qE.2 ⟨_, xs1, rfl, hv3, ?_, HF3.out⟩, rfl⟩) ((((y5.refl [w.heap.size + 1] w3).setCell (p := ⟨w.heap.size + 1, 0, none⟩) (Or.inl (by simp)) _).setCell (p := ⟨w.heap.size + 1, 1, none⟩) (Or.inl (by simp)) _).setCell (p := ⟨w.heap.size + 1, 2, none⟩) (Or.inl (by simp)) _)
 intro b hb
 simp [Value.ownBlock] at hb
 exact Or.inr (by omega)
theorem Q7e {F : List Pr -> List Pr} {Q : List Pr -> Prop} {k : ByteArray} {fid : FuncId} {cap : Value} (hF : Qf F k) {w : World} {A : Nat -> Prop} {n : Nd (0)} {pl : Nat} {r : Value} (hx : TV w A ⟨0, n, pl⟩ r) (hAb : ∀ y, A y -> y < w.heap.size) (ht : TW ⟨0, n, pl⟩) (hc : Cl F Q fid cap w) (hQ : Q (qV k (0) n)) (hs : yl 0 (yD F k 0 n) <= 122) (he : yD F k 0 n = ([] : List Pr)) :
  Calls prog 77 #[.agg #[.string ⟨#[]⟩, .int .i64 pl, r], .string k, .func (.func fid) #[] #[cap]] w (TChR A (qP F k ⟨0, n, pl⟩) w) := by
 have HT : Hid (∀ W, y5 [] w W -> Calls prog 82 #[.agg #[.string ⟨#[]⟩, .int .i64 pl, r]] W _) := fun W kW => QN (t := ⟨0, n, pl⟩) (hx.k kW)
 obtain ⟨hch, hfit⟩ := Qx hF hAb ht hc hQ
 have hcg := jZ hF (0) yp n ht.wf ht.full (gH k) ht.two
 have HCh : Hid (∀ W x, y5 [] w W -> ND W A (0) n x -> ∃ fn v, qY "store/tree.changed" x fn v /\ Calls prog fn #[v, .string k, .func (.func fid) #[] #[cap]] W fun e w' => ∃ a, e = .returned a /\ ND w' (fun y => A y \/ W.heap.size <= y) (0) (yD F k (0) n) a /\ y5 [] W w') := hch
 have HFit : Hid (∀ (W W1 : World) (a : Value), ND W (fun y => A y \/ W1.heap.size <= y) (0) (yD F k (0) n) a -> Calls prog 106 #[.string ⟨#[]⟩, a] W (FitR (fun y => A y \/ W1.heap.size <= y) (qB (0) yp (yD F k (0) n)) W)) := hfit
 have K0 : Hid (y5 [] w (chW w pl r)) := Q76 w pl r
 have R0 : Hid _ := res0 w pl r
 have C0 := Qw w pl r
 have hrs := hx.shape
 have hone := hx.one
 have eM : qB (0) yp (yD F k (0) n) = [⟨yp, yD F k (0) n, 0⟩] := by unfold qB; rw [if_pos hs]
 have hR : qP F k ⟨0, n, pl⟩ = ⟨0, ([] : List Pr), 0⟩ := by
  unfold qP
  simp only
  rw [eM, he]
  rfl
 rw [hR]
 rw [eM] at HFit
 have hsm : Sm 0 (yD F k 0 n) := Sm.of hcg.wf (by omega)
 have HSm : Hid _ := hsm
 have hz0 : ((yl 0 (yD F k 0 n) : Nat) : Int) = 0 := by rw [he]; rfl
 have HA : Hid _ := hAb
 have hbt := Q73
 have hbt0 := Q74
 have hbk := Q75
 have HWW : Hid ((w.alloc (.cells #[.string ⟨#[]⟩, .int .i64 (pl : Int), r] 77)).alloc (.cells #[.string ⟨#[]⟩, .int .i64 0, .nilIface] 77) = chW w pl r) := rfl
 have d0 : (chW w pl r).cell? ⟨w.heap.size, 0, none⟩ = some (.string ⟨#[]⟩) := y6 C0 rfl
 have d1 : (chW w pl r).cell? ⟨w.heap.size, 1, none⟩ = some (.int .i64 pl) := y6 C0 rfl
 have d2 : (chW w pl r).cell? ⟨w.heap.size, 2, none⟩ = some r := y6 C0 rfl
 clear hch hfit hx hc ht hAb hF hQ hcg hs eM hR hsm
 go_enter func77, ntmps77
 go_wp2_with fail
 rw [HWW.out]
 go_wp2_with (first
   | (go_at_call 82; refine (HT.out _ K0.out).mono ?_; rintro e w1 ⟨x, rfl, hx, hk1⟩; obtain ⟨fn, v1, ⟨t1, ex1, hm1, he1⟩, hcall⟩ := HCh.out w1 x (K0.out.trans hk1) hx; have HC1 : Hid (Calls _ _ _ _ _) := hcall; clear hcall hx; subst ex1)
   | (go_at_fn fn; refine HC1.out.mono ?_; rintro e w2 ⟨a, rfl, hn2, hk2⟩; have HF2 : Hid (Calls _ _ _ _ _) := HFit.out w2 w1 a hn2; obtain ⟨ta, va, ea⟩ := hn2.iface; clear hn2; subst ea)
   | (go_at_call 106; refine HF2.out.mono ?_; rintro e w3 ⟨gv, cv, xs1, rfl, hv3, hf3, hgv, hk3⟩; obtain ⟨z, ez, hz⟩ := F2.one_inv hf3; subst ez; have hl3 : [z].length = 1 := rfl; rw [hl3]; rw [hl3] at hv3; have K3 : y5 [] (chW w pl r) w3 := (hk1.trans hk2).trans hk3; have hr3 : ResT w (.string ⟨#[]⟩) (.int .i64 0) .nilIface w3 := K3.get R0.out (by simp); have c30 : w3.cell? ⟨w.heap.size + 1, 0, none⟩ = some (.string ⟨#[]⟩) := y6 hr3 rfl; have c31 : w3.cell? ⟨w.heap.size + 1, 1, none⟩ = some (.int .i64 0) := y6 hr3 rfl; have c32 : w3.cell? ⟨w.heap.size + 1, 2, none⟩ = some .nilIface := y6 hr3 rfl; have g30 : w3.frozen? ⟨w.heap.size + 1, 0, none⟩ = false := frozen_of_row _ _ _ _ _ hr3; have g31 : w3.frozen? ⟨w.heap.size + 1, 1, none⟩ = false := frozen_of_row _ _ _ _ _ hr3; have g32 : w3.frozen? ⟨w.heap.size + 1, 2, none⟩ = false := frozen_of_row _ _ _ _ _ hr3; have hld := SL.kid0 hv3; rw [hz.1.1, hz.1.2] at hld; have hlt3 : w.heap.size + 1 < w3.heap.size := yt hr3; obtain ⟨fS, vS, ⟨tS, exS, hmS, heS⟩, hcS⟩ := Qb hz.2 HSm.out; have HSz : Hid (∀ W, y5 [] w3 W -> _) := hcS; have HN : Hid _ := hz.2; obtain ⟨v4, ev4, hl4, hA4⟩ := hz.2; rw [ev4] at hld; obtain ⟨p4, c4, es4⟩ := SL.shape hl4; subst es4; generalize (List.map pe (yD F k 0 n)).length = m4 at *; have hm4 := fun W => Q7a p4 m4 c4 W; have hc4 := enL; rw [ev4] at exS; cases exS; clear hv3 hf3 hl4 hcS)
   | (refine y8 rfl _ _ (ya 177 (.tmp 23) (.const (.int .i64 0)) rfl gv 0 1 cv 0 3 rfl rfl 75 underlying177 jB (by omega) 0 rfl) ?_)
   | (refine ye rfl 75 (.tmp 24) rfl ⟨gv, 0, none⟩ rfl _ hld ?_)
   | (go_at_call 189; refine (QL _ _).mono ?_; rintro e w' ⟨rfl, rfl⟩)
   | (go_at_fn fS; refine (HSz.out _ ((y5.refl [] w3).alloc _)).mono ?_; rintro e w5 ⟨rfl, hk5⟩; have n5 := hk5.get (heap_alloc_new w3 (.cells #[.string ⟨#[]⟩, .int .i64 0, .iface 135 (.slice p4 m4 c4)] 75)) (by simp); have hr5 : ResT w (.string ⟨#[]⟩) (.int .i64 0) .nilIface w5 := (((y5.refl [] w3).alloc _).trans hk5).get hr3 (by simp); have e50 : w5.cell? ⟨w3.heap.size, 0, none⟩ = some (.string ⟨#[]⟩) := y6 n5 rfl; have e51 : w5.cell? ⟨w3.heap.size, 1, none⟩ = some (.int .i64 0) := y6 n5 rfl; have e52 : w5.cell? ⟨w3.heap.size, 2, none⟩ = some (.iface 135 (.slice p4 m4 c4)) := y6 n5 rfl; have c50 : w5.cell? ⟨w.heap.size + 1, 0, none⟩ = some (.string ⟨#[]⟩) := y6 hr5 rfl; have c51 : w5.cell? ⟨w.heap.size + 1, 1, none⟩ = some (.int .i64 0) := y6 hr5 rfl; have c52 : w5.cell? ⟨w.heap.size + 1, 2, none⟩ = some .nilIface := y6 hr5 rfl; have g50 : w5.frozen? ⟨w.heap.size + 1, 0, none⟩ = false := frozen_of_row _ _ _ _ _ hr5; have g51 : w5.frozen? ⟨w.heap.size + 1, 1, none⟩ = false := frozen_of_row _ _ _ _ _ hr5; have g52 : w5.frozen? ⟨w.heap.size + 1, 2, none⟩ = false := frozen_of_row _ _ _ _ _ hr5))
 have K5 : y5 [] (chW w pl r) w5 := K3.trans (((y5.refl [] w3).alloc _).trans hk5)
 refine bodyPost_ret (results_cell_row rfl _ _ (w.heap.size + 1) 77 #[.string ⟨#[]⟩, .int .i64 0, .nilIface] (0, 0) _ rfl (yg (i := 2) _ (yg (i := 1) _ (yg (i := 0) _ hr5))) underlying77 rfl stT) rfl ?_
 exact Q78 (t := ⟨0, ([] : List Pr), 0⟩) HA.out hk1 K5 (Or.inl ⟨rfl, rfl⟩) ((((y5.refl [w.heap.size + 1] w5).setCell (p := ⟨w.heap.size + 1, 0, none⟩) (Or.inl (by simp)) _).setCell (p := ⟨w.heap.size + 1, 1, none⟩) (Or.inl (by simp)) _).setCell (p := ⟨w.heap.size + 1, 2, none⟩) (Or.inl (by simp)) _)
theorem Q7f {F : List Pr -> List Pr} {Q : List Pr -> Prop} {k : ByteArray} {fid : FuncId} {cap : Value} (hF : Qf F k) {w : World} {A : Nat -> Prop} {n : Nd (0)} {pl : Nat} {r : Value} (hx : TV w A ⟨0, n, pl⟩ r) (hAb : ∀ y, A y -> y < w.heap.size) (ht : TW ⟨0, n, pl⟩) (hc : Cl F Q fid cap w) (hQ : Q (qV k (0) n)) (hs : yl 0 (yD F k 0 n) <= 122) (he : qO 0 (yD F k 0 n) = false) :
  Calls prog 77 #[.agg #[.string ⟨#[]⟩, .int .i64 pl, r], .string k, .func (.func fid) #[] #[cap]] w (TChR A (qP F k ⟨0, n, pl⟩) w) := by
 have HT : Hid (∀ W, y5 [] w W -> Calls prog 82 #[.agg #[.string ⟨#[]⟩, .int .i64 pl, r]] W _) := fun W kW => QN (t := ⟨0, n, pl⟩) (hx.k kW)
 obtain ⟨hch, hfit⟩ := Qx hF hAb ht hc hQ
 have hcg := jZ hF (0) yp n ht.wf ht.full (gH k) ht.two
 have HCh : Hid (∀ W x, y5 [] w W -> ND W A (0) n x -> ∃ fn v, qY "store/tree.changed" x fn v /\ Calls prog fn #[v, .string k, .func (.func fid) #[] #[cap]] W fun e w' => ∃ a, e = .returned a /\ ND w' (fun y => A y \/ W.heap.size <= y) (0) (yD F k (0) n) a /\ y5 [] W w') := hch
 have HFit : Hid (∀ (W W1 : World) (a : Value), ND W (fun y => A y \/ W1.heap.size <= y) (0) (yD F k (0) n) a -> Calls prog 106 #[.string ⟨#[]⟩, a] W (FitR (fun y => A y \/ W1.heap.size <= y) (qB (0) yp (yD F k (0) n)) W)) := hfit
 have K0 : Hid (y5 [] w (chW w pl r)) := Q76 w pl r
 have R0 : Hid _ := res0 w pl r
 have C0 := Qw w pl r
 have hrs := hx.shape
 have hone := hx.one
 have eM : qB (0) yp (yD F k (0) n) = [⟨yp, yD F k (0) n, 0⟩] := by unfold qB; rw [if_pos hs]
 have hR : qP F k ⟨0, n, pl⟩ = ⟨0, yD F k 0 n, 0⟩ := by
  unfold qP
  simp only
  rw [eM]
  rfl
 rw [hR]
 rw [eM] at HFit
 have hsm : Sm 0 (yD F k 0 n) := Sm.of hcg.wf (by omega)
 have HSm : Hid _ := hsm
 have hz0 : ¬ ((yl 0 (yD F k 0 n) : Nat) : Int) = 0 := by have := Q79 _ he; omega
 have HA : Hid _ := hAb
 have hbt := Q73
 have hbt0 := Q74
 have hbk := Q75
 have HWW : Hid ((w.alloc (.cells #[.string ⟨#[]⟩, .int .i64 (pl : Int), r] 77)).alloc (.cells #[.string ⟨#[]⟩, .int .i64 0, .nilIface] 77) = chW w pl r) := rfl
 have d0 : (chW w pl r).cell? ⟨w.heap.size, 0, none⟩ = some (.string ⟨#[]⟩) := y6 C0 rfl
 have d1 : (chW w pl r).cell? ⟨w.heap.size, 1, none⟩ = some (.int .i64 pl) := y6 C0 rfl
 have d2 : (chW w pl r).cell? ⟨w.heap.size, 2, none⟩ = some r := y6 C0 rfl
 clear hch hfit hx hc ht hAb hF hQ hcg hs eM hR hsm
 go_enter func77, ntmps77
 go_wp2_with fail
 rw [HWW.out]
 go_wp2_with (first
   | (go_at_call 82; refine (HT.out _ K0.out).mono ?_; rintro e w1 ⟨x, rfl, hx, hk1⟩; obtain ⟨fn, v1, ⟨t1, ex1, hm1, he1⟩, hcall⟩ := HCh.out w1 x (K0.out.trans hk1) hx; have HC1 : Hid (Calls _ _ _ _ _) := hcall; clear hcall hx; subst ex1)
   | (go_at_fn fn; refine HC1.out.mono ?_; rintro e w2 ⟨a, rfl, hn2, hk2⟩; have HF2 : Hid (Calls _ _ _ _ _) := HFit.out w2 w1 a hn2; obtain ⟨ta, va, ea⟩ := hn2.iface; clear hn2; subst ea)
   | (go_at_call 106; refine HF2.out.mono ?_; rintro e w3 ⟨gv, cv, xs1, rfl, hv3, hf3, hgv, hk3⟩; obtain ⟨z, ez, hz⟩ := F2.one_inv hf3; subst ez; have hl3 : [z].length = 1 := rfl; rw [hl3]; rw [hl3] at hv3; have K3 : y5 [] (chW w pl r) w3 := (hk1.trans hk2).trans hk3; have hr3 : ResT w (.string ⟨#[]⟩) (.int .i64 0) .nilIface w3 := K3.get R0.out (by simp); have c30 : w3.cell? ⟨w.heap.size + 1, 0, none⟩ = some (.string ⟨#[]⟩) := y6 hr3 rfl; have c31 : w3.cell? ⟨w.heap.size + 1, 1, none⟩ = some (.int .i64 0) := y6 hr3 rfl; have c32 : w3.cell? ⟨w.heap.size + 1, 2, none⟩ = some .nilIface := y6 hr3 rfl; have g30 : w3.frozen? ⟨w.heap.size + 1, 0, none⟩ = false := frozen_of_row _ _ _ _ _ hr3; have g31 : w3.frozen? ⟨w.heap.size + 1, 1, none⟩ = false := frozen_of_row _ _ _ _ _ hr3; have g32 : w3.frozen? ⟨w.heap.size + 1, 2, none⟩ = false := frozen_of_row _ _ _ _ _ hr3; have hld := SL.kid0 hv3; rw [hz.1.1, hz.1.2] at hld; have hlt3 : w.heap.size + 1 < w3.heap.size := yt hr3; obtain ⟨fS, vS, ⟨tS, exS, hmS, heS⟩, hcS⟩ := Qb hz.2 HSm.out; have HSz : Hid (∀ W, y5 [] w3 W -> _) := hcS; have HN : Hid _ := hz.2; obtain ⟨v4, ev4, hl4, hA4⟩ := hz.2; rw [ev4] at hld; obtain ⟨p4, c4, es4⟩ := SL.shape hl4; subst es4; generalize (List.map pe (yD F k 0 n)).length = m4 at *; have hm4 := fun W => Q7a p4 m4 c4 W; have hc4 := enL; rw [ev4] at exS; cases exS; clear hv3 hf3 hl4 hcS)
   | (refine y8 rfl _ _ (ya 177 (.tmp 23) (.const (.int .i64 0)) rfl gv 0 1 cv 0 3 rfl rfl 75 underlying177 jB (by omega) 0 rfl) ?_)
   | (refine ye rfl 75 (.tmp 24) rfl ⟨gv, 0, none⟩ rfl _ hld ?_)
   | (go_at_call 189; refine (QL _ _).mono ?_; rintro e w' ⟨rfl, rfl⟩)
   | (go_at_fn fS; refine (HSz.out _ ((y5.refl [] w3).alloc _)).mono ?_; rintro e w5 ⟨rfl, hk5⟩; have n5 := hk5.get (heap_alloc_new w3 (.cells #[.string ⟨#[]⟩, .int .i64 0, .iface 135 (.slice p4 m4 c4)] 75)) (by simp); have hr5 : ResT w (.string ⟨#[]⟩) (.int .i64 0) .nilIface w5 := (((y5.refl [] w3).alloc _).trans hk5).get hr3 (by simp); have e50 : w5.cell? ⟨w3.heap.size, 0, none⟩ = some (.string ⟨#[]⟩) := y6 n5 rfl; have e51 : w5.cell? ⟨w3.heap.size, 1, none⟩ = some (.int .i64 0) := y6 n5 rfl; have e52 : w5.cell? ⟨w3.heap.size, 2, none⟩ = some (.iface 135 (.slice p4 m4 c4)) := y6 n5 rfl; have c50 : w5.cell? ⟨w.heap.size + 1, 0, none⟩ = some (.string ⟨#[]⟩) := y6 hr5 rfl; have c51 : w5.cell? ⟨w.heap.size + 1, 1, none⟩ = some (.int .i64 0) := y6 hr5 rfl; have c52 : w5.cell? ⟨w.heap.size + 1, 2, none⟩ = some .nilIface := y6 hr5 rfl; have g50 : w5.frozen? ⟨w.heap.size + 1, 0, none⟩ = false := frozen_of_row _ _ _ _ _ hr5; have g51 : w5.frozen? ⟨w.heap.size + 1, 1, none⟩ = false := frozen_of_row _ _ _ _ _ hr5; have g52 : w5.frozen? ⟨w.heap.size + 1, 2, none⟩ = false := frozen_of_row _ _ _ _ _ hr5))
 have K5 : y5 [] (chW w pl r) w5 := K3.trans (((y5.refl [] w3).alloc _).trans hk5)
 refine bodyPost_ret (results_cell_row rfl _ _ (w.heap.size + 1) 77 #[.string ⟨#[]⟩, .int .i64 0, .iface 135 (.slice p4 m4 c4)] (0, 0) _ rfl (yg (i := 2) _ (yg (i := 1) _ (yg (i := 0) _ hr5))) underlying77 rfl stT) rfl ?_
 exact Q78 (t := ⟨0, yD F k 0 n, 0⟩) HA.out hk1 K5 (Or.inr ⟨ND.k (ev4 ▸ HN.out) (((y5.refl [] w3).alloc _).trans hk5), he⟩) ((((y5.refl [w.heap.size + 1] w5).setCell (p := ⟨w.heap.size + 1, 0, none⟩) (Or.inl (by simp)) _).setCell (p := ⟨w.heap.size + 1, 1, none⟩) (Or.inl (by simp)) _).setCell (p := ⟨w.heap.size + 1, 2, none⟩) (Or.inl (by simp)) _)
theorem Q7g {F : List Pr -> List Pr} {Q : List Pr -> Prop} {k : ByteArray} {fid : FuncId} {cap : Value} (hF : Qf F k) {w : World} {A : Nat -> Prop} {h : Nat} {n : Nd (h + 1)} {pl : Nat} {r : Value} (hx : TV w A ⟨h + 1, n, pl⟩ r) (hAb : ∀ y, A y -> y < w.heap.size) (ht : TW ⟨h + 1, n, pl⟩) (hc : Cl F Q fid cap w) (hQ : Q (qV k (h + 1) n)) (hs : yl (h + 1) (yD F k (h + 1) n) <= 122) {b : Kid h} (hb : yD F k (h + 1) n = ([b] : List (Kid h))) :
  Calls prog 77 #[.agg #[.string ⟨#[]⟩, .int .i64 pl, r], .string k, .func (.func fid) #[] #[cap]] w (TChR A (qP F k ⟨h + 1, n, pl⟩) w) := by
 have HT : Hid (∀ W, y5 [] w W -> Calls prog 82 #[.agg #[.string ⟨#[]⟩, .int .i64 pl, r]] W _) := fun W kW => QN (t := ⟨h + 1, n, pl⟩) (hx.k kW)
 obtain ⟨hch, hfit⟩ := Qx hF hAb ht hc hQ
 have hcg := jZ hF (h + 1) yp n ht.wf ht.full (gH k) ht.two
 have HCh : Hid (∀ W x, y5 [] w W -> ND W A (h + 1) n x -> ∃ fn v, qY "store/tree.changed" x fn v /\ Calls prog fn #[v, .string k, .func (.func fid) #[] #[cap]] W fun e w' => ∃ a, e = .returned a /\ ND w' (fun y => A y \/ W.heap.size <= y) (h + 1) (yD F k (h + 1) n) a /\ y5 [] W w') := hch
 have HFit : Hid (∀ (W W1 : World) (a : Value), ND W (fun y => A y \/ W1.heap.size <= y) (h + 1) (yD F k (h + 1) n) a -> Calls prog 106 #[.string ⟨#[]⟩, a] W (FitR (fun y => A y \/ W1.heap.size <= y) (qB (h + 1) yp (yD F k (h + 1) n)) W)) := hfit
 have K0 : Hid (y5 [] w (chW w pl r)) := Q76 w pl r
 have R0 : Hid _ := res0 w pl r
 have C0 := Qw w pl r
 have hrs := hx.shape
 have hone := hx.one
 have eM : qB (h + 1) yp (yD F k (h + 1) n) = [⟨yp, yD F k (h + 1) n, 0⟩] := by unfold qB; rw [if_pos hs]
 have hR : qP F k ⟨h + 1, n, pl⟩ = ⟨h, b.2, b.3⟩ := by
  unfold qP
  simp only
  rw [eM, hb]
  rfl
 rw [hR]
 rw [eM] at HFit
 have hbw : b.1 = yp /\ WFN h b.1 b.2 /\ Rt h b.2 := by
  have hw := hcg.wf
  have hfl := hcg.full
  rw [hb] at hw hfl
  obtain ⟨⟨n0, x0, r0, e0⟩, hk⟩ := (yF h yp [b]).1 hw
  have e1 := (List.cons.inj e0).1
  exact ⟨by rw [e1], hk.all b (by simp), ((yM h [b]).1 hfl b (by simp)).1⟩
 obtain ⟨hb1, hbw, hbr⟩ := hbw
 have hsm : Sm h b.2 := Sm.of hbw (by have := hbr.2; omega)
 have HSm : Hid _ := hsm
 have hz0 : ¬ ((yl h b.2 : Nat) : Int) = 0 := by have := hbr.1; omega
 have hnil : qO h b.2 = false := by
  cases hc : qO h b.2 with
  | false => rfl
  | true => have := Q37 h b.2 hc; omega
 have HB : Hid _ := hb
 have HB1 : Hid _ := hb1
 have HA : Hid _ := hAb
 have hbt := Q73
 have hbt0 := Q74
 have hbk := Q75
 have HWW : Hid ((w.alloc (.cells #[.string ⟨#[]⟩, .int .i64 (pl : Int), r] 77)).alloc (.cells #[.string ⟨#[]⟩, .int .i64 0, .nilIface] 77) = chW w pl r) := rfl
 have d0 : (chW w pl r).cell? ⟨w.heap.size, 0, none⟩ = some (.string ⟨#[]⟩) := y6 C0 rfl
 have d1 : (chW w pl r).cell? ⟨w.heap.size, 1, none⟩ = some (.int .i64 pl) := y6 C0 rfl
 have d2 : (chW w pl r).cell? ⟨w.heap.size, 2, none⟩ = some r := y6 C0 rfl
 clear hch hfit hx hc ht hAb hF hQ hcg hs eM hR hsm hb hb1 hbw hbr
 go_enter func77, ntmps77
 go_wp2_with fail
 rw [HWW.out]
 go_wp2_with (first
   | (go_at_call 82; refine (HT.out _ K0.out).mono ?_; rintro e w1 ⟨x, rfl, hx, hk1⟩; obtain ⟨fn, v1, ⟨t1, ex1, hm1, he1⟩, hcall⟩ := HCh.out w1 x (K0.out.trans hk1) hx; have HC1 : Hid (Calls _ _ _ _ _) := hcall; clear hcall hx; subst ex1)
   | (go_at_fn fn; refine HC1.out.mono ?_; rintro e w2 ⟨a, rfl, hn2, hk2⟩; have HF2 : Hid (Calls _ _ _ _ _) := HFit.out w2 w1 a hn2; obtain ⟨ta, va, ea⟩ := hn2.iface; clear hn2; subst ea)
   | (go_at_call 106; refine HF2.out.mono ?_; rintro e w3 ⟨gv, cv, xs1, rfl, hv3, hf3, hgv, hk3⟩; obtain ⟨z, ez, hz⟩ := F2.one_inv hf3; subst ez; have hl3 : [z].length = 1 := rfl; rw [hl3]; rw [hl3] at hv3; have K3 : y5 [] (chW w pl r) w3 := (hk1.trans hk2).trans hk3; have hr3 : ResT w (.string ⟨#[]⟩) (.int .i64 0) .nilIface w3 := K3.get R0.out (by simp); have c30 : w3.cell? ⟨w.heap.size + 1, 0, none⟩ = some (.string ⟨#[]⟩) := y6 hr3 rfl; have c31 : w3.cell? ⟨w.heap.size + 1, 1, none⟩ = some (.int .i64 0) := y6 hr3 rfl; have c32 : w3.cell? ⟨w.heap.size + 1, 2, none⟩ = some .nilIface := y6 hr3 rfl; have g30 : w3.frozen? ⟨w.heap.size + 1, 0, none⟩ = false := frozen_of_row _ _ _ _ _ hr3; have g31 : w3.frozen? ⟨w.heap.size + 1, 1, none⟩ = false := frozen_of_row _ _ _ _ _ hr3; have g32 : w3.frozen? ⟨w.heap.size + 1, 2, none⟩ = false := frozen_of_row _ _ _ _ _ hr3; have hld := SL.kid0 hv3; rw [hz.1.1, hz.1.2] at hld; have hlt3 : w.heap.size + 1 < w3.heap.size := yt hr3; have hz2 : ND w3 (fun y => A y \/ w1.heap.size <= y) (h + 1) [b] z.2 := HB.out ▸ hz.2; obtain ⟨v4, xs4, ev4, hl4, hA4, hf4⟩ := qE.1 hz2; rw [ev4] at hld; obtain ⟨y4, ey4, hy4⟩ := F2.one_inv hf4; subst ey4; obtain ⟨g4, off4, cap4, cur4, ev5, hg4, _⟩ := hl4.at_ (by simp); subst ev5; have hl4k := hl4; have hl5 : (List.map ke [y4]).length = 1 := rfl; rw [hl5] at hld; obtain ⟨fS, vS, ⟨tS, exS, hmS, heS⟩, hcS⟩ := Qb hy4.2 HSm.out; have HSz : Hid (∀ W, y5 [] w3 W -> _) := hcS; have HN : Hid _ := hy4.2; have hld4' : ∀ o : Obj, (loadVar 75 ⟨g4, off4, none⟩).run prog (w3.alloc o) = .ok (.agg #[.string yp, .int .i64 b.3, .iface tS vS]) (w3.alloc o) := (fun o => by have := SL.kid0 (hl4k.kept ((y5.refl [] w3).alloc o)); rw [hy4.1.1, hy4.1.2, HB1.out, exS] at this; exact this); have hm4 := fun W => Q7b (some ⟨g4, off4, none⟩) 1 cap4 W; clear hv3 hf3 hcS hl4 hf4 hl4k)
   | (refine y8 rfl _ _ (ya 177 (.tmp 23) (.const (.int .i64 0)) rfl gv 0 1 cv 0 3 rfl rfl 75 underlying177 jB (by omega) 0 rfl) ?_)
   | (refine ye rfl 75 (.tmp 24) rfl ⟨gv, 0, none⟩ rfl _ hld ?_)
   | (go_at_call 219; refine (Q5K _ _ _ _).mono ?_; rintro e w' ⟨rfl, rfl⟩)
   | (refine y8 rfl _ _ (ya 177 (.tmp 32) (.const (.int .i64 0)) rfl g4 off4 1 cap4 0 3 rfl rfl 75 underlying177 jB (by omega) off4 (by omega)) ?_)
   | (refine ye rfl 75 (.tmp 33) rfl ⟨g4, off4, none⟩ rfl _ (hld4' _) ?_)
   | (go_at_fn fS; refine (HSz.out _ ((y5.refl [] w3).alloc _)).mono ?_; rintro e w5 ⟨rfl, hk5⟩; have n5 := hk5.get (heap_alloc_new w3 (.cells #[.string ⟨#[]⟩, .int .i64 b.3, .iface tS vS] 75)) (by simp); have hr5 : ResT w (.string ⟨#[]⟩) (.int .i64 0) .nilIface w5 := (((y5.refl [] w3).alloc _).trans hk5).get hr3 (by simp); have e50 : w5.cell? ⟨w3.heap.size, 0, none⟩ = some (.string ⟨#[]⟩) := y6 n5 rfl; have e51 : w5.cell? ⟨w3.heap.size, 1, none⟩ = some (.int .i64 b.3) := y6 n5 rfl; have e52 : w5.cell? ⟨w3.heap.size, 2, none⟩ = some (.iface tS vS) := y6 n5 rfl; have c50 : w5.cell? ⟨w.heap.size + 1, 0, none⟩ = some (.string ⟨#[]⟩) := y6 hr5 rfl; have c51 : w5.cell? ⟨w.heap.size + 1, 1, none⟩ = some (.int .i64 0) := y6 hr5 rfl; have c52 : w5.cell? ⟨w.heap.size + 1, 2, none⟩ = some .nilIface := y6 hr5 rfl; have g50 : w5.frozen? ⟨w.heap.size + 1, 0, none⟩ = false := frozen_of_row _ _ _ _ _ hr5; have g51 : w5.frozen? ⟨w.heap.size + 1, 1, none⟩ = false := frozen_of_row _ _ _ _ _ hr5; have g52 : w5.frozen? ⟨w.heap.size + 1, 2, none⟩ = false := frozen_of_row _ _ _ _ _ hr5))
 have K5 : y5 [] (chW w pl r) w5 := K3.trans (((y5.refl [] w3).alloc _).trans hk5)
 refine bodyPost_ret (results_cell_row rfl _ _ (w.heap.size + 1) 77 #[.string ⟨#[]⟩, .int .i64 b.3, .iface tS vS] (0, 0) _ rfl (yg (i := 2) _ (yg (i := 1) _ (yg (i := 0) _ hr5))) underlying77 rfl stT) rfl ?_
 exact Q78 (t := ⟨h, b.2, b.3⟩) HA.out hk1 K5 (Or.inr ⟨ND.k (exS ▸ HN.out) (((y5.refl [] w3).alloc _).trans hk5), hnil⟩) ((((y5.refl [w.heap.size + 1] w5).setCell (p := ⟨w.heap.size + 1, 0, none⟩) (Or.inl (by simp)) _).setCell (p := ⟨w.heap.size + 1, 1, none⟩) (Or.inl (by simp)) _).setCell (p := ⟨w.heap.size + 1, 2, none⟩) (Or.inl (by simp)) _)
theorem Q7h {F : List Pr -> List Pr} {Q : List Pr -> Prop} {k : ByteArray} {fid : FuncId} {cap : Value} (hF : Qf F k) {w : World} {A : Nat -> Prop} {h : Nat} {n : Nd (h + 1)} {pl : Nat} {r : Value} (hx : TV w A ⟨h + 1, n, pl⟩ r) (hAb : ∀ y, A y -> y < w.heap.size) (ht : TW ⟨h + 1, n, pl⟩) (hc : Cl F Q fid cap w) (hQ : Q (qV k (h + 1) n)) (hs : yl (h + 1) (yD F k (h + 1) n) <= 122) (hne : ∀ b : Kid h, yD F k (h + 1) n ≠ ([b] : List (Kid h))) :
  Calls prog 77 #[.agg #[.string ⟨#[]⟩, .int .i64 pl, r], .string k, .func (.func fid) #[] #[cap]] w (TChR A (qP F k ⟨h + 1, n, pl⟩) w) := by
 have HT : Hid (∀ W, y5 [] w W -> Calls prog 82 #[.agg #[.string ⟨#[]⟩, .int .i64 pl, r]] W _) := fun W kW => QN (t := ⟨h + 1, n, pl⟩) (hx.k kW)
 obtain ⟨hch, hfit⟩ := Qx hF hAb ht hc hQ
 have hcg := jZ hF (h + 1) yp n ht.wf ht.full (gH k) ht.two
 have HCh : Hid (∀ W x, y5 [] w W -> ND W A (h + 1) n x -> ∃ fn v, qY "store/tree.changed" x fn v /\ Calls prog fn #[v, .string k, .func (.func fid) #[] #[cap]] W fun e w' => ∃ a, e = .returned a /\ ND w' (fun y => A y \/ W.heap.size <= y) (h + 1) (yD F k (h + 1) n) a /\ y5 [] W w') := hch
 have HFit : Hid (∀ (W W1 : World) (a : Value), ND W (fun y => A y \/ W1.heap.size <= y) (h + 1) (yD F k (h + 1) n) a -> Calls prog 106 #[.string ⟨#[]⟩, a] W (FitR (fun y => A y \/ W1.heap.size <= y) (qB (h + 1) yp (yD F k (h + 1) n)) W)) := hfit
 have K0 : Hid (y5 [] w (chW w pl r)) := Q76 w pl r
 have R0 : Hid _ := res0 w pl r
 have C0 := Qw w pl r
 have hrs := hx.shape
 have hone := hx.one
 have eM : qB (h + 1) yp (yD F k (h + 1) n) = [⟨yp, yD F k (h + 1) n, 0⟩] := by unfold qB; rw [if_pos hs]
 have hR : qP F k ⟨h + 1, n, pl⟩ = ⟨h + 1, yD F k (h + 1) n, 0⟩ := by
  unfold qP
  simp only
  rw [eM]
  exact Q7c _ hne
 rw [hR]
 rw [eM] at HFit
 have hsm : Sm (h + 1) (yD F k (h + 1) n) := Sm.of hcg.wf (by omega)
 have HSm : Hid _ := hsm
 have hpos : 0 < List.length (α := Kid h) (yD F k (h + 1) n) := by
  obtain ⟨⟨n0, x0, r0, e0⟩, _⟩ := (yF h yp _).1 hcg.wf
  rw [e0]
  simp
 have hz0 : ¬ ((yl (h + 1) (yD F k (h + 1) n) : Nat) : Int) = 0 := by
  have : yl (h + 1) (yD F k (h + 1) n) = 11 * List.length (α := Kid h) (yD F k (h + 1) n) := rfl
  omega
 have hn1 : ¬ ((List.length (α := Kid h) (yD F k (h + 1) n) : Nat) : Int) = 1 := by
  intro e1
  have e2 : List.length (α := Kid h) (yD F k (h + 1) n) = 1 := by omega
  obtain ⟨b, hb⟩ := List.length_eq_one_iff.1 e2
  exact hne b hb
 have HN1 : Hid _ := hn1
 clear hn1
 have HA : Hid _ := hAb
 have hbt := Q73
 have hbt0 := Q74
 have hbk := Q75
 have HWW : Hid ((w.alloc (.cells #[.string ⟨#[]⟩, .int .i64 (pl : Int), r] 77)).alloc (.cells #[.string ⟨#[]⟩, .int .i64 0, .nilIface] 77) = chW w pl r) := rfl
 have d0 : (chW w pl r).cell? ⟨w.heap.size, 0, none⟩ = some (.string ⟨#[]⟩) := y6 C0 rfl
 have d1 : (chW w pl r).cell? ⟨w.heap.size, 1, none⟩ = some (.int .i64 pl) := y6 C0 rfl
 have d2 : (chW w pl r).cell? ⟨w.heap.size, 2, none⟩ = some r := y6 C0 rfl
 clear hch hfit hx hc ht hAb hF hQ hcg hs eM hR hsm hne
 go_enter func77, ntmps77
 go_wp2_with fail
 rw [HWW.out]
 go_wp2_with (first
   | (go_at_call 82; refine (HT.out _ K0.out).mono ?_; rintro e w1 ⟨x, rfl, hx, hk1⟩; obtain ⟨fn, v1, ⟨t1, ex1, hm1, he1⟩, hcall⟩ := HCh.out w1 x (K0.out.trans hk1) hx; have HC1 : Hid (Calls _ _ _ _ _) := hcall; clear hcall hx; subst ex1)
   | (go_at_fn fn; refine HC1.out.mono ?_; rintro e w2 ⟨a, rfl, hn2, hk2⟩; have HF2 : Hid (Calls _ _ _ _ _) := HFit.out w2 w1 a hn2; obtain ⟨ta, va, ea⟩ := hn2.iface; clear hn2; subst ea)
   | (go_at_call 106; refine HF2.out.mono ?_; rintro e w3 ⟨gv, cv, xs1, rfl, hv3, hf3, hgv, hk3⟩; obtain ⟨z, ez, hz⟩ := F2.one_inv hf3; subst ez; have hl3 : [z].length = 1 := rfl; rw [hl3]; rw [hl3] at hv3; have K3 : y5 [] (chW w pl r) w3 := (hk1.trans hk2).trans hk3; have hr3 : ResT w (.string ⟨#[]⟩) (.int .i64 0) .nilIface w3 := K3.get R0.out (by simp); have c30 : w3.cell? ⟨w.heap.size + 1, 0, none⟩ = some (.string ⟨#[]⟩) := y6 hr3 rfl; have c31 : w3.cell? ⟨w.heap.size + 1, 1, none⟩ = some (.int .i64 0) := y6 hr3 rfl; have c32 : w3.cell? ⟨w.heap.size + 1, 2, none⟩ = some .nilIface := y6 hr3 rfl; have g30 : w3.frozen? ⟨w.heap.size + 1, 0, none⟩ = false := frozen_of_row _ _ _ _ _ hr3; have g31 : w3.frozen? ⟨w.heap.size + 1, 1, none⟩ = false := frozen_of_row _ _ _ _ _ hr3; have g32 : w3.frozen? ⟨w.heap.size + 1, 2, none⟩ = false := frozen_of_row _ _ _ _ _ hr3; have hld := SL.kid0 hv3; rw [hz.1.1, hz.1.2] at hld; have hlt3 : w.heap.size + 1 < w3.heap.size := yt hr3; obtain ⟨fS, vS, ⟨tS, exS, hmS, heS⟩, hcS⟩ := Qb hz.2 HSm.out; have HSz : Hid (∀ W, y5 [] w3 W -> _) := hcS; have HN : Hid _ := hz.2; obtain ⟨v4, xs4, ev4, hl4, hA4, hf4⟩ := qE.1 hz.2; rw [ev4] at hld; obtain ⟨p4, c4, es4⟩ := SL.shape hl4; have hln4 : (xs4.map ke).length = List.length (α := Kid h) (yD F k (h + 1) n) := (by rw [List.length_map, hf4.1]); rw [hln4] at es4; subst es4; have hn4 := HN1.out; generalize List.length (α := Kid h) (yD F k (h + 1) n) = m4 at *; have hn4b : ((m4 : Int) == 1) = false := (by simpa using hn4); have hm4 := fun W => Q7b p4 m4 c4 W; rw [ev4] at exS; cases exS; clear hv3 hf3 hl4 hcS hln4)
   | (refine y8 rfl _ _ (ya 177 (.tmp 23) (.const (.int .i64 0)) rfl gv 0 1 cv 0 3 rfl rfl 75 underlying177 jB (by omega) 0 rfl) ?_)
   | (refine ye rfl 75 (.tmp 24) rfl ⟨gv, 0, none⟩ rfl _ hld ?_)
   | (go_at_call 219; refine (Q5K _ _ _ _).mono ?_; rintro e w' ⟨rfl, rfl⟩)
   | (go_at_fn fS; refine (HSz.out _ ((y5.refl [] w3).alloc _)).mono ?_; rintro e w5 ⟨rfl, hk5⟩; have n5 := hk5.get (heap_alloc_new w3 (.cells #[.string ⟨#[]⟩, .int .i64 0, .iface 180 (.slice p4 m4 c4)] 75)) (by simp); have hr5 : ResT w (.string ⟨#[]⟩) (.int .i64 0) .nilIface w5 := (((y5.refl [] w3).alloc _).trans hk5).get hr3 (by simp); have e50 : w5.cell? ⟨w3.heap.size, 0, none⟩ = some (.string ⟨#[]⟩) := y6 n5 rfl; have e51 : w5.cell? ⟨w3.heap.size, 1, none⟩ = some (.int .i64 0) := y6 n5 rfl; have e52 : w5.cell? ⟨w3.heap.size, 2, none⟩ = some (.iface 180 (.slice p4 m4 c4)) := y6 n5 rfl; have c50 : w5.cell? ⟨w.heap.size + 1, 0, none⟩ = some (.string ⟨#[]⟩) := y6 hr5 rfl; have c51 : w5.cell? ⟨w.heap.size + 1, 1, none⟩ = some (.int .i64 0) := y6 hr5 rfl; have c52 : w5.cell? ⟨w.heap.size + 1, 2, none⟩ = some .nilIface := y6 hr5 rfl; have g50 : w5.frozen? ⟨w.heap.size + 1, 0, none⟩ = false := frozen_of_row _ _ _ _ _ hr5; have g51 : w5.frozen? ⟨w.heap.size + 1, 1, none⟩ = false := frozen_of_row _ _ _ _ _ hr5; have g52 : w5.frozen? ⟨w.heap.size + 1, 2, none⟩ = false := frozen_of_row _ _ _ _ _ hr5))
 have K5 : y5 [] (chW w pl r) w5 := K3.trans (((y5.refl [] w3).alloc _).trans hk5)
 refine bodyPost_ret (results_cell_row rfl _ _ (w.heap.size + 1) 77 #[.string ⟨#[]⟩, .int .i64 0, .iface 180 (.slice p4 m4 c4)] (0, 0) _ rfl (yg (i := 2) _ (yg (i := 1) _ (yg (i := 0) _ hr5))) underlying77 rfl stT) rfl ?_
 exact Q78 (t := ⟨h + 1, yD F k (h + 1) n, 0⟩) HA.out hk1 K5 (Or.inr ⟨ND.k (ev4 ▸ HN.out) (((y5.refl [] w3).alloc _).trans hk5), rfl⟩) ((((y5.refl [w.heap.size + 1] w5).setCell (p := ⟨w.heap.size + 1, 0, none⟩) (Or.inl (by simp)) _).setCell (p := ⟨w.heap.size + 1, 1, none⟩) (Or.inl (by simp)) _).setCell (p := ⟨w.heap.size + 1, 2, none⟩) (Or.inl (by simp)) _)
theorem Q7i {F : List Pr -> List Pr} {Q : List Pr -> Prop} {k : ByteArray} {fid : FuncId} {cap : Value} (hF : Qf F k) {w : World} {A : Nat -> Prop} {t : Tr} {r : Value} (hx : TV w A t r) (hAb : ∀ y, A y -> y < w.heap.size) (ht : TW t) (hc : Cl F Q fid cap w) (hQ : Q (qV k t.h t.n)) :
  Calls prog 77 #[.agg #[.string ⟨#[]⟩, .int .i64 t.pl, r], .string k, .func (.func fid) #[] #[cap]] w (TChR A (qP F k t) w) := by
 obtain ⟨h, n, pl⟩ := t
 by_cases hs : yl h (yD F k h n) <= 122
 ·cases h with
  | zero =>
   cases he : qO 0 (yD F k 0 n) with
   | false => exact Q7f hF hx hAb ht hc hQ hs he
   | true => exact Q7e hF hx hAb ht hc hQ hs (List.isEmpty_iff.1 he)
  | succ h =>
   by_cases hb : ∃ b : Kid h, yD F k (h + 1) n = ([b] : List (Kid h))
   ·obtain ⟨b, hb⟩ := hb
    exact Q7g hF hx hAb ht hc hQ hs hb
   ·exact Q7h hF hx hAb ht hc hQ hs fun b e => hb ⟨b, e⟩
 ·exact Q7d hF hx hAb ht hc hQ hs
end Go.Proofs.YtcklgafpgdhnaabGreatDoor
