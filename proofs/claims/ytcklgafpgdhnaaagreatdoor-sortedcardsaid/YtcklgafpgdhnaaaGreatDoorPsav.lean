import Derived.Test.YtcklgafpgdhnaaaGreatDoorPsau
set_option maxRecDepth 100000
set_option maxHeartbeats 4000000
open Go.Proofs.Tryz
namespace Go.Proofs.YtcklgafpgdhnaaaGreatDoor
open Go.RowKit
theorem stT : (prog.info? 82).map (·.size) = some 3 := by kernel_rfl
theorem Q9O (f : ByteArray) (p : Int) (v : Value) (w : World) : (Instr.build 82 #[(0, .agg #[.string f, .int .i64 p, v])]).run prog w = .ok (.agg #[.string f, .int .i64 p, v]) w := by kernel_rfl
theorem Q9P (w : World) : (Instr.build 82 #[]).run prog w = .ok (.agg #[.string ⟨#[]⟩, .int .i64 0, .nilIface]) w := by kernel_rfl
theorem Q9Q (t : TypeId) (v : Value) (w : World) : (Instr.build 80 #[(2, .iface t v)]).run prog w = .ok (.agg #[.string ⟨#[]⟩, .int .i64 0, .iface t v]) w := by kernel_rfl
def TChR (A : Nat -> Prop) (t : Tr) (w : World) (e : Ending) (w' : World) : Prop := ∃ r, e = .returned (.agg #[.string ⟨#[]⟩, .int .i64 t.pl, r]) /\ TV w' (fun y => A y \/ w.heap.size <= y) t r /\ Kept [] w w'
def chW (w : World) (p : Int) (r : Value) : World := (w.alloc (.cells #[.string ⟨#[]⟩, .int .i64 p, r] 82)).alloc (.cells #[.string ⟨#[]⟩, .int .i64 0, .nilIface] 82)
def ResT (w : World) (f p r : Value) (W : World) : Prop := W.heap[w.heap.size + 1]? = some (.cells #[f, p, r] 82 (0, 0))
theorem res0 (w : World) (p : Int) (r : Value) : ResT w (.string ⟨#[]⟩) (.int .i64 0) .nilIface (chW w p r) := by
 have := heap_alloc_new (w.alloc (.cells #[.string ⟨#[]⟩, .int .i64 p, r] 82)) (.cells #[.string ⟨#[]⟩, .int .i64 0, .nilIface] 82)
 rw [World.size_alloc] at this
 exact this
theorem Q9R (w : World) (p : Int) (r : Value) : Kept [] w (chW w p r) := ((Kept.refl [] w).alloc _).alloc _
theorem Q9S (w : World) (p : Int) (r : Value) : (chW w p r).heap.size = w.heap.size + 2 := by simp [chW]
theorem Q9T (w : World) (p : Int) (r : Value) : (chW w p r).heap[w.heap.size]? = some (.cells #[.string ⟨#[]⟩, .int .i64 p, r] 82 (0, 0)) := ((Kept.refl [] _).alloc _).get (heap_alloc_new w _) (by simp)
theorem Q9U {F : List Pr -> List Pr} {Q : List Pr -> Prop} {k : ByteArray} {fid : FuncId} {cap : Value} (hF : OpAt F k) {w : World} {A : Nat -> Prop} {h : Nat} {n : Nd h} {pl : Nat} (hAb : ∀ y, A y -> y < w.heap.size) (ht : TW ⟨h, n, pl⟩) (hc : Cl F Q fid cap w) (hQ : Q (Q6P k h n)) :
  (∀ W x, Kept [] w W -> ND W A h n x -> ∃ fn v, Disp "store/tree.changed" x fn v /\ Calls prog fn #[v, .string k, .func (.func fid) #[] #[cap]] W fun e w' => ∃ a, e = .returned a /\ ND w' (fun y => A y \/ W.heap.size <= y) h (chgN F k h n) a /\ Kept [] W w') /\
  ∀ (W W1 : World) (a : Value), ND W (fun y => A y \/ W1.heap.size <= y) h (chgN F k h n) a -> Calls prog 110 #[.string ⟨#[]⟩, a] W (FitR (fun y => A y \/ W1.heap.size <= y) (fitN h nil8 (chgN F k h n)) W) := by
 have hcg := Q4S hF h nil8 n ht.wf ht.full (Q4X k) ht.two
 have h1 := hcg.hi
 have h2 := ht.hi
 constructor
 ·intro W x kW hx
  exact Q8b hF h W A nil8 n x hx (fun y hy => Nat.lt_of_lt_of_le (hAb y hy) kW.size) ht.wf ht.full (Q4X k) ht.two ht.hi (hc.k kW) hQ
 ·intro W W1 a hn
  have h2' : Q4a h n <= 122 := h2
  exact Q7M (f := nil8) hn hcg.wf (by omega)
theorem F2.one_inv {α β : Type} {R : α -> β -> Prop} {a : α} {xs : List β} (h : F2 R [a] xs) : ∃ z, xs = [z] /\ R a z := by
 obtain ⟨z, hz, hr⟩ := h.get (i := 0) (a := a) rfl
 have hl := h.1
 cases xs with
 | nil => simp at hl
 | cons y r =>
  simp at hl
  simp at hz
  subst hz
  cases r with
  | nil => exact ⟨y, rfl, hr⟩
  | cons b c => simp at hl
theorem SL.kid0 {w : World} {g off n cap : Nat} {z : KE} (h : SL w 80 3 (.slice (some ⟨g, off, none⟩) n cap) ([z].map ke)) : (loadVar 80 ⟨g, off, none⟩).run prog w = .ok (.agg #[.string z.1, .int .i64 z.3, z.2]) w := by
 obtain ⟨g', off', cap', cur, e, hg, _, _, _, hcur⟩ := h.at_ (by simp)
 cases e
 have := Q56 (P := prog) (ty := 80) (o := off) _ hg (by simpa using hcur 0 (ke z) rfl) underlying80 stk'
 exact this
theorem Q9V {A : Nat -> Prop} {w w1 w3 W : World} {p0 : Int} {r u : Value} {t : Tr} (hA : ∀ y, A y -> y < w.heap.size) (hk1 : Kept [] (chW w p0 r) w1) (K3 : Kept [] (chW w p0 r) w3)
  (hn : (u = .nilIface /\ t = ⟨0, ([] : List Pr), 0⟩) \/ (ND w3 (fun y => A y \/ w1.heap.size <= y) t.h t.n u /\ nilN t.h t.n = false)) (k4 : Kept [w.heap.size + 1] w3 W) : TChR A t w (.returned (.agg #[.string ⟨#[]⟩, .int .i64 t.pl, u])) W := by
 have s1 := hk1.size
 rw [Q9S] at s1
 have hS : ∀ y ∈ [w.heap.size + 1], ¬ (A y \/ w1.heap.size <= y) := by
  intro y hy
  simp at hy
  subst hy
  rintro (h1 | h1)
  ·have := hA _ h1; omega
  ·omega
 have hT : TV w3 (fun y => A y \/ w1.heap.size <= y) t u := hn
 refine ⟨_, rfl, hT.kept k4 hS ?_, ((Q9R w p0 r).trans K3).trans2 k4 fun y hy => Or.inr (by simp at hy; subst hy; omega)⟩
 rintro y (h1 | h1)
 ·exact Or.inl h1
 ·exact Or.inr (by omega)
theorem Q9W (l : List Pr) (h : nilN 0 l = false) : 0 < Q4a 0 l := by
 cases l with
 | nil => simp [nilN] at h
 | cons a b =>
  have := Q4h a
  show 0 < (List.map psz (a :: b)).sum
  rw [List.map_cons, List.sum_cons]
  omega
theorem Q9X (p : Option Addr) (n c : Nat) (w : World) : (Go.method 433 116 (.slice p n c) "store/tree.kids").run prog w = .ok (237, .slice p n c) w := by kernel_rfl
theorem Q9Y (p : Option Addr) (n c : Nat) (w : World) : (Go.method 433 168 (.slice p n c) "store/tree.kids").run prog w = .ok (256, .slice p n c) w := by kernel_rfl
theorem enL (args : Array Value) (w : World) : (callFunc 237 args).run prog w = .ok (.enter 237 args) w := Q31 func237 (by kernel_rfl) (by kernel_rfl) args w
theorem Q9Z {h : Nat} (n : Nd (h + 1)) (hne : ∀ b : Kid h, n ≠ ([b] : List (Kid h))) : Q4Y (h + 1) [⟨nil8, n, 0⟩] = ⟨h + 1, n, 0⟩ := by
 show lowT (h + 1) n = _
 have : ∀ L : List (Kid h), (∀ b, L ≠ [b]) -> lowT (h + 1) L = ⟨h + 1, L, 0⟩ := by
  intro L hL
  match L, hL with
  | [], _ => rfl
  | [a], hL => exact absurd rfl (hL a)
  | a :: b :: c, _ => rfl
 exact this n hne
theorem Qa0 {F : List Pr -> List Pr} {Q : List Pr -> Prop} {k : ByteArray} {fid : FuncId} {cap : Value} (hF : OpAt F k) {w : World} {A : Nat -> Prop} {h : Nat} {n : Nd (h)} {pl : Nat} {r : Value} (hx : TV w A ⟨h, n, pl⟩ r) (hAb : ∀ y, A y -> y < w.heap.size) (ht : TW ⟨h, n, pl⟩) (hc : Cl F Q fid cap w) (hQ : Q (Q6P k (h) n)) (hs : ¬ Q4a h (chgN F k h n) <= 122) :
  Calls prog 72 #[.agg #[.string ⟨#[]⟩, .int .i64 pl, r], .string k, .func (.func fid) #[] #[cap]] w (TChR A (chgT F k ⟨h, n, pl⟩) w) := by
 have HT : Hid (∀ W, Kept [] w W -> Calls prog 69 #[.agg #[.string ⟨#[]⟩, .int .i64 pl, r]] W _) := fun W kW => Q9F (t := ⟨h, n, pl⟩) (hx.k kW)
 obtain ⟨hch, hfit⟩ := Q9U hF hAb ht hc hQ
 have hcg := Q4S hF (h) nil8 n ht.wf ht.full (Q4X k) ht.two
 have HCh : Hid (∀ W x, Kept [] w W -> ND W A (h) n x -> ∃ fn v, Disp "store/tree.changed" x fn v /\ Calls prog fn #[v, .string k, .func (.func fid) #[] #[cap]] W fun e w' => ∃ a, e = .returned a /\ ND w' (fun y => A y \/ W.heap.size <= y) (h) (chgN F k (h) n) a /\ Kept [] W w') := hch
 have HFit : Hid (∀ (W W1 : World) (a : Value), ND W (fun y => A y \/ W1.heap.size <= y) (h) (chgN F k (h) n) a -> Calls prog 110 #[.string ⟨#[]⟩, a] W (FitR (fun y => A y \/ W1.heap.size <= y) (fitN (h) nil8 (chgN F k (h) n)) W)) := hfit
 have K0 : Hid (Kept [] w (chW w pl r)) := Q9R w pl r
 have R0 : Hid _ := res0 w pl r
 have C0 := Q9T w pl r
 have hrs := hx.shape
 have hone := hx.one
 have eM : fitN h nil8 (chgN F k h n) = [⟨nil8, (Q4q h (chgN F k h n)).1, 0⟩, ⟨Q4t h (Q4q h (chgN F k h n)).2, (Q4q h (chgN F k h n)).2, 0⟩] := by unfold fitN; rw [if_neg hs]
 have hR : chgT F k ⟨h, n, pl⟩ = ⟨h + 1, fitN h nil8 (chgN F k h n), 0⟩ := by
  unfold chgT
  simp only
  rw [eM]
  rfl
 have hl2 : (fitN h nil8 (chgN F k h n)).length = 2 := by rw [eM]; rfl
 rw [hR]
 generalize fitN h nil8 (chgN F k h n) = M at *
 have HA : Hid _ := hAb
 have hbt := Q9O
 have hbt0 := Q9P
 have hbk := Q9Q
 have HWW : Hid ((w.alloc (.cells #[.string ⟨#[]⟩, .int .i64 (pl : Int), r] 82)).alloc (.cells #[.string ⟨#[]⟩, .int .i64 0, .nilIface] 82) = chW w pl r) := rfl
 have d0 : (chW w pl r).cell? ⟨w.heap.size, 0, none⟩ = some (.string ⟨#[]⟩) := Q02 C0 rfl
 have d1 : (chW w pl r).cell? ⟨w.heap.size, 1, none⟩ = some (.int .i64 pl) := Q02 C0 rfl
 have d2 : (chW w pl r).cell? ⟨w.heap.size, 2, none⟩ = some r := Q02 C0 rfl
 clear hch hfit hx hc ht hAb hF hQ hcg hs hR eM
 go_enter func72, ntmps72
 go_wp2_with fail
 rw [HWW.out]
 go_wp2_with (first
   | (go_at_call 69; refine (HT.out _ K0.out).mono ?_; rintro e w1 ⟨x, rfl, hx, hk1⟩; obtain ⟨fn, v1, ⟨t1, ex1, hm1, he1⟩, hcall⟩ := HCh.out w1 x (K0.out.trans hk1) hx; have HC1 : Hid (Calls _ _ _ _ _) := hcall; clear hcall hx; subst ex1)
   | (go_at_fn fn; refine HC1.out.mono ?_; rintro e w2 ⟨a, rfl, hn2, hk2⟩; have HF2 : Hid (Calls _ _ _ _ _) := HFit.out w2 w1 a hn2; obtain ⟨ta, va, ea⟩ := hn2.iface; clear hn2; subst ea)
   | (go_at_call 110; refine HF2.out.mono ?_; rintro e w3 ⟨gv, cv, xs1, rfl, hv3, hf3, hgv, hk3⟩; have hl3 : xs1.length = 2 := (by rw [<- hf3.1]; exact hl2); have K3 : Kept [] (chW w pl r) w3 := (hk1.trans hk2).trans hk3; have hr3 : ResT w (.string ⟨#[]⟩) (.int .i64 0) .nilIface w3 := K3.get R0.out (by simp); have c30 : w3.cell? ⟨w.heap.size + 1, 0, none⟩ = some (.string ⟨#[]⟩) := Q02 hr3 rfl; have c31 : w3.cell? ⟨w.heap.size + 1, 1, none⟩ = some (.int .i64 0) := Q02 hr3 rfl; have c32 : w3.cell? ⟨w.heap.size + 1, 2, none⟩ = some .nilIface := Q02 hr3 rfl; have g30 : w3.frozen? ⟨w.heap.size + 1, 0, none⟩ = false := frozen_of_row _ _ _ _ _ hr3; have g31 : w3.frozen? ⟨w.heap.size + 1, 1, none⟩ = false := frozen_of_row _ _ _ _ _ hr3; have g32 : w3.frozen? ⟨w.heap.size + 1, 2, none⟩ = false := frozen_of_row _ _ _ _ _ hr3; have HV3 : Hid _ := hv3; have HF3 : Hid _ := hf3; clear hv3 hf3; rw [hl3]))
 have hv3 := HV3.out
 rw [hl3] at hv3
 have s2 := hk2.size
 refine bodyPost_ret (results_cell_row rfl _ _ (w.heap.size + 1) 82 #[.string ⟨#[]⟩, .int .i64 0, .iface 168 (.slice (some ⟨gv, 0, none⟩) 2 cv)] (0, 0) _ rfl (Q03 (i := 2) _ (Q03 (i := 1) _ (Q03 (i := 0) _ hr3))) underlying82 rfl stT) rfl ?_
 refine Q9V (t := ⟨h + 1, M, 0⟩) HA.out hk1 K3 (Or.inr ⟨Q6u.2 ⟨_, xs1, rfl, hv3, ?_, HF3.out⟩, rfl⟩) ((((Kept.refl [w.heap.size + 1] w3).setCell (p := ⟨w.heap.size + 1, 0, none⟩) (Or.inl (by simp)) _).setCell (p := ⟨w.heap.size + 1, 1, none⟩) (Or.inl (by simp)) _).setCell (p := ⟨w.heap.size + 1, 2, none⟩) (Or.inl (by simp)) _)
 intro b hb
 simp [Value.ownBlock] at hb
 exact Or.inr (by omega)
theorem Qa1 {F : List Pr -> List Pr} {Q : List Pr -> Prop} {k : ByteArray} {fid : FuncId} {cap : Value} (hF : OpAt F k) {w : World} {A : Nat -> Prop} {n : Nd (0)} {pl : Nat} {r : Value} (hx : TV w A ⟨0, n, pl⟩ r) (hAb : ∀ y, A y -> y < w.heap.size) (ht : TW ⟨0, n, pl⟩) (hc : Cl F Q fid cap w) (hQ : Q (Q6P k (0) n)) (hs : Q4a 0 (chgN F k 0 n) <= 122) (he : chgN F k 0 n = ([] : List Pr)) :
  Calls prog 72 #[.agg #[.string ⟨#[]⟩, .int .i64 pl, r], .string k, .func (.func fid) #[] #[cap]] w (TChR A (chgT F k ⟨0, n, pl⟩) w) := by
 have HT : Hid (∀ W, Kept [] w W -> Calls prog 69 #[.agg #[.string ⟨#[]⟩, .int .i64 pl, r]] W _) := fun W kW => Q9F (t := ⟨0, n, pl⟩) (hx.k kW)
 obtain ⟨hch, hfit⟩ := Q9U hF hAb ht hc hQ
 have hcg := Q4S hF (0) nil8 n ht.wf ht.full (Q4X k) ht.two
 have HCh : Hid (∀ W x, Kept [] w W -> ND W A (0) n x -> ∃ fn v, Disp "store/tree.changed" x fn v /\ Calls prog fn #[v, .string k, .func (.func fid) #[] #[cap]] W fun e w' => ∃ a, e = .returned a /\ ND w' (fun y => A y \/ W.heap.size <= y) (0) (chgN F k (0) n) a /\ Kept [] W w') := hch
 have HFit : Hid (∀ (W W1 : World) (a : Value), ND W (fun y => A y \/ W1.heap.size <= y) (0) (chgN F k (0) n) a -> Calls prog 110 #[.string ⟨#[]⟩, a] W (FitR (fun y => A y \/ W1.heap.size <= y) (fitN (0) nil8 (chgN F k (0) n)) W)) := hfit
 have K0 : Hid (Kept [] w (chW w pl r)) := Q9R w pl r
 have R0 : Hid _ := res0 w pl r
 have C0 := Q9T w pl r
 have hrs := hx.shape
 have hone := hx.one
 have eM : fitN (0) nil8 (chgN F k (0) n) = [⟨nil8, chgN F k (0) n, 0⟩] := by unfold fitN; rw [if_pos hs]
 have hR : chgT F k ⟨0, n, pl⟩ = ⟨0, ([] : List Pr), 0⟩ := by
  unfold chgT
  simp only
  rw [eM, he]
  rfl
 rw [hR]
 rw [eM] at HFit
 have hsm : Sm 0 (chgN F k 0 n) := Sm.of hcg.wf (by omega)
 have HSm : Hid _ := hsm
 have hz0 : ((Q4a 0 (chgN F k 0 n) : Nat) : Int) = 0 := by rw [he]; rfl
 have HA : Hid _ := hAb
 have hbt := Q9O
 have hbt0 := Q9P
 have hbk := Q9Q
 have HWW : Hid ((w.alloc (.cells #[.string ⟨#[]⟩, .int .i64 (pl : Int), r] 82)).alloc (.cells #[.string ⟨#[]⟩, .int .i64 0, .nilIface] 82) = chW w pl r) := rfl
 have d0 : (chW w pl r).cell? ⟨w.heap.size, 0, none⟩ = some (.string ⟨#[]⟩) := Q02 C0 rfl
 have d1 : (chW w pl r).cell? ⟨w.heap.size, 1, none⟩ = some (.int .i64 pl) := Q02 C0 rfl
 have d2 : (chW w pl r).cell? ⟨w.heap.size, 2, none⟩ = some r := Q02 C0 rfl
 clear hch hfit hx hc ht hAb hF hQ hcg hs eM hR hsm
 go_enter func72, ntmps72
 go_wp2_with fail
 rw [HWW.out]
 go_wp2_with (first
   | (go_at_call 69; refine (HT.out _ K0.out).mono ?_; rintro e w1 ⟨x, rfl, hx, hk1⟩; obtain ⟨fn, v1, ⟨t1, ex1, hm1, he1⟩, hcall⟩ := HCh.out w1 x (K0.out.trans hk1) hx; have HC1 : Hid (Calls _ _ _ _ _) := hcall; clear hcall hx; subst ex1)
   | (go_at_fn fn; refine HC1.out.mono ?_; rintro e w2 ⟨a, rfl, hn2, hk2⟩; have HF2 : Hid (Calls _ _ _ _ _) := HFit.out w2 w1 a hn2; obtain ⟨ta, va, ea⟩ := hn2.iface; clear hn2; subst ea)
   | (go_at_call 110; refine HF2.out.mono ?_; rintro e w3 ⟨gv, cv, xs1, rfl, hv3, hf3, hgv, hk3⟩; obtain ⟨z, ez, hz⟩ := F2.one_inv hf3; subst ez; have hl3 : [z].length = 1 := rfl; rw [hl3]; rw [hl3] at hv3; have K3 : Kept [] (chW w pl r) w3 := (hk1.trans hk2).trans hk3; have hr3 : ResT w (.string ⟨#[]⟩) (.int .i64 0) .nilIface w3 := K3.get R0.out (by simp); have c30 : w3.cell? ⟨w.heap.size + 1, 0, none⟩ = some (.string ⟨#[]⟩) := Q02 hr3 rfl; have c31 : w3.cell? ⟨w.heap.size + 1, 1, none⟩ = some (.int .i64 0) := Q02 hr3 rfl; have c32 : w3.cell? ⟨w.heap.size + 1, 2, none⟩ = some .nilIface := Q02 hr3 rfl; have g30 : w3.frozen? ⟨w.heap.size + 1, 0, none⟩ = false := frozen_of_row _ _ _ _ _ hr3; have g31 : w3.frozen? ⟨w.heap.size + 1, 1, none⟩ = false := frozen_of_row _ _ _ _ _ hr3; have g32 : w3.frozen? ⟨w.heap.size + 1, 2, none⟩ = false := frozen_of_row _ _ _ _ _ hr3; have hld := SL.kid0 hv3; rw [hz.1.1, hz.1.2] at hld; have hlt3 : w.heap.size + 1 < w3.heap.size := Q00 hr3; obtain ⟨fS, vS, ⟨tS, exS, hmS, heS⟩, hcS⟩ := Q7a hz.2 HSm.out; have HSz : Hid (∀ W, Kept [] w3 W -> _) := hcS; have HN : Hid _ := hz.2; obtain ⟨v4, ev4, hl4, hA4⟩ := hz.2; rw [ev4] at hld; obtain ⟨p4, c4, es4⟩ := SL.shape hl4; subst es4; generalize (List.map pe (chgN F k 0 n)).length = m4 at *; have hm4 := fun W => Q9X p4 m4 c4 W; have hc4 := enL; rw [ev4] at exS; cases exS; clear hv3 hf3 hl4 hcS)
   | (refine Q04 rfl _ _ (Q0v 165 (.tmp 23) (.const (.int .i64 0)) rfl gv 0 1 cv 0 3 rfl rfl 80 underlying165 stk' (by omega) 0 rfl) ?_)
   | (refine Q0t rfl 80 (.tmp 24) rfl ⟨gv, 0, none⟩ rfl _ hld ?_)
   | (go_at_call 237; refine (Q8f _ _).mono ?_; rintro e w' ⟨rfl, rfl⟩)
   | (go_at_fn fS; refine (HSz.out _ ((Kept.refl [] w3).alloc _)).mono ?_; rintro e w5 ⟨rfl, hk5⟩; have n5 := hk5.get (heap_alloc_new w3 (.cells #[.string ⟨#[]⟩, .int .i64 0, .iface 116 (.slice p4 m4 c4)] 80)) (by simp); have hr5 : ResT w (.string ⟨#[]⟩) (.int .i64 0) .nilIface w5 := (((Kept.refl [] w3).alloc _).trans hk5).get hr3 (by simp); have e50 : w5.cell? ⟨w3.heap.size, 0, none⟩ = some (.string ⟨#[]⟩) := Q02 n5 rfl; have e51 : w5.cell? ⟨w3.heap.size, 1, none⟩ = some (.int .i64 0) := Q02 n5 rfl; have e52 : w5.cell? ⟨w3.heap.size, 2, none⟩ = some (.iface 116 (.slice p4 m4 c4)) := Q02 n5 rfl; have c50 : w5.cell? ⟨w.heap.size + 1, 0, none⟩ = some (.string ⟨#[]⟩) := Q02 hr5 rfl; have c51 : w5.cell? ⟨w.heap.size + 1, 1, none⟩ = some (.int .i64 0) := Q02 hr5 rfl; have c52 : w5.cell? ⟨w.heap.size + 1, 2, none⟩ = some .nilIface := Q02 hr5 rfl; have g50 : w5.frozen? ⟨w.heap.size + 1, 0, none⟩ = false := frozen_of_row _ _ _ _ _ hr5; have g51 : w5.frozen? ⟨w.heap.size + 1, 1, none⟩ = false := frozen_of_row _ _ _ _ _ hr5; have g52 : w5.frozen? ⟨w.heap.size + 1, 2, none⟩ = false := frozen_of_row _ _ _ _ _ hr5))
 have K5 : Kept [] (chW w pl r) w5 := K3.trans (((Kept.refl [] w3).alloc _).trans hk5)
 refine bodyPost_ret (results_cell_row rfl _ _ (w.heap.size + 1) 82 #[.string ⟨#[]⟩, .int .i64 0, .nilIface] (0, 0) _ rfl (Q03 (i := 2) _ (Q03 (i := 1) _ (Q03 (i := 0) _ hr5))) underlying82 rfl stT) rfl ?_
 exact Q9V (t := ⟨0, ([] : List Pr), 0⟩) HA.out hk1 K5 (Or.inl ⟨rfl, rfl⟩) ((((Kept.refl [w.heap.size + 1] w5).setCell (p := ⟨w.heap.size + 1, 0, none⟩) (Or.inl (by simp)) _).setCell (p := ⟨w.heap.size + 1, 1, none⟩) (Or.inl (by simp)) _).setCell (p := ⟨w.heap.size + 1, 2, none⟩) (Or.inl (by simp)) _)
theorem Qa2 {F : List Pr -> List Pr} {Q : List Pr -> Prop} {k : ByteArray} {fid : FuncId} {cap : Value} (hF : OpAt F k) {w : World} {A : Nat -> Prop} {n : Nd (0)} {pl : Nat} {r : Value} (hx : TV w A ⟨0, n, pl⟩ r) (hAb : ∀ y, A y -> y < w.heap.size) (ht : TW ⟨0, n, pl⟩) (hc : Cl F Q fid cap w) (hQ : Q (Q6P k (0) n)) (hs : Q4a 0 (chgN F k 0 n) <= 122) (he : nilN 0 (chgN F k 0 n) = false) :
  Calls prog 72 #[.agg #[.string ⟨#[]⟩, .int .i64 pl, r], .string k, .func (.func fid) #[] #[cap]] w (TChR A (chgT F k ⟨0, n, pl⟩) w) := by
 have HT : Hid (∀ W, Kept [] w W -> Calls prog 69 #[.agg #[.string ⟨#[]⟩, .int .i64 pl, r]] W _) := fun W kW => Q9F (t := ⟨0, n, pl⟩) (hx.k kW)
 obtain ⟨hch, hfit⟩ := Q9U hF hAb ht hc hQ
 have hcg := Q4S hF (0) nil8 n ht.wf ht.full (Q4X k) ht.two
 have HCh : Hid (∀ W x, Kept [] w W -> ND W A (0) n x -> ∃ fn v, Disp "store/tree.changed" x fn v /\ Calls prog fn #[v, .string k, .func (.func fid) #[] #[cap]] W fun e w' => ∃ a, e = .returned a /\ ND w' (fun y => A y \/ W.heap.size <= y) (0) (chgN F k (0) n) a /\ Kept [] W w') := hch
 have HFit : Hid (∀ (W W1 : World) (a : Value), ND W (fun y => A y \/ W1.heap.size <= y) (0) (chgN F k (0) n) a -> Calls prog 110 #[.string ⟨#[]⟩, a] W (FitR (fun y => A y \/ W1.heap.size <= y) (fitN (0) nil8 (chgN F k (0) n)) W)) := hfit
 have K0 : Hid (Kept [] w (chW w pl r)) := Q9R w pl r
 have R0 : Hid _ := res0 w pl r
 have C0 := Q9T w pl r
 have hrs := hx.shape
 have hone := hx.one
 have eM : fitN (0) nil8 (chgN F k (0) n) = [⟨nil8, chgN F k (0) n, 0⟩] := by unfold fitN; rw [if_pos hs]
 have hR : chgT F k ⟨0, n, pl⟩ = ⟨0, chgN F k 0 n, 0⟩ := by
  unfold chgT
  simp only
  rw [eM]
  rfl
 rw [hR]
 rw [eM] at HFit
 have hsm : Sm 0 (chgN F k 0 n) := Sm.of hcg.wf (by omega)
 have HSm : Hid _ := hsm
 have hz0 : ¬ ((Q4a 0 (chgN F k 0 n) : Nat) : Int) = 0 := by have := Q9W _ he; omega
 have HA : Hid _ := hAb
 have hbt := Q9O
 have hbt0 := Q9P
 have hbk := Q9Q
 have HWW : Hid ((w.alloc (.cells #[.string ⟨#[]⟩, .int .i64 (pl : Int), r] 82)).alloc (.cells #[.string ⟨#[]⟩, .int .i64 0, .nilIface] 82) = chW w pl r) := rfl
 have d0 : (chW w pl r).cell? ⟨w.heap.size, 0, none⟩ = some (.string ⟨#[]⟩) := Q02 C0 rfl
 have d1 : (chW w pl r).cell? ⟨w.heap.size, 1, none⟩ = some (.int .i64 pl) := Q02 C0 rfl
 have d2 : (chW w pl r).cell? ⟨w.heap.size, 2, none⟩ = some r := Q02 C0 rfl
 clear hch hfit hx hc ht hAb hF hQ hcg hs eM hR hsm
 go_enter func72, ntmps72
 go_wp2_with fail
 rw [HWW.out]
 go_wp2_with (first
   | (go_at_call 69; refine (HT.out _ K0.out).mono ?_; rintro e w1 ⟨x, rfl, hx, hk1⟩; obtain ⟨fn, v1, ⟨t1, ex1, hm1, he1⟩, hcall⟩ := HCh.out w1 x (K0.out.trans hk1) hx; have HC1 : Hid (Calls _ _ _ _ _) := hcall; clear hcall hx; subst ex1)
   | (go_at_fn fn; refine HC1.out.mono ?_; rintro e w2 ⟨a, rfl, hn2, hk2⟩; have HF2 : Hid (Calls _ _ _ _ _) := HFit.out w2 w1 a hn2; obtain ⟨ta, va, ea⟩ := hn2.iface; clear hn2; subst ea)
   | (go_at_call 110; refine HF2.out.mono ?_; rintro e w3 ⟨gv, cv, xs1, rfl, hv3, hf3, hgv, hk3⟩; obtain ⟨z, ez, hz⟩ := F2.one_inv hf3; subst ez; have hl3 : [z].length = 1 := rfl; rw [hl3]; rw [hl3] at hv3; have K3 : Kept [] (chW w pl r) w3 := (hk1.trans hk2).trans hk3; have hr3 : ResT w (.string ⟨#[]⟩) (.int .i64 0) .nilIface w3 := K3.get R0.out (by simp); have c30 : w3.cell? ⟨w.heap.size + 1, 0, none⟩ = some (.string ⟨#[]⟩) := Q02 hr3 rfl; have c31 : w3.cell? ⟨w.heap.size + 1, 1, none⟩ = some (.int .i64 0) := Q02 hr3 rfl; have c32 : w3.cell? ⟨w.heap.size + 1, 2, none⟩ = some .nilIface := Q02 hr3 rfl; have g30 : w3.frozen? ⟨w.heap.size + 1, 0, none⟩ = false := frozen_of_row _ _ _ _ _ hr3; have g31 : w3.frozen? ⟨w.heap.size + 1, 1, none⟩ = false := frozen_of_row _ _ _ _ _ hr3; have g32 : w3.frozen? ⟨w.heap.size + 1, 2, none⟩ = false := frozen_of_row _ _ _ _ _ hr3; have hld := SL.kid0 hv3; rw [hz.1.1, hz.1.2] at hld; have hlt3 : w.heap.size + 1 < w3.heap.size := Q00 hr3; obtain ⟨fS, vS, ⟨tS, exS, hmS, heS⟩, hcS⟩ := Q7a hz.2 HSm.out; have HSz : Hid (∀ W, Kept [] w3 W -> _) := hcS; have HN : Hid _ := hz.2; obtain ⟨v4, ev4, hl4, hA4⟩ := hz.2; rw [ev4] at hld; obtain ⟨p4, c4, es4⟩ := SL.shape hl4; subst es4; generalize (List.map pe (chgN F k 0 n)).length = m4 at *; have hm4 := fun W => Q9X p4 m4 c4 W; have hc4 := enL; rw [ev4] at exS; cases exS; clear hv3 hf3 hl4 hcS)
   | (refine Q04 rfl _ _ (Q0v 165 (.tmp 23) (.const (.int .i64 0)) rfl gv 0 1 cv 0 3 rfl rfl 80 underlying165 stk' (by omega) 0 rfl) ?_)
   | (refine Q0t rfl 80 (.tmp 24) rfl ⟨gv, 0, none⟩ rfl _ hld ?_)
   | (go_at_call 237; refine (Q8f _ _).mono ?_; rintro e w' ⟨rfl, rfl⟩)
   | (go_at_fn fS; refine (HSz.out _ ((Kept.refl [] w3).alloc _)).mono ?_; rintro e w5 ⟨rfl, hk5⟩; have n5 := hk5.get (heap_alloc_new w3 (.cells #[.string ⟨#[]⟩, .int .i64 0, .iface 116 (.slice p4 m4 c4)] 80)) (by simp); have hr5 : ResT w (.string ⟨#[]⟩) (.int .i64 0) .nilIface w5 := (((Kept.refl [] w3).alloc _).trans hk5).get hr3 (by simp); have e50 : w5.cell? ⟨w3.heap.size, 0, none⟩ = some (.string ⟨#[]⟩) := Q02 n5 rfl; have e51 : w5.cell? ⟨w3.heap.size, 1, none⟩ = some (.int .i64 0) := Q02 n5 rfl; have e52 : w5.cell? ⟨w3.heap.size, 2, none⟩ = some (.iface 116 (.slice p4 m4 c4)) := Q02 n5 rfl; have c50 : w5.cell? ⟨w.heap.size + 1, 0, none⟩ = some (.string ⟨#[]⟩) := Q02 hr5 rfl; have c51 : w5.cell? ⟨w.heap.size + 1, 1, none⟩ = some (.int .i64 0) := Q02 hr5 rfl; have c52 : w5.cell? ⟨w.heap.size + 1, 2, none⟩ = some .nilIface := Q02 hr5 rfl; have g50 : w5.frozen? ⟨w.heap.size + 1, 0, none⟩ = false := frozen_of_row _ _ _ _ _ hr5; have g51 : w5.frozen? ⟨w.heap.size + 1, 1, none⟩ = false := frozen_of_row _ _ _ _ _ hr5; have g52 : w5.frozen? ⟨w.heap.size + 1, 2, none⟩ = false := frozen_of_row _ _ _ _ _ hr5))
 have K5 : Kept [] (chW w pl r) w5 := K3.trans (((Kept.refl [] w3).alloc _).trans hk5)
 refine bodyPost_ret (results_cell_row rfl _ _ (w.heap.size + 1) 82 #[.string ⟨#[]⟩, .int .i64 0, .iface 116 (.slice p4 m4 c4)] (0, 0) _ rfl (Q03 (i := 2) _ (Q03 (i := 1) _ (Q03 (i := 0) _ hr5))) underlying82 rfl stT) rfl ?_
 exact Q9V (t := ⟨0, chgN F k 0 n, 0⟩) HA.out hk1 K5 (Or.inr ⟨ND.k (ev4 ▸ HN.out) (((Kept.refl [] w3).alloc _).trans hk5), he⟩) ((((Kept.refl [w.heap.size + 1] w5).setCell (p := ⟨w.heap.size + 1, 0, none⟩) (Or.inl (by simp)) _).setCell (p := ⟨w.heap.size + 1, 1, none⟩) (Or.inl (by simp)) _).setCell (p := ⟨w.heap.size + 1, 2, none⟩) (Or.inl (by simp)) _)
theorem Qa3 {F : List Pr -> List Pr} {Q : List Pr -> Prop} {k : ByteArray} {fid : FuncId} {cap : Value} (hF : OpAt F k) {w : World} {A : Nat -> Prop} {h : Nat} {n : Nd (h + 1)} {pl : Nat} {r : Value} (hx : TV w A ⟨h + 1, n, pl⟩ r) (hAb : ∀ y, A y -> y < w.heap.size) (ht : TW ⟨h + 1, n, pl⟩) (hc : Cl F Q fid cap w) (hQ : Q (Q6P k (h + 1) n)) (hs : Q4a (h + 1) (chgN F k (h + 1) n) <= 122) {b : Kid h} (hb : chgN F k (h + 1) n = ([b] : List (Kid h))) :
  Calls prog 72 #[.agg #[.string ⟨#[]⟩, .int .i64 pl, r], .string k, .func (.func fid) #[] #[cap]] w (TChR A (chgT F k ⟨h + 1, n, pl⟩) w) := by
 have HT : Hid (∀ W, Kept [] w W -> Calls prog 69 #[.agg #[.string ⟨#[]⟩, .int .i64 pl, r]] W _) := fun W kW => Q9F (t := ⟨h + 1, n, pl⟩) (hx.k kW)
 obtain ⟨hch, hfit⟩ := Q9U hF hAb ht hc hQ
 have hcg := Q4S hF (h + 1) nil8 n ht.wf ht.full (Q4X k) ht.two
 have HCh : Hid (∀ W x, Kept [] w W -> ND W A (h + 1) n x -> ∃ fn v, Disp "store/tree.changed" x fn v /\ Calls prog fn #[v, .string k, .func (.func fid) #[] #[cap]] W fun e w' => ∃ a, e = .returned a /\ ND w' (fun y => A y \/ W.heap.size <= y) (h + 1) (chgN F k (h + 1) n) a /\ Kept [] W w') := hch
 have HFit : Hid (∀ (W W1 : World) (a : Value), ND W (fun y => A y \/ W1.heap.size <= y) (h + 1) (chgN F k (h + 1) n) a -> Calls prog 110 #[.string ⟨#[]⟩, a] W (FitR (fun y => A y \/ W1.heap.size <= y) (fitN (h + 1) nil8 (chgN F k (h + 1) n)) W)) := hfit
 have K0 : Hid (Kept [] w (chW w pl r)) := Q9R w pl r
 have R0 : Hid _ := res0 w pl r
 have C0 := Q9T w pl r
 have hrs := hx.shape
 have hone := hx.one
 have eM : fitN (h + 1) nil8 (chgN F k (h + 1) n) = [⟨nil8, chgN F k (h + 1) n, 0⟩] := by unfold fitN; rw [if_pos hs]
 have hR : chgT F k ⟨h + 1, n, pl⟩ = ⟨h, b.2, b.3⟩ := by
  unfold chgT
  simp only
  rw [eM, hb]
  rfl
 rw [hR]
 rw [eM] at HFit
 have hbw : b.1 = nil8 /\ WFN h b.1 b.2 /\ Rt h b.2 := by
  have hw := hcg.wf
  have hfl := hcg.full
  rw [hb] at hw hfl
  obtain ⟨⟨n0, x0, r0, e0⟩, hk⟩ := (Q4i h nil8 [b]).1 hw
  have e1 := (List.cons.inj e0).1
  exact ⟨by rw [e1], hk.all b (by simp), ((Q4k h [b]).1 hfl b (by simp)).1⟩
 obtain ⟨hb1, hbw, hbr⟩ := hbw
 have hsm : Sm h b.2 := Sm.of hbw (by have := hbr.2; omega)
 have HSm : Hid _ := hsm
 have hz0 : ¬ ((Q4a h b.2 : Nat) : Int) = 0 := by have := hbr.1; omega
 have hnil : nilN h b.2 = false := by
  cases hc : nilN h b.2 with
  | false => rfl
  | true => have := Q4Z h b.2 hc; omega
 have HB : Hid _ := hb
 have HB1 : Hid _ := hb1
 have HA : Hid _ := hAb
 have hbt := Q9O
 have hbt0 := Q9P
 have hbk := Q9Q
 have HWW : Hid ((w.alloc (.cells #[.string ⟨#[]⟩, .int .i64 (pl : Int), r] 82)).alloc (.cells #[.string ⟨#[]⟩, .int .i64 0, .nilIface] 82) = chW w pl r) := rfl
 have d0 : (chW w pl r).cell? ⟨w.heap.size, 0, none⟩ = some (.string ⟨#[]⟩) := Q02 C0 rfl
 have d1 : (chW w pl r).cell? ⟨w.heap.size, 1, none⟩ = some (.int .i64 pl) := Q02 C0 rfl
 have d2 : (chW w pl r).cell? ⟨w.heap.size, 2, none⟩ = some r := Q02 C0 rfl
 clear hch hfit hx hc ht hAb hF hQ hcg hs eM hR hsm hb hb1 hbw hbr
 go_enter func72, ntmps72
 go_wp2_with fail
 rw [HWW.out]
 go_wp2_with (first
   | (go_at_call 69; refine (HT.out _ K0.out).mono ?_; rintro e w1 ⟨x, rfl, hx, hk1⟩; obtain ⟨fn, v1, ⟨t1, ex1, hm1, he1⟩, hcall⟩ := HCh.out w1 x (K0.out.trans hk1) hx; have HC1 : Hid (Calls _ _ _ _ _) := hcall; clear hcall hx; subst ex1)
   | (go_at_fn fn; refine HC1.out.mono ?_; rintro e w2 ⟨a, rfl, hn2, hk2⟩; have HF2 : Hid (Calls _ _ _ _ _) := HFit.out w2 w1 a hn2; obtain ⟨ta, va, ea⟩ := hn2.iface; clear hn2; subst ea)
   | (go_at_call 110; refine HF2.out.mono ?_; rintro e w3 ⟨gv, cv, xs1, rfl, hv3, hf3, hgv, hk3⟩; obtain ⟨z, ez, hz⟩ := F2.one_inv hf3; subst ez; have hl3 : [z].length = 1 := rfl; rw [hl3]; rw [hl3] at hv3; have K3 : Kept [] (chW w pl r) w3 := (hk1.trans hk2).trans hk3; have hr3 : ResT w (.string ⟨#[]⟩) (.int .i64 0) .nilIface w3 := K3.get R0.out (by simp); have c30 : w3.cell? ⟨w.heap.size + 1, 0, none⟩ = some (.string ⟨#[]⟩) := Q02 hr3 rfl; have c31 : w3.cell? ⟨w.heap.size + 1, 1, none⟩ = some (.int .i64 0) := Q02 hr3 rfl; have c32 : w3.cell? ⟨w.heap.size + 1, 2, none⟩ = some .nilIface := Q02 hr3 rfl; have g30 : w3.frozen? ⟨w.heap.size + 1, 0, none⟩ = false := frozen_of_row _ _ _ _ _ hr3; have g31 : w3.frozen? ⟨w.heap.size + 1, 1, none⟩ = false := frozen_of_row _ _ _ _ _ hr3; have g32 : w3.frozen? ⟨w.heap.size + 1, 2, none⟩ = false := frozen_of_row _ _ _ _ _ hr3; have hld := SL.kid0 hv3; rw [hz.1.1, hz.1.2] at hld; have hlt3 : w.heap.size + 1 < w3.heap.size := Q00 hr3; have hz2 : ND w3 (fun y => A y \/ w1.heap.size <= y) (h + 1) [b] z.2 := HB.out ▸ hz.2; obtain ⟨v4, xs4, ev4, hl4, hA4, hf4⟩ := Q6u.1 hz2; rw [ev4] at hld; obtain ⟨y4, ey4, hy4⟩ := F2.one_inv hf4; subst ey4; obtain ⟨g4, off4, cap4, cur4, ev5, hg4, _⟩ := hl4.at_ (by simp); subst ev5; have hl4k := hl4; have hl5 : (List.map ke [y4]).length = 1 := rfl; rw [hl5] at hld; obtain ⟨fS, vS, ⟨tS, exS, hmS, heS⟩, hcS⟩ := Q7a hy4.2 HSm.out; have HSz : Hid (∀ W, Kept [] w3 W -> _) := hcS; have HN : Hid _ := hy4.2; have hld4' : ∀ o : Obj, (loadVar 80 ⟨g4, off4, none⟩).run prog (w3.alloc o) = .ok (.agg #[.string nil8, .int .i64 b.3, .iface tS vS]) (w3.alloc o) := (fun o => by have := SL.kid0 (hl4k.kept ((Kept.refl [] w3).alloc o)); rw [hy4.1.1, hy4.1.2, HB1.out, exS] at this; exact this); have hm4 := fun W => Q9Y (some ⟨g4, off4, none⟩) 1 cap4 W; clear hv3 hf3 hcS hl4 hf4 hl4k)
   | (refine Q04 rfl _ _ (Q0v 165 (.tmp 23) (.const (.int .i64 0)) rfl gv 0 1 cv 0 3 rfl rfl 80 underlying165 stk' (by omega) 0 rfl) ?_)
   | (refine Q0t rfl 80 (.tmp 24) rfl ⟨gv, 0, none⟩ rfl _ hld ?_)
   | (go_at_call 256; refine (Q8g _ _ _ _).mono ?_; rintro e w' ⟨rfl, rfl⟩)
   | (refine Q04 rfl _ _ (Q0v 165 (.tmp 32) (.const (.int .i64 0)) rfl g4 off4 1 cap4 0 3 rfl rfl 80 underlying165 stk' (by omega) off4 (by omega)) ?_)
   | (refine Q0t rfl 80 (.tmp 33) rfl ⟨g4, off4, none⟩ rfl _ (hld4' _) ?_)
   | (go_at_fn fS; refine (HSz.out _ ((Kept.refl [] w3).alloc _)).mono ?_; rintro e w5 ⟨rfl, hk5⟩; have n5 := hk5.get (heap_alloc_new w3 (.cells #[.string ⟨#[]⟩, .int .i64 b.3, .iface tS vS] 80)) (by simp); have hr5 : ResT w (.string ⟨#[]⟩) (.int .i64 0) .nilIface w5 := (((Kept.refl [] w3).alloc _).trans hk5).get hr3 (by simp); have e50 : w5.cell? ⟨w3.heap.size, 0, none⟩ = some (.string ⟨#[]⟩) := Q02 n5 rfl; have e51 : w5.cell? ⟨w3.heap.size, 1, none⟩ = some (.int .i64 b.3) := Q02 n5 rfl; have e52 : w5.cell? ⟨w3.heap.size, 2, none⟩ = some (.iface tS vS) := Q02 n5 rfl; have c50 : w5.cell? ⟨w.heap.size + 1, 0, none⟩ = some (.string ⟨#[]⟩) := Q02 hr5 rfl; have c51 : w5.cell? ⟨w.heap.size + 1, 1, none⟩ = some (.int .i64 0) := Q02 hr5 rfl; have c52 : w5.cell? ⟨w.heap.size + 1, 2, none⟩ = some .nilIface := Q02 hr5 rfl; have g50 : w5.frozen? ⟨w.heap.size + 1, 0, none⟩ = false := frozen_of_row _ _ _ _ _ hr5; have g51 : w5.frozen? ⟨w.heap.size + 1, 1, none⟩ = false := frozen_of_row _ _ _ _ _ hr5; have g52 : w5.frozen? ⟨w.heap.size + 1, 2, none⟩ = false := frozen_of_row _ _ _ _ _ hr5))
 have K5 : Kept [] (chW w pl r) w5 := K3.trans (((Kept.refl [] w3).alloc _).trans hk5)
 refine bodyPost_ret (results_cell_row rfl _ _ (w.heap.size + 1) 82 #[.string ⟨#[]⟩, .int .i64 b.3, .iface tS vS] (0, 0) _ rfl (Q03 (i := 2) _ (Q03 (i := 1) _ (Q03 (i := 0) _ hr5))) underlying82 rfl stT) rfl ?_
 exact Q9V (t := ⟨h, b.2, b.3⟩) HA.out hk1 K5 (Or.inr ⟨ND.k (exS ▸ HN.out) (((Kept.refl [] w3).alloc _).trans hk5), hnil⟩) ((((Kept.refl [w.heap.size + 1] w5).setCell (p := ⟨w.heap.size + 1, 0, none⟩) (Or.inl (by simp)) _).setCell (p := ⟨w.heap.size + 1, 1, none⟩) (Or.inl (by simp)) _).setCell (p := ⟨w.heap.size + 1, 2, none⟩) (Or.inl (by simp)) _)
theorem Qa4 {F : List Pr -> List Pr} {Q : List Pr -> Prop} {k : ByteArray} {fid : FuncId} {cap : Value} (hF : OpAt F k) {w : World} {A : Nat -> Prop} {h : Nat} {n : Nd (h + 1)} {pl : Nat} {r : Value} (hx : TV w A ⟨h + 1, n, pl⟩ r) (hAb : ∀ y, A y -> y < w.heap.size) (ht : TW ⟨h + 1, n, pl⟩) (hc : Cl F Q fid cap w) (hQ : Q (Q6P k (h + 1) n)) (hs : Q4a (h + 1) (chgN F k (h + 1) n) <= 122) (hne : ∀ b : Kid h, chgN F k (h + 1) n ≠ ([b] : List (Kid h))) :
  Calls prog 72 #[.agg #[.string ⟨#[]⟩, .int .i64 pl, r], .string k, .func (.func fid) #[] #[cap]] w (TChR A (chgT F k ⟨h + 1, n, pl⟩) w) := by
 have HT : Hid (∀ W, Kept [] w W -> Calls prog 69 #[.agg #[.string ⟨#[]⟩, .int .i64 pl, r]] W _) := fun W kW => Q9F (t := ⟨h + 1, n, pl⟩) (hx.k kW)
 obtain ⟨hch, hfit⟩ := Q9U hF hAb ht hc hQ
 have hcg := Q4S hF (h + 1) nil8 n ht.wf ht.full (Q4X k) ht.two
 have HCh : Hid (∀ W x, Kept [] w W -> ND W A (h + 1) n x -> ∃ fn v, Disp "store/tree.changed" x fn v /\ Calls prog fn #[v, .string k, .func (.func fid) #[] #[cap]] W fun e w' => ∃ a, e = .returned a /\ ND w' (fun y => A y \/ W.heap.size <= y) (h + 1) (chgN F k (h + 1) n) a /\ Kept [] W w') := hch
 have HFit : Hid (∀ (W W1 : World) (a : Value), ND W (fun y => A y \/ W1.heap.size <= y) (h + 1) (chgN F k (h + 1) n) a -> Calls prog 110 #[.string ⟨#[]⟩, a] W (FitR (fun y => A y \/ W1.heap.size <= y) (fitN (h + 1) nil8 (chgN F k (h + 1) n)) W)) := hfit
 have K0 : Hid (Kept [] w (chW w pl r)) := Q9R w pl r
 have R0 : Hid _ := res0 w pl r
 have C0 := Q9T w pl r
 have hrs := hx.shape
 have hone := hx.one
 have eM : fitN (h + 1) nil8 (chgN F k (h + 1) n) = [⟨nil8, chgN F k (h + 1) n, 0⟩] := by unfold fitN; rw [if_pos hs]
 have hR : chgT F k ⟨h + 1, n, pl⟩ = ⟨h + 1, chgN F k (h + 1) n, 0⟩ := by
  unfold chgT
  simp only
  rw [eM]
  exact Q9Z _ hne
 rw [hR]
 rw [eM] at HFit
 have hsm : Sm (h + 1) (chgN F k (h + 1) n) := Sm.of hcg.wf (by omega)
 have HSm : Hid _ := hsm
 have hpos : 0 < List.length (α := Kid h) (chgN F k (h + 1) n) := by
  obtain ⟨⟨n0, x0, r0, e0⟩, _⟩ := (Q4i h nil8 _).1 hcg.wf
  rw [e0]
  simp
 have hz0 : ¬ ((Q4a (h + 1) (chgN F k (h + 1) n) : Nat) : Int) = 0 := by
  have : Q4a (h + 1) (chgN F k (h + 1) n) = 11 * List.length (α := Kid h) (chgN F k (h + 1) n) := rfl
  omega
 have hn1 : ¬ ((List.length (α := Kid h) (chgN F k (h + 1) n) : Nat) : Int) = 1 := by
  intro e1
  have e2 : List.length (α := Kid h) (chgN F k (h + 1) n) = 1 := by omega
  obtain ⟨b, hb⟩ := List.length_eq_one_iff.1 e2
  exact hne b hb
 have HN1 : Hid _ := hn1
 clear hn1
 have HA : Hid _ := hAb
 have hbt := Q9O
 have hbt0 := Q9P
 have hbk := Q9Q
 have HWW : Hid ((w.alloc (.cells #[.string ⟨#[]⟩, .int .i64 (pl : Int), r] 82)).alloc (.cells #[.string ⟨#[]⟩, .int .i64 0, .nilIface] 82) = chW w pl r) := rfl
 have d0 : (chW w pl r).cell? ⟨w.heap.size, 0, none⟩ = some (.string ⟨#[]⟩) := Q02 C0 rfl
 have d1 : (chW w pl r).cell? ⟨w.heap.size, 1, none⟩ = some (.int .i64 pl) := Q02 C0 rfl
 have d2 : (chW w pl r).cell? ⟨w.heap.size, 2, none⟩ = some r := Q02 C0 rfl
 clear hch hfit hx hc ht hAb hF hQ hcg hs eM hR hsm hne
 go_enter func72, ntmps72
 go_wp2_with fail
 rw [HWW.out]
 go_wp2_with (first
   | (go_at_call 69; refine (HT.out _ K0.out).mono ?_; rintro e w1 ⟨x, rfl, hx, hk1⟩; obtain ⟨fn, v1, ⟨t1, ex1, hm1, he1⟩, hcall⟩ := HCh.out w1 x (K0.out.trans hk1) hx; have HC1 : Hid (Calls _ _ _ _ _) := hcall; clear hcall hx; subst ex1)
   | (go_at_fn fn; refine HC1.out.mono ?_; rintro e w2 ⟨a, rfl, hn2, hk2⟩; have HF2 : Hid (Calls _ _ _ _ _) := HFit.out w2 w1 a hn2; obtain ⟨ta, va, ea⟩ := hn2.iface; clear hn2; subst ea)
   | (go_at_call 110; refine HF2.out.mono ?_; rintro e w3 ⟨gv, cv, xs1, rfl, hv3, hf3, hgv, hk3⟩; obtain ⟨z, ez, hz⟩ := F2.one_inv hf3; subst ez; have hl3 : [z].length = 1 := rfl; rw [hl3]; rw [hl3] at hv3; have K3 : Kept [] (chW w pl r) w3 := (hk1.trans hk2).trans hk3; have hr3 : ResT w (.string ⟨#[]⟩) (.int .i64 0) .nilIface w3 := K3.get R0.out (by simp); have c30 : w3.cell? ⟨w.heap.size + 1, 0, none⟩ = some (.string ⟨#[]⟩) := Q02 hr3 rfl; have c31 : w3.cell? ⟨w.heap.size + 1, 1, none⟩ = some (.int .i64 0) := Q02 hr3 rfl; have c32 : w3.cell? ⟨w.heap.size + 1, 2, none⟩ = some .nilIface := Q02 hr3 rfl; have g30 : w3.frozen? ⟨w.heap.size + 1, 0, none⟩ = false := frozen_of_row _ _ _ _ _ hr3; have g31 : w3.frozen? ⟨w.heap.size + 1, 1, none⟩ = false := frozen_of_row _ _ _ _ _ hr3; have g32 : w3.frozen? ⟨w.heap.size + 1, 2, none⟩ = false := frozen_of_row _ _ _ _ _ hr3; have hld := SL.kid0 hv3; rw [hz.1.1, hz.1.2] at hld; have hlt3 : w.heap.size + 1 < w3.heap.size := Q00 hr3; obtain ⟨fS, vS, ⟨tS, exS, hmS, heS⟩, hcS⟩ := Q7a hz.2 HSm.out; have HSz : Hid (∀ W, Kept [] w3 W -> _) := hcS; have HN : Hid _ := hz.2; obtain ⟨v4, xs4, ev4, hl4, hA4, hf4⟩ := Q6u.1 hz.2; rw [ev4] at hld; obtain ⟨p4, c4, es4⟩ := SL.shape hl4; have hln4 : (xs4.map ke).length = List.length (α := Kid h) (chgN F k (h + 1) n) := (by rw [List.length_map, hf4.1]); rw [hln4] at es4; subst es4; have hn4 := HN1.out; generalize List.length (α := Kid h) (chgN F k (h + 1) n) = m4 at *; have hn4b : ((m4 : Int) == 1) = false := (by simpa using hn4); have hm4 := fun W => Q9Y p4 m4 c4 W; rw [ev4] at exS; cases exS; clear hv3 hf3 hl4 hcS hln4)
   | (refine Q04 rfl _ _ (Q0v 165 (.tmp 23) (.const (.int .i64 0)) rfl gv 0 1 cv 0 3 rfl rfl 80 underlying165 stk' (by omega) 0 rfl) ?_)
   | (refine Q0t rfl 80 (.tmp 24) rfl ⟨gv, 0, none⟩ rfl _ hld ?_)
   | (go_at_call 256; refine (Q8g _ _ _ _).mono ?_; rintro e w' ⟨rfl, rfl⟩)
   | (go_at_fn fS; refine (HSz.out _ ((Kept.refl [] w3).alloc _)).mono ?_; rintro e w5 ⟨rfl, hk5⟩; have n5 := hk5.get (heap_alloc_new w3 (.cells #[.string ⟨#[]⟩, .int .i64 0, .iface 168 (.slice p4 m4 c4)] 80)) (by simp); have hr5 : ResT w (.string ⟨#[]⟩) (.int .i64 0) .nilIface w5 := (((Kept.refl [] w3).alloc _).trans hk5).get hr3 (by simp); have e50 : w5.cell? ⟨w3.heap.size, 0, none⟩ = some (.string ⟨#[]⟩) := Q02 n5 rfl; have e51 : w5.cell? ⟨w3.heap.size, 1, none⟩ = some (.int .i64 0) := Q02 n5 rfl; have e52 : w5.cell? ⟨w3.heap.size, 2, none⟩ = some (.iface 168 (.slice p4 m4 c4)) := Q02 n5 rfl; have c50 : w5.cell? ⟨w.heap.size + 1, 0, none⟩ = some (.string ⟨#[]⟩) := Q02 hr5 rfl; have c51 : w5.cell? ⟨w.heap.size + 1, 1, none⟩ = some (.int .i64 0) := Q02 hr5 rfl; have c52 : w5.cell? ⟨w.heap.size + 1, 2, none⟩ = some .nilIface := Q02 hr5 rfl; have g50 : w5.frozen? ⟨w.heap.size + 1, 0, none⟩ = false := frozen_of_row _ _ _ _ _ hr5; have g51 : w5.frozen? ⟨w.heap.size + 1, 1, none⟩ = false := frozen_of_row _ _ _ _ _ hr5; have g52 : w5.frozen? ⟨w.heap.size + 1, 2, none⟩ = false := frozen_of_row _ _ _ _ _ hr5))
 have K5 : Kept [] (chW w pl r) w5 := K3.trans (((Kept.refl [] w3).alloc _).trans hk5)
 refine bodyPost_ret (results_cell_row rfl _ _ (w.heap.size + 1) 82 #[.string ⟨#[]⟩, .int .i64 0, .iface 168 (.slice p4 m4 c4)] (0, 0) _ rfl (Q03 (i := 2) _ (Q03 (i := 1) _ (Q03 (i := 0) _ hr5))) underlying82 rfl stT) rfl ?_
 exact Q9V (t := ⟨h + 1, chgN F k (h + 1) n, 0⟩) HA.out hk1 K5 (Or.inr ⟨ND.k (ev4 ▸ HN.out) (((Kept.refl [] w3).alloc _).trans hk5), rfl⟩) ((((Kept.refl [w.heap.size + 1] w5).setCell (p := ⟨w.heap.size + 1, 0, none⟩) (Or.inl (by simp)) _).setCell (p := ⟨w.heap.size + 1, 1, none⟩) (Or.inl (by simp)) _).setCell (p := ⟨w.heap.size + 1, 2, none⟩) (Or.inl (by simp)) _)
theorem Qa5 {F : List Pr -> List Pr} {Q : List Pr -> Prop} {k : ByteArray} {fid : FuncId} {cap : Value} (hF : OpAt F k) {w : World} {A : Nat -> Prop} {t : Tr} {r : Value} (hx : TV w A t r) (hAb : ∀ y, A y -> y < w.heap.size) (ht : TW t) (hc : Cl F Q fid cap w) (hQ : Q (Q6P k t.h t.n)) :
  Calls prog 72 #[.agg #[.string ⟨#[]⟩, .int .i64 t.pl, r], .string k, .func (.func fid) #[] #[cap]] w (TChR A (chgT F k t) w) := by
 obtain ⟨h, n, pl⟩ := t
 by_cases hs : Q4a h (chgN F k h n) <= 122
 ·cases h with
  | zero =>
   cases he : nilN 0 (chgN F k 0 n) with
   | false => exact Qa2 hF hx hAb ht hc hQ hs he
   | true => exact Qa1 hF hx hAb ht hc hQ hs (List.isEmpty_iff.1 he)
  | succ h =>
   by_cases hb : ∃ b : Kid h, chgN F k (h + 1) n = ([b] : List (Kid h))
   ·obtain ⟨b, hb⟩ := hb
    exact Qa3 hF hx hAb ht hc hQ hs hb
   ·exact Qa4 hF hx hAb ht hc hQ hs fun b e => hb ⟨b, e⟩
 ·exact Qa0 hF hx hAb ht hc hQ hs
end Go.Proofs.YtcklgafpgdhnaaaGreatDoor
