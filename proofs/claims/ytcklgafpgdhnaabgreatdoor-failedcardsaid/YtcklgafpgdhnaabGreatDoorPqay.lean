import Derived.Test.YtcklgafpgdhnaabGreatDoorPqax
import Derived.Test.YtcklgafpgdhnaabGreatDoorPqag
import Derived.Test.YtcklgafpgdhnaabGreatDoorPqae
import Derived.Test.YtcklgafpgdhnaabGreatDoorPqab
set_option maxRecDepth 100000
set_option maxHeartbeats 4000000
open Go.Proofs.Tryz
open Go.Act renaming put → zP
open List renaming getElem_toArray → zA, getElem_cons_succ → zB, getElem_cons_zero → zC, setIfInBounds_toArray → zD, set_cons_succ → zE, set_cons_zero → zF
namespace Go.Proofs.YtcklgafpgdhnaabGreatDoor
open Go.RowKit
theorem gY {P : Program} {o : Oper} {a : Act} {w : World} (t : TypeId) (x : Operand) (ho : o.op = .box t x) (v : Value) (hx : a.eval x = v) (hv : v.cells = #[v]) :
  (execOp a.eval o).run P w = .ok (.value (.pointer (some ⟨w.heap.size, 0, none⟩))) (w.alloc (.cells #[v] t)) := by
 simp [execOp, ho, hx, Instr.box, newVar, newRow, hv]
theorem Q7P : (prog.info? 73).map (·.size) = some 1 := by kernel_rfl
theorem Q7Q (p : Option Addr) (n c : Nat) : qY "store/tree.with" (.iface 135 (.slice p n c)) 193 (.slice p n c) := ⟨_, rfl, fun _ => by kernel_rfl, fun _ _ => by kernel_rfl⟩
theorem Q7R (p : Option Addr) (n c : Nat) : qY "store/tree.with" (.iface 180 (.slice p n c)) 223 (.slice p n c) := ⟨_, rfl, fun _ => by kernel_rfl, fun _ _ => by kernel_rfl⟩
theorem ZJ (p : Option Addr) (n c : Nat) (g : Value) (w : World) : Calls prog 193 #[.slice p n c, g] w fun e w' => e = .returned (.iface 135 (.slice p n c)) /\ w' = w := by
 go_enter func193, ntmps193
 go_wp2
 go_ret
 exact ⟨rfl, rfl⟩
theorem Q7S (args : Array Value) (w : World) : (callFunc 116 args).run prog w = .ok (.enter 116 args) w := qA func116 (by kernel_rfl) (by kernel_rfl) args w
theorem Q7T {fid : FuncId} {c1 c2 : Value} {N : Nat} {I : Ls -> World -> Prop} {J : Bool -> Ending -> World -> Prop} {B : Nat} (hL : Lyr fid c1 c2 N I J B) {h : Nat} (s : Ls) (k : Kid h) (x : Value) (A : Nat -> Prop) (w : World) (hx : ND w A h k.2 x) (hI : I s w) (hne : k.3 ≠ 0) : Calls prog 94 #[.agg #[.string k.1, .int .i64 (k.3 : Nat), x], lfv fid c1 c2] w (LdR N I J h s k A w) := by
 have hx1 : x.oneCell' = true := by obtain ⟨t, v, rfl⟩ := hx.iface; rfl
 have hne' : ¬ (k.3 : Int) = 0 := by omega
 have HX : Hid (ND w A h k.2 x) := hx
 have HI : Hid (I s w) := hI
 clear hx hI
 go_enter func94, ntmps94
 go_wp2_with (first
  | (refine yK rfl _ _ (gy 75 (.tmp 0) rfl #[.string k.1, .int .i64 (k.3 : Nat), x] rfl) ?_; intro w1 n1 q1 hs1; have HS1 : Hid _ := hs1; clear hs1)
  | (refine yK rfl _ _ (gY 113 (.tmp 1) rfl (lfv fid c1 c2) rfl rfl) ?_; intro w2 n2 q2 hs2; have HS2 : Hid _ := hs2; clear hs2)
  | (refine yc rfl 4 rfl 75 rfl _ (jP _) ?_; intro w3 n3 q3 hs3; have HS3 : Hid _ := hs3; clear hs3; have m3 := q3.get (q2.get n1 (by simp)) (by simp); have c31 : w3.cell? ⟨w.heap.size, 1, none⟩ = some (.int .i64 (k.3 : Nat)) := y6 m3 rfl)
  | (refine wpList_load_row rfl 75 (.tmp 2) rfl w.heap.size rfl 75 #[.string k.1, .int .i64 (k.3 : Nat), x] (0, 0) _ m3 underlying75 rfl stk ?_)
  | (refine yb rfl 75 (.tmp 4) (.tmp 19) rfl w2.heap.size #[.string k.1, .int .i64 (k.3 : Nat), x] rfl rfl 75 _ n3 stk rfl (yU (qQ _ _ hx1)) ?_; intro w4 n4 q4))
 refine bodyPost_ret (results_cell_row rfl _ w4 w2.heap.size 75 _ (0, 0) _ rfl n4 underlying75 rfl stk) rfl ?_
 have K4 : y5 [] w w4 := ((q1.trans q2).trans q3).trans2 q4 (by intro y hy; simp at hy; subst hy; have := HS1.out; have := HS2.out; exact Or.inr (by omega))
 refine ⟨Or.inl ⟨x, ?_, ?_, ?_⟩, KA.k0 K4⟩
 ·rw [jC hne]
 ·rw [jC hne]
  exact ND.kept K4 (by simp) (fun _ h => Or.inl h) HX.out
 ·rw [jC hne]
  exact hL.fresh _ _ _ [] HI.out K4 (by simp)
def LvI (I : Ls -> World -> Prop) (lf : Value) (r : Nat) (s : Ls) (W : World) : Prop := I s W /\ W.heap[r]? = some (.cells #[lf] 113 (0, 0))
theorem Q7U {fid : FuncId} {c1 c2 : Value} {N : Nat} {I : Ls -> World -> Prop} {J : Bool -> Ending -> World -> Prop} {B : Nat} (hL : Lyr fid c1 c2 N I J B) {h : Nat} (IH : LdOk fid c1 c2 N I J B h) (r : Nat) :
  Cgr (α := Kid h) (β := Kid h) (σ := Ls) 116 (.pointer (some ⟨r, 0, none⟩)) (bdF N (qh h)) (fun A k e W => KR W A h k e /\ CkK h k) (fun A k e W => KR W A h k e) (LvI I (lfv fid c1 c2) r) J B where
 en := Q7S
 call := by
  intro s k e A w hI hp hB hA
  obtain ⟨⟨⟨e1, e3⟩, hx⟩, hc⟩ := hp
  obtain ⟨fr, nd, pl⟩ := e
  simp only at e1 e3 hx ⊢
  subst e1 e3
  have hx1 : nd.oneCell' = true := by obtain ⟨t, v, rfl⟩ := hx.iface; rfl
  have HI : Hid (I s w) := hI.1
  have hr := hI.2
  have HC : Hid (∀ W, y5 [] w W -> Calls prog 94 #[.agg #[.string k.1, .int .i64 (k.3 : Nat), nd], lfv fid c1 c2] W (LdR N I J h s k A W)) := fun W kW => IH s k nd A W (ND.kept kW (by simp) (fun _ h => h) hx) (fun y hy => Nat.lt_of_lt_of_le (hA y hy) kW.size) hc (hL.fresh _ _ _ [] hI.1 kW (by simp)) (Nat.le_trans hB kW.size)
  have hsh := hx.iface
  clear hI hx
  go_enter func116, ntmps116
  go_wp2_with (first
   | (refine yK rfl _ _ (gy 75 (.tmp 0) rfl #[.string k.1, .int .i64 (k.3 : Nat), nd] rfl) ?_; intro w1 n1 q1 hs1; have HS1 : Hid _ := hs1; clear hs1)
   | (refine yc rfl 3 rfl 75 rfl _ (jP _) ?_; intro w2 n2 q2 hs2; have HS2 : Hid _ := hs2; clear hs2; have m2 := q2.get n1 (by simp); have r2 := q2.get (q1.get hr (by simp)) (by simp); have c2' : w2.cell? ⟨r, 0, none⟩ = some (lfv fid c1 c2) := y6 r2 rfl)
   | (refine wpList_load_row rfl 75 (.tmp 2) rfl w.heap.size rfl 75 #[.string k.1, .int .i64 (k.3 : Nat), nd] (0, 0) _ m2 underlying75 rfl stk ?_))
  refine (HC.out w2 (q1.trans q2)).mono ?_
  rintro e w3 ⟨⟨x', rfl, hn3, hI3⟩ | ⟨b, hJ, hb⟩, hK3⟩
  ·have hx3 : x'.oneCell' = true := by obtain ⟨t, v, rfl⟩ := hn3.iface; rfl
   have n23 := hK3.row _ _ _ _ trivial (by decide) n2
   have r3 := hK3.row _ _ _ _ trivial (by decide) r2
   have HN : Hid (_ /\ _) := ⟨hn3, hI3⟩
   clear hn3 hI3
   go_wp2_with (refine yb rfl 75 (.tmp 3) (.tmp 6) rfl w1.heap.size #[.string k.1, .int .i64 ((qh h k s).1.3 : Nat), x'] rfl rfl 75 _ n23 stk rfl (yU (qQ _ _ hx3)) ?_; intro w4 n4 q4)
   refine bodyPost_ret (results_cell_row rfl _ w4 w1.heap.size 75 _ (0, 0) _ rfl n4 underlying75 rfl stk) rfl ?_
   have hs := hK3.size
   have hs1 := HS1.out
   have hs2 := HS2.out
   have fr4 : (qh h k s).1.1 = k.1 := by unfold qh; split <;> rfl
   refine ⟨Or.inl ⟨(qh h k s).1, (qh h k s).2, ⟨k.1, x', (qh h k s).1.3⟩, if_pos (hL.bnd _ _ HN.out.2), rfl, ⟨⟨fr4.symm, rfl⟩, ?_⟩, hL.fresh _ _ _ [w1.heap.size] HN.out.2 q4 (by intro y hy; simp at hy; subst hy; exact ⟨by omega, _, _, n23⟩), q4.get r3 (by simp; intro e; subst e; rw [n23] at r3; cases r3)⟩, (((KA.k0 (q1.trans q2)).trans hK3).new q4 (by intro y hy; simp at hy; subst hy; omega))⟩
   refine ND.kept q4 ?_ ?_ HN.out.1
   ·intro y hy
    simp at hy
    subst hy
    rintro (h1 | h1)
    ·have := hA _ h1; omega
    ·omega
   ·rintro y (h1 | h1)
    ·exact Or.inl h1
    ·exact Or.inr (by omega)
  ·obtain ⟨ch, rfl⟩ := hL.jp _ _ _ hJ
   exact ⟨rfl, Or.inr ⟨b, hJ, fun hbt => if_neg (hb hbt)⟩, (KA.k0 (q1.trans q2)).trans hK3⟩
 fresh := by
  intro s W W' S hI hk hS
  refine ⟨hL.fresh _ _ _ S hI.1 hk hS, hk.get hI.2 fun hm => ?_⟩
  have := (hS r hm).2.ne ⟨_, _, hI.2⟩
  revert this
  decide
 pika := fun A k e W W' hp hk => ⟨⟨hp.1.1, ND.ka hk hp.1.2⟩, hp.2⟩
 poka := fun A k e W W' hp hk => ⟨hp.1, ND.ka hk hp.2⟩
 pomono := fun A A' k e W hp hA => ⟨hp.1, hp.2.amono hA⟩
 pish := fun A k e W hp => Or.inr hp.1.2.iface
 posh := fun A k e W hp => hp.2.iface
 jp := hL.jp
def LwR (N : Nat) (I : Ls -> World -> Prop) (J : Bool -> Ending -> World -> Prop) (h : Nat) (s : Ls) (n : Nd h) (A : Nat -> Prop) (W : World) (e : Ending) (W' : World) : Prop :=
 ((∃ x', e = .returned x' /\ ND W' (fun y => A y \/ W.heap.size <= y) h (qa h n s).1 x' /\ I (qa h n s).2 W') \/ ∃ b, J b e W' /\ (b = true -> ¬ Bd N (qa h n s).2)) /\ KA Tru W W'
theorem Q7V {fid : FuncId} {c1 c2 : Value} {N : Nat} {I : Ls -> World -> Prop} {J : Bool -> Ending -> World -> Prop} {B : Nat} (hL : Lyr fid c1 c2 N I J B) : ∀ {h : Nat}, (∀ h', h = h' + 1 -> LdOk fid c1 c2 N I J B h') -> ∀ (s : Ls) (n : Nd h) (x : Value) (A : Nat -> Prop) (w : World) (r : Nat), ND w A h n x -> (∀ y, A y -> y < w.heap.size) -> CkN h n -> LvI I (lfv fid c1 c2) r s w -> B <= w.heap.size ->
  ∃ fn v, qY "store/tree.with" x fn v /\ Calls prog fn #[v, .func (.func 116) #[] #[.pointer (some ⟨r, 0, none⟩)]] w (LwR N (LvI I (lfv fid c1 c2) r) J h s n A w)
 | 0, _, s, n, x, A, w, r, hx, hA, hc, hI, hB => by
  have hx0 := hx
  obtain ⟨v, rfl, hl, _⟩ := hx
  obtain ⟨p, c, ev⟩ := SL.shape hl
  subst ev
  refine ⟨_, _, Q7Q _ _ _, (ZJ p _ c _ w).mono ?_⟩
  rintro e w' ⟨rfl, rfl⟩
  exact ⟨Or.inl ⟨_, rfl, hx0.amono fun _ h => Or.inl h, hI⟩, KA.refl _ _⟩
 | h + 1, IH, s, (n : List (Kid h)), x, A, w, r, hx, hA, hc, hI, hB => by
  obtain ⟨v, xs, rfl, hl, hvA, hf⟩ := qE.1 hx
  have hck := Q7J.1 hc
  have HC := Q7G (Q7U hL (IH h rfl) r) v xs n s A w hl hA hvA ⟨hf.1, fun i a b ha hb => ⟨hf.2 i a b ha hb, hck.2 a (List.mem_of_getElem? ha)⟩⟩ hI hB (by rw [<- hf.1]; omega)
  obtain ⟨p, c, ev⟩ := SL.shape hl
  subst ev
  refine ⟨_, _, Q7R _ _ _, HC.mono ?_⟩
  rintro e w' ⟨⟨bs, s', v', ys, hm, rfl, hl', ho', hf', hI'⟩ | ⟨b, hJ, hb⟩, hK⟩
  ·have hm := ((Q7O (Q7L h) n s).1 _ hm).symm
   have e1 : (qa (h + 1) n s).1 = bs := congrArg Prod.fst hm
   have e2 : (qa (h + 1) n s).2 = s' := congrArg Prod.snd hm
   refine ⟨Or.inl ⟨_, rfl, ?_, by rw [e2]; exact hI'⟩, hK⟩
   rw [e1]
   exact qE.2 ⟨v', ys, rfl, hl', fun y hy => Or.inr (ho' y hy), hf'⟩
  ·exact ⟨Or.inr ⟨b, hJ, fun hbt => (Q7O (Q7L h) n s).2 (hb hbt)⟩, hK⟩
def LdS (r : Nat) (f : ByteArray) (x' lf : Value) (W : World) : Prop := (∃ p : Int, W.heap[r]? = some (.cells #[.string f, .int .i64 p, x'] 75 (0, 0))) /\ W.heap[r + 1]? = some (.cells #[lf] 113 (0, 0))
theorem Q7W : (prog.info? 3).map (·.size) = some 1 := by kernel_rfl
theorem Q7X {fid : FuncId} {c1 c2 : Value} {N : Nat} {I : Ls -> World -> Prop} {J : Bool -> Ending -> World -> Prop} {B : Nat} (hL : Lyr fid c1 c2 N I J B) {h : Nat} (IH : ∀ h', h = h' + 1 -> LdOk fid c1 c2 N I J B h') (s : Ls) (k : Kid h) (x : Value) (A : Nat -> Prop) (w : World) (hx : ND w A h k.2 x) (hA : ∀ y, A y -> y < w.heap.size) (hc : CkN h k.2) (hI : I s w) (hB : B <= w.heap.size) (hz : k.3 = 0) : Calls prog 94 #[.agg #[.string k.1, .int .i64 (k.3 : Nat), x], lfv fid c1 c2] w (LdR N I J h s k A w) := by
 have hsh := hx.iface
 rw [hz]
 have HW : Hid (∀ W, y5 [] w W -> w.heap.size + 3 <= W.heap.size -> W.heap[w.heap.size + 1]? = some (.cells #[lfv fid c1 c2] 113 (0, 0)) -> ∃ fn v, qY "store/tree.with" x fn v /\ Calls prog fn #[v, .func (.func 116) #[] #[.pointer (some ⟨w.heap.size + 1, 0, none⟩)]] W (LwR N (LvI I (lfv fid c1 c2) (w.heap.size + 1)) J h s k.2 A W)) := fun W kW _ hr => Q7V hL IH s k.2 x A W (w.heap.size + 1) (ND.kept kW (by simp) (fun _ h => h) hx) (fun y hy => Nat.lt_of_lt_of_le (hA y hy) kW.size) hc ⟨hL.fresh _ _ _ [] hI kW (by simp), hr⟩ (Nat.le_trans hB kW.size)
 have HFit : Hid (∀ W, I (qa h k.2 s).2 W -> jX (nbN h (qa h k.2 s).1)) := fun W hW => Q7M h k.2 s hc fun u hu => Nat.lt_of_lt_of_le (hL.bnd _ _ hW u hu) hL.nb
 have HE := Qu hz s
 have HE' : Hid _ := HE
 have hen := hL.en
 clear HE hx hI hc
 obtain ⟨tx, vx, ex⟩ := hsh
 subst ex
 go_enter func94, ntmps94
 go_wp2_with (first
  | (refine yK rfl _ _ (gy 75 (.tmp 0) rfl #[.string k.1, .int .i64 0, .iface tx vx] rfl) ?_; intro w1 n1 q1 hs1)
  | (refine yK rfl _ _ (gY 113 (.tmp 1) rfl (lfv fid c1 c2) rfl rfl) ?_; intro w2 n2 q2 hs2; rw [hs1] at n2 hs2)
  | (refine yc rfl 4 rfl 75 rfl _ (jP _) ?_; intro w3 n3 q3 hs3; rw [hs2] at n3 hs3; have m3 := q3.get (q2.get n1 (by simp)) (by simp); have r3 := q3.get n2 (by simp); have c31 : w3.cell? ⟨w.heap.size, 1, none⟩ = some (.int .i64 0) := y6 m3 rfl; have c32 : w3.cell? ⟨w.heap.size, 2, none⟩ = some (.iface tx vx) := y6 m3 rfl; obtain ⟨fn, vv, ⟨t, et, hm, he⟩, hcall⟩ := HW.out w3 ((q1.trans q2).trans q3) (by omega) r3; cases et; have HCall : Hid (Calls _ _ _ _ _) := hcall; clear hcall))
 refine HCall.out.mono ?_
 have K3 : y5 [] w w3 := (q1.trans q2).trans q3
 rintro e w4 ⟨⟨x', rfl, hn4, hI4⟩ | ⟨b, hJ, hb⟩, hK4⟩
 rotate_left
 ·obtain ⟨ch, rfl⟩ := hL.jp _ _ _ hJ
  exact ⟨rfl, Or.inr ⟨b, hJ, fun hbt h => hb hbt (by rw [HE'.out] at h; exact fun u hu => h u (List.mem_cons_of_mem _ hu))⟩, (KA.k0 K3).trans hK4⟩
 have m4 := hK4.row _ _ _ _ trivial (by decide) m3
 have n4 := hK4.row _ _ _ _ trivial (by decide) n3
 have r4 := hI4.2
 have hs4 := hK4.size
 obtain ⟨ty, vy, ey⟩ := hn4.iface
 have HN4 : Hid (ND w4 (fun y => A y \/ w3.heap.size <= y) h (qa h k.2 s).1 x') := hn4
 have HI4 : Hid (I (qa h k.2 s).2 w4) := hI4.1
 have hfit := HFit.out _ hI4.1
 clear hn4 hI4 m3 n3 n1 n2 r3 c31 c32 q1 q2 q3
 subst ey
 go_wp2_with (refine qM rfl _ (yH 73 (.tmp 12) (.tmp 11) rfl ⟨w.heap.size, 2, none⟩ rfl (.iface ty vy) rfl (gK Q7P rfl m4 (by simp))) ?_)
 have k5 : y5 [w.heap.size] w4 (w4.setCell ⟨w.heap.size, 2, none⟩ (.iface ty vy)) := (y5.refl _ _).setCell (Or.inl (by simp)) _
 have m5 := yg (i := 2) (.iface ty vy) m4
 have r5 := k5.get r4 (by simp)
 have n5 := k5.get n4 (by simp; omega)
 obtain ⟨w5, e5⟩ : ∃ w5, w5 = (w4.setCell ⟨w.heap.size, 2, none⟩ (.iface ty vy)).drew := ⟨_, rfl⟩
 have K5 : y5 [w.heap.size] w4 w5 := by rw [e5]; exact k5.drew
 have m5' : w5.heap[w.heap.size]? = some (.cells #[.string k.1, .int .i64 0, .iface ty vy] 75 (0, 0)) := by rw [e5]; exact m5
 have hS : LdS w.heap.size k.1 (.iface ty vy) (lfv fid c1 c2) w5 := by rw [e5]; exact ⟨⟨0, m5⟩, r5⟩
 have n5' : w5.heap[w.heap.size + 1 + 1]? = some (.cells #[.string ⟨#[]⟩, .int .i64 0, .nilIface] 75 (0, 0)) := by rw [e5]; exact n5
 have hN5 : ND w5 (fun y => A y \/ w3.heap.size <= y) h (qa h k.2 s).1 (.iface ty vy) := ND.kept K5 (by
  intro y hy
  simp at hy
  subst hy
  rintro (h1 | h1)
  ·have := hA _ h1; omega
  ·omega) (fun _ h => h) HN4.out
 have hI5 : I (qa h k.2 s).2 w5 := hL.fresh _ _ _ [w.heap.size] HI4.out K5 (by intro y hy; simp at hy; subst hy; exact ⟨hB, _, _, m4⟩)
 have hKA5 : KA Tru w w5 := ((KA.k0 K3).trans hK4).new K5 (by intro y hy; simp at hy; subst hy; exact Nat.le_refl _)
 have HE5 : Hid (w5 = _) := e5
 clear k5 m5 r5 n5 K5 e5 m4 n4 r4
 obtain ⟨fb, vb, ⟨tb, eb, hmb, heb⟩, hcb⟩ := Q6q hN5 hfit
 cases eb
 have hel := Z3 hfit
 have hsz := hKA5.size
 have HFI : Hid (tk (qa h k.2 s).2.us = _ /\ _) := ⟨rfl, trivial⟩
 refine yj (LdS w.heap.size k.1 (.iface ty vy) (lfv fid c1 c2)) (by kernel_rfl) ?_
 rw [<- HE5.out]
 refine hu 0 (lfv fid c1 c2) rfl (fun W hW => y9 113 (.tmp 3) rfl ⟨w.heap.size + 1, 0, none⟩ rfl _ (yh underlying113 rfl (y6 hW.2 rfl))) hS ?_
 simp only [zP, zA, zC, zD, zE, zF]
 refine hu 1 (.pointer (some ⟨w.heap.size, 0 + 2, none⟩)) rfl (fun W hW => yv 75 (.tmp 2) 2 rfl w.heap.size 0 rfl 2 (by rfl)) hS ?_
 simp only [zP, zA, zB, zC, zD, zE, zF]
 refine hu 2 (.iface ty vy) rfl (fun W hW => y9 73 (.tmp 14) rfl ⟨w.heap.size, 0 + 2, none⟩ rfl _ (yh underlying73 rfl (by obtain ⟨p, hp⟩ := hW.1; exact y6 hp rfl))) hS ?_
 simp only [zP, zA, zB, zC, zD, zE, zF]
 refine yf (i := 3) (by kernel_rfl) (yo rfl (by rfl) fb #[vy] (QO (.tmp 15) "store/tree.block" rfl ty vy rfl fb (hmb _) (heb _ _)) _ hcb ?_)
 rintro e w6 ⟨rfl, k6⟩
 have hS6 : LdS w.heap.size k.1 (.iface ty vy) (lfv fid c1 c2) w6 := ⟨⟨0, k6.get m5' (by simp)⟩, k6.get hS.2 (by simp)⟩
 refine ⟨_, rfl, hS6, ?_⟩
 simp only [zP, zA, zB, zC, zD, zE, zF]
 refine yf (i := 4) (by kernel_rfl) (gM rfl (by rfl) fid #[.agg (u8s (j3 (nbN h (qa h k.2 s).1))).toArray, c1, c2] (Q7I (.tmp 13) (.tmp 16) 80 rfl fid #[c1, c2] rfl _ rfl (hen _ _)) _ (hL.call _ _ w6 (hL.fresh _ _ _ [] hI5 k6 (by simp)) hel (by have := k6.size; omega)) ?_)
 rintro e w7 ⟨⟨rfl, hI7⟩ | ⟨b, hJ, hb⟩, hK7⟩
 rotate_left
 ·obtain ⟨ch, rfl⟩ := hL.jp _ _ _ hJ
  exact Or.inr ⟨ch, rfl, rfl, Or.inr ⟨b, hJ, fun hbt h => hb hbt (by rw [HE'.out] at h; exact h _ (List.mem_cons_self ..))⟩, (hKA5.trans (KA.k0 k6)).trans hK7⟩
 have m7 := hK7.row _ _ _ _ trivial (by decide) (k6.get m5' (by simp))
 have r7 := hK7.row _ _ _ _ trivial (by decide) hS6.2
 have n7 := hK7.row _ _ _ _ trivial (by decide) (k6.get n5' (by simp))
 have hN7 := ND.ka (hK7.mono fun _ _ => trivial) (ND.kept k6 (by simp) (fun _ h => h) hN5)
 have hS7 : LdS w.heap.size k.1 (.iface ty vy) (lfv fid c1 c2) w7 := ⟨⟨0, m7⟩, r7⟩
 refine Or.inl ⟨_, rfl, hS7, ?_⟩
 simp only [zP, zA, zB, zC, zD, zE, zF]
 refine hu 5 (.pointer (some ⟨w.heap.size, 0 + 1, none⟩)) rfl (fun W hW => yv 75 (.tmp 2) 1 rfl w.heap.size 0 rfl 1 (by rfl)) hS7 ?_
 simp only [zP, zA, zB, zC, zD, zE, zF]
 have k8 : y5 [w.heap.size] w7 (w7.setCell ⟨w.heap.size, 0 + 1, none⟩ (.int .i64 (tk (qa h k.2 s).2.us : Nat))) := (y5.refl _ _).setCell (Or.inl (by simp)) _
 have m8 := yg (i := 0 + 1) (.int .i64 (tk (qa h k.2 s).2.us : Nat)) m7
 have hst8 := gK (P := prog) (v := .int .i64 (tk (qa h k.2 s).2.us : Nat)) (j := 0 + 1) Q7W rfl m7 (by simp)
 have n8 := k8.get n7 (by simp; omega)
 have r8 := k8.get r7 (by simp)
 have hI8 : I ((qa h k.2 s).2.step (j3 (nbN h (qa h k.2 s).1))) (w7.setCell ⟨w.heap.size, 0 + 1, none⟩ (.int .i64 (tk (qa h k.2 s).2.us : Nat))) := hL.fresh _ _ _ [w.heap.size] hI7 k8 (by intro y hy; simp at hy; subst hy; exact ⟨hB, _, _, m7⟩)
 have hN8 : ND (w7.setCell ⟨w.heap.size, 0 + 1, none⟩ (.int .i64 (tk (qa h k.2 s).2.us : Nat))) (fun y => A y \/ w3.heap.size <= y) h (qa h k.2 s).1 (.iface ty vy) := ND.kept k8 (by
  intro y hy
  simp at hy
  subst hy
  rintro (h1 | h1)
  ·have := hA _ h1; omega
  ·omega) (fun _ h => h) hN7
 have hKA8 : KA Tru w (w7.setCell ⟨w.heap.size, 0 + 1, none⟩ (.int .i64 (tk (qa h k.2 s).2.us : Nat))) := ((hKA5.trans (KA.k0 k6)).trans hK7).new k8 (by intro y hy; simp at hy; subst hy; exact Nat.le_refl _)
 generalize w7.setCell ⟨w.heap.size, 0 + 1, none⟩ (.int .i64 (tk (qa h k.2 s).2.us : Nat)) = w8 at *
 refine yf (i := 6) (by kernel_rfl) (qo rfl rfl w8 (yH 3 (.tmp 18) (.tmp 17) rfl ⟨w.heap.size, 0 + 1, none⟩ rfl (.int .i64 (tk (qa h k.2 s).2.us : Nat)) rfl hst8) ⟨⟨⟨_, m8⟩, r8⟩, ?_⟩)
 simp only [zP, zA, zC, zB]
 refine wpAnyH_done (by kernel_rfl) ?_ _
 have HN8 : Hid (_ /\ _) := ⟨hN8, hI8⟩
 have m8' : w8.heap[w.heap.size]? = some (.cells #[.string k.1, .int .i64 (tk (qa h k.2 s).2.us : Nat), .iface ty vy] 75 (0, 0)) := m8
 have n8' : w8.heap[w.heap.size + 1 + 1]? = some (.cells #[.string ⟨#[]⟩, .int .i64 0, .nilIface] 75 (0, 0)) := n8
 clear hN8 hI8 hN7 hI7 hN5 hI5 hS hS6 hS7 m8 n8 m7 n7 r7 r8 hst8 k8 hK7 k6 hcb m5' n5' hfit
 go_wp2_with (first
  | (refine wpList_load_row rfl 75 (.tmp 2) rfl w.heap.size rfl 75 #[.string k.1, .int .i64 (tk (qa h k.2 s).2.us : Nat), .iface ty vy] (0, 0) _ m8' underlying75 rfl stk ?_)
  | (refine yb rfl 75 (.tmp 4) (.tmp 19) rfl (w.heap.size + 1 + 1) #[.string k.1, .int .i64 (tk (qa h k.2 s).2.us : Nat), .iface ty vy] rfl rfl 75 _ n8' stk rfl (yU (qQ _ _ rfl)) ?_; intro w9 n9 k9))
 refine bodyPost_ret (results_cell_row rfl _ w9 (w.heap.size + 1 + 1) 75 _ (0, 0) _ rfl n9 underlying75 rfl stk) rfl ?_
 refine ⟨Or.inl ⟨.iface ty vy, ?_, ?_, ?_⟩, hKA8.new k9 (by intro y hy; simp at hy; subst hy; omega)⟩
 ·rw [HE'.out]
 ·rw [HE'.out]
  refine ND.kept k9 ?_ ?_ HN8.out.1
  ·intro y hy
   simp at hy
   subst hy
   rintro (h1 | h1)
   ·have := hA _ h1; omega
   ·omega
  ·rintro y (h1 | h1)
   ·exact Or.inl h1
   ·exact Or.inr (by omega)
 ·rw [HE'.out]
  exact hL.fresh _ _ _ [w.heap.size + 1 + 1] HN8.out.2 k9 (by intro y hy; simp at hy; subst hy; exact ⟨by omega, _, _, n8'⟩)
theorem Q7Y {fid : FuncId} {c1 c2 : Value} {N : Nat} {I : Ls -> World -> Prop} {J : Bool -> Ending -> World -> Prop} {B : Nat} (hL : Lyr fid c1 c2 N I J B) : ∀ h, LdOk fid c1 c2 N I J B h
 | 0 => fun s k x A W hx hA hc hI hB => by
  by_cases hz : k.3 = 0
  ·exact Q7X hL (fun _ e => by cases e) s k x A W hx hA (hc.2.2 hz) hI hB hz
  ·exact Q7T hL s k x A W hx hI hz
 | h + 1 => fun s k x A W hx hA hc hI hB => by
  by_cases hz : k.3 = 0
  ·exact Q7X hL (fun h' e => by cases e; exact Q7Y hL h) s k x A W hx hA (hc.2.2 hz) hI hB hz
  ·exact Q7T hL s k x A W hx hI hz
theorem gF : ∀ (n : Nat) (us : List Nat), us.Nodup -> (∀ u ∈ us, u < n) -> us.length <= n
 | 0, us, _, h => by
  cases us with
  | nil => simp
  | cons a r => have := h a (by simp); omega
 | n + 1, us, hn, h => by
  have h1 := gF n (us.erase n) (hn.erase n) (fun u hu => by
   have h2 := h u (List.mem_of_mem_erase hu)
   have h3 : u ≠ n := fun e => by subst e; exact (hn.not_mem_erase) hu
   omega)
  by_cases hm : n ∈ us
  ·have := List.length_erase_of_mem hm
   omega
  ·rw [List.erase_of_not_mem hm] at h1; omega
theorem DQ.ka {w w' : World} {a : Nat} {bv : Value} {n : Nat} {cv : Value} {D : Dv} (h : DQ w a bv n cv D) (k : y5 (ym a bv cv) w w') : KA Tru w w' := ⟨k.size, fun _ _ _ _ _ ht hy => k.get hy (h.no hy ht)⟩
theorem SpM.ka {w w' : World} {b : Nat} {us : List Nat} (h : SpM w b us) (k : y5 [b] w w') : KA Tru w w' := ⟨k.size, fun y _ _ _ _ _ hy => k.get hy (by simp; exact h.ne hy)⟩
theorem Q7Z {w : World} {base e size n : Nat} {v : Value} {xs : List Value} (h : w.ownsRow base e size v n xs) {y : Nat} (hy : v.ownBlock = some y) : ∃ cs t fr, w.heap[y]? = some (.cells cs t fr) := by
 obtain ⟨_, ⟨rfl, _⟩ | ⟨g, cap, cur, rfl, _, hg, _⟩⟩ := h
 ·cases hy
 ·cases hy
  exact ⟨_, _, _, hg⟩
theorem DQ.rowOf {w : World} {a : Nat} {bv : Value} {n : Nat} {cv : Value} {D : Dv} (h : DQ w a bv n cv D) : ∀ y ∈ ym a bv cv, ∃ cs t fr, w.heap[y]? = some (.cells cs t fr) := by
 intro y hy
 unfold ym at hy
 rcases List.mem_cons.1 hy with rfl | hy
 ·exact ⟨_, _, _, h.d⟩
 ·rcases List.mem_append.1 hy with hy | hy
  ·exact Q7Z h.b (by simpa using hy)
  ·exact Q7Z h.o (by simpa using hy)
theorem SpM.nd {w : World} {a : Nat} {bv : Value} {n : Nat} {cv : Value} {D : Dv} {b : Nat} {us : List Nat} (h : SpM w b us) (hd : DQ w a bv n cv D) : b ∉ ym a bv cv := by
 intro hm
 obtain ⟨cs, t, fr, hy⟩ := hd.rowOf b hm
 exact h.ne hy rfl
theorem Tab.rowOf {w : World} (h : Tab w) : ∃ cs t fr, w.heap[2]? = some (.cells cs t fr) := by
 obtain ⟨cs, fr, hy⟩ := h.row
 exact ⟨cs, _, fr, hy⟩
theorem Tab.ka {w w' : World} (h : Tab w) (k : KA Tru w w') : Tab w' := by
 obtain ⟨cs, fr, hy⟩ := h.row
 have hy' := k.row _ _ _ _ trivial (by decide) hy
 exact ⟨⟨cs, fr, hy'⟩, fun W hW => h.ito W (by rw [hW, hy', hy])⟩
theorem DQ.drew {w : World} {a : Nat} {bv : Value} {n : Nat} {cv : Value} {D : Dv} (h : DQ w a bv n cv D) : DQ w.drew a bv n cv D := h.k0 (y5.refl [] w).drew
theorem Q80 {w : World} {g : Nat} {B : List UInt8} (h : w.heap[g]? = some (.cells (u8s B).toArray 80 (0, 0))) (hB : B.length = 128) : (loadVar 80 ⟨g, 0, none⟩).run prog w = .ok (.agg (u8s B).toArray) w := run_loadVar_row w g 80 80 _ (0, 0) _ h underlying80 rfl (by rw [jF]; simp [yd, hB])
theorem gl {P : Program} {ops : Array Oper} {rest : List Oper} {o : Oper} {a : Act} {w : World} {Q : Exit -> Act -> World -> Prop} (hgd : o.guard = none) (ty : TypeId) (x y : Operand) (ho : o.op = .store ty x y) (g j : Nat) (hx : a.eval x = .pointer (some ⟨g, j, none⟩)) (v : Value) (hy : a.eval y = v)
  (t : TypeId) (cs : Array Value) (hg : w.heap[g]? = some (.cells cs t (0, 0))) (hi : (P.info? ty).map (·.size) = some 1) (hv : v.oneCell' = true) (hj : j < cs.size)
  (h : ∀ w', w'.heap[g]? = some (.cells (cs.setIfInBounds j v) t (0, 0)) -> y5 [g] w w' -> wpList P ops Q rest (a.put o.dst undef) w') : wpList P ops Q (o :: rest) a w :=
 qM hgd _ (yH ty x y ho ⟨g, j, none⟩ hx v hy (gK hi hv hg hj)) (h _ (yg v hg) ((y5.refl _ _).setCell (Or.inl (by simp)) _))
end Go.Proofs.YtcklgafpgdhnaabGreatDoor
