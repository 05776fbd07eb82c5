import Derived.Test.YtcklgafpgdhnaabGreatDoorPqbb
import Derived.Test.YtcklgafpgdhnaabGreatDoorPqbn
import Derived.Test.YtcklgafpgdhnaabGreatDoorPqab
set_option maxRecDepth 100000
set_option maxHeartbeats 4000000
open Go.Proofs.Tryz
open Go.Act renaming put → zP
open List renaming getElem_toArray → zA, getElem_cons_succ → zB, getElem_cons_zero → zC, setIfInBounds_toArray → zD, set_cons_succ → zE, set_cons_zero → zF
namespace Go.Proofs.YtcklgafpgdhnaabGreatDoor
open Go.RowKit
theorem Qb7 (args : Array Value) (w : World) : (callFunc 49 args).run prog w = .ok (.enter 49 args) w := qA func49 (by kernel_rfl) (by kernel_rfl) args w
def VB (q2 q3 : Nat) (V : ByteArray) (B : Bool) (W : World) : Prop := W.heap[q2]? = some (.cells #[.string V] 9 (0, 0)) /\ W.heap[q3]? = some (.cells #[.bool B] 4 (0, 0))
theorem VB.k {q2 q3 : Nat} {V : ByteArray} {B : Bool} {W W' : World} (h : VB q2 q3 V B W) (kk : y5 [] W W') : VB q2 q3 V B W' := ⟨kk.get h.1 (by simp), kk.get h.2 (by simp)⟩
theorem VB.err {q2 q3 : Nat} {V : ByteArray} {B : Bool} {W W' : World} {T : List Nat} (h : VB q2 q3 V B W) (k : y5 T W W') (hT : ∀ y ∈ T, Tg W y 35) : VB q2 q3 V B W' := by
 refine ⟨k.get h.1 fun hm => ?_, k.get h.2 fun hm => ?_⟩
 ·have := (hT _ hm).ne ⟨_, _, h.1⟩
  revert this; decide
 ·have := (hT _ hm).ne ⟨_, _, h.2⟩
  revert this; decide
theorem szb : (prog.info? 4).map (·.size) = some 1 := by kernel_rfl
theorem szs : (prog.info? 9).map (·.size) = some 1 := by kernel_rfl
theorem Qb8 (b0 b1 q2 q3 x v a n : Nat) (c : Hd) (r : Value) (t : Tr) (k : ByteArray) (w : World) (hb : Bx2 b0 b1 x k w) (hq : VB q2 q3 ⟨#[]⟩ false w) (hbq : b1 ≠ q2) (h : Rec x v a n c r t w) (ht : TW t) (hk : jy k) :
  Calls prog 47 #[.pointer (some ⟨b0, 0, none⟩), .pointer (some ⟨b1, 0, none⟩), .pointer (some ⟨q2, 0, none⟩), .pointer (some ⟨q3, 0, none⟩)] w (Ends [q2, q3] (VB q2 q3 ((qC k (y7 t)).getD ⟨#[]⟩) (qC k (y7 t)).isSome) w) := by
 have c0 : w.cell? ⟨b0, 0, none⟩ = some (.pointer (some ⟨x, 0, none⟩)) := y6 hb.1 rfl
 have HN : Hid (Calls _ _ _ _ _) := jO x v c t r w h.st.1 h.row
 have HK : Hid (∀ W, Calls prog 40 #[.string k] W _) := fun W => Zb k W hk
 have HG : Hid (∀ W, y5 [] w W -> _) := fun W kW => Q72 (h.k kW).tv ht k
 have HRc : Hid _ := h
 have HB : Hid _ := hb
 generalize (qC k (y7 t)).getD ⟨#[]⟩ = V at *
 generalize (qC k (y7 t)).isSome = B at *
 have hqq : q2 ≠ q3 := by intro e; subst e; have := Tg.ne ⟨_, _, hq.1⟩ ⟨_, _, hq.2⟩; revert this; decide
 have hq2 := hq
 clear h hb
 go_enter func47, ntmps47
 go_wp2_with (first
  | (go_at_call 48; refine HN.out.mono ?_; rintro e w1 ⟨rfl, hk1⟩; have c1 : w1.cell? ⟨b1, 0, none⟩ = some (.string k) := y6 (Bx2.k HB.out hk1).2 rfl)
  | (go_at_call 40; refine (HK.out _).mono ?_; rintro e w2 ⟨rfl, hk2⟩))
 have K3 : y5 [] w w2.drew := (hk1.trans hk2).drew
 have hR3 : Rec x v a n c r t w2.drew := Rec.k HRc.out K3
 have hS : Bx2 b0 b1 x k w2.drew /\ ja x v c t r w2.drew := ⟨Bx2.k HB.out K3, hR3.row⟩
 refine yj (fun W => Bx2 b0 b1 x k W /\ ja x v c t r W) (by kernel_rfl) ?_
 refine hu 0 (.pointer (some ⟨x, 0, none⟩)) rfl (fun W hW => y9 24 (.tmp 0) rfl ⟨b0, 0, none⟩ rfl _ (yh underlying24 rfl (y6 hW.1.1 rfl))) hS ?_
 simp only [zP, zA, zC, zD, zE, zF]
 refine hu 1 (.pointer (some ⟨x, 0, none⟩)) rfl (fun W hW => by rfl) hS ?_
 simp only [zP, zA, zB, zC, zD, zE, zF]
 refine hu 2 (.pointer (some ⟨x, 0 + 7, none⟩)) rfl (fun W hW => yv 79 (.tmp 10) 4 rfl x (0) rfl 7 (by rfl)) hS ?_
 simp only [zP, zA, zB, zC, zD, zE, zF]
 refine hu 3 (.agg #[.string ⟨#[]⟩, .int .i64 t.pl, r]) rfl (fun W hW => y9 77 (.tmp 11) rfl ⟨x, 0 + 7, none⟩ rfl _ (Q8i hW.2)) hS ?_
 simp only [zP, zA, zB, zC, zD, zE, zF]
 refine hu 4 (.string k) rfl (fun W hW => y9 9 (.tmp 1) rfl ⟨b1, 0, none⟩ rfl _ (yh underlying9 rfl (y6 hW.1.2 rfl))) hS ?_
 simp only [zP, zA, zB, zC, zD, zE, zF]
 refine yf (i := 5) (by kernel_rfl) (yo rfl (by rfl) 49 #[.agg #[.string ⟨#[]⟩, .int .i64 t.pl, r], .string k] (yk _ _ _ rfl _ (by simp [Act.eval]) (Qb7 _ _)) _ (HG.out _ K3) ?_)
 rintro e w4 ⟨rfl, hk4⟩
 have hS4 : Bx2 b0 b1 x k w4 /\ ja x v c t r w4 := ⟨hS.1.k hk4, hk4.get hS.2 (by simp)⟩
 refine ⟨_, rfl, hS4, ?_⟩
 simp only [zP, zA, zB, zC, zD, zE, zF]
 refine hu 6 (.tuple #[.string V, .bool B]) rfl (fun W hW => by rfl) hS4 ?_
 simp only [zP, zA, zB, zC, zD, zE, zF]
 refine hu 7 (.string V) rfl (fun W hW => by rfl) hS4 ?_
 simp only [zP, zA, zB, zC, zD, zE, zF]
 refine hu 8 (.bool B) rfl (fun W hW => by rfl) hS4 ?_
 simp only [zP, zA, zB, zC, zD, zE, zF]
 have hq4 := (hq.k K3).k hk4
 have k5 : y5 [q2] w4 (w4.setCell ⟨q2, 0, none⟩ (.string V)) := (y5.refl _ _).setCell (Or.inl (by simp)) _
 have hq5 : VB q2 q3 V false (w4.setCell ⟨q2, 0, none⟩ (.string V)) := ⟨yg (i := 0) (.string V) hq4.1, k5.get hq4.2 (by simpa using hqq.symm)⟩
 have hS5 : Bx2 b0 b1 x k (w4.setCell ⟨q2, 0, none⟩ (.string V)) /\ ja x v c t r (w4.setCell ⟨q2, 0, none⟩ (.string V)) := by
  refine ⟨⟨k5.get hS4.1.1 ?_, k5.get hS4.1.2 (by simpa using hbq)⟩, k5.get hS4.2 ?_⟩
  ·simp; intro e; subst e; have := Tg.ne ⟨_, _, hS4.1.1⟩ ⟨_, _, hq4.1⟩; revert this; decide
  ·simp; intro e; subst e; have := Tg.ne ⟨_, _, hS4.2⟩ ⟨_, _, hq4.1⟩; revert this; decide
 refine yf (i := 9) (by kernel_rfl) (qo rfl rfl _ (yH 9 (.tmp 2) (.tmp 15) rfl ⟨q2, 0, none⟩ rfl _ rfl (gK szs rfl hq4.1 (by simp))) ⟨hS5, ?_⟩)
 simp only [zP, zA, zB, zC]
 have k6 : y5 [q3] (w4.setCell ⟨q2, 0, none⟩ (.string V)) ((w4.setCell ⟨q2, 0, none⟩ (.string V)).setCell ⟨q3, 0, none⟩ (.bool B)) := (y5.refl _ _).setCell (Or.inl (by simp)) _
 have hq6 : VB q2 q3 V B ((w4.setCell ⟨q2, 0, none⟩ (.string V)).setCell ⟨q3, 0, none⟩ (.bool B)) := ⟨k6.get hq5.1 (by simpa using hqq), yg (i := 0) (.bool B) hq5.2⟩
 have hS6 : Bx2 b0 b1 x k ((w4.setCell ⟨q2, 0, none⟩ (.string V)).setCell ⟨q3, 0, none⟩ (.bool B)) /\ ja x v c t r ((w4.setCell ⟨q2, 0, none⟩ (.string V)).setCell ⟨q3, 0, none⟩ (.bool B)) := by
  refine ⟨⟨k6.get hS5.1.1 ?_, k6.get hS5.1.2 ?_⟩, k6.get hS5.2 ?_⟩
  ·simp; intro e; subst e; have := Tg.ne ⟨_, _, hS5.1.1⟩ ⟨_, _, hq5.2⟩; revert this; decide
  ·simp; intro e; subst e; have := Tg.ne ⟨_, _, hS5.1.2⟩ ⟨_, _, hq5.2⟩; revert this; decide
  ·simp; intro e; subst e; have := Tg.ne ⟨_, _, hS5.2⟩ ⟨_, _, hq5.2⟩; revert this; decide
 refine yf (i := 10) (by kernel_rfl) (qo rfl rfl _ (yH 4 (.tmp 3) (.tmp 16) rfl ⟨q3, 0, none⟩ rfl _ rfl (gK szb rfl hq5.2 (by simp))) ⟨hS6, ?_⟩)
 simp only [zP, zA, zB, zC]
 refine wpAnyH_done (by kernel_rfl) ?_ _
 have K6 : Hid (y5 [q2, q3] w ((w4.setCell ⟨q2, 0, none⟩ (.string V)).setCell ⟨q3, 0, none⟩ (.bool B))) := (((K3.trans hk4).mono (by simp)).trans (k5.mono (by simp))).trans (k6.mono (by simp))
 have H6 : Hid _ := hq6
 clear hS hS4 hS5 hS6 hq6 hq5 hq4
 go_wp2
 go_end0
 exact ⟨rfl, H6.out, K6.out⟩
theorem Qb9 (x : Nat) (k V : ByteArray) (B : Bool) (P : Value -> World -> Prop) (hP : ∀ err W W', P err W -> y5 [] W W' -> P err W') (hV : V.size <= 1000) (w : World)
  (hc : ∀ b, Calls prog 32 #[.string b, .func (.func 47) #[] #[.pointer (some ⟨w.heap.size, 0, none⟩), .pointer (some ⟨w.heap.size + 1, 0, none⟩), .pointer (some ⟨w.heap.size + 1 + 1, 0, none⟩), .pointer (some ⟨w.heap.size + 1 + 1 + 1, 0, none⟩)]] ((((w.alloc (.cells #[.pointer (some ⟨x, 0, none⟩)] 24)).alloc (.cells #[.string k] 9)).alloc (.cells #[.string ⟨#[]⟩] 9)).alloc (.cells #[.bool false] 4)) (ZK (fun err W => P err W /\ VB (w.heap.size + 1 + 1) (w.heap.size + 1 + 1 + 1) V B W) [w.heap.size + 1 + 1, w.heap.size + 1 + 1 + 1] ((((w.alloc (.cells #[.pointer (some ⟨x, 0, none⟩)] 24)).alloc (.cells #[.string k] 9)).alloc (.cells #[.string ⟨#[]⟩] 9)).alloc (.cells #[.bool false] 4)))) :
  Calls prog 24 #[.pointer (some ⟨x, 0, none⟩), .string k] w fun e w' => ∃ err, e = .returned (.tuple #[.string V, .bool B, err]) /\ P err w' /\ y5 [] w w' := by
 have HC : Hid (∀ b, Calls _ _ _ _ _) := hc
 have hmf := jb
 have HP : Hid _ := hP
 clear hc hP
 go_enter func24, ntmps24
 go_wp2_with (go_at_call 32; refine (HC.out _).mono ?_; rintro e w2 ⟨err, rfl, ⟨hp2, hq2⟩, hk2⟩; have HP2 : Hid (P err w2) := hp2; clear hp2)
 have K2 : y5 [] w w2.drew := (((((y5.refl [] w).alloc _).alloc _).alloc _).alloc _).trans2 hk2.drew fun z hz => Or.inr (by simp at hz; omega)
 have hS : VB (w.heap.size + 1 + 1) (w.heap.size + 1 + 1 + 1) V B w2.drew := hq2
 refine yj (VB (w.heap.size + 1 + 1) (w.heap.size + 1 + 1 + 1) V B) (by kernel_rfl) ?_
 refine hu 0 (.string V) rfl (fun W hW => y9 9 (.tmp 7) rfl ⟨w.heap.size + 1 + 1, 0, none⟩ rfl _ (yh underlying9 rfl (y6 hW.1 rfl))) hS ?_
 simp only [zP, zA, zC, zD, zE, zF]
 refine hu 2 (.bool B) rfl (fun W hW => y9 4 (.tmp 8) rfl ⟨w.heap.size + 1 + 1 + 1, 0, none⟩ rfl _ (yh underlying4 rfl (y6 hW.2 rfl))) hS ?_
 simp only [zP, zA, zB, zC, zD, zE, zF]
 refine hu 3 err rfl (fun W hW => by rfl) hS ?_
 simp only [zP, zA, zB, zC, zD, zE, zF]
 refine yf (i := 1) (by kernel_rfl) (yo rfl (by rfl) 50 #[.string V] (yk _ _ _ rfl _ (by simp [Act.eval]) (Qg _ _)) _ (Q6s V _ (by omega)) ?_)
 rintro e w3 ⟨rfl, hk3⟩
 have hS3 : VB (w.heap.size + 1 + 1) (w.heap.size + 1 + 1 + 1) V B w3 := hS.k hk3
 refine ⟨_, rfl, hS3, ?_⟩
 simp only [zP, zA, zB, zC, zD, zE, zF]
 refine hu 4 (.string V) rfl (fun W hW => by rfl) hS3 ?_
 simp only [zP, zA, zB, zC, zD, zE, zF]
 refine hu 5 (.bool B) rfl (fun W hW => by rfl) hS3 ?_
 simp only [zP, zA, zB, zC, zD, zE, zF]
 refine hu 6 err rfl (fun W hW => by rfl) hS3 ?_
 simp only [zP, zA, zB, zC, zD, zE, zF]
 refine wpAnyH_done (by kernel_rfl) ?_ _
 have FIN : Hid (P err w3 /\ y5 [] w w3) := ⟨HP.out _ _ _ HP2.out ((y5.refl [] w2).drew.trans hk3), K2.trans hk3⟩
 clear hS hS3
 go_wp2
 refine bodyPost_ret (results_tmp3 rfl _ _ _) rfl ?_
 exact ⟨err, rfl, FIN.out⟩
end Go.Proofs.YtcklgafpgdhnaabGreatDoor
namespace Go.Proofs.YtcklgafpgdhnaabGreatDoor
open Go.RowKit Go.Shelf
structure Gr (B : Nat) (w w' : World) : Prop where
 os : w'.os = w.os
 tape : w'.tape = w.tape
 output : w'.output = w.output
 size : w.heap.size <= w'.heap.size
 low : ∀ (k : Nat), k < w.heap.size -> k < B -> w'.heap[k]? = w.heap[k]?
 row : ∀ (k : Nat) (cs : Array Value) (t : TypeId) (fr : Nat × Nat), w.heap[k]? = some (.cells cs t fr) -> w'.heap[k]? = some (.cells cs t fr)
theorem Gr.of {B : Nat} {a b : World} (h : y5 [] a b) : Gr B a b := ⟨h.os, h.tape, h.output, h.size, fun k hk _ => h.block k hk (by simp), fun _ _ _ _ hi => h.get hi (by simp)⟩
theorem Gr.put {B : Nat} {W : World} {l : Nat} {o : Obj} (o' : Obj) (hB : B <= l) (h : W.heap[l]? = some o) (hc : o.isCells = false) : Gr B W (W.putObj l o') := by
 have g := grownBy_putObj' W l o'
 refine ⟨g.os, g.tape, g.output, g.size, fun i hi hiB => g.block i hi (by intro e; cases e; omega), fun i cs t fr hi => (g.block i (yt hi) ?_).trans hi⟩
 intro e
 cases e
 rw [hi] at h
 cases h
 cases hc
theorem Gr.mono {B B' : Nat} {a b : World} (h : Gr B a b) (hb : B' <= B) : Gr B' a b := ⟨h.os, h.tape, h.output, h.size, fun k hk h' => h.low k hk (by omega), h.row⟩
def Sty {β : Type} (B : Nat) (J : β -> World -> Prop) : Prop := ∀ s A A', J s A -> Gr B A A' -> J s A'
def Rnd {α : Type} (M : List Nat) (B : Nat) (J Jx : List α -> World -> Prop) (xs : List α) (W : World) (e : Ending) (W' : World) : Prop :=
 (e = .returned (.bool true) /\ J xs W' /\ KC M W W' /\ KeepsFrom B W W') \/ (e = .returned (.bool false) /\ Jx xs W' /\ KeepsFrom B W W')
def Itr {α : Type} (g : FuncId) (lb : Array Value) (encs : α -> Array Value) (V : α -> World -> Prop) (M : List Nat) (S Sp : List α -> Prop) (N : Nat) (w : World) : Prop :=
 ∀ (l : Nat) (J Jx : List α -> World -> Prop) (W : World), y5 [] w W -> Sty W.heap.size J -> Sty W.heap.size Jx ->
  (∀ m pre x W1, J pre W1 -> V x W1 -> pre.length < N -> YieldAt Fence.wide m prog l (encs x) W1 (Rnd M W.heap.size J Jx (pre ++ [x]) W1)) -> J [] W ->
  Calls prog g (#[.func (.yield l) #[] #[]] ++ lb) W fun e W' => (∃ v, e = .returned v) /\ ((∃ xs, S xs /\ J xs W') \/ ∃ pre, Sp pre /\ Jx pre W')
def RndP {α : Type} (M : List Nat) (B : Nat) (I : List α -> World -> Prop) (Ix : Code -> List α -> World -> Prop) (xs : List α) (W : World) : Exit -> Act -> World -> Prop
 | .normal, _, W' => KeepsFrom B W W' /\ KC M W W' /\ I xs W'
 | .ret, _, W' => KeepsFrom B W W' /\ Ix .ret xs W'
 | .exit id, _, W' => KeepsFrom B W W' /\ Ix (.exit id) xs W'
 | _, _, _ => False
theorem gD {W W' : World} (k : y5 [] W W') : W.grownBy W' none := ⟨k.os, k.tape, k.output, k.size, fun i hi _ => k.block i hi (by simp)⟩
theorem Qba {B : Nat} {W : World} {l : Nat} (o : Obj) (hl : l < B) : KeepsFrom B W (W.putObj l o) :=
 KeepsFrom.of_grownBy (grownBy_putObj' W l o) fun j e => by cases e; exact hl
theorem Qbb {α : Type} {g : Operand} {ps : Array Tmp} {assign body : Code} {Q : Exit -> Act -> World -> Prop} {a : Act} {w : World} {gf : FuncId} {lb : Array Value} (hg : a.eval g = .func (.func gf) #[] lb) (eg : ∀ args W, (callFunc gf args).run prog W = .ok (.enter gf args) W)
  {encs : α -> Array Value} {V : α -> World -> Prop} {M : List Nat} {S Sp : List α -> Prop} {N : Nat} (hit : Itr gf lb encs V M S Sp N w) (hps : ∀ x, (encs x).size = ps.size)
  (I : List α -> World -> Prop) (Ix : Code -> List α -> World -> Prop) (hI : Sty w.heap.size I) (hIx : ∀ c, Sty w.heap.size (Ix c)) (h0 : I [] w)
  (Ax : α -> Act -> World -> Prop) (hAx : ∀ x a', Sty w.heap.size (fun (_ : Unit) W => Ax x a' W)) (hV : ∀ x, Sty w.heap.size (fun (_ : Unit) W => V x W))
  (hassign : ∀ (m l : Nat) (pre : List α) (x : α) (W : World) (K : Act -> World -> Prop), I pre W -> V x W -> (∀ a' W', y5 [] W W' -> Ax x a' W' -> K a' W') ->
   assign.wpIn (Fence.wide.inRound l) m prog (Exit.then K (fun _ _ _ => False)) { tmps := (ps.zip (encs x)).foldl (fun t (p, v) => t.setIfInBounds p v) a.tmps, defers := [] } W)
  (hbody : ∀ (m l : Nat) (pre : List α) (x : α) (a' : Act) (W : World), I pre W -> V x W -> Ax x a' W -> pre.length < N -> body.wpIn (Fence.wide.inRound l) m prog (RndP M w.heap.size I Ix (pre ++ [x]) W) a' W)
  (hdone : ∀ (D : Nat) (xs : List α) (W : World), w.heap.size <= D -> S xs -> I xs W -> W.heap[D]? = some (.deferred (some [])) -> Q .normal { a with defers := { target := .collected D, args := #[] } :: a.defers } W)
  (hstop : ∀ (D : Nat) (c : Code) (pre : List α) (W : World), w.heap.size <= D -> Sp pre -> Ix c pre W -> W.heap[D]? = some (.deferred (some [])) -> c.wp prog Q { a with defers := { target := .collected D, args := #[] } :: a.defers } W) :
  (Code.rangeFunc g ps assign body).wp prog Q a w := by
 refine (wpIn_wide (n := 1)).1 (wpIn_rangeFunc fun fn hfn => ?_)
 obtain ⟨rc, hrc⟩ : ∃ rc : LoopState -> Option Code -> Loop, rc = fun st pe => { state := st, pending := pe, fn, tmps := a.tmps, params := ps, assign, body, defers := w.heap.size } := ⟨_, rfl⟩
 obtain ⟨W1, hW1⟩ : ∃ W1, W1 = (w.alloc (.deferred (some []))).alloc (.loop (rc .ready none)) := ⟨_, rfl⟩
 have k1 : y5 [] w W1 := by rw [hW1]; exact ((y5.refl [] w).alloc _).alloc _
 have hs1 : W1.heap.size = w.heap.size + 2 := by rw [hW1]; simp
 have hL1 : W1.heap[w.heap.size + 1]? = some (.loop (rc .ready none)) := by
  have := heap_alloc_new (w.alloc (.deferred (some []))) (.loop (rc .ready none))
  rw [World.size_alloc] at this
  rw [hW1]; exact this
 have hD1 : W1.heap[w.heap.size]? = some (.deferred (some [])) := by
  rw [hW1]
  exact ((y5.refl [] _).alloc _).block _ (by simp) (by simp) |>.trans (World.alloc_heap_new w _)
 refine ⟨w.heap.size + 1, [{ target := .collected w.heap.size, args := #[] }], W1, { target := .fn (.func gf) lb, args := #[.func (.yield (w.heap.size + 1)) #[] #[]] }, W1, gf, #[.func (.yield (w.heap.size + 1)) #[] #[]] ++ lb, W1, ?_, ?_, fun _ _ => trivial, ?_, fun h => (by cases h), ?_⟩
 ·rw [hW1, hrc]; exact run_enterLoop_outer _ _ _ _ _
 ·simp only [resolve, hg]
  simp [go_sem]
 ·simp [invoke, go_sem, eg]
 refine callsIn_wide.2 ((hit (w.heap.size + 1) (fun pre W => I pre W /\ W.heap[w.heap.size + 1]? = some (.loop (rc .ready none)) /\ W.heap[w.heap.size]? = some (.deferred (some [])))
  (fun pre W => ∃ c, Ix c pre W /\ W.heap[w.heap.size + 1]? = some (.loop (rc .done (some c))) /\ W.heap[w.heap.size]? = some (.deferred (some []))) W1 k1 ?_ ?_ ?_ ⟨hI _ _ _ h0 (Gr.of k1), hL1, hD1⟩).mono ?_)
 ·rintro s A A' ⟨h1, h2, h3⟩ hg'
  exact ⟨hI _ _ _ h1 (hg'.mono (by omega)), (hg'.low _ (Array.getElem?_eq_some_iff.1 h2).1 (by omega)).trans h2, (hg'.low _ (Array.getElem?_eq_some_iff.1 h3).1 (by omega)).trans h3⟩
 ·rintro s A A' ⟨c, h1, h2, h3⟩ hg'
  exact ⟨c, hIx c _ _ _ h1 (hg'.mono (by omega)), (hg'.low _ (Array.getElem?_eq_some_iff.1 h2).1 (by omega)).trans h2, (hg'.low _ (Array.getElem?_eq_some_iff.1 h3).1 (by omega)).trans h3⟩
 ·rintro m pre x W ⟨hi, hl, hd⟩ hv hlen
  have hy := run_yield (P := prog) (args := encs x) hl (by rw [hrc]; exact hps x)
  rw [hrc] at hy
  refine ⟨fn, _, assign, body, hy, roundIn_of_wpIn hfn (hassign m _ pre x W _ hi hv ?_)⟩
  intro a' Wa ka hax
  have hla : Wa.heap[w.heap.size + 1]? = some (.loop (rc .ready none)) := (ka.block _ (Array.getElem?_eq_some_iff.1 hl).1 (by simp)).trans hl
  have hda : Wa.heap[w.heap.size]? = some (.deferred (some [])) := (ka.block _ (Array.getElem?_eq_some_iff.1 hd).1 (by simp)).trans hd
  have hlt : w.heap.size + 1 < Wa.heap.size := (Array.getElem?_eq_some_iff.1 hla).1
  refine ⟨_, run_beginRound hla (by rw [hrc]), ?_⟩
  obtain ⟨Wb, hWb⟩ : ∃ Wb, Wb = Wa.putObj (w.heap.size + 1) (.loop { rc .ready none with state := .busy }) := ⟨_, rfl⟩
  rw [<- hWb]
  have gb : Gr w.heap.size Wa Wb := by rw [hWb]; exact Gr.put _ (by omega) hla rfl
  have hlb : Wb.heap[w.heap.size + 1]? = some (.loop { rc .ready none with state := .busy }) := by rw [hWb]; exact World.putObj_heap_same hlt
  have hdb : Wb.heap[w.heap.size]? = some (.deferred (some [])) := by rw [hWb]; exact (World.putObj_heap_other (by omega)).trans hda
  have kcb : KC M W Wb := (KC.of0 ka).trans (by rw [hWb]; exact KC.put _ _ _ _ hla rfl)
  have kfb : KeepsFrom W1.heap.size W Wb := by
   refine KeepsFrom.trans (KeepsFrom.of_grownBy (gD ka) (fun j e => by cases e)) ?_
   rw [hWb]
   exact Qba _ (by omega)
  have ib : I pre Wb := hI _ _ _ (hI _ _ _ hi (Gr.of ka)) gb
  have vb : V x Wb := hV x () _ _ (hV x () _ _ hv (Gr.of ka)) gb
  have ab : Ax x a' Wb := hAx x a' () _ _ hax gb
  refine wpIn_mono (hbody m _ pre x a' Wb ib vb ab hlen) ?_
  have fin : ∀ (jump : Option Code) (W3 : World), KeepsFrom w.heap.size Wb W3 -> ∃ W4, W4 = W3.putObj (w.heap.size + 1) (.loop (rc (if jump.isNone then .ready else .done) jump)) /\ (Instr.endRound (w.heap.size + 1) jump).run prog W3 = .ok (.bool jump.isNone) W4 /\
    W4.heap[w.heap.size + 1]? = some (.loop (rc (if jump.isNone then .ready else .done) jump)) /\ W4.heap[w.heap.size]? = some (.deferred (some [])) /\ Gr w.heap.size W3 W4 /\ KC M W3 W4 /\ KeepsFrom W1.heap.size Wb W4 := by
   intro jump W3 k3
   have hl3 := k3.same _ _ (by omega) hlb rfl
   have hd3 := k3.same _ _ (Nat.le_refl _) hdb rfl
   have hr := run_endRound (P := prog) jump hl3
   refine ⟨_, rfl, ?_, World.putObj_heap_same (Array.getElem?_eq_some_iff.1 hl3).1, (World.putObj_heap_other (by omega)).trans hd3, Gr.put _ (by omega) hl3 rfl, KC.put _ _ _ _ hl3 rfl, ?_⟩
   ·rw [hr, hrc]
   ·refine KeepsFrom.trans ⟨k3.size, fun i o hi ho hc => k3.same i o (by omega) ho hc⟩ (Qba _ (by omega))
  rintro e a3 W3 hp
  cases e with
  | normal =>
   obtain ⟨p1, p2, p3⟩ := hp
   obtain ⟨W4, _, hr, q1, q2, q3, q4, q5⟩ := fin none W3 p1
   exact ⟨_, _, hr, Or.inl ⟨rfl, ⟨hI _ _ _ p3 q3, q1, q2⟩, (kcb.trans p2).trans q4, kfb.trans q5⟩⟩
  | ret =>
   obtain ⟨p1, p3⟩ := hp
   obtain ⟨W4, _, hr, q1, q2, q3, q4, q5⟩ := fin (some .ret) W3 p1
   exact ⟨_, _, hr, Or.inr ⟨rfl, ⟨_, hIx _ _ _ _ p3 q3, q1, q2⟩, kfb.trans q5⟩⟩
  | exit id =>
   obtain ⟨p1, p3⟩ := hp
   obtain ⟨W4, _, hr, q1, q2, q3, q4, q5⟩ := fin (some (.exit id)) W3 p1
   exact ⟨_, _, hr, Or.inr ⟨rfl, ⟨_, hIx _ _ _ _ p3 q3, q1, q2⟩, kfb.trans q5⟩⟩
  | goto t => exact hp.elim
  | panic c => exact hp.elim
  | outgrown => exact hp.elim
 ·rintro e W2 ⟨⟨v, rfl⟩, ⟨xs, hS, hi, hl, hd⟩ | ⟨pre, hSp, c, hi, hl, hd⟩⟩
  ·have hel := run_endLoop (P := prog) hl (by rw [hrc]; simp)
   have hp : (rc .ready none).pending = none := by rw [hrc]
   rw [hp] at hel
   exact ⟨none, _, hel, hdone _ xs _ (Nat.le_refl _) hS (hI _ _ _ hi (Gr.put _ (by omega) hl rfl)) ((World.putObj_heap_other (by omega)).trans hd)⟩
  ·have hel := run_endLoop (P := prog) hl (by rw [hrc]; simp)
   have hp : (rc .done (some c)).pending = some c := by rw [hrc]
   rw [hp] at hel
   exact ⟨some c, _, hel, wpIn_wide.2 (hstop _ c pre _ (Nat.le_refl _) hSp (hIx c _ _ _ hi (Gr.put _ (by omega) hl rfl)) ((World.putObj_heap_other (by omega)).trans hd))⟩
section
variable {l m : Nat} {ops : Array Oper} {Q : Exit -> Act -> World -> Prop} {i : Nat} {o : Oper} {K : Act -> World -> Prop} {a : Act} {w : World}
theorem rOp (ho : ops[i]? = some o) (hw : Region.wanted o (yielded ops a.tmps) = true) (hd : ∀ c, o.op ≠ .defer c) (v : Value) (w' : World) (hrun : (execOp a.eval o).run prog w = .ok (.value v) w') (h : K (a.put o.dst v) w') : wpOpIn (Fence.wide.inRound l) m prog ops Q i K a w :=
 wpOpIn_step ho fun K' hK => by
  rw [if_pos hw]
  refine ⟨fun _ _ => trivial, ?_⟩
  rw [show (Fence.wide.inRound l).round = some l from rfl, Oper.semAt_some l a.eval o hd, hrun]
  exact hK _ _ h
theorem Qbc (ho : ops[i]? = some o) (hw : Region.wanted o (yielded ops a.tmps) = false) (h : K (a.put o.dst undef) w) : wpOpIn (Fence.wide.inRound l) m prog ops Q i K a w :=
 wpOpIn_step ho fun K' hK => by
  rw [if_neg (by rw [hw]; simp)]
  exact ⟨fun _ _ => trivial, hK _ _ h⟩
theorem Qbd (ho : ops[i]? = some o) (hw : Region.wanted o (yielded ops a.tmps) = true) (hd : ∀ c, o.op ≠ .defer c) (f : FuncId) (args : Array Value) (hrun : (execOp a.eval o).run prog w = .ok (.enter f args) w) (R : Ending -> World -> Prop) (hc : Calls prog f args w R)
  (h : ∀ e w', R e w' -> ∃ v, e = .returned v /\ K (a.put o.dst v) w') : wpOpIn (Fence.wide.inRound l) m prog ops Q i K a w :=
 wpOpIn_step ho fun K' hK => by
  rw [if_pos hw]
  refine ⟨fun _ _ => trivial, ?_⟩
  rw [show (Fence.wide.inRound l).round = some l from rfl, Oper.semAt_some l a.eval o hd, hrun]
  refine ⟨fun h => (by cases h), CallsIn.inRound l ((callsIn_wide.2 hc).mono ?_)⟩
  intro e w' hR
  obtain ⟨v, rfl, hk⟩ := h e w' hR
  exact hK _ _ hk
theorem Qbe (ho : ops[i]? = some o) (hw : Region.wanted o (yielded ops a.tmps) = true) (hd : ∀ c, o.op ≠ .defer c) (l0 : Nat) (args : Array Value) (hrun : (execOp a.eval o).run prog w = (Instr.yield l0 args).run prog w) (R : Ending -> World -> Prop) (hy : YieldAt Fence.wide (m - 1) prog l0 args w R)
  (h : ∀ e w', R e w' -> ∃ v, e = .returned v /\ K (a.put o.dst v) w') : wpOpIn (Fence.wide.inRound l) m prog ops Q i K a w :=
 wpOpIn_step ho fun K' hK => by
  rw [if_pos hw]
  obtain ⟨fn, tmps, assign, body, hy, hR⟩ := hy
  refine ⟨fun _ _ => trivial, ?_⟩
  rw [show (Fence.wide.inRound l).round = some l from rfl, Oper.semAt_some l a.eval o hd, hrun, hy]
  refine ⟨fun h => (by cases h), hR.mono ?_⟩
  intro e w' hR
  obtain ⟨v, rfl, hk⟩ := h e w' hR
  exact hK _ _ hk
theorem gq {fuel : Nat} {listed : Array Bool} (hr : Region.ready .any ops listed = [i]) (h : wpOpIn (Fence.wide.inRound l) m prog ops Q i (wpAnyIn (Fence.wide.inRound l) m prog .any ops Q fuel (listed.setIfInBounds i true)) a w) : wpAnyIn (Fence.wide.inRound l) m prog .any ops Q (fuel + 1) listed a w :=
 wpAnyIn_all hr (by simp) (by intro j hj; simp at hj; subst hj; exact h)
theorem rTwo {j fuel : Nat} {listed : Array Bool} (hr : Region.ready .any ops listed = [i, j]) (h : wpOpIn (Fence.wide.inRound l) m prog ops Q i (wpAnyIn (Fence.wide.inRound l) m prog .any ops Q fuel (listed.setIfInBounds i true)) a w)
  (h' : wpOpIn (Fence.wide.inRound l) m prog ops Q j (wpAnyIn (Fence.wide.inRound l) m prog .any ops Q fuel (listed.setIfInBounds j true)) a w) : wpAnyIn (Fence.wide.inRound l) m prog .any ops Q (fuel + 1) listed a w :=
 wpAnyIn_all hr (by simp) (by intro k hk; simp at hk; rcases hk with rfl | rfl; exact h; exact h')
end
theorem Zg {o : Oper} {a : Act} {w : World} (x y z : Operand) (ts : Array TypeId) (ho : o.op = .call { callee := .value x, args := #[y, z], argTypes := ts }) (l : Nat) (hx : a.eval x = .func (.yield l) #[] #[]) (vy vz : Value) (hy : a.eval y = vy) (hz : a.eval z = vz) :
  (execOp a.eval o).run prog w = (Instr.yield l #[vy, vz]).run prog w := by
 simp [execOp, ho, resolve, Deferred.ofValue, invoke, hx, hy, hz]
theorem Qi {o : Oper} {a : Act} {w : World} (x : Operand) (ts : Array TypeId) (ho : o.op = .call { callee := .value x, args := #[], argTypes := ts }) (f : FuncId) (cap : Array Value) (hx : a.eval x = .func (.func f) #[] cap) (he : (callFunc f cap).run prog w = .ok (.enter f cap) w) :
  (execOp a.eval o).run prog w = .ok (.enter f cap) w := by
 simp [execOp, ho, resolve, Deferred.ofValue, invoke, hx, he]
end Go.Proofs.YtcklgafpgdhnaabGreatDoor
