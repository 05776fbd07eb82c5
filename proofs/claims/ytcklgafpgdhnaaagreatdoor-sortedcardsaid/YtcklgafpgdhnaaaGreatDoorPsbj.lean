import Derived.Test.YtcklgafpgdhnaaaGreatDoorPsbi
import Derived.Test.YtcklgafpgdhnaaaGreatDoorPsab
set_option maxRecDepth 100000
set_option maxHeartbeats 4000000
open Go.Proofs.Tryz
open Go.Act renaming put → zP
open List renaming getElem_toArray → zA, getElem_cons_succ → zB, getElem_cons_zero → zC, setIfInBounds_toArray → zD, set_cons_succ → zE, set_cons_zero → zF
namespace Go.Proofs.YtcklgafpgdhnaaaGreatDoor
open Go.RowKit Go.Shelf
attribute [local go_sem] Oper.semAt_some
theorem QdP (args : Array Value) (w : World) : (callFunc 66 args).run prog w = .ok (.enter 66 args) w := Q31 func66 (by kernel_rfl) (by kernel_rfl) args w
structure SM (M : List Nat) (x v a n : Nat) (hd : Hd) (r : Value) (t : Tr) (w : World) : Prop where
 row : w.heap[x]? = some (.cells (rowS hd v t r) 84 (0, 0))
 vol : Vol w v a n
 st : 1 <= hd.s /\ hd.s <= 3
 lv : TV w (· ∉ M) hd.lt hd.lr
 tv : TV w (· ∉ M) t r
 nx : x ∉ M
 nv : v ∉ M
theorem TV.kc {M : List Nat} {w w' : World} {t : Tr} {r : Value} (h : TV w (· ∉ M) t r) (k : KC M w w') : TV w' (· ∉ M) t r := h.imp id fun h => ⟨ND.kc k h.1, h.2⟩
theorem SM.kc {M : List Nat} {x v a n : Nat} {hd : Hd} {r : Value} {t : Tr} {w w' : World} (h : SM M x v a n hd r t w) (k : KC M w w') : SM M x v a n hd r t w' := ⟨k.row _ _ _ _ h.row h.nx (by decide), k.row _ _ _ _ h.vol h.nv (by decide), h.st, h.lv.kc k, h.tv.kc k, h.nx, h.nv⟩
theorem SM.toRec {M : List Nat} {x v a n : Nat} {hd : Hd} {r : Value} {t : Tr} {w : World} (h : SM M x v a n hd r t w) : Rec x v a n hd r t w := ⟨h.row, h.vol, h.st, TV.kept h.lv (Kept.refl [] w) (by simp) fun _ _ => trivial, TV.kept h.tv (Kept.refl [] w) (by simp) fun _ _ => trivial⟩
theorem QdQ {q : Nat} {X : World} {r : Value} {t : TypeId} (h : X.heap[q]? = some (.cells #[r] t (0, 0))) (fn : Fn) (first cap : Array Value) : (store ⟨q, 0, none⟩ (.func fn first cap)).run prog X = .ok () (X.setCell ⟨q, 0, none⟩ (.func fn first cap)) := by
 have hc : X.cell? ⟨q, 0, none⟩ = some r := Q02 h rfl
 have hf : X.frozen? ⟨q, 0, none⟩ = false := frozen_of_row _ _ _ _ _ h
 rw [run_store _ _ _ _ _ rfl]
 simp [hc, hf]
theorem QdR {w : World} {q : Nat} {t : TypeId} {a b : Value} (hq : w.heap[q]? = some (.cells #[a, b] t (0, 0))) : (loadVar 41 ⟨q, 0, none⟩).run prog w = .ok (.agg #[a, b]) w :=
 Q56 (e := [a, b]) (d := 2) _ hq ⟨rfl, fun j u h => by rw [Nat.zero_add]; simpa using h⟩ underlying41 Qag
def NoP (Q : Exit -> Act -> World -> Prop) : Exit -> Act -> World -> Prop
 | .panic _, _, _ => False
 | e, a, w => Q e a w
theorem NoP.of {Q : Exit -> Act -> World -> Prop} : ∀ (e : Exit) (a : Act) (w : World), NoP Q e a w -> Q e a w := by
 intro e a w h
 cases e <;> first | exact h | exact h.elim
def enc2 (x : Pr) : Array Value := #[.agg #[.string x.1, .string x.2], .nilIface]
theorem QdS (M : List Nat) (x v a nb b0 b1 b2 : Nat) (hd : Hd) (r : Value) (t : Tr) (lo hi : ByteArray) (ht : TW t) (w : World) (hb : Bx3 b0 b1 b2 x lo hi w) (hM : ∀ y ∈ M, y < w.heap.size) (hm0 : b0 ∉ M) (_hm1 : b1 ∉ M) (_hm2 : b2 ∉ M) (h : SM M x v a nb hd r t w) :
  Itr 64 #[.pointer (some ⟨b0, 0, none⟩), .pointer (some ⟨b1, 0, none⟩), .pointer (some ⟨b2, 0, none⟩)] enc2 (fun _ _ => True) M (fun ys => ys = flt lo hi (Q4V t)) (fun pre => pre <+: flt lo hi (Q4V t)) (flt lo hi (Q4V t)).length w := by
 intro l J Jx W kW hJ hJx hY h0
 have hbW := hb.k kW
 have hW' := h.kc (KC.of0 kW)
 have hmf := Q2H
 refine (callsIn_wide (n := 1)).1 (callsIn_of_wp_marks func64 rfl trivial ?_ rfl)
 simp only [ntmps64, List.size_toArray, List.length_cons, List.length_nil, Nat.reduceAdd, Nat.reduceSub, Array.replicate_succ, Array.replicate_zero, List.push_toArray, List.append_toArray, List.nil_append, List.cons_append]
 refine wpIn_mono (Q := NoP _) ?_ NoP.of
 refine wpIn_wide.2 ?_
 obtain ⟨en, een⟩ : ∃ en : Value, en = .func (.func 65) #[] #[.pointer (some ⟨b0, 0, none⟩), .pointer (some ⟨W.heap.size, 0, none⟩)] := ⟨_, rfl⟩
 obtain ⟨X0, eX0⟩ : ∃ X0, X0 = (W.alloc (.cells #[.func (.yield l) #[] #[]] 106)).alloc (.cells #[.nilFunc] 107) := ⟨_, rfl⟩
 have r1 : X0.heap[W.heap.size + 1]? = some (.cells #[.nilFunc] 107 (0, 0)) := by
  have := heap_alloc_new (W.alloc (.cells #[.func (.yield l) #[] #[]] 106)) (.cells #[.nilFunc] 107)
  rw [World.size_alloc] at this
  rw [eX0]
  exact this
 have hst := QdQ r1 (.func 65) #[] #[.pointer (some ⟨b0, 0, none⟩), .pointer (some ⟨W.heap.size, 0, none⟩)]
 rw [eX0] at hst
 clear r1 eX0
 obtain ⟨X1, eX1⟩ : ∃ X1, X1 = (W.alloc (.cells #[.func (.yield l) #[] #[]] 106)).alloc (.cells #[en] 107) := ⟨_, rfl⟩
 have k1 : Kept [] W X1 := by rw [eX1]; exact ((Kept.refl [] W).alloc _).alloc _
 have y1 : X1.heap[W.heap.size]? = some (.cells #[.func (.yield l) #[] #[]] 106 (0, 0)) := by rw [eX1]; exact ((Kept.refl [] _).alloc _).get (heap_alloc_new _ _) (by simp)
 have r1 : X1.heap[W.heap.size + 1]? = some (.cells #[en] 107 (0, 0)) := by
  have := heap_alloc_new (W.alloc (.cells #[.func (.yield l) #[] #[]] 106)) (.cells #[en] 107)
  rw [World.size_alloc] at this
  rw [eX1]
  exact this
 have s1 : X1.heap.size = W.heap.size + 2 := by rw [eX1]; simp
 rw [een] at eX1
 have HE : Hid (∀ W' b1, Kept [] W W' -> _) := fun W' b1 k' => QdN b0 b1 x v a nb hd r t W' (k'.get hbW.1 (by simp)) (hW'.kc (KC.of0 k')).toRec
 go_wp2_with (first
  | (go_at_call 65; refine (HE.out _ _ (((Kept.refl [] W).alloc _).alloc _)).mono ?_; rw [<- eX1]; rintro e w3 ⟨rfl, hk3⟩))
 have K3 : Kept [] W w3.drew := (k1.trans hk3).drew
 have hS : Bx3 b0 b1 b2 x lo hi w3.drew /\ RowX x v hd t r w3.drew := ⟨hbW.k K3, (hW'.kc (KC.of0 K3)).row⟩
 refine Q1j (fun W => Bx3 b0 b1 b2 x lo hi W /\ RowX x v hd t r W) (by kernel_rfl) ?_
 refine hu 0 (.pointer (some ⟨x, 0, none⟩)) rfl (fun W hW => Q0l 27 (.tmp 1) rfl ⟨b0, 0, none⟩ rfl _ (Q0p underlying27 rfl (Q02 hW.1.1 rfl))) hS ?_
 simp only [zP, zA, zC, zD, zE, zF]
 refine hu 1 (.pointer (some ⟨x, 0, none⟩)) rfl (fun W hW => by rfl) hS ?_
 simp only [zP, zA, zB, zC, zD, zE, zF]
 refine hu 2 (.pointer (some ⟨x, 0 + 7, none⟩)) rfl (fun W hW => Q33 84 (.tmp 11) 4 rfl x (0) rfl 7 (by rfl)) hS ?_
 simp only [zP, zA, zB, zC, zD, zE, zF]
 refine hu 3 (.agg #[.string ⟨#[]⟩, .int .i64 t.pl, r]) rfl (fun W hW => Q0l 82 (.tmp 12) rfl ⟨x, 0 + 7, none⟩ rfl _ (Qbh hW.2)) hS ?_
 simp only [zP, zA, zB, zC, zD, zE, zF]
 refine hu 4 (.string lo) rfl (fun W hW => Q0l 9 (.tmp 2) rfl ⟨b1, 0, none⟩ rfl _ (Q0p underlying9 rfl (Q02 hW.1.2.1 rfl))) hS ?_
 simp only [zP, zA, zB, zC, zD, zE, zF]
 refine hu 5 (.string hi) rfl (fun W hW => Q0l 9 (.tmp 3) rfl ⟨b2, 0, none⟩ rfl _ (Q0p underlying9 rfl (Q02 hW.1.2.2 rfl))) hS ?_
 simp only [zP, zA, zB, zC, zD, zE, zF]
 refine Q0j (i := 6) (by kernel_rfl) (Q2Z rfl (by rfl) 66 #[.agg #[.string ⟨#[]⟩, .int .i64 t.pl, r], .string lo, .string hi] (Q32 _ _ _ rfl _ (by simp [Act.eval]) (QdP _ _)) _ (QdM t r lo hi _) ?_)
 rintro e w4 ⟨rfl, hta4, hsz4, hk4⟩
 refine ⟨_, rfl, ⟨hS.1.k hk4, hk4.get hS.2 (by simp)⟩, ?_⟩
 simp only [zP, zA, zB, zC, zD, zE, zF]
 refine wpAnyH_done (by kernel_rfl) ?_ _
 have K4 : Kept [] W w4 := K3.trans hk4
 have hh4 := hW'.kc (KC.of0 K4)
 have y4 := (hk3.drew.trans hk4).get y1 (by simp)
 have r4 := (hk3.drew.trans hk4).get r1 (by simp)
 obtain ⟨c0, ec0⟩ : ∃ c0, c0 = w3.drew.heap.size := ⟨_, rfl⟩
 rw [<- ec0] at hta4 hsz4 ⊢
 clear hS hst ec0
 go_wp2_with fail
 have hMW : ∀ y ∈ M, y < W.heap.size := fun y hy => Nat.lt_of_lt_of_le (hM y hy) kW.size
 have hsW4 := K4.size
 have hJ4 := hJ _ _ _ h0 (Gr.of K4)
 refine QdC (α := Pr) rfl (fun _ _ => by kernel_rfl) (QdL M c0 (c0 + 1) (c0 + 1 + 1) lo hi r t ht w4 hta4 hh4.tv) (fun _ => rfl)
  (fun pre A => J pre A /\ KC M w4 A) (fun c pre A => c = .ret /\ Jx pre A) ?_ ?_ ⟨hJ4, KC.refl _ _⟩
  (fun p a' A => ∃ q, a' = { tmps := #[.func (.yield l) #[] #[], .pointer (some ⟨b0, 0, none⟩), .pointer (some ⟨b1, 0, none⟩), .pointer (some ⟨b2, 0, none⟩), .pointer (some ⟨W.heap.size, 0, none⟩), .pointer (some ⟨W.heap.size + 1, 0, none⟩), .pointer (some ⟨q, 0, none⟩), .func (.func 65) #[] #[.pointer (some ⟨b0, 0, none⟩), .pointer (some ⟨W.heap.size, 0, none⟩)], .func (.func 65) #[] #[.pointer (some ⟨b0, 0, none⟩), .pointer (some ⟨W.heap.size, 0, none⟩)], .bool false, .pointer (some ⟨x, 0, none⟩), .pointer (some ⟨x, 0, none⟩), .pointer (some ⟨x, 0 + 7, none⟩), .agg #[.string ⟨#[]⟩, .int .i64 t.pl, r], .string lo, .string hi, .func (.func 106) #[] #[.pointer (some ⟨c0, 0, none⟩), .pointer (some ⟨c0 + 1, 0, none⟩), .pointer (some ⟨c0 + 1 + 1, 0, none⟩)], .agg #[.string p.1, .string p.2], undef, undef, undef, undef, undef, undef, undef, undef, undef], defers := [] } /\ A.heap[q]? = some (.cells #[.string p.1, .string p.2] 41 (0, 0)) /\ q ∉ M) ?_ ?_ ?assign ?body ?done ?stop
 ·rintro s A A' ⟨h1, h2⟩ hg
  exact ⟨hJ _ _ _ h1 (hg.mono hsW4), h2.trans ⟨hg.os, hg.tape, hg.output, hg.size, fun i cs t fr hi _ _ => hg.row i cs t fr hi⟩⟩
 ·rintro c s A A' ⟨h1, h2⟩ hg
  exact ⟨h1, hJx _ _ _ h2 (hg.mono hsW4)⟩
 ·rintro p a' _ A A' ⟨q, h1, h2, h3⟩ hg
  exact ⟨q, h1, hg.row _ _ _ _ h2, h3⟩
 ·intro p _ A A' h _; exact h
 case assign =>
  rintro m l1 pre p A K ⟨_, hka⟩ _ hK
  have hAs := hka.size
  dsimp only [encP]
  gi_wp2
  exact hK _ _ ((Kept.refl [] A).alloc _) ⟨A.heap.size, rfl, heap_alloc_new _ _, fun hm => by have := hMW _ hm; omega⟩
 case body =>
  rintro m l1 pre p a' A ⟨hJp, hka⟩ hokp ⟨q, rfl, hq, hqM⟩ hlen
  have nW : W.heap.size ∉ M := fun hm => by have := hMW _ hm; omega
  have nW1 : W.heap.size + 1 ∉ M := fun hm => by have := hMW _ hm; omega
  have kfm : ∀ {X Y : World}, KeepsFrom W.heap.size X Y -> KeepsFrom w4.heap.size X Y := fun h => ⟨h.size, fun k o hk => h.same k o (by omega)⟩
  have BF : ∀ {X : World}, KC M A X -> X.heap[W.heap.size]? = some (.cells #[.func (.yield l) #[] #[]] 106 (0, 0)) /\ X.heap[W.heap.size + 1]? = some (.cells #[en] 107 (0, 0)) /\ X.heap[b0]? = some (.cells #[.pointer (some ⟨x, 0, none⟩)] 27 (0, 0)) /\ SM M x v a nb hd r t X := fun k => by
   have k4 := hka.trans k
   exact ⟨k4.row _ _ _ _ y4 nW (by decide), k4.row _ _ _ _ r4 nW1 (by decide), k4.row _ _ _ _ (hbW.k K4).1 hm0 (by decide), hh4.kc k4⟩
  have f0 := BF (KC.of0 (Kept.refl [] A).drew)
  have hq0 : A.drew.heap[q]? = some (.cells #[.string p.1, .string p.2] 41 (0, 0)) := hq
  rw [een] at BF
  gi_wp2
  refine wpIn_region_any (by kernel_rfl) ?_
  refine rTwo (i := 0) (j := 1) (by kernel_rfl) ?_ ?_
  ·refine rOp rfl (by rfl) (by intro c h; cases h) (.func (.yield l) #[] #[]) _ (Q0l 106 (.tmp 4) rfl ⟨W.heap.size, 0, none⟩ rfl _ (Q0p underlying106 rfl (Q02 f0.1 rfl))) ?_
   simp only [zP, zA, zC, zD, zE, zF]
   refine rOne (i := 1) (by kernel_rfl) (rOp rfl (by rfl) (by intro c h; cases h) (.agg #[.string p.1, .string p.2]) _ (Q0l 41 (.tmp 6) rfl ⟨q, 0, none⟩ rfl _ (QdR hq0)) ?_)
   simp only [zP, zA, zB, zC, zD, zE, zF]
   refine rOne (i := 2) (by kernel_rfl) (QdE rfl (by rfl) (by intro c h; cases h) 59 #[.agg #[.string p.1, .string p.2]] (Q32 _ _ _ rfl _ (by simp [Act.eval]) (Qbe _ _)) _ (Qah p.1 p.2 _ (by have := hokp.2.1; omega) (by have := hokp.2.2; omega)) ?_)
   rintro e X5 ⟨rfl, hk5⟩
   refine ⟨_, rfl, ?_⟩
   simp only [zP, zA, zB, zC, zD, zE, zF]
   have hJ5 := hJ _ _ _ hJp (Gr.of ((Kept.refl [] A).drew.trans hk5))
   have kc5 : KC M A X5 := KC.of0 ((Kept.refl [] A).drew.trans hk5)
   have kf5 : KeepsFrom w4.heap.size A X5 := KeepsFrom.of_grownBy (QdA ((Kept.refl [] A).drew.trans hk5)) (fun j e => by cases e)
   refine rOne (i := 3) (by kernel_rfl) (QdF rfl (by rfl) (by intro c h; cases h) l _ (QdG (.tmp 18) (.tmp 20) (.const .nilIface) _ rfl l rfl _ _ rfl rfl) _ (hY (m - 1) pre p X5 hJ5 trivial hlen) ?_)
   rintro e X6 (⟨rfl, hJ6, hkc6, hkf6⟩ | ⟨rfl, hJx6, hkf6⟩)
   ·refine ⟨_, rfl, ?_⟩
    simp only [zP, zA, zB, zC, zD, zE, zF]
    have kc6 := kc5.trans hkc6
    have f6 := BF kc6
    refine rOne (i := 4) (by kernel_rfl) (rOp rfl (by rfl) (by intro c h; cases h) (.bool false) X6 (rfl) ?_)
    simp only [zP, zA, zB, zC, zD, zE, zF]
    refine rOne (i := 5) (by kernel_rfl) (rOp rfl (by rfl) (by intro c h; cases h) (.bool false) X6 (rfl) ?_)
    simp only [zP, zA, zB, zC, zD, zE, zF]
    refine rOne (i := 6) (by kernel_rfl) (rOp rfl (by rfl) (by intro c h; cases h) (.func (.func 65) #[] #[.pointer (some ⟨b0, 0, none⟩), .pointer (some ⟨W.heap.size, 0, none⟩)]) X6 (Q0l 107 (.tmp 5) rfl ⟨W.heap.size + 1, 0, none⟩ rfl _ (Q0p underlying107 rfl (Q02 f6.2.1 rfl))) ?_)
    simp only [zP, zA, zB, zC, zD, zE, zF]
    refine rOne (i := 7) (by kernel_rfl) (QdE rfl (by rfl) (by intro c h; cases h) 65 #[.pointer (some ⟨b0, 0, none⟩), .pointer (some ⟨W.heap.size, 0, none⟩)] (QdH (.tmp 24) _ rfl 65 _ rfl (by kernel_rfl)) _ (QdN b0 W.heap.size x v a nb hd r t X6 f6.2.2.1 f6.2.2.2.toRec) ?_)
    rintro e X7 ⟨rfl, hk7⟩
    refine ⟨_, rfl, ?_⟩
    simp only [zP, zA, zB, zC, zD, zE, zF]
    refine rOne (i := 8) (by kernel_rfl) (rOp rfl (by rfl) (by intro c h; cases h) (.bool false) X7 (rfl) ?_)
    simp only [zP, zA, zB, zC, zD, zE, zF]
    refine wpAnyIn_done (by kernel_rfl) ?_ _
    have FIN : Hid (RndP M w4.heap.size (fun pre A => J pre A /\ KC M w4 A) (fun c pre A => c = .ret /\ Jx pre A) (pre ++ [p]) A .normal { tmps := #[], defers := [] } X7) := ⟨(kf5.trans (kfm hkf6)).trans (KeepsFrom.of_grownBy (QdA hk7) (fun j e => by cases e)), kc6.trans (KC.of0 hk7), hJ _ _ _ hJ6 (Gr.of hk7), (hka.trans kc6).trans (KC.of0 hk7)⟩
    clear hJ6 hJ5
    gi_wp2
    exact FIN.out
   ·refine ⟨_, rfl, ?_⟩
    simp only [zP, zA, zB, zC, zD, zE, zF]
    refine rOne (i := 4) (by kernel_rfl) (rOp rfl (by rfl) (by intro c h; cases h) (.bool true) X6 (rfl) ?_)
    simp only [zP, zA, zB, zC, zD, zE, zF]
    refine rOne (i := 5) (by kernel_rfl) (rOp rfl (by rfl) (by intro c h; cases h) (.bool true) X6 (rfl) ?_)
    simp only [zP, zA, zB, zC, zD, zE, zF]
    refine rOne (i := 6) (by kernel_rfl) (QdD rfl (by rfl) ?_)
    simp only [zP, zA, zB, zC, zD, zE, zF]
    refine rOne (i := 7) (by kernel_rfl) (QdD rfl (by rfl) ?_)
    simp only [zP, zA, zB, zC, zD, zE, zF]
    refine rOne (i := 8) (by kernel_rfl) (rOp rfl (by rfl) (by intro c h; cases h) (.bool true) X6 (rfl) ?_)
    simp only [zP, zA, zB, zC, zD, zE, zF]
    refine wpAnyIn_done (by kernel_rfl) ?_ _
    have FIN : Hid (RndP M w4.heap.size (fun pre A => J pre A /\ KC M w4 A) (fun c pre A => c = .ret /\ Jx pre A) (pre ++ [p]) A .ret { tmps := #[], defers := [] } X6) := ⟨kf5.trans (kfm hkf6), rfl, hJx6⟩
    clear hJx6 hJ5
    gi_wp2
    exact FIN.out
  ·refine rOp rfl (by rfl) (by intro c h; cases h) (.agg #[.string p.1, .string p.2]) _ (Q0l 41 (.tmp 6) rfl ⟨q, 0, none⟩ rfl _ (QdR hq0)) ?_
   simp only [zP, zA, zB, zC, zD, zE, zF]
   refine rTwo (i := 0) (j := 2) (by kernel_rfl) ?_ ?_
   ·refine rOp rfl (by rfl) (by intro c h; cases h) (.func (.yield l) #[] #[]) _ (Q0l 106 (.tmp 4) rfl ⟨W.heap.size, 0, none⟩ rfl _ (Q0p underlying106 rfl (Q02 f0.1 rfl))) ?_
    simp only [zP, zA, zC, zD, zE, zF]
    refine rOne (i := 2) (by kernel_rfl) (QdE rfl (by rfl) (by intro c h; cases h) 59 #[.agg #[.string p.1, .string p.2]] (Q32 _ _ _ rfl _ (by simp [Act.eval]) (Qbe _ _)) _ (Qah p.1 p.2 _ (by have := hokp.2.1; omega) (by have := hokp.2.2; omega)) ?_)
    rintro e X5 ⟨rfl, hk5⟩
    refine ⟨_, rfl, ?_⟩
    simp only [zP, zA, zB, zC, zD, zE, zF]
    have hJ5 := hJ _ _ _ hJp (Gr.of ((Kept.refl [] A).drew.trans hk5))
    have kc5 : KC M A X5 := KC.of0 ((Kept.refl [] A).drew.trans hk5)
    have kf5 : KeepsFrom w4.heap.size A X5 := KeepsFrom.of_grownBy (QdA ((Kept.refl [] A).drew.trans hk5)) (fun j e => by cases e)
    refine rOne (i := 3) (by kernel_rfl) (QdF rfl (by rfl) (by intro c h; cases h) l _ (QdG (.tmp 18) (.tmp 20) (.const .nilIface) _ rfl l rfl _ _ rfl rfl) _ (hY (m - 1) pre p X5 hJ5 trivial hlen) ?_)
    rintro e X6 (⟨rfl, hJ6, hkc6, hkf6⟩ | ⟨rfl, hJx6, hkf6⟩)
    ·refine ⟨_, rfl, ?_⟩
     simp only [zP, zA, zB, zC, zD, zE, zF]
     have kc6 := kc5.trans hkc6
     have f6 := BF kc6
     refine rOne (i := 4) (by kernel_rfl) (rOp rfl (by rfl) (by intro c h; cases h) (.bool false) X6 (rfl) ?_)
     simp only [zP, zA, zB, zC, zD, zE, zF]
     refine rOne (i := 5) (by kernel_rfl) (rOp rfl (by rfl) (by intro c h; cases h) (.bool false) X6 (rfl) ?_)
     simp only [zP, zA, zB, zC, zD, zE, zF]
     refine rOne (i := 6) (by kernel_rfl) (rOp rfl (by rfl) (by intro c h; cases h) (.func (.func 65) #[] #[.pointer (some ⟨b0, 0, none⟩), .pointer (some ⟨W.heap.size, 0, none⟩)]) X6 (Q0l 107 (.tmp 5) rfl ⟨W.heap.size + 1, 0, none⟩ rfl _ (Q0p underlying107 rfl (Q02 f6.2.1 rfl))) ?_)
     simp only [zP, zA, zB, zC, zD, zE, zF]
     refine rOne (i := 7) (by kernel_rfl) (QdE rfl (by rfl) (by intro c h; cases h) 65 #[.pointer (some ⟨b0, 0, none⟩), .pointer (some ⟨W.heap.size, 0, none⟩)] (QdH (.tmp 24) _ rfl 65 _ rfl (by kernel_rfl)) _ (QdN b0 W.heap.size x v a nb hd r t X6 f6.2.2.1 f6.2.2.2.toRec) ?_)
     rintro e X7 ⟨rfl, hk7⟩
     refine ⟨_, rfl, ?_⟩
     simp only [zP, zA, zB, zC, zD, zE, zF]
     refine rOne (i := 8) (by kernel_rfl) (rOp rfl (by rfl) (by intro c h; cases h) (.bool false) X7 (rfl) ?_)
     simp only [zP, zA, zB, zC, zD, zE, zF]
     refine wpAnyIn_done (by kernel_rfl) ?_ _
     have FIN : Hid (RndP M w4.heap.size (fun pre A => J pre A /\ KC M w4 A) (fun c pre A => c = .ret /\ Jx pre A) (pre ++ [p]) A .normal { tmps := #[], defers := [] } X7) := ⟨(kf5.trans (kfm hkf6)).trans (KeepsFrom.of_grownBy (QdA hk7) (fun j e => by cases e)), kc6.trans (KC.of0 hk7), hJ _ _ _ hJ6 (Gr.of hk7), (hka.trans kc6).trans (KC.of0 hk7)⟩
     clear hJ6 hJ5
     gi_wp2
     exact FIN.out
    ·refine ⟨_, rfl, ?_⟩
     simp only [zP, zA, zB, zC, zD, zE, zF]
     refine rOne (i := 4) (by kernel_rfl) (rOp rfl (by rfl) (by intro c h; cases h) (.bool true) X6 (rfl) ?_)
     simp only [zP, zA, zB, zC, zD, zE, zF]
     refine rOne (i := 5) (by kernel_rfl) (rOp rfl (by rfl) (by intro c h; cases h) (.bool true) X6 (rfl) ?_)
     simp only [zP, zA, zB, zC, zD, zE, zF]
     refine rOne (i := 6) (by kernel_rfl) (QdD rfl (by rfl) ?_)
     simp only [zP, zA, zB, zC, zD, zE, zF]
     refine rOne (i := 7) (by kernel_rfl) (QdD rfl (by rfl) ?_)
     simp only [zP, zA, zB, zC, zD, zE, zF]
     refine rOne (i := 8) (by kernel_rfl) (rOp rfl (by rfl) (by intro c h; cases h) (.bool true) X6 (rfl) ?_)
     simp only [zP, zA, zB, zC, zD, zE, zF]
     refine wpAnyIn_done (by kernel_rfl) ?_ _
     have FIN : Hid (RndP M w4.heap.size (fun pre A => J pre A /\ KC M w4 A) (fun c pre A => c = .ret /\ Jx pre A) (pre ++ [p]) A .ret { tmps := #[], defers := [] } X6) := ⟨kf5.trans (kfm hkf6), rfl, hJx6⟩
     clear hJx6 hJ5
     gi_wp2
     exact FIN.out
   ·refine QdE rfl (by rfl) (by intro c h; cases h) 59 #[.agg #[.string p.1, .string p.2]] (Q32 _ _ _ rfl _ (by simp [Act.eval]) (Qbe _ _)) _ (Qah p.1 p.2 _ (by have := hokp.2.1; omega) (by have := hokp.2.2; omega)) ?_
    rintro e X5 ⟨rfl, hk5⟩
    refine ⟨_, rfl, ?_⟩
    simp only [zP, zA, zB, zC, zD, zE, zF]
    have f5 := BF (KC.of0 ((Kept.refl [] A).drew.trans hk5))
    refine rOne (i := 0) (by kernel_rfl) (rOp rfl (by rfl) (by intro c h; cases h) (.func (.yield l) #[] #[]) _ (Q0l 106 (.tmp 4) rfl ⟨W.heap.size, 0, none⟩ rfl _ (Q0p underlying106 rfl (Q02 f5.1 rfl))) ?_)
    simp only [zP, zA, zC, zD, zE, zF]
    have hJ5 := hJ _ _ _ hJp (Gr.of ((Kept.refl [] A).drew.trans hk5))
    have kc5 : KC M A X5 := KC.of0 ((Kept.refl [] A).drew.trans hk5)
    have kf5 : KeepsFrom w4.heap.size A X5 := KeepsFrom.of_grownBy (QdA ((Kept.refl [] A).drew.trans hk5)) (fun j e => by cases e)
    refine rOne (i := 3) (by kernel_rfl) (QdF rfl (by rfl) (by intro c h; cases h) l _ (QdG (.tmp 18) (.tmp 20) (.const .nilIface) _ rfl l rfl _ _ rfl rfl) _ (hY (m - 1) pre p X5 hJ5 trivial hlen) ?_)
    rintro e X6 (⟨rfl, hJ6, hkc6, hkf6⟩ | ⟨rfl, hJx6, hkf6⟩)
    ·refine ⟨_, rfl, ?_⟩
     simp only [zP, zA, zB, zC, zD, zE, zF]
     have kc6 := kc5.trans hkc6
     have f6 := BF kc6
     refine rOne (i := 4) (by kernel_rfl) (rOp rfl (by rfl) (by intro c h; cases h) (.bool false) X6 (rfl) ?_)
     simp only [zP, zA, zB, zC, zD, zE, zF]
     refine rOne (i := 5) (by kernel_rfl) (rOp rfl (by rfl) (by intro c h; cases h) (.bool false) X6 (rfl) ?_)
     simp only [zP, zA, zB, zC, zD, zE, zF]
     refine rOne (i := 6) (by kernel_rfl) (rOp rfl (by rfl) (by intro c h; cases h) (.func (.func 65) #[] #[.pointer (some ⟨b0, 0, none⟩), .pointer (some ⟨W.heap.size, 0, none⟩)]) X6 (Q0l 107 (.tmp 5) rfl ⟨W.heap.size + 1, 0, none⟩ rfl _ (Q0p underlying107 rfl (Q02 f6.2.1 rfl))) ?_)
     simp only [zP, zA, zB, zC, zD, zE, zF]
     refine rOne (i := 7) (by kernel_rfl) (QdE rfl (by rfl) (by intro c h; cases h) 65 #[.pointer (some ⟨b0, 0, none⟩), .pointer (some ⟨W.heap.size, 0, none⟩)] (QdH (.tmp 24) _ rfl 65 _ rfl (by kernel_rfl)) _ (QdN b0 W.heap.size x v a nb hd r t X6 f6.2.2.1 f6.2.2.2.toRec) ?_)
     rintro e X7 ⟨rfl, hk7⟩
     refine ⟨_, rfl, ?_⟩
     simp only [zP, zA, zB, zC, zD, zE, zF]
     refine rOne (i := 8) (by kernel_rfl) (rOp rfl (by rfl) (by intro c h; cases h) (.bool false) X7 (rfl) ?_)
     simp only [zP, zA, zB, zC, zD, zE, zF]
     refine wpAnyIn_done (by kernel_rfl) ?_ _
     have FIN : Hid (RndP M w4.heap.size (fun pre A => J pre A /\ KC M w4 A) (fun c pre A => c = .ret /\ Jx pre A) (pre ++ [p]) A .normal { tmps := #[], defers := [] } X7) := ⟨(kf5.trans (kfm hkf6)).trans (KeepsFrom.of_grownBy (QdA hk7) (fun j e => by cases e)), kc6.trans (KC.of0 hk7), hJ _ _ _ hJ6 (Gr.of hk7), (hka.trans kc6).trans (KC.of0 hk7)⟩
     clear hJ6 hJ5
     gi_wp2
     exact FIN.out
    ·refine ⟨_, rfl, ?_⟩
     simp only [zP, zA, zB, zC, zD, zE, zF]
     refine rOne (i := 4) (by kernel_rfl) (rOp rfl (by rfl) (by intro c h; cases h) (.bool true) X6 (rfl) ?_)
     simp only [zP, zA, zB, zC, zD, zE, zF]
     refine rOne (i := 5) (by kernel_rfl) (rOp rfl (by rfl) (by intro c h; cases h) (.bool true) X6 (rfl) ?_)
     simp only [zP, zA, zB, zC, zD, zE, zF]
     refine rOne (i := 6) (by kernel_rfl) (QdD rfl (by rfl) ?_)
     simp only [zP, zA, zB, zC, zD, zE, zF]
     refine rOne (i := 7) (by kernel_rfl) (QdD rfl (by rfl) ?_)
     simp only [zP, zA, zB, zC, zD, zE, zF]
     refine rOne (i := 8) (by kernel_rfl) (rOp rfl (by rfl) (by intro c h; cases h) (.bool true) X6 (rfl) ?_)
     simp only [zP, zA, zB, zC, zD, zE, zF]
     refine wpAnyIn_done (by kernel_rfl) ?_ _
     have FIN : Hid (RndP M w4.heap.size (fun pre A => J pre A /\ KC M w4 A) (fun c pre A => c = .ret /\ Jx pre A) (pre ++ [p]) A .ret { tmps := #[], defers := [] } X6) := ⟨kf5.trans (kfm hkf6), rfl, hJx6⟩
     clear hJx6 hJ5
     gi_wp2
     exact FIN.out
 case done =>
  rintro D xs A hD rfl ⟨hJp, hka⟩ hdf
  have FIN : Hid (J (flt lo hi (Q4V t)) (A.putObj D (.deferred none))) := hJ _ _ _ hJp (Gr.put _ (by omega) hdf rfl)
  refine ⟨by simp, .inl ⟨_, _, rfl, run_takeDeferred hdf, ?_⟩⟩
  exact ⟨.tuple #[], results_none rfl _ _ _, ⟨_, rfl⟩, Or.inl ⟨_, rfl, FIN.out⟩⟩
 case stop =>
  rintro D c pre A hD hpre ⟨rfl, hJp⟩ hdf
  have FIN : Hid (Jx pre (A.putObj D (.deferred none))) := hJx _ _ _ hJp (Gr.put _ (by omega) hdf rfl)
  go_wp2
  refine ⟨by simp, .inl ⟨_, _, rfl, run_takeDeferred hdf, ?_⟩⟩
  exact ⟨.tuple #[], results_none rfl _ _ _, ⟨_, rfl⟩, Or.inr ⟨_, hpre, FIN.out⟩⟩
end Go.Proofs.YtcklgafpgdhnaaaGreatDoor
