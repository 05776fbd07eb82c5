import Derived.Test.YtcklgafpgdhnaabGreatDoorPqbp
import Derived.Test.YtcklgafpgdhnaabGreatDoorPqab
set_option maxRecDepth 100000
set_option maxHeartbeats 4000000
open Go.Proofs.Tryz
open Go.Act renaming put → zP
open List renaming getElem_toArray → zA, getElem_cons_succ → zB, getElem_cons_zero → zC, setIfInBounds_toArray → zD, set_cons_succ → zE, set_cons_zero → zF
namespace Go.Proofs.YtcklgafpgdhnaabGreatDoor
open Go.RowKit Go.Shelf
attribute [local go_sem] Oper.semAt_some
theorem Qbl (args : Array Value) (w : World) : (callFunc 87 args).run prog w = .ok (.enter 87 args) w := qA func87 (by kernel_rfl) (by kernel_rfl) args w
structure SM (M : List Nat) (x v a n : Nat) (hd : Hd) (r : Value) (t : Tr) (w : World) : Prop where
 row : w.heap[x]? = some (.cells (qk hd v t r) 79 (0, 0))
 vol : Vol w v a n
 st : 1 <= hd.s /\ hd.s <= 3
 lv : TV w (· ∉ M) hd.lt hd.lr
 tv : TV w (· ∉ M) t r
 nx : x ∉ M
 nv : v ∉ M
theorem TV.kc {M : List Nat} {w w' : World} {t : Tr} {r : Value} (h : TV w (· ∉ M) t r) (k : KC M w w') : TV w' (· ∉ M) t r := h.imp id fun h => ⟨ND.kc k h.1, h.2⟩
theorem SM.kc {M : List Nat} {x v a n : Nat} {hd : Hd} {r : Value} {t : Tr} {w w' : World} (h : SM M x v a n hd r t w) (k : KC M w w') : SM M x v a n hd r t w' := ⟨k.row _ _ _ _ h.row h.nx (by decide), k.row _ _ _ _ h.vol h.nv (by decide), h.st, h.lv.kc k, h.tv.kc k, h.nx, h.nv⟩
theorem SM.toRec {M : List Nat} {x v a n : Nat} {hd : Hd} {r : Value} {t : Tr} {w : World} (h : SM M x v a n hd r t w) : Rec x v a n hd r t w := ⟨h.row, h.vol, h.st, TV.kept h.lv (y5.refl [] w) (by simp) fun _ _ => trivial, TV.kept h.tv (y5.refl [] w) (by simp) fun _ _ => trivial⟩
theorem Qbm {q : Nat} {X : World} {r : Value} {t : TypeId} (h : X.heap[q]? = some (.cells #[r] t (0, 0))) (fn : Fn) (first cap : Array Value) : (store ⟨q, 0, none⟩ (.func fn first cap)).run prog X = .ok () (X.setCell ⟨q, 0, none⟩ (.func fn first cap)) := by
 have hc : X.cell? ⟨q, 0, none⟩ = some r := y6 h rfl
 have hf : X.frozen? ⟨q, 0, none⟩ = false := frozen_of_row _ _ _ _ _ h
 rw [run_store _ _ _ _ _ rfl]
 simp [hc, hf]
theorem Qbn {w : World} {q : Nat} {t : TypeId} {a b : Value} (hq : w.heap[q]? = some (.cells #[a, b] t (0, 0))) : (loadVar 52 ⟨q, 0, none⟩).run prog w = .ok (.agg #[a, b]) w :=
 gG (e := [a, b]) (d := 2) _ hq ⟨rfl, fun j u h => by rw [Nat.zero_add]; simpa using h⟩ underlying52 Q7s
def NoP (Q : Exit -> Act -> World -> Prop) : Exit -> Act -> World -> Prop
 | .panic _, _, _ => False
 | e, a, w => Q e a w
theorem NoP.of {Q : Exit -> Act -> World -> Prop} : ∀ (e : Exit) (a : Act) (w : World), NoP Q e a w -> Q e a w := by
 intro e a w h
 cases e <;> first | exact h | exact h.elim
def enc2 (x : Pr) : Array Value := #[.agg #[.string x.1, .string x.2], .nilIface]
theorem Qbo (M : List Nat) (x v a nb b0 b1 b2 : Nat) (hd : Hd) (r : Value) (t : Tr) (lo hi : ByteArray) (ht : TW t) (w : World) (hb : Bx3 b0 b1 b2 x lo hi w) (hM : ∀ y ∈ M, y < w.heap.size) (hm0 : b0 ∉ M) (_hm1 : b1 ∉ M) (_hm2 : b2 ∉ M) (h : SM M x v a nb hd r t w) :
  Itr 85 #[.pointer (some ⟨b0, 0, none⟩), .pointer (some ⟨b1, 0, none⟩), .pointer (some ⟨b2, 0, none⟩)] enc2 (fun _ _ => True) M (fun ys => ys = flt lo hi (y7 t)) (fun pre => pre <+: flt lo hi (y7 t)) (flt lo hi (y7 t)).length w := by
 intro l J Jx W kW hJ hJx hY h0
 have hbW := hb.k kW
 have hW' := h.kc (KC.of0 kW)
 have hmf := jb
 refine (callsIn_wide (n := 1)).1 (callsIn_of_wp_marks func85 rfl trivial ?_ rfl)
 simp only [ntmps85, List.size_toArray, List.length_cons, List.length_nil, Nat.reduceAdd, Nat.reduceSub, Array.replicate_succ, Array.replicate_zero, List.push_toArray, List.append_toArray, List.nil_append, List.cons_append]
 refine wpIn_mono (Q := NoP _) ?_ NoP.of
 refine wpIn_wide.2 ?_
 obtain ⟨en, een⟩ : ∃ en : Value, en = .func (.func 86) #[] #[.pointer (some ⟨b0, 0, none⟩), .pointer (some ⟨W.heap.size, 0, none⟩)] := ⟨_, rfl⟩
 obtain ⟨X0, eX0⟩ : ∃ X0, X0 = (W.alloc (.cells #[.func (.yield l) #[] #[]] 148)).alloc (.cells #[.nilFunc] 130) := ⟨_, rfl⟩
 have r1 : X0.heap[W.heap.size + 1]? = some (.cells #[.nilFunc] 130 (0, 0)) := by
  have := heap_alloc_new (W.alloc (.cells #[.func (.yield l) #[] #[]] 148)) (.cells #[.nilFunc] 130)
  rw [World.size_alloc] at this
  rw [eX0]
  exact this
 have hst := Qbm r1 (.func 86) #[] #[.pointer (some ⟨b0, 0, none⟩), .pointer (some ⟨W.heap.size, 0, none⟩)]
 rw [eX0] at hst
 clear r1 eX0
 obtain ⟨X1, eX1⟩ : ∃ X1, X1 = (W.alloc (.cells #[.func (.yield l) #[] #[]] 148)).alloc (.cells #[en] 130) := ⟨_, rfl⟩
 have k1 : y5 [] W X1 := by rw [eX1]; exact ((y5.refl [] W).alloc _).alloc _
 have y1 : X1.heap[W.heap.size]? = some (.cells #[.func (.yield l) #[] #[]] 148 (0, 0)) := by rw [eX1]; exact ((y5.refl [] _).alloc _).get (heap_alloc_new _ _) (by simp)
 have r1 : X1.heap[W.heap.size + 1]? = some (.cells #[en] 130 (0, 0)) := by
  have := heap_alloc_new (W.alloc (.cells #[.func (.yield l) #[] #[]] 148)) (.cells #[en] 130)
  rw [World.size_alloc] at this
  rw [eX1]
  exact this
 have s1 : X1.heap.size = W.heap.size + 2 := by rw [eX1]; simp
 rw [een] at eX1
 have HE : Hid (∀ W' b1, y5 [] W W' -> _) := fun W' b1 k' => QS b0 b1 x v a nb hd r t W' (k'.get hbW.1 (by simp)) (hW'.kc (KC.of0 k')).toRec
 go_wp2_with (first
  | (go_at_call 86; refine (HE.out _ _ (((y5.refl [] W).alloc _).alloc _)).mono ?_; rw [<- eX1]; rintro e w3 ⟨rfl, hk3⟩))
 have K3 : y5 [] W w3.drew := (k1.trans hk3).drew
 have hS : Bx3 b0 b1 b2 x lo hi w3.drew /\ ja x v hd t r w3.drew := ⟨hbW.k K3, (hW'.kc (KC.of0 K3)).row⟩
 refine yj (fun W => Bx3 b0 b1 b2 x lo hi W /\ ja x v hd t r W) (by kernel_rfl) ?_
 refine hu 0 (.pointer (some ⟨x, 0, none⟩)) rfl (fun W hW => y9 24 (.tmp 1) rfl ⟨b0, 0, none⟩ rfl _ (yh underlying24 rfl (y6 hW.1.1 rfl))) hS ?_
 simp only [zP, zA, zC, zD, zE, zF]
 refine hu 1 (.pointer (some ⟨x, 0, none⟩)) rfl (fun W hW => by rfl) hS ?_
 simp only [zP, zA, zB, zC, zD, zE, zF]
 refine hu 2 (.pointer (some ⟨x, 0 + 7, none⟩)) rfl (fun W hW => yv 79 (.tmp 11) 4 rfl x (0) rfl 7 (by rfl)) hS ?_
 simp only [zP, zA, zB, zC, zD, zE, zF]
 refine hu 3 (.agg #[.string ⟨#[]⟩, .int .i64 t.pl, r]) rfl (fun W hW => y9 77 (.tmp 12) rfl ⟨x, 0 + 7, none⟩ rfl _ (Q8i hW.2)) hS ?_
 simp only [zP, zA, zB, zC, zD, zE, zF]
 refine hu 4 (.string lo) rfl (fun W hW => y9 9 (.tmp 2) rfl ⟨b1, 0, none⟩ rfl _ (yh underlying9 rfl (y6 hW.1.2.1 rfl))) hS ?_
 simp only [zP, zA, zB, zC, zD, zE, zF]
 refine hu 5 (.string hi) rfl (fun W hW => y9 9 (.tmp 3) rfl ⟨b2, 0, none⟩ rfl _ (yh underlying9 rfl (y6 hW.1.2.2 rfl))) hS ?_
 simp only [zP, zA, zB, zC, zD, zE, zF]
 refine yf (i := 6) (by kernel_rfl) (yo rfl (by rfl) 87 #[.agg #[.string ⟨#[]⟩, .int .i64 t.pl, r], .string lo, .string hi] (yk _ _ _ rfl _ (by simp [Act.eval]) (Qbl _ _)) _ (Qbj t r lo hi _) ?_)
 rintro e w4 ⟨rfl, hta4, hsz4, hk4⟩
 refine ⟨_, rfl, ⟨hS.1.k hk4, hk4.get hS.2 (by simp)⟩, ?_⟩
 simp only [zP, zA, zB, zC, zD, zE, zF]
 refine wpAnyH_done (by kernel_rfl) ?_ _
 have K4 : y5 [] W w4 := K3.trans hk4
 have hh4 := hW'.kc (KC.of0 K4)
 have y4 := (hk3.drew.trans hk4).get y1 (by simp)
 have r4 := (hk3.drew.trans hk4).get r1 (by simp)
 obtain ⟨c0, ec0⟩ : ∃ c0, c0 = w3.drew.heap.size := ⟨_, rfl⟩
 rw [<- ec0] at hta4 hsz4 ⊢
 clear hS hst ec0
 go_wp2_with fail
 have hMW : ∀ y ∈ M, y < W.heap.size := fun y hy => Nat.lt_of_lt_of_le (hM y hy) kW.size
 have hsW4 := K4.size
 have hJ4 := hJ _ _ _ h0 (Gr.of K4)
 refine Qbb (α := Pr) rfl (fun _ _ => by kernel_rfl) (Qbi M c0 (c0 + 1) (c0 + 1 + 1) lo hi r t ht w4 hta4 hh4.tv) (fun _ => rfl)
  (fun pre A => J pre A /\ KC M w4 A) (fun c pre A => c = .ret /\ Jx pre A) ?_ ?_ ⟨hJ4, KC.refl _ _⟩
  (fun p a' A => ∃ q, a' = { tmps := #[.func (.yield l) #[] #[], .pointer (some ⟨b0, 0, none⟩), .pointer (some ⟨b1, 0, none⟩), .pointer (some ⟨b2, 0, none⟩), .pointer (some ⟨W.heap.size, 0, none⟩), .pointer (some ⟨W.heap.size + 1, 0, none⟩), .pointer (some ⟨q, 0, none⟩), .func (.func 86) #[] #[.pointer (some ⟨b0, 0, none⟩), .pointer (some ⟨W.heap.size, 0, none⟩)], .func (.func 86) #[] #[.pointer (some ⟨b0, 0, none⟩), .pointer (some ⟨W.heap.size, 0, none⟩)], .bool false, .pointer (some ⟨x, 0, none⟩), .pointer (some ⟨x, 0, none⟩), .pointer (some ⟨x, 0 + 7, none⟩), .agg #[.string ⟨#[]⟩, .int .i64 t.pl, r], .string lo, .string hi, .func (.func 113) #[] #[.pointer (some ⟨c0, 0, none⟩), .pointer (some ⟨c0 + 1, 0, none⟩), .pointer (some ⟨c0 + 1 + 1, 0, none⟩)], .agg #[.string p.1, .string p.2], undef, undef, undef, undef, undef, undef, undef, undef, undef], defers := [] } /\ A.heap[q]? = some (.cells #[.string p.1, .string p.2] 52 (0, 0)) /\ q ∉ M) ?_ ?_ ?assign ?body ?done ?stop
 ·rintro s A A' ⟨h1, h2⟩ hg
  exact ⟨hJ _ _ _ h1 (hg.mono hsW4), h2.trans ⟨hg.os, hg.tape, hg.output, hg.size, fun i cs t fr hi _ _ => hg.row i cs t fr hi⟩⟩
 ·rintro c s A A' ⟨h1, h2⟩ hg
  exact ⟨h1, hJx _ _ _ h2 (hg.mono hsW4)⟩
 ·rintro p a' _ A A' ⟨q, h1, h2, h3⟩ hg
  exact ⟨q, h1, hg.row _ _ _ _ h2, h3⟩
 ·intro p _ A A' h _; exact h
 case assign =>
  rintro m l1 pre p A K ⟨_, hka⟩ _ hK
  have hAs := hka.size
  dsimp only [encP]
  gi_wp2
  exact hK _ _ ((y5.refl [] A).alloc _) ⟨A.heap.size, rfl, heap_alloc_new _ _, fun hm => by have := hMW _ hm; omega⟩
 case body =>
  rintro m l1 pre p a' A ⟨hJp, hka⟩ hokp ⟨q, rfl, hq, hqM⟩ hlen
  have nW : W.heap.size ∉ M := fun hm => by have := hMW _ hm; omega
  have nW1 : W.heap.size + 1 ∉ M := fun hm => by have := hMW _ hm; omega
  have kfm : ∀ {X Y : World}, KeepsFrom W.heap.size X Y -> KeepsFrom w4.heap.size X Y := fun h => ⟨h.size, fun k o hk => h.same k o (by omega)⟩
  have BF : ∀ {X : World}, KC M A X -> X.heap[W.heap.size]? = some (.cells #[.func (.yield l) #[] #[]] 148 (0, 0)) /\ X.heap[W.heap.size + 1]? = some (.cells #[en] 130 (0, 0)) /\ X.heap[b0]? = some (.cells #[.pointer (some ⟨x, 0, none⟩)] 24 (0, 0)) /\ SM M x v a nb hd r t X := fun k => by
   have k4 := hka.trans k
   exact ⟨k4.row _ _ _ _ y4 nW (by decide), k4.row _ _ _ _ r4 nW1 (by decide), k4.row _ _ _ _ (hbW.k K4).1 hm0 (by decide), hh4.kc k4⟩
  have f0 := BF (KC.of0 (y5.refl [] A).drew)
  have hq0 : A.drew.heap[q]? = some (.cells #[.string p.1, .string p.2] 52 (0, 0)) := hq
  rw [een] at BF
  gi_wp2
  refine wpIn_region_any (by kernel_rfl) ?_
  refine rTwo (i := 0) (j := 1) (by kernel_rfl) ?_ ?_
  ·refine rOp rfl (by rfl) (by intro c h; cases h) (.func (.yield l) #[] #[]) _ (y9 148 (.tmp 4) rfl ⟨W.heap.size, 0, none⟩ rfl _ (yh underlying148 rfl (y6 f0.1 rfl))) ?_
   simp only [zP, zA, zC, zD, zE, zF]
   refine gq (i := 1) (by kernel_rfl) (rOp rfl (by rfl) (by intro c h; cases h) (.agg #[.string p.1, .string p.2]) _ (y9 52 (.tmp 6) rfl ⟨q, 0, none⟩ rfl _ (Qbn hq0)) ?_)
   simp only [zP, zA, zB, zC, zD, zE, zF]
   refine gq (i := 2) (by kernel_rfl) (Qbd rfl (by rfl) (by intro c h; cases h) 43 #[.agg #[.string p.1, .string p.2]] (yk _ _ _ rfl _ (by simp [Act.eval]) (j8 _ _)) _ (Qy p.1 p.2 _ (by have := hokp.2.1; omega) (by have := hokp.2.2; omega)) ?_)
   rintro e X5 ⟨rfl, hk5⟩
   refine ⟨_, rfl, ?_⟩
   simp only [zP, zA, zB, zC, zD, zE, zF]
   have hJ5 := hJ _ _ _ hJp (Gr.of ((y5.refl [] A).drew.trans hk5))
   have kc5 : KC M A X5 := KC.of0 ((y5.refl [] A).drew.trans hk5)
   have kf5 : KeepsFrom w4.heap.size A X5 := KeepsFrom.of_grownBy (gD ((y5.refl [] A).drew.trans hk5)) (fun j e => by cases e)
   refine gq (i := 3) (by kernel_rfl) (Qbe rfl (by rfl) (by intro c h; cases h) l _ (Zg (.tmp 18) (.tmp 20) (.const .nilIface) _ rfl l rfl _ _ rfl rfl) _ (hY (m - 1) pre p X5 hJ5 trivial hlen) ?_)
   rintro e X6 (⟨rfl, hJ6, hkc6, hkf6⟩ | ⟨rfl, hJx6, hkf6⟩)
   ·refine ⟨_, rfl, ?_⟩
    simp only [zP, zA, zB, zC, zD, zE, zF]
    have kc6 := kc5.trans hkc6
    have f6 := BF kc6
    refine gq (i := 4) (by kernel_rfl) (rOp rfl (by rfl) (by intro c h; cases h) (.bool false) X6 (rfl) ?_)
    simp only [zP, zA, zB, zC, zD, zE, zF]
    refine gq (i := 5) (by kernel_rfl) (rOp rfl (by rfl) (by intro c h; cases h) (.bool false) X6 (rfl) ?_)
    simp only [zP, zA, zB, zC, zD, zE, zF]
    refine gq (i := 6) (by kernel_rfl) (rOp rfl (by rfl) (by intro c h; cases h) (.func (.func 86) #[] #[.pointer (some ⟨b0, 0, none⟩), .pointer (some ⟨W.heap.size, 0, none⟩)]) X6 (y9 130 (.tmp 5) rfl ⟨W.heap.size + 1, 0, none⟩ rfl _ (yh underlying130 rfl (y6 f6.2.1 rfl))) ?_)
    simp only [zP, zA, zB, zC, zD, zE, zF]
    refine gq (i := 7) (by kernel_rfl) (Qbd rfl (by rfl) (by intro c h; cases h) 86 #[.pointer (some ⟨b0, 0, none⟩), .pointer (some ⟨W.heap.size, 0, none⟩)] (Qi (.tmp 24) _ rfl 86 _ rfl (by kernel_rfl)) _ (QS b0 W.heap.size x v a nb hd r t X6 f6.2.2.1 f6.2.2.2.toRec) ?_)
    rintro e X7 ⟨rfl, hk7⟩
    refine ⟨_, rfl, ?_⟩
    simp only [zP, zA, zB, zC, zD, zE, zF]
    refine gq (i := 8) (by kernel_rfl) (rOp rfl (by rfl) (by intro c h; cases h) (.bool false) X7 (rfl) ?_)
    simp only [zP, zA, zB, zC, zD, zE, zF]
    refine wpAnyIn_done (by kernel_rfl) ?_ _
    have FIN : Hid (RndP M w4.heap.size (fun pre A => J pre A /\ KC M w4 A) (fun c pre A => c = .ret /\ Jx pre A) (pre ++ [p]) A .normal { tmps := #[], defers := [] } X7) := ⟨(kf5.trans (kfm hkf6)).trans (KeepsFrom.of_grownBy (gD hk7) (fun j e => by cases e)), kc6.trans (KC.of0 hk7), hJ _ _ _ hJ6 (Gr.of hk7), (hka.trans kc6).trans (KC.of0 hk7)⟩
    clear hJ6 hJ5
    gi_wp2
    exact FIN.out
   ·refine ⟨_, rfl, ?_⟩
    simp only [zP, zA, zB, zC, zD, zE, zF]
    refine gq (i := 4) (by kernel_rfl) (rOp rfl (by rfl) (by intro c h; cases h) (.bool true) X6 (rfl) ?_)
    simp only [zP, zA, zB, zC, zD, zE, zF]
    refine gq (i := 5) (by kernel_rfl) (rOp rfl (by rfl) (by intro c h; cases h) (.bool true) X6 (rfl) ?_)
    simp only [zP, zA, zB, zC, zD, zE, zF]
    refine gq (i := 6) (by kernel_rfl) (Qbc rfl (by rfl) ?_)
    simp only [zP, zA, zB, zC, zD, zE, zF]
    refine gq (i := 7) (by kernel_rfl) (Qbc rfl (by rfl) ?_)
    simp only [zP, zA, zB, zC, zD, zE, zF]
    refine gq (i := 8) (by kernel_rfl) (rOp rfl (by rfl) (by intro c h; cases h) (.bool true) X6 (rfl) ?_)
    simp only [zP, zA, zB, zC, zD, zE, zF]
    refine wpAnyIn_done (by kernel_rfl) ?_ _
    have FIN : Hid (RndP M w4.heap.size (fun pre A => J pre A /\ KC M w4 A) (fun c pre A => c = .ret /\ Jx pre A) (pre ++ [p]) A .ret { tmps := #[], defers := [] } X6) := ⟨kf5.trans (kfm hkf6), rfl, hJx6⟩
    clear hJx6 hJ5
    gi_wp2
    exact FIN.out
  ·refine rOp rfl (by rfl) (by intro c h; cases h) (.agg #[.string p.1, .string p.2]) _ (y9 52 (.tmp 6) rfl ⟨q, 0, none⟩ rfl _ (Qbn hq0)) ?_
   simp only [zP, zA, zB, zC, zD, zE, zF]
   refine rTwo (i := 0) (j := 2) (by kernel_rfl) ?_ ?_
   ·refine rOp rfl (by rfl) (by intro c h; cases h) (.func (.yield l) #[] #[]) _ (y9 148 (.tmp 4) rfl ⟨W.heap.size, 0, none⟩ rfl _ (yh underlying148 rfl (y6 f0.1 rfl))) ?_
    simp only [zP, zA, zC, zD, zE, zF]
    refine gq (i := 2) (by kernel_rfl) (Qbd rfl (by rfl) (by intro c h; cases h) 43 #[.agg #[.string p.1, .string p.2]] (yk _ _ _ rfl _ (by simp [Act.eval]) (j8 _ _)) _ (Qy p.1 p.2 _ (by have := hokp.2.1; omega) (by have := hokp.2.2; omega)) ?_)
    rintro e X5 ⟨rfl, hk5⟩
    refine ⟨_, rfl, ?_⟩
    simp only [zP, zA, zB, zC, zD, zE, zF]
    have hJ5 := hJ _ _ _ hJp (Gr.of ((y5.refl [] A).drew.trans hk5))
    have kc5 : KC M A X5 := KC.of0 ((y5.refl [] A).drew.trans hk5)
    have kf5 : KeepsFrom w4.heap.size A X5 := KeepsFrom.of_grownBy (gD ((y5.refl [] A).drew.trans hk5)) (fun j e => by cases e)
    refine gq (i := 3) (by kernel_rfl) (Qbe rfl (by rfl) (by intro c h; cases h) l _ (Zg (.tmp 18) (.tmp 20) (.const .nilIface) _ rfl l rfl _ _ rfl rfl) _ (hY (m - 1) pre p X5 hJ5 trivial hlen) ?_)
    rintro e X6 (⟨rfl, hJ6, hkc6, hkf6⟩ | ⟨rfl, hJx6, hkf6⟩)
    ·refine ⟨_, rfl, ?_⟩
     simp only [zP, zA, zB, zC, zD, zE, zF]
     have kc6 := kc5.trans hkc6
     have f6 := BF kc6
     refine gq (i := 4) (by kernel_rfl) (rOp rfl (by rfl) (by intro c h; cases h) (.bool false) X6 (rfl) ?_)
     simp only [zP, zA, zB, zC, zD, zE, zF]
     refine gq (i := 5) (by kernel_rfl) (rOp rfl (by rfl) (by intro c h; cases h) (.bool false) X6 (rfl) ?_)
     simp only [zP, zA, zB, zC, zD, zE, zF]
     refine gq (i := 6) (by kernel_rfl) (rOp rfl (by rfl) (by intro c h; cases h) (.func (.func 86) #[] #[.pointer (some ⟨b0, 0, none⟩), .pointer (some ⟨W.heap.size, 0, none⟩)]) X6 (y9 130 (.tmp 5) rfl ⟨W.heap.size + 1, 0, none⟩ rfl _ (yh underlying130 rfl (y6 f6.2.1 rfl))) ?_)
     simp only [zP, zA, zB, zC, zD, zE, zF]
     refine gq (i := 7) (by kernel_rfl) (Qbd rfl (by rfl) (by intro c h; cases h) 86 #[.pointer (some ⟨b0, 0, none⟩), .pointer (some ⟨W.heap.size, 0, none⟩)] (Qi (.tmp 24) _ rfl 86 _ rfl (by kernel_rfl)) _ (QS b0 W.heap.size x v a nb hd r t X6 f6.2.2.1 f6.2.2.2.toRec) ?_)
     rintro e X7 ⟨rfl, hk7⟩
     refine ⟨_, rfl, ?_⟩
     simp only [zP, zA, zB, zC, zD, zE, zF]
     refine gq (i := 8) (by kernel_rfl) (rOp rfl (by rfl) (by intro c h; cases h) (.bool false) X7 (rfl) ?_)
     simp only [zP, zA, zB, zC, zD, zE, zF]
     refine wpAnyIn_done (by kernel_rfl) ?_ _
     have FIN : Hid (RndP M w4.heap.size (fun pre A => J pre A /\ KC M w4 A) (fun c pre A => c = .ret /\ Jx pre A) (pre ++ [p]) A .normal { tmps := #[], defers := [] } X7) := ⟨(kf5.trans (kfm hkf6)).trans (KeepsFrom.of_grownBy (gD hk7) (fun j e => by cases e)), kc6.trans (KC.of0 hk7), hJ _ _ _ hJ6 (Gr.of hk7), (hka.trans kc6).trans (KC.of0 hk7)⟩
     clear hJ6 hJ5
     gi_wp2
     exact FIN.out
    ·refine ⟨_, rfl, ?_⟩
     simp only [zP, zA, zB, zC, zD, zE, zF]
     refine gq (i := 4) (by kernel_rfl) (rOp rfl (by rfl) (by intro c h; cases h) (.bool true) X6 (rfl) ?_)
     simp only [zP, zA, zB, zC, zD, zE, zF]
     refine gq (i := 5) (by kernel_rfl) (rOp rfl (by rfl) (by intro c h; cases h) (.bool true) X6 (rfl) ?_)
     simp only [zP, zA, zB, zC, zD, zE, zF]
     refine gq (i := 6) (by kernel_rfl) (Qbc rfl (by rfl) ?_)
     simp only [zP, zA, zB, zC, zD, zE, zF]
     refine gq (i := 7) (by kernel_rfl) (Qbc rfl (by rfl) ?_)
     simp only [zP, zA, zB, zC, zD, zE, zF]
     refine gq (i := 8) (by kernel_rfl) (rOp rfl (by rfl) (by intro c h; cases h) (.bool true) X6 (rfl) ?_)
     simp only [zP, zA, zB, zC, zD, zE, zF]
     refine wpAnyIn_done (by kernel_rfl) ?_ _
     have FIN : Hid (RndP M w4.heap.size (fun pre A => J pre A /\ KC M w4 A) (fun c pre A => c = .ret /\ Jx pre A) (pre ++ [p]) A .ret { tmps := #[], defers := [] } X6) := ⟨kf5.trans (kfm hkf6), rfl, hJx6⟩
     clear hJx6 hJ5
     gi_wp2
     exact FIN.out
   ·refine Qbd rfl (by rfl) (by intro c h; cases h) 43 #[.agg #[.string p.1, .string p.2]] (yk _ _ _ rfl _ (by simp [Act.eval]) (j8 _ _)) _ (Qy p.1 p.2 _ (by have := hokp.2.1; omega) (by have := hokp.2.2; omega)) ?_
    rintro e X5 ⟨rfl, hk5⟩
    refine ⟨_, rfl, ?_⟩
    simp only [zP, zA, zB, zC, zD, zE, zF]
    have f5 := BF (KC.of0 ((y5.refl [] A).drew.trans hk5))
    refine gq (i := 0) (by kernel_rfl) (rOp rfl (by rfl) (by intro c h; cases h) (.func (.yield l) #[] #[]) _ (y9 148 (.tmp 4) rfl ⟨W.heap.size, 0, none⟩ rfl _ (yh underlying148 rfl (y6 f5.1 rfl))) ?_)
    simp only [zP, zA, zC, zD, zE, zF]
    have hJ5 := hJ _ _ _ hJp (Gr.of ((y5.refl [] A).drew.trans hk5))
    have kc5 : KC M A X5 := KC.of0 ((y5.refl [] A).drew.trans hk5)
    have kf5 : KeepsFrom w4.heap.size A X5 := KeepsFrom.of_grownBy (gD ((y5.refl [] A).drew.trans hk5)) (fun j e => by cases e)
    refine gq (i := 3) (by kernel_rfl) (Qbe rfl (by rfl) (by intro c h; cases h) l _ (Zg (.tmp 18) (.tmp 20) (.const .nilIface) _ rfl l rfl _ _ rfl rfl) _ (hY (m - 1) pre p X5 hJ5 trivial hlen) ?_)
    rintro e X6 (⟨rfl, hJ6, hkc6, hkf6⟩ | ⟨rfl, hJx6, hkf6⟩)
    ·refine ⟨_, rfl, ?_⟩
     simp only [zP, zA, zB, zC, zD, zE, zF]
     have kc6 := kc5.trans hkc6
     have f6 := BF kc6
     refine gq (i := 4) (by kernel_rfl) (rOp rfl (by rfl) (by intro c h; cases h) (.bool false) X6 (rfl) ?_)
     simp only [zP, zA, zB, zC, zD, zE, zF]
     refine gq (i := 5) (by kernel_rfl) (rOp rfl (by rfl) (by intro c h; cases h) (.bool false) X6 (rfl) ?_)
     simp only [zP, zA, zB, zC, zD, zE, zF]
     refine gq (i := 6) (by kernel_rfl) (rOp rfl (by rfl) (by intro c h; cases h) (.func (.func 86) #[] #[.pointer (some ⟨b0, 0, none⟩), .pointer (some ⟨W.heap.size, 0, none⟩)]) X6 (y9 130 (.tmp 5) rfl ⟨W.heap.size + 1, 0, none⟩ rfl _ (yh underlying130 rfl (y6 f6.2.1 rfl))) ?_)
     simp only [zP, zA, zB, zC, zD, zE, zF]
     refine gq (i := 7) (by kernel_rfl) (Qbd rfl (by rfl) (by intro c h; cases h) 86 #[.pointer (some ⟨b0, 0, none⟩), .pointer (some ⟨W.heap.size, 0, none⟩)] (Qi (.tmp 24) _ rfl 86 _ rfl (by kernel_rfl)) _ (QS b0 W.heap.size x v a nb hd r t X6 f6.2.2.1 f6.2.2.2.toRec) ?_)
     rintro e X7 ⟨rfl, hk7⟩
     refine ⟨_, rfl, ?_⟩
     simp only [zP, zA, zB, zC, zD, zE, zF]
     refine gq (i := 8) (by kernel_rfl) (rOp rfl (by rfl) (by intro c h; cases h) (.bool false) X7 (rfl) ?_)
     simp only [zP, zA, zB, zC, zD, zE, zF]
     refine wpAnyIn_done (by kernel_rfl) ?_ _
     have FIN : Hid (RndP M w4.heap.size (fun pre A => J pre A /\ KC M w4 A) (fun c pre A => c = .ret /\ Jx pre A) (pre ++ [p]) A .normal { tmps := #[], defers := [] } X7) := ⟨(kf5.trans (kfm hkf6)).trans (KeepsFrom.of_grownBy (gD hk7) (fun j e => by cases e)), kc6.trans (KC.of0 hk7), hJ _ _ _ hJ6 (Gr.of hk7), (hka.trans kc6).trans (KC.of0 hk7)⟩
     clear hJ6 hJ5
     gi_wp2
     exact FIN.out
    ·refine ⟨_, rfl, ?_⟩
     simp only [zP, zA, zB, zC, zD, zE, zF]
     refine gq (i := 4) (by kernel_rfl) (rOp rfl (by rfl) (by intro c h; cases h) (.bool true) X6 (rfl) ?_)
     simp only [zP, zA, zB, zC, zD, zE, zF]
     refine gq (i := 5) (by kernel_rfl) (rOp rfl (by rfl) (by intro c h; cases h) (.bool true) X6 (rfl) ?_)
     simp only [zP, zA, zB, zC, zD, zE, zF]
     refine gq (i := 6) (by kernel_rfl) (Qbc rfl (by rfl) ?_)
     simp only [zP, zA, zB, zC, zD, zE, zF]
     refine gq (i := 7) (by kernel_rfl) (Qbc rfl (by rfl) ?_)
     simp only [zP, zA, zB, zC, zD, zE, zF]
     refine gq (i := 8) (by kernel_rfl) (rOp rfl (by rfl) (by intro c h; cases h) (.bool true) X6 (rfl) ?_)
     simp only [zP, zA, zB, zC, zD, zE, zF]
     refine wpAnyIn_done (by kernel_rfl) ?_ _
     have FIN : Hid (RndP M w4.heap.size (fun pre A => J pre A /\ KC M w4 A) (fun c pre A => c = .ret /\ Jx pre A) (pre ++ [p]) A .ret { tmps := #[], defers := [] } X6) := ⟨kf5.trans (kfm hkf6), rfl, hJx6⟩
     clear hJx6 hJ5
     gi_wp2
     exact FIN.out
 case done =>
  rintro D xs A hD rfl ⟨hJp, hka⟩ hdf
  have FIN : Hid (J (flt lo hi (y7 t)) (A.putObj D (.deferred none))) := hJ _ _ _ hJp (Gr.put _ (by omega) hdf rfl)
  refine ⟨by simp, .inl ⟨_, _, rfl, run_takeDeferred hdf, ?_⟩⟩
  exact ⟨.tuple #[], results_none rfl _ _ _, ⟨_, rfl⟩, Or.inl ⟨_, rfl, FIN.out⟩⟩
 case stop =>
  rintro D c pre A hD hpre ⟨rfl, hJp⟩ hdf
  have FIN : Hid (Jx pre (A.putObj D (.deferred none))) := hJx _ _ _ hJp (Gr.put _ (by omega) hdf rfl)
  go_wp2
  refine ⟨by simp, .inl ⟨_, _, rfl, run_takeDeferred hdf, ?_⟩⟩
  exact ⟨.tuple #[], results_none rfl _ _ _, ⟨_, rfl⟩, Or.inr ⟨_, hpre, FIN.out⟩⟩
end Go.Proofs.YtcklgafpgdhnaabGreatDoor
