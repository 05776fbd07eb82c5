import Derived.Test.YtcklgafpgdhnaabGreatDoorPtbu
set_option maxRecDepth 100000
set_option maxHeartbeats 4000000
open List renaming getElem_toArray → zA, getElem_cons_succ → zB, getElem_cons_zero → zC, setIfInBounds_toArray → zD, set_cons_succ → zE, set_cons_zero → zF
namespace Go.Proofs.YtcklgafpgdhnaabGreatDoor
open Go.RowKit Go.Shelf
attribute [local go_sem] Oper.semAt_some

def encE (err : Value) : Array Value := #[.agg #[.string ⟨#[]⟩, .string ⟨#[]⟩], err]
theorem zpair (w : World) : (Instr.build 52 #[]).run Tryz.prog w = .ok (.agg #[.string ⟨#[]⟩, .string ⟨#[]⟩]) w := by kernel_rfl

theorem ended_shut (l B : Nat) (M : List Nat) (J Jx : List Value → World → Prop) (hJ : Sty B J) (b0 b1 x : Nat) (w : World) (hb : w.heap[b0]? = some (.cells #[.pointer (some ⟨x, 0, none⟩)] 24 (0, 0))) (hb1 : w.heap[b1]? = some (.cells #[.func (.yield l) #[] #[]] 148 (0, 0))) (h : Shut x w)
  (hY : ∀ m pre err W1, J pre W1 → Chain W1 err 5 → pre.length < 1 → YieldAt Fence.wide m Tryz.prog l (encE err) W1 (Rnd M B J Jx (pre ++ [err]) W1)) (h0 : J [] w) :
  Calls Tryz.prog 86 #[.pointer (some ⟨b0, 0, none⟩), .pointer (some ⟨b1, 0, none⟩)] w fun e w' => e = .returned (.bool true) ∧ ∃ err, J [err] w' ∨ Jx [err] w' := by
 have c0 : w.cell? ⟨b0, 0, none⟩ = some (.pointer (some ⟨x, 0, none⟩)) := cellAt hb rfl
 have hmf := makes
 have hz := zpair
 have HC : Hid (∀ b, Calls Tryz.prog 32 #[.string b, .func (.func 48) #[.pointer (some ⟨x, 0, none⟩)] #[]] w (Gives 5 [] Always w)) := fun b =>
  CatchM_no b 48 _ (fun _ _ => by kernel_rfl) 5 [] Always w (by simp) (fun _ _ _ _ _ _ => trivial) fun W kW _ => (needOpen_no x W (kW.get h (by simp))).mono fun e w' ⟨f, o, h1, h2, h3⟩ => ⟨f, o, h1, h2, trivial, h3⟩
 have HY : Hid (∀ err W1, Kept [] w W1 → Chain W1 err 5 → YieldAt Fence.wide 0 Tryz.prog l (encE err) W1 (Rnd M B J Jx [err] W1)) := fun err W1 k hc => hY 0 [] err W1 (hJ _ _ _ h0 (Gr.of k)) hc (by simp)
 clear hY h0 h
 refine (callsIn_wide (n := 1)).1 (callsIn_of_wp Tryz.func86 rfl trivial ?_ rfl)
 simp only [Tryz.ntmps86, List.size_toArray, List.length_cons, List.length_nil, Nat.reduceAdd, Nat.reduceSub, Array.replicate_succ, Array.replicate_zero, List.push_toArray, List.append_toArray, List.nil_append, List.cons_append]
 gi_wp2_with (first
  | (refine ⟨trivial, ?_⟩; gi_at_call 32; refine (callsIn_wide.2 (HC.out _)).mono ?_; rintro e w1 ⟨err, rfl, hch, _, hk1⟩; obtain ⟨fn, tmps, assign, body, hy, hR⟩ := HY.out err w1 hk1 hch; have c1 : w1.cell? ⟨b1, 0, none⟩ = some (.func (.yield l) #[] #[]) := cellAt (hk1.get hb1 (by simp)) rfl; obtain ⟨f1, f2, o1, o2, ee, _, _⟩ := hch.ex; subst ee; clear hch; dsimp only [encE] at hy)
  | (refine hR.mono ?_; clear hR; rintro e w2 (⟨rfl, hJ2, _, _⟩ | ⟨rfl, hJ2, _⟩)))
 ·go_ret
  exact ⟨rfl, _, Or.inl hJ2⟩
 ·go_ret
  exact ⟨rfl, _, Or.inr hJ2⟩

theorem SAll1_itrC (M : List Nat) (x b0 b1 b2 : Nat) (lo hi : ByteArray) (w : World) (hb : Bx3 b0 b1 b2 x lo hi w) (h : Shut x w) :
  Itr 85 #[.pointer (some ⟨b0, 0, none⟩), .pointer (some ⟨b1, 0, none⟩), .pointer (some ⟨b2, 0, none⟩)] encE (fun err W => Chain W err 5) M (fun ys => ∃ e, ys = [e]) (fun ys => ∃ e, ys = [e]) 1 w := by
 intro l J Jx W kW hJ hJx hY h0
 have hbW := hb.k kW
 have hmf := makes
 obtain ⟨X0, eX0⟩ : ∃ X0, X0 = (W.alloc (.cells #[.func (.yield l) #[] #[]] 148)).alloc (.cells #[.nilFunc] 130) := ⟨_, rfl⟩
 have r1 : X0.heap[W.heap.size + 1]? = some (.cells #[.nilFunc] 130 (0, 0)) := by
  have := heap_alloc_new (W.alloc (.cells #[.func (.yield l) #[] #[]] 148)) (.cells #[.nilFunc] 130)
  rw [World.size_alloc] at this
  rw [eX0]
  exact this
 have hst := run_storeF r1 (.func 86) #[] #[.pointer (some ⟨b0, 0, none⟩), .pointer (some ⟨W.heap.size, 0, none⟩)]
 rw [eX0] at hst
 obtain ⟨X1, eX1⟩ : ∃ X1, X1 = (W.alloc (.cells #[.func (.yield l) #[] #[]] 148)).alloc (.cells #[.func (.func 86) #[] #[.pointer (some ⟨b0, 0, none⟩), .pointer (some ⟨W.heap.size, 0, none⟩)]] 130) := ⟨_, rfl⟩
 have k1 : Kept [] W X1 := by rw [eX1]; exact ((Kept.refl [] W).alloc _).alloc _
 have y1 : X1.heap[W.heap.size]? = some (.cells #[.func (.yield l) #[] #[]] 148 (0, 0)) := by rw [eX1]; exact ((Kept.refl [] _).alloc _).get (heap_alloc_new _ _) (by simp)
 have HE : Hid (Calls _ _ _ _ _) := ended_shut l W.heap.size M J Jx hJ b0 W.heap.size x X1 (k1.get hbW.1 (by simp)) y1 (k1.get (kW.get h (by simp)) (by simp)) hY (hJ _ _ _ h0 (Gr.of k1))
 have HX : Hid _ := eX1
 clear eX0 r1 eX1 hY h0
 go_enter Tryz.func85, Tryz.ntmps85
 go_wp2_with (first
  | (go_at_call 86; rw [← HX.out]; refine HE.out.mono ?_; rintro e w3 ⟨rfl, err, h3⟩))
 refine bodyPost_ret (results_none rfl _ _ _) rfl ?_
 exact ⟨⟨_, rfl⟩, h3.elim (fun h => Or.inl ⟨_, ⟨_, rfl⟩, h⟩) (fun h => Or.inr ⟨_, ⟨_, rfl⟩, h⟩)⟩

end Go.Proofs.YtcklgafpgdhnaabGreatDoor

namespace Go.Proofs.YtcklgafpgdhnaabGreatDoor
open Go.RowKit Go.Shelf
attribute [local go_sem] Oper.semAt_some

structure ScV (w : World) (mo : Int) (vO : Value) (A : World) : Prop where
 mb : A.heap[w.heap.size]? = some (.cells #[.int .i64 mo] 3 (0, 0))
 ro : A.heap[w.heap.size + 1]? = some (.cells #[.slice none 0 0] 25 (0, 0))
 re : A.heap[w.heap.size + 1 + 1]? = some (.cells #[.nilIface] 35 (0, 0))
 ov : A.heap[w.heap.size + 1 + 1 + 1]? = some (.cells #[vO] 25 (0, 0))
 bl : Below w.heap.size w A
theorem ScV.gr {w : World} {mo : Int} {vO : Value} {A A' : World} {B : Nat} (h : ScV w mo vO A) (hB : w.heap.size ≤ B) (g : Gr B A A') : ScV w mo vO A' :=
 ⟨g.row _ _ _ _ h.mb, g.row _ _ _ _ h.ro, g.row _ _ _ _ h.re, g.row _ _ _ _ h.ov, h.bl.trans ⟨g.os, g.tape, g.output, by have := h.bl.size; have := g.size; omega, fun k hk => g.low k (Nat.lt_of_lt_of_le hk h.bl.size) (by omega)⟩⟩
theorem ScV.new (w : World) (mo : Int) : ScV w mo (.slice none 0 0) ((((w.alloc (.cells #[.int .i64 mo] 3)).alloc (.cells #[.slice none 0 0] 25)).alloc (.cells #[.nilIface] 35)).alloc (.cells #[.slice none 0 0] 25)) := by
 have z0 := heap_alloc_new w (.cells #[.int .i64 mo] 3)
 have z1 := heap_alloc_new (w.alloc (.cells #[.int .i64 mo] 3)) (.cells #[.slice none 0 0] 25)
 have z2 := heap_alloc_new ((w.alloc (.cells #[.int .i64 mo] 3)).alloc (.cells #[.slice none 0 0] 25)) (.cells #[.nilIface] 35)
 have z3 := heap_alloc_new (((w.alloc (.cells #[.int .i64 mo] 3)).alloc (.cells #[.slice none 0 0] 25)).alloc (.cells #[.nilIface] 35)) (.cells #[.slice none 0 0] 25)
 simp only [World.size_alloc] at z1 z2 z3
 have ka := fun (W : World) (o : Obj) => (Kept.refl [] W).alloc o
 exact ⟨(ka _ _).get ((ka _ _).get ((ka _ _).get z0 (by simp)) (by simp)) (by simp), (ka _ _).get ((ka _ _).get z1 (by simp)) (by simp), (ka _ _).get z2 (by simp), z3, (((((Kept.refl [] w).alloc _).alloc _).alloc _).alloc _).below⟩
theorem owns_gr {w w' : World} {B base e size n : Nat} {v : Value} {xs : List Value} (h : w.ownsRow base e size v n xs) (g : Gr B w w') : w'.ownsRow base e size v n xs :=
 ⟨h.1, h.2.imp id fun ⟨g', cap, cur, h1, h2, h3, h4⟩ => ⟨g', cap, cur, h1, h2, g.row _ _ _ _ h3, h4⟩⟩
theorem owns_shape {w : World} {base e size n : Nat} {v : Value} {xs : List Value} (h : w.ownsRow base e size v n xs) : ∃ p c, v = .slice p n c := by
 obtain ⟨_, ⟨rfl, rfl⟩ | ⟨g, cap, cur, rfl, _⟩⟩ := h
 ·exact ⟨_, _, rfl⟩
 ·exact ⟨_, _, rfl⟩
def ScnI (w : World) (MO : Int) (pre : List Pr) (A : World) : Prop := ∃ vO, ScV w MO vO A ∧ A.ownsRow w.heap.size 52 2 vO pre.length (flat2 pre) ∧ (pre.length : Int) ≤ MO
def ScnX (w : World) (MO : Int) (c : Code) (xs : List Pr) (A : World) : Prop := ∃ zs y vO, xs = zs ++ [y] ∧ c = .exit 0 ∧ ScV w MO vO A ∧ A.ownsRow w.heap.size 52 2 vO zs.length (flat2 zs) ∧ (zs.length : Int) = MO
theorem itPair : (Tryz.prog.info? 52).map (fun i => (i.zero, i.size, i.bytes)) = some (some (.agg #[.string ⟨#[]⟩, .string ⟨#[]⟩]), 2, 32) := by kernel_rfl
theorem run_pairS (w : World) (p : Pr) : (Instr.buildSlice 25 1 #[(0, .agg #[.string p.1, .string p.2])]).run Tryz.prog w = .ok (.slice (some ⟨w.heap.size, 0, none⟩) 1 1) (w.alloc (.cells #[.string p.1, .string p.2] 52)) := by
 obtain ⟨ie, hie, hz1, hz2, hz3⟩ := info_parts itPair
 exact run_build1 w 25 52 _ ie _ Tryz.underlying25 hie hz1 hz2 (by simp) (by simp)
theorem push_pair (base : Nat) (A : World) (vO : Value) (zs : List Pr) (own : A.ownsRow base 52 2 vO zs.length (flat2 zs)) (hb : base ≤ A.heap.size) (hl : zs.length ≤ 100000) (p : Pr) :
  ∃ g cap A2, (∀ ty, (Builtin.append_ #[25, 25] ty #[vO, .slice (some ⟨A.heap.size, 0, none⟩) 1 1]).run Tryz.prog (A.alloc (.cells #[.string p.1, .string p.2] 52)) = .ok (.slice (some ⟨g, 0, none⟩) (zs ++ [p]).length cap) A2) ∧ A2.ownsRow base 52 2 (.slice (some ⟨g, 0, none⟩) (zs ++ [p]).length cap) (zs ++ [p]).length (flat2 (zs ++ [p])) ∧ Kept vO.ownBlock.toList A A2 := by
 obtain ⟨ie, hie, hz1, hz2, hz3⟩ := info_parts itPair
 have k1 := (Kept.refl [] A).alloc (.cells #[.string p.1, .string p.2] 52)
 have hn := heap_alloc_new A (.cells #[.string p.1, .string p.2] 52)
 have own1 := owns_kept own k1 (by simp)
 obtain ⟨v', A2, hr, ho, hgr, -⟩ := run_append_own (P := Tryz.prog) (A.alloc (.cells #[.string p.1, .string p.2] 52)) base 25 0 52 ie _ 2 32 Tryz.underlying25 hie hz1 hz2 hz3 rfl (by decide) vO zs.length (flat2 zs) own1 ⟨A.heap.size, 0, none⟩ 1 1 [.string p.1, .string p.2] rfl (by
  intro j u hj
  rw [add_lit, cell_of_row _ _ _ _ _ _ hn]
  rcases j with _ | _ | j
  ·simpa using hj
  ·simpa using hj
  ·simp at hj) (by intro u hu; simp at hu; rcases hu with rfl | rfl <;> rfl) (by unfold maxLen; omega) (by omega) (by have := k1.size; omega)
 have e1 : flat2 zs ++ [.string p.1, .string p.2] = flat2 (zs ++ [p]) := flat2_snoc zs p
 have e2 : zs.length + 1 = (zs ++ [p]).length := by simp
 rw [e1, e2] at ho
 have e3 : (zs ++ [p]).length = zs.length + 1 := by simp
 obtain ⟨g, cap, ev⟩ := ownsRow_succ (k := zs.length) (by rw [← e3]; exact ho)
 rw [← e3] at ev
 subst ev
 exact ⟨g, cap, A2, fun ty => hr, ho, (k1.mono (by simp)).trans (grown_kept hgr _ (by intro x hx; rw [hx]; simp))⟩

theorem own0 {w : World} {base e size n : Nat} {v : Value} {xs : List Value} (h : w.ownsRow base e size v n xs) : w.ownsRow 0 e size v n xs :=
 ⟨h.1, h.2.imp id fun ⟨g', cap, cur, h1, _h2, h3, h4⟩ => ⟨g', cap, cur, h1, Nat.zero_le _, h3, h4⟩⟩
theorem Scan_end (w A : World) (MO : Int) (v : Value) (zs : List Pr) (D : Nat) (hV : ScV w MO v A) (own : A.ownsRow w.heap.size 52 2 v zs.length (flat2 zs)) (hD : w.heap.size ≤ D) (hdf : A.heap[D]? = some (.deferred (some []))) :
  A.cell? ⟨w.heap.size + 1 + 1 + 1, 0, none⟩ = some v ∧ A.cell? ⟨w.heap.size + 1, 0, none⟩ = some (.slice none 0 0) ∧ A.frozen? ⟨w.heap.size + 1, 0, none⟩ = false ∧
  ∃ A1, A1 = A.setCell ⟨w.heap.size + 1, 0, none⟩ v ∧ A1.cell? ⟨w.heap.size + 1 + 1, 0, none⟩ = some .nilIface ∧ A1.frozen? ⟨w.heap.size + 1 + 1, 0, none⟩ = false ∧
  ∃ A2, A2 = A1.setCell ⟨w.heap.size + 1 + 1, 0, none⟩ .nilIface ∧ A2.heap[D]? = some (.deferred (some [])) ∧
  ∃ A3, A3 = A2.putObj D (.deferred none) ∧ A3.cell? ⟨w.heap.size + 1, 0, none⟩ = some v ∧ A3.cell? ⟨w.heap.size + 1 + 1, 0, none⟩ = some .nilIface ∧ PL A3 52 v zs ∧ Kept [] w A3 := by
 obtain ⟨v0, v1, v2, v3, hB⟩ := hV
 refine ⟨cellAt v3 rfl, cellAt v1 rfl, frozen_of_row _ _ _ _ _ v1, _, rfl, ?_⟩
 have k1 : Kept [w.heap.size + 1] A (A.setCell ⟨w.heap.size + 1, 0, none⟩ v) := (Kept.refl _ _).setCell (Or.inl (by simp)) _
 have u1 := setCellAt (i := 0) v v1
 have u2 := k1.get v2 (by simp)
 refine ⟨cellAt u2 rfl, frozen_of_row _ _ _ _ _ u2, _, rfl, ?_⟩
 have k2 : Kept [w.heap.size + 1 + 1] (A.setCell ⟨w.heap.size + 1, 0, none⟩ v) ((A.setCell ⟨w.heap.size + 1, 0, none⟩ v).setCell ⟨w.heap.size + 1 + 1, 0, none⟩ .nilIface) := (Kept.refl _ _).setCell (Or.inl (by simp)) _
 have t1 := k2.get u1 (by simp)
 have t2 := setCellAt (i := 0) .nilIface u2
 have hB2 := (hB.setCell (p := ⟨w.heap.size + 1, 0, none⟩) (by simp) v).setCell (p := ⟨w.heap.size + 1 + 1, 0, none⟩) (by simp; omega) .nilIface
 have hK2 := ((KeepsOthers.setCell A ⟨w.heap.size + 1, 0, none⟩ v).trans (KeepsOthers.setCell _ ⟨w.heap.size + 1 + 1, 0, none⟩ .nilIface)).same D _ hdf rfl
 have c1 := cell_kept (cellAt (j := 0) t1 rfl) (grownBy_putObj' _ D (.deferred none)) (fun r e => by cases e; exact ⟨_, hK2, rfl⟩)
 have c2 := cell_kept (cellAt (j := 0) t2 rfl) (grownBy_putObj' _ D (.deferred none)) (fun r e => by cases e; exact ⟨_, hK2, rfl⟩)
 have o1 := owns_kept own k1 (fun b hb hm => by
  obtain ⟨cs, fr, hc⟩ := owns_tag own hb
  simp at hm
  rw [hm, v1] at hc
  cases hc)
 have o2 := owns_kept o1 k2 (fun b hb hm => by
  obtain ⟨cs, fr, hc⟩ := owns_tag o1 hb
  simp at hm
  rw [hm, u2] at hc
  cases hc)
 exact ⟨hK2, _, rfl, c1, c2, own0 (owns_gr o2 (Gr.put (B := 0) _ (Nat.zero_le _) hK2 rfl)), Kept.of_below (hB2.trans (belowK_b (w := w) (Nat.le_refl _) _ D _ _ hD hK2 rfl rfl))⟩

end Go.Proofs.YtcklgafpgdhnaabGreatDoor
