import Derived.Test.YtcklgafpgdhnaabGreatDoorPqbr
set_option maxRecDepth 100000
set_option maxHeartbeats 4000000
open Go.Proofs.Tryz
namespace Go.Proofs.YtcklgafpgdhnaabGreatDoor
open Go.RowKit Go.Shelf
attribute [local go_sem] Oper.semAt_some
theorem Qbu (x v a n : Nat) (hd : Hd) (r : Value) (t : Tr) (lo hi : ByteArray) (mm : Int) (ht : TW t) (hbig : (y7 t).length <= 20000) (w : World) (h : Rec x v a n hd r t w) :
  Calls prog 25 #[.pointer (some ⟨x, 0, none⟩), .string lo, .string hi, .int .i64 mm] w fun e w' => ∃ vv, e = .returned (.tuple #[vv, .nilIface]) /\ PL w' 52 vv (Zz lo hi (mst mm) (y7 t)) /\ (∀ y, vv.ownBlock = some y -> w.heap.size <= y) /\ y5 [] w w' := by
 have hfl : (flt lo hi (y7 t)).length <= 20000 := Nat.le_trans (List.length_filter_le _ _) hbig
 refine (callsIn_wide (n := 1)).1 (callsIn_of_wp_marks func25 rfl trivial ?_ rfl)
 simp only [ntmps25, List.size_toArray, List.length_cons, List.length_nil, Nat.reduceAdd, Nat.reduceSub, Array.replicate_succ, Array.replicate_zero, List.push_toArray, List.append_toArray, List.nil_append, List.cons_append]
 refine wpIn_mono (Q := NoP _) ?_ NoP.of
 refine wpIn_wide.2 ?_
 by_cases hm : mm < 1
 ·go_wp2_with (first | (go_at_call 51; refine (Qbk x lo hi _).mono ?_; rintro e w1 ⟨rfl, hb1, hs1, hk1⟩))
  have hV0 := ScV.new w (0)
  obtain ⟨W0, eW0⟩ : ∃ W0, W0 = (((w.alloc (.cells #[.int .i64 (0)] 3)).alloc (.cells #[.slice none 0 0] 25)).alloc (.cells #[.nilIface] 35)).alloc (.cells #[.slice none 0 0] 25) := ⟨_, rfl⟩
  have s0 : W0.heap.size = w.heap.size + 1 + 1 + 1 + 1 := by rw [eW0, World.size_alloc, World.size_alloc, World.size_alloc, World.size_alloc]
  have k0 : y5 [] w W0 := by rw [eW0]; exact ((((y5.refl [] w).alloc _).alloc _).alloc _).alloc _
  rw [<- eW0] at hb1 hs1 hk1 hV0
  rw [s0] at hb1 hs1
  have hMO' : (0) = ((mst mm : Nat) : Int) := by unfold mst; omega
  obtain ⟨MO, eMO⟩ : ∃ MO : Int, MO = (0) := ⟨_, rfl⟩
  rw [<- eMO] at hV0
  have hMO : MO = ((mst mm : Nat) : Int) := eMO.trans hMO'
  have hV1 := hV0.gr (Nat.le_refl _) (Gr.of (B := w.heap.size) hk1)
  have K1 := k0.trans hk1
  have hx := yt h.row
  have hvv := yt h.vol
  have hSM : SM [w.heap.size + 1 + 1 + 1] x v a n hd r t w1 := ⟨K1.get h.row (by simp), K1.get h.vol (by simp), h.st, TV.kept h.lv.tags K1 (by simp) (fun y hy => by have := TT.lt hy; simp; omega), TV.kept h.tv.tags K1 (by simp) (fun y hy => by have := TT.lt hy; simp; omega), by simp; omega, by simp; omega⟩
  have hit := Qbo [w.heap.size + 1 + 1 + 1] x v a n (w.heap.size + 1 + 1 + 1 + 1) (w.heap.size + 1 + 1 + 1 + 1 + 1) (w.heap.size + 1 + 1 + 1 + 1 + 1 + 1) hd r t lo hi ht w1 hb1 (by intro y hy; simp at hy; omega) (by simp; try omega) (by simp; try omega) (by simp; try omega) hSM
  have hMO0 : 0 <= MO := by omega
  have HMO : Hid _ := hMO
  have hge1 : w.heap.size + 7 <= w1.heap.size := by omega
  clear hMO' eW0 hV0 eMO hb1 hSM hMO hs1
  refine Qbb (α := Pr) rfl (fun _ _ => by kernel_rfl) hit (fun _ => rfl)
   (ScnI w MO) (ScnX w MO) ?_ ?_ ⟨_, hV1, World.ownsRow_nil _ _ _ _, by simp; omega⟩
   (fun p a' A => ∃ q, a' = { tmps := #[.pointer (some ⟨x, 0, none⟩), .string lo, .string hi, .int .i64 mm, undef, undef, undef, .pointer (some ⟨w.heap.size, 0, none⟩), .pointer (some ⟨w.heap.size + 1, 0, none⟩), .pointer (some ⟨w.heap.size + 1 + 1, 0, none⟩), .pointer (some ⟨w.heap.size + 1 + 1 + 1, 0, none⟩), .pointer (some ⟨q, 0, none⟩), .nilIface, .int .i64 mm, .bool true, .pointer (some ⟨x, 0, none⟩), .string lo, .string hi, .func (.func 85) #[] #[.pointer (some ⟨w.heap.size + 1 + 1 + 1 + 1, 0, none⟩), .pointer (some ⟨w.heap.size + 1 + 1 + 1 + 1 + 1, 0, none⟩), .pointer (some ⟨w.heap.size + 1 + 1 + 1 + 1 + 1 + 1, 0, none⟩)], .agg #[.string p.1, .string p.2], .nilIface, undef, undef, undef, undef, undef, undef, undef, undef, undef, undef, undef, undef], defers := [] } /\ A.heap[q]? = some (.cells #[.string p.1, .string p.2] 52 (0, 0))) ?_ ?_ ?assign ?body ?done ?stop
  ·rintro s A A' ⟨vO, h1, h2, h3⟩ hg
   exact ⟨vO, h1.gr (by omega) hg, Qbp h2 hg, h3⟩
  ·rintro c s A A' ⟨zs, y, vO, h0, h1, h2, h3, h4⟩ hg
   exact ⟨zs, y, vO, h0, h1, h2.gr (by omega) hg, Qbp h3 hg, h4⟩
  ·rintro p a' _ A A' ⟨q, h1, h2⟩ hg
   exact ⟨q, h1, hg.row _ _ _ _ h2⟩
  ·intro p _ A A' h _; exact h
  case assign =>
   rintro m l1 pre p A K _ _ hK
   dsimp only [enc2]
   gi_wp2
   exact hK _ _ ((y5.refl [] A).alloc _) ⟨A.heap.size, rfl, heap_alloc_new _ _⟩
  case body =>
   rintro m l1 pre p a' A ⟨vO, hV, hown, hle⟩ _ ⟨q, rfl, hq⟩ hlen
   have hAs := hV.bl.size
   obtain ⟨po, co, evo⟩ := jn hown
   subst evo
   have c1 : A.cell? ⟨w.heap.size, 0, none⟩ = some (.int .i64 MO) := y6 hV.mb rfl
   have c2 : A.cell? ⟨w.heap.size + 1 + 1 + 1, 0, none⟩ = some (.slice po pre.length co) := y6 hV.ov rfl
   by_cases heq : (pre.length : Int) = MO
   ·have FIN : Hid (ScnX w MO (.exit 0) (pre ++ [p]) A) := ⟨pre, p, _, rfl, rfl, hV, hown, heq⟩
    clear hV hown
    gi_wp2
    exact ⟨KeepsFrom.refl _ _, FIN.out⟩
   ·have hpl : pre.length <= 100000 := by omega
    obtain ⟨g2, cap2, A2, hr2, ho2, hk2⟩ := Qbs w.heap.size A (.slice po pre.length co) pre hown hAs hpl p
    obtain ⟨nl, hnl⟩ : ∃ nl, nl = (pre ++ [p]).length := ⟨_, rfl⟩
    rw [<- hnl] at hr2 ho2
    have hldq := Qbn hq
    have hpair : ∀ (y : Nat) (cs : Array Value) (t : TypeId) (fr : Nat × Nat), A.heap[y]? = some (.cells cs t fr) -> t ≠ 52 -> A2.heap[y]? = some (.cells cs t fr) := fun y cs t fr hy ht => hk2.get hy fun hm => by
     obtain ⟨cs', fr', hc⟩ := qy hown (b := y) (by simpa using hm)
     rw [hc] at hy
     cases hy
     exact ht rfl
    have ov2 := hpair _ _ _ _ hV.ov (by decide)
    have c3 : A2.cell? ⟨w.heap.size + 1 + 1 + 1, 0, none⟩ = some (.slice po pre.length co) := y6 ov2 rfl
    have z3 : A2.frozen? ⟨w.heap.size + 1 + 1 + 1, 0, none⟩ = false := frozen_of_row _ _ _ _ _ ov2
    obtain ⟨A3, eA3⟩ : ∃ A3, A3 = A2.setCell ⟨w.heap.size + 1 + 1 + 1, 0, none⟩ (.slice (some ⟨g2, 0, none⟩) nl cap2) := ⟨_, rfl⟩
    have k3 : y5 [w.heap.size + 1 + 1 + 1] A2 A3 := by rw [eA3]; exact (y5.refl _ _).setCell (Or.inl (by simp)) _
    have hg2 : g2 ≠ w.heap.size + 1 + 1 + 1 := by
     intro e
     obtain ⟨cs', fr', hc⟩ := qy ho2 (b := g2) rfl
     rw [e, ov2] at hc
     cases hc
    have own3 := yQ ho2 k3 (by intro b hb; cases hb; simpa using hg2)
    have own_base := qm hown
    have hV3 : ScV w MO (.slice (some ⟨g2, 0, none⟩) nl cap2) A3 := ⟨k3.get (hpair _ _ _ _ hV.mb (by decide)) (by simp; omega), k3.get (hpair _ _ _ _ hV.ro (by decide)) (by simp), k3.get (hpair _ _ _ _ hV.re (by decide)) (by simp), by rw [eA3]; exact yg (i := 0) _ ov2, hV.bl.trans ⟨(k3.os.trans hk2.os), (k3.tape.trans hk2.tape), (k3.output.trans hk2.output), by have := hk2.size; have := k3.size; omega, fun y hy => (k3.block y (by have := hk2.size; omega) (by simp; omega)).trans (hk2.block y (by omega) fun hm => by have := own_base y hm; omega)⟩⟩
    have hKF : KeepsFrom w1.heap.size A A3 := by
     refine ⟨Nat.le_trans hk2.size k3.size, fun y o hy ho hc => ?_⟩
     have h2 := (hk2.block y (yt ho) fun hm => by
      obtain ⟨cs', fr', hc'⟩ := qy hown (b := y) (by simpa using hm)
      rw [hc'] at ho
      cases ho
      cases hc).trans ho
     exact (k3.block y (yt h2) (by simp; omega)).trans h2
    have hKC : KC [w.heap.size + 1 + 1 + 1] A A3 := ⟨k3.os.trans hk2.os, k3.tape.trans hk2.tape, k3.output.trans hk2.output, Nat.le_trans hk2.size k3.size, fun y cs t fr hy hm ht => k3.get (hpair y cs t fr hy ht) (by simpa using hm)⟩
    have FIN : Hid (RndP [w.heap.size + 1 + 1 + 1] w1.heap.size (ScnI w MO) (ScnX w MO) (pre ++ [p]) A .normal { tmps := #[], defers := [] } A3) := ⟨hKF, hKC, _, hV3, by rw [<- hnl]; exact own3, by simp; omega⟩
    have HA3 : Hid _ := eA3
    clear hnl hV hown ho2 own3 hV3 hKF hKC hpair eA3 k3 hg2 own_base hq ov2
    gi_wp2_with (first
     | (refine inV rfl (fun _ => trivial) (Oper.semAt_some _ _ _ (by intro c h; cases h)) _ _ (y9 52 (.tmp 11) rfl ⟨q, 0, none⟩ rfl _ hldq) ?_)
     | (refine inV rfl (fun _ => trivial) (Oper.semAt_some _ _ _ (by intro c h; cases h)) _ _ (qf 25 1 (.tmp 29) rfl (.agg #[.string p.1, .string p.2]) rfl _ (Qbr _ p)) ?_)
     | (refine inV rfl (fun _ => trivial) (Oper.semAt_some _ _ _ (by intro c h; cases h)) _ A2 (yG (.tmp 28) (.tmp 30) 25 25 rfl _ _ rfl rfl _ (hr2 _)) ?_))
    rw [<- HA3.out]
    exact FIN.out
  case done =>
   rintro D xs A hD rfl ⟨vO, hV, hown, hle⟩ hdf
   have ez : flt lo hi (y7 t) = Zz lo hi (mst mm) (y7 t) := (List.take_of_length_le (by have := HMO.out; omega)).symm
   obtain ⟨a3, a1, g1, A1, eA1, a2, g2, A2, eA2, hK2, A3, eA3, c1, c2, hPL, hKw⟩ := Qbt w A MO _ (flt lo hi (y7 t)) D hV hown (by omega) hdf
   obtain ⟨po, co, evo⟩ := jn hown
   have hge := qm hown
   have FIN : Hid (PL A3 52 vO (flt lo hi (y7 t)) /\ (∀ y, vO.ownBlock = some y -> w.heap.size <= y) /\ y5 [] w A3) := ⟨hPL, fun y hy => hge y (by simp [hy]), hKw⟩
   rw [ez] at FIN
   obtain ⟨nl, hnl⟩ : ∃ nl, nl = (flt lo hi (y7 t)).length := ⟨_, rfl⟩
   rw [<- hnl] at evo
   subst evo
   clear hV hown hPL hKw hdf hge hnl
   subst eA1
   subst eA2
   go_wp2
   refine ⟨by simp, .inl ⟨_, _, rfl, run_takeDeferred hK2, ?_⟩⟩
   rw [<- eA3]
   refine ⟨.tuple #[.slice po nl co, .nilIface], ?_, _, rfl, FIN.out⟩
   simp [results, Tryz.f25, go_sem, c1, c2]
  case stop =>
   rintro D c pre A hD hpre ⟨zs, y, vO, rfl, rfl, hV, hown, heq⟩ hdf
   have ez : zs = Zz lo hi (mst mm) (y7 t) := by
    have h1 : zs <+: flt lo hi (y7 t) := (List.prefix_append zs [y]).trans hpre
    have h2 := List.prefix_iff_eq_take.1 h1
    rw [h2]
    unfold Zz flt
    congr 1
    have := HMO.out
    omega
   obtain ⟨a3, a1, g1, A1, eA1, a2, g2, A2, eA2, hK2, A3, eA3, c1, c2, hPL, hKw⟩ := Qbt w A MO _ zs D hV hown (by omega) hdf
   obtain ⟨po, co, evo⟩ := jn hown
   have hge := qm hown
   have FIN : Hid (PL A3 52 vO zs /\ (∀ y, vO.ownBlock = some y -> w.heap.size <= y) /\ y5 [] w A3) := ⟨hPL, fun y hy => hge y (by simp [hy]), hKw⟩
   rw [ez] at FIN
   obtain ⟨nl, hnl⟩ : ∃ nl, nl = zs.length := ⟨_, rfl⟩
   rw [<- hnl] at evo
   subst evo
   clear hV hown hPL hKw hdf hge hnl
   subst eA1
   subst eA2
   go_wp2
   refine ⟨by simp, .inl ⟨_, _, rfl, run_takeDeferred hK2, ?_⟩⟩
   rw [<- eA3]
   refine ⟨.tuple #[.slice po nl co, .nilIface], ?_, _, rfl, FIN.out⟩
   simp [results, Tryz.f25, go_sem, c1, c2]
 ·go_wp2_with (first | (go_at_call 51; refine (Qbk x lo hi _).mono ?_; rintro e w1 ⟨rfl, hb1, hs1, hk1⟩))
  have hV0 := ScV.new w (mm)
  obtain ⟨W0, eW0⟩ : ∃ W0, W0 = (((w.alloc (.cells #[.int .i64 (mm)] 3)).alloc (.cells #[.slice none 0 0] 25)).alloc (.cells #[.nilIface] 35)).alloc (.cells #[.slice none 0 0] 25) := ⟨_, rfl⟩
  have s0 : W0.heap.size = w.heap.size + 1 + 1 + 1 + 1 := by rw [eW0, World.size_alloc, World.size_alloc, World.size_alloc, World.size_alloc]
  have k0 : y5 [] w W0 := by rw [eW0]; exact ((((y5.refl [] w).alloc _).alloc _).alloc _).alloc _
  rw [<- eW0] at hb1 hs1 hk1 hV0
  rw [s0] at hb1 hs1
  have hMO' : (mm) = ((mst mm : Nat) : Int) := by unfold mst; omega
  obtain ⟨MO, eMO⟩ : ∃ MO : Int, MO = (mm) := ⟨_, rfl⟩
  rw [<- eMO] at hV0
  have hMO : MO = ((mst mm : Nat) : Int) := eMO.trans hMO'
  have hV1 := hV0.gr (Nat.le_refl _) (Gr.of (B := w.heap.size) hk1)
  have K1 := k0.trans hk1
  have hx := yt h.row
  have hvv := yt h.vol
  have hSM : SM [w.heap.size + 1 + 1 + 1] x v a n hd r t w1 := ⟨K1.get h.row (by simp), K1.get h.vol (by simp), h.st, TV.kept h.lv.tags K1 (by simp) (fun y hy => by have := TT.lt hy; simp; omega), TV.kept h.tv.tags K1 (by simp) (fun y hy => by have := TT.lt hy; simp; omega), by simp; omega, by simp; omega⟩
  have hit := Qbo [w.heap.size + 1 + 1 + 1] x v a n (w.heap.size + 1 + 1 + 1 + 1) (w.heap.size + 1 + 1 + 1 + 1 + 1) (w.heap.size + 1 + 1 + 1 + 1 + 1 + 1) hd r t lo hi ht w1 hb1 (by intro y hy; simp at hy; omega) (by simp; try omega) (by simp; try omega) (by simp; try omega) hSM
  have hMO0 : 0 <= MO := by omega
  have HMO : Hid _ := hMO
  have hge1 : w.heap.size + 7 <= w1.heap.size := by omega
  clear hMO' eW0 hV0 eMO hb1 hSM hMO hs1
  refine Qbb (α := Pr) rfl (fun _ _ => by kernel_rfl) hit (fun _ => rfl)
   (ScnI w MO) (ScnX w MO) ?_ ?_ ⟨_, hV1, World.ownsRow_nil _ _ _ _, by simp; omega⟩
   (fun p a' A => ∃ q, a' = { tmps := #[.pointer (some ⟨x, 0, none⟩), .string lo, .string hi, .int .i64 mm, undef, undef, undef, .pointer (some ⟨w.heap.size, 0, none⟩), .pointer (some ⟨w.heap.size + 1, 0, none⟩), .pointer (some ⟨w.heap.size + 1 + 1, 0, none⟩), .pointer (some ⟨w.heap.size + 1 + 1 + 1, 0, none⟩), .pointer (some ⟨q, 0, none⟩), .nilIface, .int .i64 mm, .bool false, .pointer (some ⟨x, 0, none⟩), .string lo, .string hi, .func (.func 85) #[] #[.pointer (some ⟨w.heap.size + 1 + 1 + 1 + 1, 0, none⟩), .pointer (some ⟨w.heap.size + 1 + 1 + 1 + 1 + 1, 0, none⟩), .pointer (some ⟨w.heap.size + 1 + 1 + 1 + 1 + 1 + 1, 0, none⟩)], .agg #[.string p.1, .string p.2], .nilIface, undef, undef, undef, undef, undef, undef, undef, undef, undef, undef, undef, undef], defers := [] } /\ A.heap[q]? = some (.cells #[.string p.1, .string p.2] 52 (0, 0))) ?_ ?_ ?assign ?body ?done ?stop
  ·rintro s A A' ⟨vO, h1, h2, h3⟩ hg
   exact ⟨vO, h1.gr (by omega) hg, Qbp h2 hg, h3⟩
  ·rintro c s A A' ⟨zs, y, vO, h0, h1, h2, h3, h4⟩ hg
   exact ⟨zs, y, vO, h0, h1, h2.gr (by omega) hg, Qbp h3 hg, h4⟩
  ·rintro p a' _ A A' ⟨q, h1, h2⟩ hg
   exact ⟨q, h1, hg.row _ _ _ _ h2⟩
  ·intro p _ A A' h _; exact h
  case assign =>
   rintro m l1 pre p A K _ _ hK
   dsimp only [enc2]
   gi_wp2
   exact hK _ _ ((y5.refl [] A).alloc _) ⟨A.heap.size, rfl, heap_alloc_new _ _⟩
  case body =>
   rintro m l1 pre p a' A ⟨vO, hV, hown, hle⟩ _ ⟨q, rfl, hq⟩ hlen
   have hAs := hV.bl.size
   obtain ⟨po, co, evo⟩ := jn hown
   subst evo
   have c1 : A.cell? ⟨w.heap.size, 0, none⟩ = some (.int .i64 MO) := y6 hV.mb rfl
   have c2 : A.cell? ⟨w.heap.size + 1 + 1 + 1, 0, none⟩ = some (.slice po pre.length co) := y6 hV.ov rfl
   by_cases heq : (pre.length : Int) = MO
   ·have FIN : Hid (ScnX w MO (.exit 0) (pre ++ [p]) A) := ⟨pre, p, _, rfl, rfl, hV, hown, heq⟩
    clear hV hown
    gi_wp2
    exact ⟨KeepsFrom.refl _ _, FIN.out⟩
   ·have hpl : pre.length <= 100000 := by omega
    obtain ⟨g2, cap2, A2, hr2, ho2, hk2⟩ := Qbs w.heap.size A (.slice po pre.length co) pre hown hAs hpl p
    obtain ⟨nl, hnl⟩ : ∃ nl, nl = (pre ++ [p]).length := ⟨_, rfl⟩
    rw [<- hnl] at hr2 ho2
    have hldq := Qbn hq
    have hpair : ∀ (y : Nat) (cs : Array Value) (t : TypeId) (fr : Nat × Nat), A.heap[y]? = some (.cells cs t fr) -> t ≠ 52 -> A2.heap[y]? = some (.cells cs t fr) := fun y cs t fr hy ht => hk2.get hy fun hm => by
     obtain ⟨cs', fr', hc⟩ := qy hown (b := y) (by simpa using hm)
     rw [hc] at hy
     cases hy
     exact ht rfl
    have ov2 := hpair _ _ _ _ hV.ov (by decide)
    have c3 : A2.cell? ⟨w.heap.size + 1 + 1 + 1, 0, none⟩ = some (.slice po pre.length co) := y6 ov2 rfl
    have z3 : A2.frozen? ⟨w.heap.size + 1 + 1 + 1, 0, none⟩ = false := frozen_of_row _ _ _ _ _ ov2
    obtain ⟨A3, eA3⟩ : ∃ A3, A3 = A2.setCell ⟨w.heap.size + 1 + 1 + 1, 0, none⟩ (.slice (some ⟨g2, 0, none⟩) nl cap2) := ⟨_, rfl⟩
    have k3 : y5 [w.heap.size + 1 + 1 + 1] A2 A3 := by rw [eA3]; exact (y5.refl _ _).setCell (Or.inl (by simp)) _
    have hg2 : g2 ≠ w.heap.size + 1 + 1 + 1 := by
     intro e
     obtain ⟨cs', fr', hc⟩ := qy ho2 (b := g2) rfl
     rw [e, ov2] at hc
     cases hc
    have own3 := yQ ho2 k3 (by intro b hb; cases hb; simpa using hg2)
    have own_base := qm hown
    have hV3 : ScV w MO (.slice (some ⟨g2, 0, none⟩) nl cap2) A3 := ⟨k3.get (hpair _ _ _ _ hV.mb (by decide)) (by simp; omega), k3.get (hpair _ _ _ _ hV.ro (by decide)) (by simp), k3.get (hpair _ _ _ _ hV.re (by decide)) (by simp), by rw [eA3]; exact yg (i := 0) _ ov2, hV.bl.trans ⟨(k3.os.trans hk2.os), (k3.tape.trans hk2.tape), (k3.output.trans hk2.output), by have := hk2.size; have := k3.size; omega, fun y hy => (k3.block y (by have := hk2.size; omega) (by simp; omega)).trans (hk2.block y (by omega) fun hm => by have := own_base y hm; omega)⟩⟩
    have hKF : KeepsFrom w1.heap.size A A3 := by
     refine ⟨Nat.le_trans hk2.size k3.size, fun y o hy ho hc => ?_⟩
     have h2 := (hk2.block y (yt ho) fun hm => by
      obtain ⟨cs', fr', hc'⟩ := qy hown (b := y) (by simpa using hm)
      rw [hc'] at ho
      cases ho
      cases hc).trans ho
     exact (k3.block y (yt h2) (by simp; omega)).trans h2
    have hKC : KC [w.heap.size + 1 + 1 + 1] A A3 := ⟨k3.os.trans hk2.os, k3.tape.trans hk2.tape, k3.output.trans hk2.output, Nat.le_trans hk2.size k3.size, fun y cs t fr hy hm ht => k3.get (hpair y cs t fr hy ht) (by simpa using hm)⟩
    have FIN : Hid (RndP [w.heap.size + 1 + 1 + 1] w1.heap.size (ScnI w MO) (ScnX w MO) (pre ++ [p]) A .normal { tmps := #[], defers := [] } A3) := ⟨hKF, hKC, _, hV3, by rw [<- hnl]; exact own3, by simp; omega⟩
    have HA3 : Hid _ := eA3
    clear hnl hV hown ho2 own3 hV3 hKF hKC hpair eA3 k3 hg2 own_base hq ov2
    gi_wp2_with (first
     | (refine inV rfl (fun _ => trivial) (Oper.semAt_some _ _ _ (by intro c h; cases h)) _ _ (y9 52 (.tmp 11) rfl ⟨q, 0, none⟩ rfl _ hldq) ?_)
     | (refine inV rfl (fun _ => trivial) (Oper.semAt_some _ _ _ (by intro c h; cases h)) _ _ (qf 25 1 (.tmp 29) rfl (.agg #[.string p.1, .string p.2]) rfl _ (Qbr _ p)) ?_)
     | (refine inV rfl (fun _ => trivial) (Oper.semAt_some _ _ _ (by intro c h; cases h)) _ A2 (yG (.tmp 28) (.tmp 30) 25 25 rfl _ _ rfl rfl _ (hr2 _)) ?_))
    rw [<- HA3.out]
    exact FIN.out
  case done =>
   rintro D xs A hD rfl ⟨vO, hV, hown, hle⟩ hdf
   have ez : flt lo hi (y7 t) = Zz lo hi (mst mm) (y7 t) := (List.take_of_length_le (by have := HMO.out; omega)).symm
   obtain ⟨a3, a1, g1, A1, eA1, a2, g2, A2, eA2, hK2, A3, eA3, c1, c2, hPL, hKw⟩ := Qbt w A MO _ (flt lo hi (y7 t)) D hV hown (by omega) hdf
   obtain ⟨po, co, evo⟩ := jn hown
   have hge := qm hown
   have FIN : Hid (PL A3 52 vO (flt lo hi (y7 t)) /\ (∀ y, vO.ownBlock = some y -> w.heap.size <= y) /\ y5 [] w A3) := ⟨hPL, fun y hy => hge y (by simp [hy]), hKw⟩
   rw [ez] at FIN
   obtain ⟨nl, hnl⟩ : ∃ nl, nl = (flt lo hi (y7 t)).length := ⟨_, rfl⟩
   rw [<- hnl] at evo
   subst evo
   clear hV hown hPL hKw hdf hge hnl
   subst eA1
   subst eA2
   go_wp2
   refine ⟨by simp, .inl ⟨_, _, rfl, run_takeDeferred hK2, ?_⟩⟩
   rw [<- eA3]
   refine ⟨.tuple #[.slice po nl co, .nilIface], ?_, _, rfl, FIN.out⟩
   simp [results, Tryz.f25, go_sem, c1, c2]
  case stop =>
   rintro D c pre A hD hpre ⟨zs, y, vO, rfl, rfl, hV, hown, heq⟩ hdf
   have ez : zs = Zz lo hi (mst mm) (y7 t) := by
    have h1 : zs <+: flt lo hi (y7 t) := (List.prefix_append zs [y]).trans hpre
    have h2 := List.prefix_iff_eq_take.1 h1
    rw [h2]
    unfold Zz flt
    congr 1
    have := HMO.out
    omega
   obtain ⟨a3, a1, g1, A1, eA1, a2, g2, A2, eA2, hK2, A3, eA3, c1, c2, hPL, hKw⟩ := Qbt w A MO _ zs D hV hown (by omega) hdf
   obtain ⟨po, co, evo⟩ := jn hown
   have hge := qm hown
   have FIN : Hid (PL A3 52 vO zs /\ (∀ y, vO.ownBlock = some y -> w.heap.size <= y) /\ y5 [] w A3) := ⟨hPL, fun y hy => hge y (by simp [hy]), hKw⟩
   rw [ez] at FIN
   obtain ⟨nl, hnl⟩ : ∃ nl, nl = zs.length := ⟨_, rfl⟩
   rw [<- hnl] at evo
   subst evo
   clear hV hown hPL hKw hdf hge hnl
   subst eA1
   subst eA2
   go_wp2
   refine ⟨by simp, .inl ⟨_, _, rfl, run_takeDeferred hK2, ?_⟩⟩
   rw [<- eA3]
   refine ⟨.tuple #[.slice po nl co, .nilIface], ?_, _, rfl, FIN.out⟩
   simp [results, Tryz.f25, go_sem, c1, c2]
end Go.Proofs.YtcklgafpgdhnaabGreatDoor
