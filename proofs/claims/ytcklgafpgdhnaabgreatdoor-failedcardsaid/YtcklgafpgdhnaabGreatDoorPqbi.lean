import Derived.Test.YtcklgafpgdhnaabGreatDoorPqaw
import Derived.Test.YtcklgafpgdhnaabGreatDoorPqbh
import Derived.Test.YtcklgafpgdhnaabGreatDoorPqay
set_option maxRecDepth 100000
set_option maxHeartbeats 4000000
open Go.Proofs.Tryz
namespace Go.Proofs.YtcklgafpgdhnaabGreatDoor
open Go.RowKit
def TrdR (a : Nat) (bv : Value) (n : Nat) (cv : Value) (D : Dv) (rt : Option Tr) (w : World) (e : Ending) (w' : World) : Prop :=
 ∃ D', DQ w' a bv n cv D' /\ y5 [a] w w' /\ ((Qt D D' /\ ∃ t r, rt = some t /\ e = .returned (.agg #[.string ⟨#[]⟩, .int .i64 (t.pl : Nat), r]) /\ TV w' Tru t r) \/ (Qt D D' /\ rt = none /\ Thr 7 e w') \/ (Er D D' /\ Thr 6 e w'))
def SNil (sv : Nat) (W : World) : Prop := W.heap[sv]? = some (.cells #[.pointer none] 24 (0, 0))
def OpE (sv a : Nat) (bv : Value) (n : Nat) (cv : Value) (D : Dv) (h : (Nat × Nat) × Bool) (rt : Option Tr) (B : Nat) (o : Option Int) (W : World) : Prop :=
 ∃ D', DQ W a bv n cv D' /\ ((o = some 6 /\ Er D D' /\ SNil sv W) \/ (o = some 7 /\ Qt D D' /\ SNil sv W /\ (h.2 = false \/ rt = none)) \/
  (o = none /\ Qt D D' /\ h.2 = true /\ ∃ t r x v, rt = some t /\ W.heap[sv]? = some (.cells #[.pointer (some ⟨x, 0, none⟩)] 24 (0, 0)) /\ Rec x v a n ⟨1, h.1.1, h.1.2, t, r⟩ r t W /\ B <= x /\ B <= v))
theorem OpE.err {sv a : Nat} {bv : Value} {n : Nat} {cv : Value} {D : Dv} {h : (Nat × Nat) × Bool} {rt : Option Tr} {B : Nat} {o : Option Int} {W W' : World} {T : List Nat} (g : OpE sv a bv n cv D h rt B o W) (k : y5 T W W') (hT : ∀ x ∈ T, Tg W x 35) : OpE sv a bv n cv D h rt B o W' := by
 obtain ⟨D', hd, hr⟩ := g
 have hn : ∀ {y : Nat} {t : TypeId}, Tg W y t -> t ≠ 35 -> y ∉ T := fun hy hne hm => hne (hy.ne (hT _ hm))
 refine ⟨D', hd.kept k ?_, ?_⟩
 ·intro y hy hm
  obtain ⟨cs, fr, hh⟩ := hT y hm
  exact hd.no hh (by decide) hy
 ·rcases hr with ⟨h1, h2, h3⟩ | ⟨h1, h2, h3, h4⟩ | ⟨h1, h2, h3, t, r, x, v, h4, h5, h6, h7⟩
  ·exact Or.inl ⟨h1, h2, k.get h3 (hn ⟨_, _, h3⟩ (by decide))⟩
  ·exact Or.inr (Or.inl ⟨h1, h2, k.get h3 (hn ⟨_, _, h3⟩ (by decide)), h4⟩)
  ·exact Or.inr (Or.inr ⟨h1, h2, h3, t, r, x, v, h4, k.get h5 (hn ⟨_, _, h5⟩ (by decide)), h6.err k hT, h7⟩)
theorem szp : (prog.info? 24).map (·.size) = some 1 := by kernel_rfl
theorem stHd : (prog.info? 71).map (·.size) = some 2 := by kernel_rfl
theorem Qaq (p sv a : Nat) (bv : Value) (n : Nat) (cv : Value) (D : Dv) (rt : Option Tr) (w : World) (hp : w.heap[p]? = some (.cells #[.iface 23 (.pointer (some ⟨a, 0, none⟩))] 103 (0, 0))) (hsv : SNil sv w) (h : DQ w a bv n cv D) (hn8 : 8 <= n) (hn : n <= 400) (hq : D.q.length < 1000000) (hT : qc D \/ Tab w)
  (hR : ∀ v W D1, Vol W v a n -> DQ W a bv n cv D1 -> Qt D D1 -> (qc D1 \/ Tab W) -> (Tab w -> Tab W) -> Calls prog 71 #[.pointer (some ⟨v, 0, none⟩), .int .i64 ((yn D).1.2 : Nat)] W (TrdR a bv n cv D1 rt W)) :
  Calls prog 68 #[.pointer (some ⟨p, 0, none⟩), .pointer (some ⟨sv, 0, none⟩)] w (Q28 [a, sv] (OpE sv a bv n cv D (yn D) rt w.heap.size) w) := by
 have c0 : w.cell? ⟨p, 0, none⟩ = some (.iface 23 (.pointer (some ⟨a, 0, none⟩))) := y6 hp rfl
 obtain ⟨bp, bc, rfl⟩ := qF h.b
 have HN : Hid (∀ v W, Vol W v a n -> DQ W a (.slice bp n bc) n cv D -> (qc D \/ Tab W) -> Calls prog 70 #[.pointer (some ⟨v, 0, none⟩)] W (RdR a (.slice bp n bc) n cv D (fun e _ => e = .returned (nwV (yn D))) W)) := fun v W hV hD hT => Q6L v a _ n cv D W hV hD hn8 (by omega) (by omega) hT
 have HR : Hid (∀ v W D1, Vol W v a n -> DQ W a (.slice bp n bc) n cv D1 -> Qt D D1 -> (qc D1 \/ Tab W) -> (Tab w -> Tab W) -> Calls prog 71 #[.pointer (some ⟨v, 0, none⟩), .int .i64 ((yn D).1.2 : Nat)] W (TrdR a (.slice bp n bc) n cv D1 rt W)) := hR
 clear hR
 obtain ⟨⟨⟨t0, r0⟩, b0⟩, hx⟩ : ∃ x, x = yn D := ⟨_, rfl⟩
 rw [<- hx] at HN HR ⊢
 clear hx
 have hsl := yt hsv
 go_enter func68, ntmps68
 go_wp2_with fail
 refine (Q1z a n bc bp cv D w h.d hn8 hn).mono ?_
 rintro e w1 ⟨v, rfl, hv1, hvl, hk1⟩
 have h1 := h.k0 hk1
 have hT1 : qc D \/ Tab w1 := hT.imp id fun hT => hT.k hk1
 have nv : v ∉ ym a (.slice bp n bc) cv := h1.no hv1 (by decide)
 have sub1 : ∀ y ∈ [a], y ∈ ym a (.slice bp n bc) cv := by intro y hy; simp at hy; subst hy; simp [ym]
 have nsv : sv ∉ ym a (.slice bp n bc) cv := h.no hsv (by decide)
 go_wp2_with fail
 refine (HN.out v w1 hv1 h1 hT1).mono ?_
 rintro e w2 ⟨D2, hd2, hk2, ⟨hq2, rfl⟩ | ⟨he2, ht2⟩⟩
 rotate_left
 ·obtain ⟨f, o, rfl, hf⟩ := ht2.ex
  exact ⟨rfl, some 6, ht2, ⟨D2, hd2, Or.inl ⟨rfl, he2, hk2.get (hk1.get hsv (by simp)) fun hm => nsv (sub1 _ hm)⟩⟩, (hk1.mono (by simp)).trans (hk2.mono (by simp))⟩
 have hv2 : Vol w2 v a n := hk2.get hv1 (fun hm => nv (sub1 _ hm))
 have hs2 : SNil sv w2 := hk2.get (hk1.get hsv (by simp)) fun hm => nsv (sub1 _ hm)
 have hT2 : qc D2 \/ Tab w2 := hT1.imp hq2.good.2 fun hT => hT.kept hk2 (hT.dqa h1)
 have HTT : Hid (Tab w -> Tab w2) := fun hT => (hT.k hk1).kept hk2 ((hT.k hk1).dqa h1)
 have hk02 : y5 [a] w w2 := (hk1.mono (by simp)).trans hk2
 have k3 := (y5.refl [] w2).alloc (.cells #[.int .u64 (t0 : Int), .int .i64 (r0 : Int)] 71)
 have n3 := heap_alloc_new w2 (.cells #[.int .u64 (t0 : Int), .int .i64 (r0 : Int)] 71)
 have HK3 : Hid (y5 [] w2 _) := k3
 have hd3 := hd2.k0 k3
 have hv3 : Vol (w2.alloc (.cells #[.int .u64 (t0 : Int), .int .i64 (r0 : Int)] 71)) v a n := k3.get hv2 (by simp)
 have hs3 : SNil sv (w2.alloc (.cells #[.int .u64 (t0 : Int), .int .i64 (r0 : Int)] 71)) := k3.get hs2 (by simp)
 have hk03 := hk02.trans2 k3 (by simp)
 have hT3 : qc D2 \/ Tab (w2.alloc (.cells #[.int .u64 (t0 : Int), .int .i64 (r0 : Int)] 71)) := hT2.imp id fun hT => hT.k k3
 have hz2 := hk02.size
 clear h1 hk1 hT1
 simp only [nwV]
 generalize hW3 : w2.alloc (.cells #[.int .u64 (t0 : Int), .int .i64 (r0 : Int)] 71) = w3 at *
 have HW3 : Hid _ := hW3
 clear hW3
 cases b0 with
 | false =>
  go_wp2_with fail
  rw [HW3.out]
  go_wp2_with (first | (go_at_call 46; refine (Qn _ _ _).mono ?_; rintro e w4 ⟨f, o, rfl, hf, hk4⟩))
  exact ⟨rfl, some 7, ⟨f, o, rfl, hf⟩, ⟨D2, hd3.k0 hk4, Or.inr (Or.inl ⟨rfl, hq2, hk4.get hs3 (by simp), Or.inl rfl⟩)⟩, (hk03.mono (by simp)).trans (hk4.mono (by simp))⟩
 | true =>
  have c30 : w3.cell? ⟨w2.heap.size, 0, none⟩ = some (.int .u64 t0) := y6 n3 rfl
  have c31 : w3.cell? ⟨w2.heap.size, 1, none⟩ = some (.int .i64 r0) := y6 n3 rfl
  go_wp2_with fail
  rw [HW3.out]
  go_wp2_with (first | (go_at_call 72; refine (Q19 t0 r0 _).mono ?_; rintro e w4 ⟨rfl, hk4⟩))
  refine (HR.out v w4 D2 (hk4.get hv3 (by simp)) (hd3.k0 hk4) hq2 (hT3.imp id fun hT => hT.k hk4) (fun hT => ((HTT.out hT).k HK3.out).k hk4)).mono ?_
  rintro e w5 ⟨D5, hd5, hk5, ⟨hq5, t, r, hrt, rfl, htv⟩ | ⟨hq5, hrt, ht5⟩ | ⟨he5, ht5⟩⟩
  rotate_left
  ·obtain ⟨f, o, rfl, hf⟩ := ht5.ex
   exact ⟨rfl, some 7, ht5, ⟨D5, hd5, Or.inr (Or.inl ⟨rfl, hq2.trans hq5, hk5.get (hk4.get hs3 (by simp)) fun hm => nsv (sub1 _ hm), Or.inr hrt⟩)⟩, ((hk03.mono (by simp)).trans (hk4.mono (by simp))).trans (hk5.mono (by simp))⟩
  ·obtain ⟨f, o, rfl, hf⟩ := ht5.ex
   exact ⟨rfl, some 6, ht5, ⟨D5, hd5, Or.inl ⟨rfl, hq2.er he5, hk5.get (hk4.get hs3 (by simp)) fun hm => nsv (sub1 _ hm)⟩⟩, ((hk03.mono (by simp)).trans (hk4.mono (by simp))).trans (hk5.mono (by simp))⟩
  have hr1 := htv.one
  have hs5 : SNil sv w5 := hk5.get (hk4.get hs3 (by simp)) fun hm => nsv (sub1 _ hm)
  have hv5 : Vol w5 v a n := hk5.get (hk4.get hv3 (by simp)) fun hm => nv (sub1 _ hm)
  have n5 := hk5.get (hk4.get n3 (by simp)) (fun hm => hd2.ge (Nat.le_refl _) (sub1 _ hm))
  have c50 : w5.cell? ⟨w2.heap.size, 0, none⟩ = some (.int .u64 t0) := y6 n5 rfl
  have c51 : w5.cell? ⟨w2.heap.size, 1, none⟩ = some (.int .i64 r0) := y6 n5 rfl
  have cs5 : w5.cell? ⟨sv, 0, none⟩ = some (.pointer none) := y6 hs5 rfl
  have fs5 : w5.frozen? ⟨sv, 0, none⟩ = false := frozen_of_row _ _ _ _ _ hs5
  have K5 : y5 [a, sv] w w5 := ((hk03.mono (by simp)).trans (hk4.mono (by simp))).trans (hk5.mono (by simp))
  have k6 := (y5.refl [] w5).alloc (.cells #[.string ⟨#[]⟩, .int .i64 0, .nilIface] 77)
  have z6 := heap_alloc_new w5 (.cells #[.string ⟨#[]⟩, .int .i64 0, .nilIface] 77)
  have hlt2 := yt n5
  have hlt3 := yt hs5
  clear hk03 hk02 hk2 hs2 hs3 hv2 hv3 hd2 hd3 hT2 hT3 n3 k3
  go_wp2_with (first
   | (refine yb rfl 77 (.tmp 5) (.tmp 19) rfl w5.heap.size #[.string ⟨#[]⟩, .int .i64 (t.pl : Int), r] rfl rfl 77 _ z6 stT rfl (one3 _ hr1) ?_; intro w6 t6 hk6; have n6 := hk6.get (k6.get n5 (by simp)) (by simp; omega); have s6 := hk6.get (k6.get hs5 (by simp)) (by simp; omega); have K6 : y5 [] w5 w6 := k6.trans2 hk6 (by intro y hy; simp at hy; subst hy; exact Or.inr (Nat.le_refl _)); have k7 := (y5.refl [] w6).alloc (.cells #[.int .i64 1, .pointer (some ⟨v, 0, none⟩), .int .u64 (t0 : Int), .int .i64 (r0 : Int), .string ⟨#[]⟩, .int .i64 (t.pl : Int), r, .string ⟨#[]⟩, .int .i64 (t.pl : Int), r] 79); have s7 := k7.get s6 (by simp); have x7 := heap_alloc_new w6 (.cells #[.int .i64 1, .pointer (some ⟨v, 0, none⟩), .int .u64 (t0 : Int), .int .i64 (r0 : Int), .string ⟨#[]⟩, .int .i64 (t.pl : Int), r, .string ⟨#[]⟩, .int .i64 (t.pl : Int), r] 79))
   | (refine qM rfl _ (yH 24 (.tmp 1) (.tmp 25) rfl ⟨sv, 0, none⟩ rfl _ rfl (gK szp rfl s7 (by simp))) ?_)
   | (refine wpList_load_row rfl 71 (.tmp 3) rfl w2.heap.size rfl 71 #[.int .u64 (t0 : Int), .int .i64 (r0 : Int)] (0, 0) _ n6 underlying71 rfl stHd ?_)
   | (refine wpList_load_row rfl 77 (.tmp 5) rfl w5.heap.size rfl 77 #[.string ⟨#[]⟩, .int .i64 (t.pl : Int), r] (0, 0) _ t6 underlying77 rfl stT ?_))
  go_end0
  have kb : y5 [sv] (w6.alloc (.cells (qk ⟨1, t0, r0, t, r⟩ v t r) 79)) ((w6.alloc (.cells (qk ⟨1, t0, r0, t, r⟩ v t r) 79)).setCell ⟨sv, 0, none⟩ (.pointer (some ⟨w6.heap.size, 0, none⟩))) := (y5.refl _ _).setCell (Or.inl (by simp)) _
  have K7 : y5 [] w5 (w6.alloc (.cells (qk ⟨1, t0, r0, t, r⟩ v t r) 79)) := K6.trans k7
  have tv7 := (htv.k K7).tags
  have nsT : ∀ y ∈ [sv], ¬ TT (w6.alloc (.cells (qk ⟨1, t0, r0, t, r⟩ v t r) 79)) y := by
   intro y hy
   simp at hy
   subst hy
   rintro (h1 | h1)
   ·have := Tg.ne ⟨_, _, s7⟩ h1
    revert this; decide
   ·have := Tg.ne ⟨_, _, s7⟩ h1
    revert this; decide
  have h56 := K6.size
  refine ⟨none, rfl, ⟨D5, (hd5.k0 K7).k1 kb nsv, Or.inr (Or.inr ⟨rfl, hq2.trans hq5, rfl, t, r, w6.heap.size, v, rfl, yg (i := 0) _ s7, ⟨kb.get x7 (by simp; omega), kb.get (K7.get hv5 (by simp)) (by simp; intro e; subst e; have := Tg.ne ⟨_, _, hs5⟩ ⟨_, _, hv5⟩; revert this; decide), ⟨Nat.le_refl _, by show 1 <= 3; decide⟩, TV.kept tv7 kb nsT fun _ _ => trivial, TV.kept tv7 kb nsT fun _ _ => trivial⟩, by have := K5.size; omega, by omega⟩)⟩, (K5.trans (K7.mono (by simp))).trans (kb.mono (by simp))⟩
structure RyI (a : Nat) (bv : Value) (n : Nat) (cv : Value) (b : Nat) (D : Dv) (w0 : World) (us : List Nat) (W : World) : Prop where
 sp : SpM W b us
 ul : ∀ u ∈ us, u < n
 nd : us.Nodup
 dq : ∃ D', DQ W a bv n cv D' /\ Qt D D'
 kp : y5 [b, a] w0 W
def RyJ (a : Nat) (bv : Value) (n : Nat) (cv : Value) (b : Nat) (D : Dv) (w0 : World) (x : Bool) (e : Ending) (W : World) : Prop :=
 ∃ D', DQ W a bv n cv D' /\ y5 [b, a] w0 W /\ ((x = true /\ Qt D D' /\ Thr 7 e W) \/ (x = false /\ Er D D' /\ Thr 6 e W))
theorem Qar (args : Array Value) (w : World) : (callFunc 101 args).run prog w = .ok (.enter 101 args) w := qA func101 (by kernel_rfl) (by kernel_rfl) args w
theorem DQ.kaa {w w' : World} {a : Nat} {bv : Value} {n : Nat} {cv : Value} {D : Dv} (h : DQ w a bv n cv D) (k : y5 [a] w w') : KA Tru w w' := h.ka (k.mono (by intro y hy; simp at hy; subst hy; simp [ym]))
theorem Qas (v a n rb rv b : Nat) (bv cv : Value) (D : Dv) (w0 : World) (hrb : w0.heap[rb]? = some (.cells #[.int .i64 n, .map (some b)] 108 (0, 0))) (hrv : w0.heap[rv]? = some (.cells #[.pointer (some ⟨v, 0, none⟩)] 68 (0, 0))) (hvol : Vol w0 v a n) (hD0 : DQ w0 a bv n cv D) (us0 : List Nat) (hsp : SpM w0 b us0) (hT : Tab w0) (hn : n <= 1000) (hq : D.q.length <= 1000000) :
  Rdr 101 (.pointer (some ⟨rb, 0, none⟩)) (.pointer (some ⟨rv, 0, none⟩)) n D.view (RyI a bv n cv b D w0) (RyJ a bv n cv b D w0) w0.heap.size where
 en := Qar
 call := by
  intro us i w hI hi hBs
  have hoff : ∀ {y : Nat} {cs : Array Value} {t : TypeId} {fr : Nat × Nat}, w0.heap[y]? = some (.cells cs t fr) -> t ∉ [65, 80, 82] -> y ∉ [b, a] := by
   intro y cs t fr hy ht hm
   rcases List.mem_cons.1 hm with rfl | hm
   ·exact hsp.ne hy rfl
   ·exact hD0.no hy ht (by simp at hm; subst hm; simp [ym])
  have rb0 := hI.kp.get hrb (hoff hrb (by decide))
  have rv0 := hI.kp.get hrv (hoff hrv (by decide))
  have vo0 : Vol w v a n := hI.kp.get hvol (hoff hvol (by decide))
  have T0 : Tab w := hT.kept hI.kp (fun hm => by
   obtain ⟨cs, fr, hy⟩ := hT.row
   exact hoff hy (by decide) hm)
  have hlen := gF n us hI.nd hI.ul
  have HI : Hid (RyI a bv n cv b D w0 us w) := hI
  have hsp1 := hI.sp
  clear hI
  go_enter func101, ntmps101
  by_cases hiu : i < n /\ i ∉ us
  ·have HU : Hid (∀ W, y5 [] w W -> Calls _ _ _ _ _) := fun W kW => Q2d n b us i W (hsp1.kept kW (by simp)) (by omega) (by omega) hiu.1 hiu.2
   go_wp2_with (first
    | (refine yc rfl 4 rfl 80 rfl _ (zblk _) ?_; intro w1 n1 q1 hs1; have HS1 : Hid _ := hs1; clear hs1; have rb1 := q1.get rb0 (by simp))
    | (refine wpList_load_row rfl 108 (.tmp 1) rfl rb rfl 108 #[.int .i64 n, .map (some b)] (0, 0) _ rb1 underlying108 rfl jT ?_))
   refine (HU.out w1 q1).mono ?_
   rintro e w2 ⟨rfl, s2, k2⟩
   obtain ⟨D1, hd, hqt⟩ := HI.out.dq
   have sp1 := HI.out.sp.kept q1 (by simp)
   have hbn : b ∉ ym a bv cv := HI.out.sp.nd hd
   have hd2 : DQ w2 a bv n cv D1 := (hd.k0 q1).k1 k2 hbn
   have KA2 : KA Tru w w2 := (KA.k0 q1).trans (sp1.ka k2)
   have rv2 := KA2.row _ _ _ _ trivial (by decide) rv0
   have vo2 : Vol w2 v a n := KA2.row _ _ _ _ trivial (by decide) vo0
   have n2 := k2.get n1 (by simp; exact sp1.ne n1)
   have T2 : Tab w2 := T0.ka KA2
   have hq1 : D1.q.length <= 1000000 := by rw [hqt.q]; exact hq
   have HV : Hid (Calls _ _ _ _ _) := Q1q v a bv n cv D1 i w2 vo2 hd2 hiu.1 hn hq1 (Or.inr T2)
   have KP2 : y5 [b, a] w0 w2 := (HI.out.kp.trans2 q1 (by simp)).trans2 k2 (by intro y hy; simp at hy; subst hy; exact Or.inl (by simp))
   go_wp2_with (first
    | (refine ye rfl 68 (.tmp 2) rfl ⟨rv, 0, none⟩ rfl (.pointer (some ⟨v, 0, none⟩)) (yh underlying68 rfl (y6 rv2 rfl)) ?_))
   refine HV.out.mono ?_
   rintro e w3 ⟨D3, hd3, k3, ⟨hq3, rfl⟩ | ⟨he3, hth⟩⟩
   rotate_left
   ·obtain ⟨f, o, rfl, hf⟩ := hth.ex
    exact ⟨rfl, Or.inr ⟨false, ⟨D3, hd3, KP2.trans2 k3 (by intro y hy; simp at hy; subst hy; exact Or.inl (by simp)), Or.inr ⟨rfl, hqt.er he3, hth⟩⟩, fun h => by cases h⟩, KA2.trans (hd2.kaa k3)⟩
   have na : w.heap.size ∉ [a] := by have := yt hd.d; simp; omega
   have n3 := k3.get n2 na
   have hlb : (D1.view i).length = 128 := Q0m (gx D1.L n i hd.l hiu.1) hd.q
   have KP3 : y5 [b, a] w0 w3 := KP2.trans2 k3 (by intro y hy; simp at hy; subst hy; exact Or.inl (by simp))
   have KA3 : KA Tru w w3 := KA2.trans (hd2.kaa k3)
   have sp3 := s2.kept k3 (by intro hm; simp at hm; subst hm; exact hbn (by simp [ym]))
   have HF : Hid (DQ w3 a bv n cv D3 /\ Qt D D3) := ⟨hd3, hqt.trans hq3⟩
   have HP : Hid (y5 [b, a] w0 w3 /\ KA Tru w w3 /\ SpM w3 b (i :: us)) := ⟨KP3, KA3, sp3⟩
   have HVW : Hid (D1.view i = D.view i) := hqt.view i
   clear hd3 hq3 KP3 KA3 sp3 KP2 KA2 s2 k2 n2 rv2 vo2 T2 hd hd2 n1 rb1 hsp1 hqt
   go_wp2_with (refine yb rfl 80 (.tmp 4) (.tmp 10) rfl w.heap.size (u8s (D1.view i)).toArray rfl rfl 80 _ n3 (by rw [jF]; simp [yd, hlb]) (by simp [yd, hlb]) (yU (qv _)) ?_; intro w4 n4 k4)
   refine bodyPost_ret (results_cell_row rfl _ w4 w.heap.size 80 _ (0, 0) _ rfl n4 underlying80 rfl (by rw [jF]; simp [yd, hlb])) rfl ?_
   have hla := HI.out.sp.lt
   obtain ⟨D0, hd0, _⟩ := HI.out.dq
   refine ⟨Or.inl ⟨hiu, by rw [HVW.out], HP.out.2.2.kept k4 (by simp; omega), ?_, List.nodup_cons.2 ⟨hiu.2, HI.out.nd⟩, ⟨D3, HF.out.1.kept k4 ?_, HF.out.2⟩, HP.out.1.trans2 k4 (by intro y hy; simp at hy; subst hy; exact Or.inr hBs)⟩, HP.out.2.1.new k4 (by intro y hy; simp at hy; subst hy; exact Nat.le_refl _)⟩
   ·intro u hu
    rcases List.mem_cons.1 hu with rfl | hu
    ·exact hiu.1
    ·exact HI.out.ul u hu
   ·intro y hy hm
    simp at hm
    subst hm
    exact hd0.ge (Nat.le_refl _) hy
  ·have HU : Hid (∀ W, y5 [] w W -> Calls _ _ _ _ _) := fun W kW => Q2e n b us i W (hsp1.kept kW (by simp)) (by omega) hiu (T0.k kW)
   go_wp2_with (first
    | (refine yc rfl 4 rfl 80 rfl _ (zblk _) ?_; intro w1 n1 q1 hs1; have HS1 : Hid _ := hs1; clear hs1; have rb1 := q1.get rb0 (by simp))
    | (refine wpList_load_row rfl 108 (.tmp 1) rfl rb rfl 108 #[.int .i64 n, .map (some b)] (0, 0) _ rb1 underlying108 rfl jT ?_))
   refine (HU.out w1 q1).mono ?_
   rintro e w2 ⟨hth, k2⟩
   obtain ⟨f, o, rfl, hf⟩ := hth.ex
   obtain ⟨D1, hd, hqt⟩ := HI.out.dq
   exact ⟨rfl, Or.inr ⟨true, ⟨D1, (hd.k0 q1).k0 k2, (HI.out.kp.trans2 q1 (by simp)).trans2 k2 (by simp), Or.inl ⟨rfl, hqt, hth⟩⟩, fun _ => hiu⟩, KA.k0 (q1.trans k2)⟩
 fresh := by
  intro us W W' S hI hk hS
  obtain ⟨D1, hd, hqt⟩ := hI.dq
  refine ⟨hI.sp.kept hk fun hm => ?_, hI.ul, hI.nd, ⟨D1, hd.kept hk fun y hy hm => ?_, hqt⟩, hI.kp.trans2 hk fun y hy => Or.inr (hS y hy).1⟩
  ·obtain ⟨cs, fr, hh⟩ := (hS _ hm).2
   exact hI.sp.ne hh rfl
  ·obtain ⟨cs, fr, hh⟩ := (hS _ hm).2
   exact hd.no hh (by decide) hy
 len := fun i hi => Q0m (gx D.L n i hD0.l hi) hD0.q
 us := fun us W hI => ⟨hI.nd, hI.ul⟩
 jt := by
  intro us W W' e hI hth hk
  obtain ⟨D1, hd, hqt⟩ := hI.dq
  exact ⟨D1, hd.k0 hk, hI.kp.trans2 hk (by simp), Or.inl ⟨rfl, hqt, hth⟩⟩
 jp := by
  rintro b e W ⟨D', _, _, ⟨_, _, h⟩ | ⟨_, _, h⟩⟩
  ·obtain ⟨f, o, rfl, _⟩ := h.ex
   exact ⟨_, rfl⟩
  ·obtain ⟨f, o, rfl, _⟩ := h.ex
   exact ⟨_, rfl⟩
end Go.Proofs.YtcklgafpgdhnaabGreatDoor
