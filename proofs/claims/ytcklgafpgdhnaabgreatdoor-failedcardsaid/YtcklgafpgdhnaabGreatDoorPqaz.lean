import Derived.Test.YtcklgafpgdhnaabGreatDoorPqap
import Derived.Test.YtcklgafpgdhnaabGreatDoorPqay
import Derived.Test.YtcklgafpgdhnaabGreatDoorPqae
import Derived.Test.YtcklgafpgdhnaabGreatDoorPqaw
import Derived.Test.YtcklgafpgdhnaabGreatDoorPqab
set_option maxRecDepth 100000
set_option maxHeartbeats 4000000
open Go.Proofs.Tryz
open Go.Act renaming put → zP
open List renaming getElem_toArray → zA, getElem_cons_succ → zB, getElem_cons_zero → zC, setIfInBounds_toArray → zD, set_cons_succ → zE, set_cons_zero → zF
namespace Go.Proofs.YtcklgafpgdhnaabGreatDoor
open Go.RowKit
def wrN : Nat -> Int -> Int
 | 0, x => x
 | n + 1, x => wrap64 (wrN n x + 1)
structure Wrs (D : Dv) (ws : List (Nat × List UInt8)) (D' : Dv) : Prop where
 L : D'.L = D.L
 q : D'.q = D.q ++ ws
 wr : D'.wr = wrN ws.length D.wr
 t : D'.t = D.t
 off : D'.off = D.off
 fr : D'.fr = D.fr
 up : D'.to = D.to
theorem Wrs.nil (D : Dv) : Wrs D [] D := ⟨rfl, by simp, rfl, rfl, rfl, rfl, rfl⟩
theorem Wrs.wn {D E F : Dv} {ws : List (Nat × List UInt8)} {i : Nat} {B : List UInt8} (h : Wrs D ws E) (g : Wn E i B F) : Wrs D (ws ++ [(i, B)]) F :=
 ⟨g.L.trans h.L, by rw [g.q, h.q, List.append_assoc], by rw [g.wr, h.wr, List.length_append]; rfl, g.t.trans h.t, g.off.trans h.off, g.fr.trans h.fr, g.to.trans h.up⟩
theorem Wrs.good {D E : Dv} {ws : List (Nat × List UInt8)} (h : Wrs D ws E) : qc E ↔ qc D := by unfold qc; rw [h.off, h.fr, h.up]
structure LyI (a : Nat) (bv : Value) (n : Nat) (cv0 : Value) (b : Nat) (D : Dv) (us0 : List Nat) (w0 : World) (s : Ls) (W : World) : Prop where
 sp : SpM W b s.us
 us : ∀ u ∈ s.us, u < n
 nd : s.us.Nodup
 ln : s.ws.length <= s.us.length
 sub : ∀ u ∈ us0, u ∈ s.us
 fr : ∀ p ∈ s.ws, p.1 ∉ us0 /\ p.1 < n /\ p.2.length = 128
 dq : ∃ cv D', DQ W a bv n cv D' /\ Wrs D s.ws D' /\ ∀ y, cv.ownBlock = some y -> cv0.ownBlock = some y \/ w0.heap.size <= y
 kp : y5 (b :: ym a bv cv0) w0 W
def LyJ (a : Nat) (bv : Value) (n : Nat) (cv0 : Value) (b : Nat) (D : Dv) (us0 : List Nat) (w0 : World) (x : Bool) (e : Ending) (W : World) : Prop :=
 ∃ ws cv D1 D', DQ W a bv n cv D' /\ Wrs D ws D1 /\ ((x = false /\ Er D1 D' /\ Thr 6 e W) \/ (x = true /\ D' = D1 /\ Thr 3 e W)) /\ ((∀ p ∈ ws, p.1 ∉ us0 /\ p.1 < n /\ p.2.length = 128) /\ ws.length <= n) /\ (∀ y, cv.ownBlock = some y -> cv0.ownBlock = some y \/ w0.heap.size <= y) /\ y5 (b :: ym a bv cv0) w0 W
theorem Qz {a : Nat} {bv cv cv0 : Value} {m : Nat} (h : ∀ y, cv.ownBlock = some y -> cv0.ownBlock = some y \/ m <= y) : ∀ y ∈ ym a bv cv, y ∈ ym a bv cv0 \/ m <= y := by
 intro y hy
 unfold ym at hy ⊢
 rcases List.mem_cons.1 hy with rfl | hy
 ·exact Or.inl (by simp)
 ·rcases List.mem_append.1 hy with hy | hy
  ·exact Or.inl (List.mem_cons_of_mem _ (List.mem_append_left _ hy))
  ·rcases h y (by simpa using hy) with e | e
   ·exact Or.inl (List.mem_cons_of_mem _ (List.mem_append_right _ (by simpa using e)))
   ·exact Or.inr e
def LfS (rs x bb v : Nat) (c : Hd) (t : Tr) (r : Value) (B : List UInt8) (W : World) : Prop := W.heap[rs]? = some (.cells #[.pointer (some ⟨x, 0, none⟩)] 24 (0, 0)) /\ W.heap[x]? = some (.cells (qk c v t r) 79 (0, 0)) /\ W.heap[bb]? = some (.cells (u8s B).toArray 80 (0, 0))
theorem Q81 (args : Array Value) (w : World) : (callFunc 62 args).run prog w = .ok (.enter 62 args) w := qA func62 (by kernel_rfl) (by kernel_rfl) args w
theorem Q82 (x v a n rb rs b : Nat) (bv cv0 : Value) (D : Dv) (us0 us1 : List Nat) (w0 : World) (c : Hd) (t : Tr) (r : Value) (hrb : w0.heap[rb]? = some (.cells #[.int .i64 n, .map (some b)] 108 (0, 0))) (hrs : w0.heap[rs]? = some (.cells #[.pointer (some ⟨x, 0, none⟩)] 24 (0, 0))) (hrow : w0.heap[x]? = some (.cells (qk c v t r) 79 (0, 0))) (hvol : Vol w0 v a n) (hD0 : DQ w0 a bv n cv0 D) (hsp : SpM w0 b us1) (hn : n <= 1000) (hq : D.q.length <= 900000) (hT : qc D \/ Tab w0) :
  Lyr 62 (.pointer (some ⟨rb, 0, none⟩)) (.pointer (some ⟨rs, 0, none⟩)) n (LyI a bv n cv0 b D us0 w0) (LyJ a bv n cv0 b D us0 w0) w0.heap.size where
 en := Q81
 call := by
  intro s B w hI hB hBs
  have hoff : ∀ {y : Nat} {cs : Array Value} {t : TypeId} {fr : Nat × Nat}, w0.heap[y]? = some (.cells cs t fr) -> t ∉ [65, 80, 82] -> y ∉ b :: ym a bv cv0 := by
   intro y cs t fr hy ht hm
   rcases List.mem_cons.1 hm with rfl | hm
   ·exact hsp.ne hy rfl
   ·exact hD0.no hy ht hm
  have rb0 := hI.kp.get hrb (hoff hrb (by decide))
  have rs0 := hI.kp.get hrs (hoff hrs (by decide))
  have rw0 := hI.kp.get hrow (hoff hrow (by decide))
  have vo0 : Vol w v a n := hI.kp.get hvol (hoff hvol (by decide))
  have T0 : qc D \/ Tab w := hT.imp id fun h => h.kept hI.kp (fun hm => by
   rcases List.mem_cons.1 hm with e | hm
   ·obtain ⟨cs, t, fr, hy⟩ := h.rowOf
    exact hsp.ne hy e
   ·exact h.dq hD0 hm)
  have hlen := gF n s.us hI.nd hI.us
  have HTk : Hid (∀ W, y5 [] w W -> Calls prog 63 #[.agg #[.int .i64 n, .map (some b)]] W (TkR n b s.us W)) := fun W kW => Q69 n b s.us W (hI.sp.kept kW (by simp)) (fun u hu => by have := hI.us u hu; omega) (by omega)
  have HI : Hid (LyI a bv n cv0 b D us0 w0 s w) := hI
  clear hI
  go_enter func62, ntmps62
  go_wp2_with (first
   | (refine yK rfl _ _ (gy 80 (.tmp 0) rfl (u8s B).toArray rfl) ?_; intro w1 n1 q1 hs1; have HS1 : Hid _ := hs1; clear hs1; have rb1 := q1.get rb0 (by simp))
   | (refine wpList_load_row rfl 108 (.tmp 1) rfl rb rfl 108 #[.int .i64 n, .map (some b)] (0, 0) _ rb1 underlying108 rfl jT ?_))
  refine (HTk.out w1 q1).mono ?_
  rintro e w2 (⟨hlt, rfl, s2, k2⟩ | ⟨hge, hth, k2⟩)
  rotate_left
  ·obtain ⟨f, o, rfl, hf⟩ := hth.ex
   obtain ⟨cv, D1, hd, hwr, hcv⟩ := HI.out.dq
   have K2 := q1.trans k2
   exact ⟨rfl, Or.inr ⟨true, ⟨s.ws, cv, D1, D1, hd.k0 K2, hwr, Or.inr ⟨rfl, rfl, hth⟩, ⟨HI.out.fr, by have := HI.out.ln; omega⟩, hcv, HI.out.kp.trans2 K2 (by simp)⟩, fun _ => by omega⟩, KA.k0 K2⟩
  obtain ⟨cv, D1, hd, hwr, hcv⟩ := HI.out.dq
  have sp1 := HI.out.sp.kept q1 (by simp)
  have hbn : b ∉ ym a bv cv := HI.out.sp.nd hd
  have hd2 : DQ w2 a bv n cv D1 := (hd.k0 q1).k1 k2 hbn
  have KA2 : KA Tru w w2 := (KA.k0 q1).trans (sp1.ka k2)
  have rs2 := KA2.row _ _ _ _ trivial (by decide) rs0
  have rw2 := KA2.row _ _ _ _ trivial (by decide) rw0
  have vo2 : Vol w2 v a n := KA2.row _ _ _ _ trivial (by decide) vo0
  have n2 := k2.get n1 (by simp; exact sp1.ne n1)
  have T2 : qc D1 \/ Tab w2.drew := T0.imp hwr.good.2 fun h => (h.ka KA2).k (y5.refl [] w2).drew
  have hq1 : D1.q.length <= 1000000 := by rw [hwr.q, List.length_append]; have := HI.out.ln; omega
  have HV : Hid (Calls _ _ _ _ _) := Q1u v a bv n cv D1 B (tk s.us) w2.drew vo2 hd2.drew hlt hn hB hq1 T2
  have hS : LfS rs x w.heap.size v c t r B w2.drew := ⟨rs2, rw2, n2⟩
  go_wp2_with fail
  refine yj (LfS rs x w.heap.size v c t r B) (by kernel_rfl) ?_
  refine hu 0 (.pointer (some ⟨x, 0, none⟩)) rfl (fun W hW => y9 24 (.tmp 2) rfl ⟨rs, 0, none⟩ rfl _ (yh underlying24 rfl (y6 hW.1 rfl))) hS ?_
  simp only [zP, zA, zC, zD, zE, zF]
  refine hu 1 (.pointer (some ⟨x, 0, none⟩)) rfl (fun W hW => by rfl) hS ?_
  simp only [zP, zA, zB, zC, zD, zE, zF]
  refine hu 2 (.pointer (some ⟨x, 0 + 1, none⟩)) rfl (fun W hW => yv 79 (.tmp 9) 1 rfl x 0 rfl 1 (by rfl)) hS ?_
  simp only [zP, zA, zB, zC, zD, zE, zF]
  refine hu 3 (.pointer (some ⟨v, 0, none⟩)) rfl (fun W hW => y9 68 (.tmp 10) rfl ⟨x, 0 + 1, none⟩ rfl _ (yh underlying68 rfl (y6 hW.2.1 rfl))) hS ?_
  simp only [zP, zA, zB, zC, zD, zE, zF]
  refine hu 4 (.int .i64 (tk s.us : Nat)) rfl (fun W hW => by rfl) hS ?_
  simp only [zP, zA, zB, zC, zD, zE, zF]
  refine hu 5 (.agg (u8s B).toArray) rfl (fun W hW => y9 80 (.tmp 3) rfl ⟨w.heap.size, 0, none⟩ rfl _ (Q80 hW.2.2 hB)) hS ?_
  simp only [zP, zA, zB, zC, zD, zE, zF]
  refine yf (i := 6) (by kernel_rfl) (gM rfl (by rfl) 64 #[.pointer (some ⟨v, 0, none⟩), .int .i64 (tk s.us : Nat), .agg (u8s B).toArray] (yk _ _ _ rfl _ (by simp [Act.eval]) (Q6A _ _)) _ HV.out ?_)
  rintro e w3 ⟨cv', D3, hd3, k3, hcv3, hcase⟩
  have KA3 : KA Tru w2 w3 := (KA.k0 (y5.refl [] w2).drew).trans (hd2.drew.ka k3)
  have hz2 := KA2.size
  have hcvF : ∀ y, cv'.ownBlock = some y -> cv0.ownBlock = some y \/ w0.heap.size <= y := by
   intro y hy
   rcases hcv3 y hy with e | e
   ·exact hcv y e
   ·exact Or.inr (Nat.le_trans (Nat.le_trans hBs hz2) e)
  have KF : y5 (b :: ym a bv cv0) w0 w3 := ((HI.out.kp.trans2 q1 (by simp)).trans2 (k2.drew) (by intro y hy; simp at hy; subst hy; exact Or.inl (by simp))).trans2 k3 (by
   intro y hy
   rcases Qz hcv y hy with e | e
   ·exact Or.inl (List.mem_cons_of_mem _ e)
   ·exact Or.inr e)
  rcases hcase with ⟨hwn, rfl⟩ | ⟨her, hth⟩
  rotate_left
  ·obtain ⟨f, o, rfl, hf⟩ := hth.ex
   refine Or.inr ⟨_, rfl, rfl, Or.inr ⟨false, ⟨s.ws, cv', D1, D3, hd3, hwr, Or.inl ⟨rfl, her, hth⟩, ⟨HI.out.fr, by have := HI.out.ln; omega⟩, ?_, ?_⟩, fun h => by cases h⟩, KA2.trans KA3⟩
   ·exact hcvF
   ·exact KF
  have hS3 : LfS rs x w.heap.size v c t r B w3 := ⟨KA3.row _ _ _ _ trivial (by decide) rs2, KA3.row _ _ _ _ trivial (by decide) rw2, k3.get n2 (hd.ge (Nat.le_refl _))⟩
  refine Or.inl ⟨_, rfl, hS3, ?_⟩
  simp only [zP, zA, zB, zC, zD, zE, zF]
  refine wpAnyH_done (by kernel_rfl) ?_ _
  have FIN : Hid (LyI a bv n cv0 b D us0 w0 (s.step B) w3) := by
   refine ⟨s2.kept (w := w2.drew) k3 hbn, ?_, ?_, ?_, ?_, ?_, ⟨cv', D3, hd3, hwr.wn hwn, hcvF⟩, KF⟩
   ·intro u hu
    rcases List.mem_cons.1 hu with rfl | hu
    ·exact hlt
    ·exact HI.out.us u hu
   ·exact List.nodup_cons.2 ⟨Q5U _, HI.out.nd⟩
   ·have := HI.out.ln
    simp [Ls.step]
    exact this
   ·intro u hu
    exact List.mem_cons_of_mem _ (HI.out.sub u hu)
   ·intro p hp
    rcases List.mem_append.1 hp with hp | hp
    ·exact HI.out.fr p hp
    ·simp at hp
     subst hp
     exact ⟨fun hm => Q5U _ (HI.out.sub _ hm), hlt, hB⟩
  have FK : Hid (KA Tru w w3) := KA2.trans KA3
  clear hS hS3 hd3 k3 KA3 KF hcvF hcv3 hwn s2 k2 n2 rs2 rw2 vo2 T2 hd hd2 hwr
  go_wp2
  go_ret
  exact ⟨Or.inl ⟨rfl, FIN.out⟩, FK.out⟩
 fresh := by
  intro s W W' S hI k hS
  refine ⟨hI.sp.kept k ?_, hI.us, hI.nd, hI.ln, hI.sub, hI.fr, ?_, hI.kp.trans2 k fun y hy => Or.inr (hS y hy).1⟩
  ·intro hm
   obtain ⟨cs, fr, hy⟩ := (hS b hm).2
   exact hI.sp.ne hy rfl
  ·obtain ⟨cv, D1, hd, h2, h3⟩ := hI.dq
   refine ⟨cv, D1, hd.kept k ?_, h2, h3⟩
   intro y hy hm
   obtain ⟨cs, fr, hh⟩ := (hS y hm).2
   exact hd.no hh (by decide) hy
 bnd := fun s W hI u hu => hI.us u hu
 nb := by omega
 jp := by
  rintro x e W ⟨ws, cv, D1, D', _, _, h, _⟩
  rcases h with ⟨_, _, h⟩ | ⟨_, _, h⟩
  ·obtain ⟨f, o, rfl, _⟩ := h.ex; exact ⟨_, rfl⟩
  ·obtain ⟨f, o, rfl, _⟩ := h.ex; exact ⟨_, rfl⟩
def QW (t : Tr) (s : Ls) : Tr × Ls := if qO t.h t.n then (t, s) else (⟨t.h, (qh t.h ⟨yp, t.n, t.pl⟩ s).1.2, (qh t.h ⟨yp, t.n, t.pl⟩ s).1.3⟩, (qh t.h ⟨yp, t.n, t.pl⟩ s).2)
theorem Q83 (s : Ls) : QW ⟨0, ([] : List Pr), 0⟩ s = (⟨0, ([] : List Pr), 0⟩, s) := rfl
theorem Zs {t : Tr} (h : qO t.h t.n = false) (s : Ls) : QW t s = (⟨t.h, (qh t.h ⟨yp, t.n, t.pl⟩ s).1.2, (qh t.h ⟨yp, t.n, t.pl⟩ s).1.3⟩, (qh t.h ⟨yp, t.n, t.pl⟩ s).2) := by
 unfold QW
 rw [h]
 rfl
theorem Q84 {h : Nat} {k : Kid h} (s : Ls) (hn : qO h k.2 = false) : qO h (qh h k s).1.2 = false := by
 unfold qh
 split
 ·have := Q68 (Q67 h k.2 s)
  show qO h (qa h k.2 s).1 = false
  rw [this.2.2.2.1]
  exact hn
 ·exact hn
def TldR (N : Nat) (I : Ls -> World -> Prop) (J : Bool -> Ending -> World -> Prop) (s : Ls) (t : Tr) (W : World) (e : Ending) (W' : World) : Prop :=
 ((∃ r', e = .returned (.agg #[.string yp, .int .i64 ((QW t s).1.pl : Nat), r']) /\ TV W' Tru (QW t s).1 r' /\ I (QW t s).2 W') \/ ∃ b, J b e W' /\ (b = true -> ¬ Bd N (QW t s).2)) /\ KA Tru W W'
theorem jI : (prog.info? 77).map (·.size) = some 3 := by kernel_rfl
theorem Q85 (w : World) : (Instr.alloc 77 true (.tuple #[])).run prog w = .ok (.pointer (some ⟨w.heap.size, 0, none⟩)) (w.alloc (.cells #[.string ⟨#[]⟩, .int .i64 0, .nilIface] 77)) := by kernel_rfl
theorem Q86 {fid : FuncId} {c1 c2 : Value} {N : Nat} {I : Ls -> World -> Prop} {J : Bool -> Ending -> World -> Prop} {B : Nat} (hL : Lyr fid c1 c2 N I J B) (s : Ls) (t : Tr) (r : Value) (w : World) (h : TV w Tru t r) (hc : CkK t.h ⟨yp, t.n, t.pl⟩) (hI : I s w) (hB : B <= w.heap.size)
  (hfr : ∀ (s : Ls) (W W' : World) (S : List Nat), I s W -> y5 S W W' -> (∀ y ∈ S, B <= y /\ Tg W y 77) -> I s W') : Calls prog 61 #[.agg #[.string yp, .int .i64 (t.pl : Nat), r], lfv fid c1 c2] w (TldR N I J s t w) := by
 rcases h with ⟨rfl, rfl⟩ | ⟨h, hn⟩
 ·have HI : Hid (I s w) := hI
  clear hI
  go_enter func61, ntmps61
  go_wp2_with (first
   | (refine yK rfl _ _ (gy 77 (.tmp 0) rfl #[.string yp, .int .i64 0, .nilIface] rfl) ?_; intro w1 n1 q1 hs1; have HS1 : Hid _ := hs1; clear hs1)
   | (refine yc rfl 4 rfl 77 rfl _ (Q85 _) ?_; intro w2 n2 q2 hs2; have HS2 : Hid _ := hs2; clear hs2; have m2 := q2.get n1 (by simp); have c22 : w2.cell? ⟨w.heap.size, 2, none⟩ = some .nilIface := y6 m2 rfl)
   | (refine wpList_load_row rfl 77 (.tmp 2) rfl w.heap.size rfl 77 #[.string yp, .int .i64 0, .nilIface] (0, 0) _ m2 underlying77 rfl jI ?_)
   | (refine yb rfl 77 (.tmp 4) (.tmp 9) rfl w1.heap.size #[.string yp, .int .i64 0, .nilIface] rfl rfl 77 _ n2 jI rfl (yU (qQ _ _ rfl)) ?_; intro w3 n3 q3))
  refine bodyPost_ret (results_cell_row rfl _ w3 w1.heap.size 77 _ (0, 0) _ rfl n3 underlying77 rfl jI) rfl ?_
  have K3 : y5 [] w w3 := (q1.trans q2).trans2 q3 (by intro y hy; simp at hy; subst hy; have := HS1.out; exact Or.inr (by omega))
  rw [TldR, Q83]
  exact ⟨Or.inl ⟨_, rfl, Or.inl ⟨rfl, rfl⟩, hL.fresh _ _ _ [] HI.out K3 (by simp)⟩, KA.k0 K3⟩
 ·obtain ⟨ty, vy, er⟩ := h.iface
  subst er
  have hA : ∀ y, TT w y -> y < w.heap.size := fun y hy => TT.lt hy
  have hnd := ND.tags h
  have HC : Hid (∀ W, y5 [] w W -> Calls prog 94 #[.agg #[.string yp, .int .i64 (t.pl : Nat), .iface ty vy], lfv fid c1 c2] W (LdR N I J t.h s ⟨yp, t.n, t.pl⟩ (TT w) W)) := fun W kW => Q7Y hL t.h s ⟨yp, t.n, t.pl⟩ (.iface ty vy) (TT w) W (ND.kept kW (by simp) (fun _ h => h) hnd) (fun y hy => Nat.lt_of_lt_of_le (hA y hy) kW.size) hc (hL.fresh _ _ _ [] hI kW (by simp)) (Nat.le_trans hB kW.size)
  have HE : Hid _ := Zs hn s
  have HNl : Hid (qO t.h (qh t.h ⟨yp, t.n, t.pl⟩ s).1.2 = false) := Q84 (k := ⟨yp, t.n, t.pl⟩) s hn
  clear h hnd hI hc
  go_enter func61, ntmps61
  go_wp2_with (first
   | (refine yK rfl _ _ (gy 77 (.tmp 0) rfl #[.string yp, .int .i64 (t.pl : Nat), .iface ty vy] rfl) ?_; intro w1 n1 q1 hs1; have HS1 : Hid _ := hs1; clear hs1)
   | (refine yc rfl 4 rfl 77 rfl _ (Q85 _) ?_; intro w2 n2 q2 hs2; have HS2 : Hid _ := hs2; clear hs2; have m2 := q2.get n1 (by simp); have c22 : w2.cell? ⟨w.heap.size, 2, none⟩ = some (.iface ty vy) := y6 m2 rfl)
   | (refine wpList_load_row rfl 75 (.tmp 10) rfl w.heap.size rfl 77 #[.string yp, .int .i64 (t.pl : Nat), .iface ty vy] (0, 0) _ m2 underlying75 rfl stk ?_))
  refine (HC.out w2 (q1.trans q2)).mono ?_
  rintro e w3 ⟨⟨x', rfl, hn3, hI3⟩ | ⟨b, hJ, hb⟩, hK3⟩
  rotate_left
  ·obtain ⟨ch, rfl⟩ := hL.jp _ _ _ hJ
   exact ⟨rfl, Or.inr ⟨b, hJ, fun hbt => by rw [HE.out]; exact hb hbt⟩, (KA.k0 (q1.trans q2)).trans hK3⟩
  obtain ⟨tz, vz, ez⟩ := hn3.iface
  have n23 := hK3.row _ _ _ _ trivial (by decide) n2
  have HN : Hid (ND _ _ _ _ _ /\ I _ _) := ⟨hn3, hI3⟩
  clear hn3 hI3
  subst ez
  go_wp2_with (refine yb rfl 77 (.tmp 4) (.tmp 14) rfl w1.heap.size #[.string yp, .int .i64 ((qh t.h ⟨yp, t.n, t.pl⟩ s).1.3 : Nat), .iface tz vz] rfl rfl 77 _ n23 jI rfl (yU (qQ _ _ rfl)) ?_; intro w4 n4 q4)
  refine bodyPost_ret (results_cell_row rfl _ w4 w1.heap.size 77 _ (0, 0) _ rfl n4 underlying77 rfl jI) rfl ?_
  have hs1 := HS1.out
  have hs2 := HS2.out
  rw [TldR, HE.out]
  refine ⟨Or.inl ⟨.iface tz vz, rfl, Or.inr ⟨?_, HNl.out⟩, hfr _ _ _ [w1.heap.size] HN.out.2 q4 (by intro y hy; simp at hy; subst hy; exact ⟨by omega, _, _, n23⟩)⟩, (((KA.k0 (q1.trans q2)).trans hK3).new q4 (by intro y hy; simp at hy; subst hy; omega))⟩
  refine ND.kept q4 ?_ (fun _ _ => trivial) HN.out.1
  intro y hy
  simp at hy
  subst hy
  rintro (h1 | h1)
  ·have := hA _ h1; omega
  ·omega
def UsI (b rv : Nat) (vf : Value) (us : List Nat) (w : World) (seen : List Nat) (W : World) : Prop := SpM W b (seen.reverse ++ us) /\ W.heap[rv]? = some (.cells #[vf] 33 (0, 0)) /\ y5 [b] w W
theorem Q87 (n b rv : Nat) (us : List Nat) (w : World) (P : List Nat) (hP : (P.reverse ++ us).Nodup) (hPn : ∀ p ∈ P, p < n) (hn : n <= 1000) (hlen : P.length + us.length < 70000) (seen : List Nat) (W : World) (f : ByteArray) (p : Nat) (x : Value) (hok : ∃ m, P = (seen ++ [p]) ++ m) (h : UsI b rv (.func (.func 60) #[.agg #[.int .i64 n, .map (some b)]] #[]) us w seen W) :
  Calls prog 91 #[.agg #[.string f, .int .i64 (p : Nat), x], .pointer (some ⟨rv, 0, none⟩)] W fun e W' => e = .returned (.tuple #[]) /\ UsI b rv (.func (.func 60) #[.agg #[.int .i64 n, .map (some b)]] #[]) us w (seen ++ [p]) W' /\ y5 [b] W W' := by
 obtain ⟨m, hm⟩ := hok
 have hpn := hPn p (by rw [hm]; simp)
 have hpu : p ∉ seen.reverse ++ us := by
  rw [hm] at hP
  simp only [List.reverse_append, List.reverse_cons, List.append_assoc, List.singleton_append] at hP
  exact (List.nodup_cons.1 (List.nodup_append.1 hP).2.1).1
 have hl2 : (seen.reverse ++ us).length < 70000 := by
  rw [hm] at hlen
  simp only [List.length_append, List.length_reverse, List.length_cons, List.length_nil] at hlen ⊢
  omega
 have k1 := (y5.refl [] W).alloc (.cells #[.string f, .int .i64 (p : Nat), x] 75)
 have hs1 := h.1.kept k1 (by simp)
 have r1 := k1.get h.2.1 (by simp)
 have c1 : (W.alloc (.cells #[.string f, .int .i64 (p : Nat), x] 75)).cell? ⟨rv, 0, none⟩ = some (.func (.func 60) #[.agg #[.int .i64 n, .map (some b)]] #[]) := y6 r1 rfl
 have HU : Hid (Calls _ _ _ _ _) := Q2d n b (seen.reverse ++ us) p _ hs1 (by omega) hl2 hpn hpu
 have HF : Hid (∀ W', SpM W' b (p :: (seen.reverse ++ us)) -> y5 [b] (W.alloc (.cells #[.string f, .int .i64 (p : Nat), x] 75)) W' -> UsI b rv (.func (.func 60) #[.agg #[.int .i64 n, .map (some b)]] #[]) us w (seen ++ [p]) W' /\ y5 [b] W W') := by
  intro W' hs hk
  have hrb : rv ≠ b := hs1.ne r1
  refine ⟨⟨?_, hk.get r1 (by simp; exact hrb), (h.2.2.trans2 k1 (by simp)).trans hk⟩, (k1.mono (by simp)).trans hk⟩
  rw [List.reverse_append]
  exact hs
 clear h hs1 r1 hP hm
 go_enter func91, ntmps91
 go_wp2_with (go_at_call 60; refine HU.out.mono ?_; rintro e w2 ⟨rfl, hs2, hk2⟩)
 go_end0
 exact ⟨rfl, HF.out _ hs2 hk2⟩
theorem Q88 (n b : Nat) (us : List Nat) (t : Tr) (r : Value) (w : World) (h : TV w (TT w) t r) (hs : SpM w b us) (hP : ((qU t).reverse ++ us).Nodup) (hPn : ∀ p ∈ qU t, p < n) (hn : n <= 1000) (hlen : (qU t).length + us.length < 70000) :
  Calls prog 59 #[.agg #[.string yp, .int .i64 (t.pl : Nat), r], .func (.func 60) #[.agg #[.int .i64 n, .map (some b)]] #[]] w fun e w' => e = .returned (.tuple #[]) /\ SpM w' b ((qU t).reverse ++ us) /\ y5 [b] w w' := by
 have hr := h.one
 have hcnt : qH t <= 1000000 := by rw [<- Q6V]; omega
 have HT : Hid (TV w (TT w) t r) := h
 have HS : Hid (SpM w b us) := hs
 have hsb := hs.lt
 clear h hs
 go_enter func59, ntmps59
 go_wp2_with (first
  | (refine yK rfl _ _ (gy 77 (.tmp 0) rfl #[.string yp, .int .i64 (t.pl : Nat), r] rfl) ?_; intro w1 n1 q1 hs1; have HS1 : Hid _ := hs1; clear hs1)
  | (refine yK rfl _ _ (gY 33 (.tmp 1) rfl (.func (.func 60) #[.agg #[.int .i64 n, .map (some b)]] #[]) rfl rfl) ?_; intro w2 n2 q2 hs2; have HS2 : Hid _ := hs2; clear hs2; have m2 := q2.get n1 (by simp))
  | (refine wpList_load_row rfl 77 (.tmp 2) rfl w.heap.size rfl 77 #[.string yp, .int .i64 (t.pl : Nat), r] (0, 0) _ m2 underlying77 rfl jI ?_))
 have K2 := q1.trans q2
 have hv : Vis 91 (.pointer (some ⟨w1.heap.size, 0, none⟩)) [b] (UsI b w1.heap.size (.func (.func 60) #[.agg #[.int .i64 n, .map (some b)]] #[]) us w2) (fun l => ∃ m, qU t = l ++ m) (TT w) w2 :=
  ⟨fun _ _ => by kernel_rfl, fun seen W f p x hok hI => Q87 n b w1.heap.size us w2 (qU t) hP hPn hn hlen seen W f p x hok hI, fun seen W W' hI k => ⟨hI.1.kept k (by simp), k.get hI.2.1 (by simp), hI.2.2.trans2 k (by simp)⟩, fun _ _ hI => hI.2.2, by intro y hy; simp at hy; subst hy; have := K2.size; omega, by
   intro y hy hA
   simp at hy
   subst hy
   rcases hA with ⟨cs, fr, hh⟩ | ⟨cs, fr, hh⟩
   ·exact HS.out.ne hh rfl
   ·exact HS.out.ne hh rfl, fun l m ⟨q, hq⟩ => ⟨m ++ q, by rw [hq, List.append_assoc]⟩⟩
 have HW : Hid (Calls _ _ _ _ _) := Q6W hv (HT.out.k K2) (fun z hz => Nat.lt_of_lt_of_le (TT.lt hz) K2.size) hcnt [] w2 ⟨[], by simp⟩ ⟨by simpa using HS.out.kept K2 (by simp), n2, y5.refl _ _⟩
 clear hv
 refine HW.out.mono ?_
 rintro e w3 ⟨rfl, hI3, hk3⟩
 have HI3 : Hid (SpM w3 b ((qU t).reverse ++ us)) := by show SpM w3 b _; simpa using hI3.1
 clear hI3
 go_wp2
 go_end0
 exact ⟨rfl, HI3.out, (K2.mono (by simp)).trans hk3⟩
def ZK (P : Value -> World -> Prop) (S : List Nat) (w : World) (e : Ending) (w' : World) : Prop := ∃ err, e = .returned err /\ P err w' /\ y5 S w w'
def IsNil (R : World -> Prop) (err : Value) (W : World) : Prop := err = .nilIface /\ R W
def Q8a (x : Int) (R : World -> Prop) (err : Value) (W : World) : Prop := Qo W err x /\ R W
theorem Q8b (b : ByteArray) (fid : FuncId) (caps : Array Value) (he : ∀ (args : Array Value) (W : World), (callFunc fid args).run prog W = .ok (.enter fid args) W) (S : List Nat) (R : World -> Prop) (w : World) (hS : ∀ x ∈ S, x < w.heap.size)
  (hR : ∀ W W' T, R W -> y5 T W W' -> (∀ x ∈ T, Tg W x 35) -> R W') (hw : ∀ W, y5 [] w W -> Calls prog fid caps W (Ends S R W)) :
  Calls prog 32 #[.string b, .func (.func fid) #[] caps] w (ZK (IsNil R) S w) := by
 refine (Q25 b fid caps he S R w hS (fun W W' T h1 h2 h3 => hR W W' T h1 h2 fun x hx => (h3 x hx).2.2) fun W k _ => hw W k).mono ?_
 rintro e w' ⟨rfl, h1, h2⟩
 exact ⟨_, rfl, ⟨rfl, h1⟩, h2⟩
theorem Q8c (b : ByteArray) (fid : FuncId) (caps : Array Value) (he : ∀ (args : Array Value) (W : World), (callFunc fid args).run prog W = .ok (.enter fid args) W) (x : Int) (R : World -> Prop) (w : World)
  (hR : ∀ W W' T, R W -> y5 T W W' -> (∀ x ∈ T, Tg W x 35) -> R W') (hw : ∀ W, y5 [] w W -> Calls prog fid caps W (Q24 x [] R W)) :
  Calls prog 32 #[.string b, .func (.func fid) #[] caps] w (ZK (Q8a x R) [] w) := by
 refine (Q27 b fid caps he x [] R w (by simp) (fun W W' T h1 h2 h3 => hR W W' T h1 h2 fun x hx => (h3 x hx).2.2) fun W k _ => hw W k).mono ?_
 rintro e w' ⟨err, rfl, h1, h2, h3⟩
 exact ⟨_, rfl, ⟨h1, h2⟩, h3⟩
end Go.Proofs.YtcklgafpgdhnaabGreatDoor
