import Derived.Test.YtcklgafpgdhnaabGreatDoorPqad
import Derived.Defers
import Derived.Recover
import Derived.Laws.Pointers
import Derived.Test.YtcklgafpgdhnaabGreatDoorPqac
import Derived.BigRegion
import Derived.LaidEql
import Derived.Stop.Asserts
import Derived.RowKitTokens
set_option maxRecDepth 100000
set_option maxHeartbeats 4000000
open Go.Proofs.Tryz
namespace Go.Proofs.YtcklgafpgdhnaabGreatDoor
open Go.RowKit
theorem Q1k (a : Addr) (w : World) : (Go.method 391 23 (.pointer (some a)) "Read").run prog w = .ok (171, .pointer (some a)) w := by kernel_rfl
theorem Q1l (a : Addr) (w : World) : (Go.method 391 23 (.pointer (some a)) "Write").run prog w = .ok (172, .pointer (some a)) w := by kernel_rfl
theorem Q1m (a : Addr) (w : World) : (Go.method 391 23 (.pointer (some a)) "Flush").run prog w = .ok (170, .pointer (some a)) w := by kernel_rfl
theorem Q1n (a : Addr) (w : World) : (Go.method 391 23 (.pointer (some a)) "Blocks").run prog w = .ok (23, .pointer (some a)) w := by kernel_rfl
theorem zblk (w : World) : (Instr.alloc 80 true (.tuple #[])).run prog w = .ok (.pointer (some ⟨w.heap.size, 0, none⟩)) (w.alloc (.cells (u8s (List.replicate 128 0)).toArray 80)) := by kernel_rfl
def Vol (w : World) (v a n : Nat) : Prop := w.heap[v]? = some (.cells #[.iface 23 (.pointer (some ⟨a, 0, none⟩)), .int .i64 n] 105 (0, 0))
def Thr (x : Int) (e : Ending) (w' : World) : Prop :=
 ∃ f o, e = .panicked [{ v := .iface 143 (.agg #[.iface 98 (.pointer (some ⟨f, 0, none⟩))]), recovered := false }] /\
  w'.heap[f]? = some (.cells #[o, .iface 44 (.int .i64 x)] 101 (0, 0))
theorem QD (o : ByteArray) (x : Int) (w : World) : Calls prog 46 #[.string o, .int .i64 x] w fun e w' => Thr x e w' /\ y5 [] w w' := by
 go_enter func46, ntmps46
 go_wp2
 exact ⟨rfl, ⟨w.heap.size, .string o, rfl, heap_alloc_new _ _⟩, (y5.refl _ _).alloc _⟩
theorem Thr.ex {x : Int} {e : Ending} {w' : World} (h : Thr x e w') : ∃ f o, e = .panicked [{ v := .iface 143 (.agg #[.iface 98 (.pointer (some ⟨f, 0, none⟩))]), recovered := false }] /\
  w'.heap[f]? = some (.cells #[o, .iface 44 (.int .i64 x)] 101 (0, 0)) := h
def RdR (a : Nat) (bv : Value) (n : Nat) (cv : Value) (D : Dv) (P : Ending -> World -> Prop) (w : World) (e : Ending) (w' : World) : Prop :=
 ∃ D', DQ w' a bv n cv D' /\ y5 [a] w w' /\ ((Qt D D' /\ P e w') \/ (Er D D' /\ Thr 6 e w'))
def WrR (a : Nat) (bv : Value) (n : Nat) (cv : Value) (P : Dv -> Ending -> World -> Prop) (w : World) (e : Ending) (w' : World) : Prop :=
 ∃ cv' D', DQ w' a bv n cv' D' /\ y5 (ym a bv cv) w w' /\ (∀ y, cv'.ownBlock = some y -> cv.ownBlock = some y \/ w.heap.size <= y) /\ P D' e w'
theorem DQ.no {w : World} {a : Nat} {bv : Value} {n : Nat} {cv : Value} {D : Dv} (h : DQ w a bv n cv D) {y : Nat} {cs : Array Value} {t : TypeId} {fr : Nat × Nat} (hy : w.heap[y]? = some (.cells cs t fr)) (ht : t ∉ [65, 80, 82]) : y ∉ ym a bv cv := by
 simp only [List.mem_cons, List.not_mem_nil, or_false, not_or] at ht
 intro hx
 rcases List.mem_cons.1 hx with rfl | hx
 ·exact yP hy h.d ht.1 rfl
 rcases List.mem_append.1 hx with hx | hx
 ·obtain ⟨cs', fr', hh⟩ := qy h.b (by simpa using hx)
  exact yP hy hh ht.2.1 rfl
 ·obtain ⟨cs', fr', hh⟩ := qy h.o (by simpa using hx)
  exact yP hy hh ht.2.2 rfl
theorem DQ.ge {w : World} {a : Nat} {bv : Value} {n : Nat} {cv : Value} {D : Dv} (h : DQ w a bv n cv D) {y : Nat} (hy : w.heap.size <= y) : y ∉ ym a bv cv := fun hx => by have := h.lt y hx; omega
theorem DQ.k1 {w w' : World} {a : Nat} {bv : Value} {n : Nat} {cv : Value} {D : Dv} {y : Nat} (h : DQ w a bv n cv D) (k : y5 [y] w w') (hy : y ∉ ym a bv cv) : DQ w' a bv n cv D := h.kept k (by intro x hx hm; simp at hm; subst hm; exact hy hx)
theorem Tab.dq {w : World} {a : Nat} {bv : Value} {n : Nat} {cv : Value} {D : Dv} (hT : Tab w) (h : DQ w a bv n cv D) : 2 ∉ ym a bv cv := by
 obtain ⟨cs, fr, hh⟩ := hT.row
 exact h.no hh (by decide)
theorem Tab.dqa {w : World} {a : Nat} {bv : Value} {n : Nat} {cv : Value} {D : Dv} (hT : Tab w) (h : DQ w a bv n cv D) : 2 ∉ [a] := by
 have := hT.dq h
 simp only [ym, List.mem_cons, not_or] at this
 simpa using this.1
theorem Q1o (v a : Nat) (bv : Value) (n : Nat) (cv : Value) (D : Dv) (i : Nat) (w : World) (hv : Vol w v a n) (h : DQ w a bv n cv D) (hi : i < n) (hn : n <= 1000) (hq : D.q.length <= 1000000) (hb : D.bad = false) :
  Calls prog 102 #[.pointer (some ⟨v, 0, none⟩), .int .i64 i] w fun e w' => e = .returned (.agg (u8s (D.view i)).toArray) /\ DQ w' a bv n cv D.tick /\ y5 [a] w w' := by
 have m1 := Q1k
 have nva : v ≠ a := yP hv h.d (by decide)
 have hlv := yt hv
 have hla := yt h.d
 have hlb : (D.view i).length = 128 := Q0m (gx D.L n i h.l hi) h.q
 go_enter func102, ntmps102
 go_wp2_with (first
  | (refine yc rfl 4 rfl 80 rfl _ (zblk _) ?_; intro w1 hn1 hk1 hs1; have HS1 : Hid _ := hs1; clear hs1; have c1 : w1.cell? ⟨v, 0, none⟩ = some (.iface 23 (.pointer (some ⟨a, 0, none⟩))) := y6 (hk1.get hv (by simp)) rfl)
  | (go_at_call 171; refine (Q0p a bv n cv D i w1 (h.k0 hk1) hi hn hq).mono ?_; rintro e w2 ⟨hd2, hk2, hr⟩; rw [hb] at hr; simp only [Bool.false_eq_true, if_false] at hr; obtain ⟨r, rfl, hr2, hrs2⟩ := hr)
  | (refine yc rfl 7 rfl 80 rfl _ (zblk _) ?_; intro w3 hn3 hk3 hs3; have HS3 : Hid _ := hs3; clear hs3; have hr3 := hk3.get hr2 (by simp))
  | (refine gQ 83 83 5 underlying83 su8 w2.heap.size 0 128 128 ⟨r, 0, none⟩ 128 128 (u8s (List.replicate 128 0)) 80 hn3 (u8s (D.view i)) (by rw [yd, hlb]; exact (Nat.min_self 128).symm) (Zj hr3) (by rw [yd, yd, hlb, List.length_replicate]; omega) (qv _) ?_; intro w4 hg4 hk4; rw [jM _ _ (by rw [yd, yd, hlb, List.length_replicate])] at hg4)
  | (refine wpList_load_row rfl 80 (.tmp 7) rfl w2.heap.size rfl 80 (u8s (D.view i)).toArray (0, 0) _ hg4 underlying80 rfl (by rw [jF]; simp [yd, hlb]) ?_)
  | (refine yb rfl 80 (.tmp 4) (.tmp 26) rfl w.heap.size (u8s (D.view i)).toArray rfl rfl 80 _ (hk4.get (hk3.get (hk2.get hn1 (by simp; omega)) (by simp)) (by have := hk2.size; have := yt hn1; simp; omega)) (by rw [jF]; simp [yd, hlb]) (by simp [yd, hlb]) (yU (qv _)) ?_; intro w5 hg5 hk5))
 refine bodyPost_ret (results_cell_row rfl _ w5 w.heap.size 80 _ (0, 0) _ rfl hg5 underlying80 rfl (by rw [jF]; simp [yd, hlb])) rfl ?_
 have hz1 := HS1.out
 have hz2 := hk2.size
 have hd3 := hd2.k0 hk3
 have hd4 := hd3.k1 hk4 (hd2.ge (Nat.le_refl _))
 have hd5 := hd4.k1 hk5 (h.ge (Nat.le_refl _))
 refine ⟨rfl, hd5, ?_⟩
 refine y5.trans2 (y5.trans2 (y5.trans2 (y5.trans2 (hk1.mono (by simp)) hk2 (by simp)) hk3 (by simp)) hk4 ?_) hk5 ?_
 ·intro x hx; simp at hx; subst hx; exact Or.inr (by omega)
 ·intro x hx; simp at hx; subst hx; exact Or.inr (Nat.le_refl _)
theorem Q1p (v a : Nat) (bv : Value) (n : Nat) (cv : Value) (D : Dv) (i : Nat) (w : World) (hv : Vol w v a n) (h : DQ w a bv n cv D) (hi : i < n) (hn : n <= 1000) (hq : D.q.length <= 1000000) (hb : D.bad = true) (hT : Tab w) :
  Calls prog 102 #[.pointer (some ⟨v, 0, none⟩), .int .i64 i] w fun e w' => Thr 6 e w' /\ DQ w' a bv n cv D.tick /\ y5 [a] w w' := by
 have m1 := Q1k
 go_enter func102, ntmps102
 go_wp2_with (first
  | (refine yc rfl 4 rfl 80 rfl _ (zblk _) ?_; intro w1 hn1 hk1 hs1; have HS1 : Hid _ := hs1; clear hs1; have c1 : w1.cell? ⟨v, 0, none⟩ = some (.iface 23 (.pointer (some ⟨a, 0, none⟩))) := y6 (hk1.get hv (by simp)) rfl)
  | (go_at_call 171; refine (Q0p a bv n cv D i w1 (h.k0 hk1) hi hn hq).mono ?_; rintro e w2 ⟨hd2, hk2, hr⟩; rw [hb] at hr; simp only [if_true, eIO] at hr; subst hr; have hT2 := (hT.k hk1).kept hk2 ((hT.k hk1).dqa (h.k0 hk1)))
  | (go_at_call 93; refine (Q1j hT2 i (by omega)).mono ?_; rintro e w3 ⟨s3, rfl, hs3, hk3⟩; have hs3' : ¬ 9223372036854775807 < 14 + s3.size := (by omega))
  | (go_at_call 46; refine (QD _ _ _).mono ?_; rintro e w4 ⟨ht, hk4⟩; obtain ⟨f, o, rfl, hf⟩ := ht.ex))
 exact ⟨rfl, ht, (hd2.k0 hk3).k0 hk4, ((hk1.mono (by simp)).trans hk2).trans ((hk3.trans hk4).mono (by simp))⟩
theorem Q1q (v a : Nat) (bv : Value) (n : Nat) (cv : Value) (D : Dv) (i : Nat) (w : World) (hv : Vol w v a n) (h : DQ w a bv n cv D) (hi : i < n) (hn : n <= 1000) (hq : D.q.length <= 1000000) (hT : qc D \/ Tab w) :
  Calls prog 102 #[.pointer (some ⟨v, 0, none⟩), .int .i64 i] w (RdR a bv n cv D (fun e _ => e = .returned (.agg (u8s (D.view i)).toArray)) w) := by
 cases hb : D.bad with
 | false => exact (Q1o v a bv n cv D i w hv h hi hn hq hb).mono fun e w' ⟨h1, h2, h3⟩ => ⟨D.tick, h2, h3, Or.inl ⟨Qt.tick hb, h1⟩⟩
 | true => exact (Q1p v a bv n cv D i w hv h hi hn hq hb (hT.resolve_left fun hg => by rw [hg.bad] at hb; cases hb)).mono fun e w' ⟨h1, h2, h3⟩ => ⟨D.tick, h2, h3, Or.inr ⟨Er.tick hb, h1⟩⟩
theorem Q1r (v a : Nat) (bv : Value) (n : Nat) (cv : Value) (D : Dv) (B : List UInt8) (i : Nat) (w : World) (hv : Vol w v a n) (h : DQ w a bv n cv D) (hi : i < n) (hB : B.length = 128) (hq : D.q.length <= 1000000) (hb : D.bad = false) :
  Calls prog 64 #[.pointer (some ⟨v, 0, none⟩), .int .i64 i, .agg (u8s B).toArray] w (WrR a bv n cv (fun D' e _ => D' = D.put i B /\ e = .returned (.tuple #[])) w) := by
 have m1 := Q1l
 have hla := yt h.d
 have k1 := (y5.refl [] w).alloc (.cells (u8s B).toArray 80)
 have c1 : (w.alloc (.cells (u8s B).toArray 80)).cell? ⟨v, 0, none⟩ = some (.iface 23 (.pointer (some ⟨a, 0, none⟩))) := y6 (k1.get hv (by simp)) rfl
 have h1 := h.k0 k1
 have hx := heap_alloc_new w (.cells (u8s B).toArray 80)
 have HD : Hid (DQ (w.alloc (.cells (u8s B).toArray 80)).drew a bv n cv D) := h1.k0 (y5.refl _ _).drew
 generalize hw1 : w.alloc (.cells (u8s B).toArray 80) = w1 at *
 have HW : Hid (w.alloc (.cells (u8s B).toArray 80) = w1) := hw1
 clear hw1
 go_enter func64, ntmps64
 go_wp2
 rw [HW.out]
 go_region_with (go_at_call 172; refine (Q0B a bv n w.heap.size cv D B 80 i _ HD.out hi hB (by exact hx) (by omega) hq).mono ?_; rintro e w2 hw2; unfold QB at hw2; rw [hb] at hw2; simp only [Bool.false_eq_true, if_false] at hw2; obtain ⟨rfl, cv', hd2, hk2, hf2⟩ := hw2)
 have kk : y5 (ym a bv cv) w w2 := (((k1.trans (y5.refl _ _).drew).mono (by simp)).trans hk2)
 have H2 : Hid (DQ w2 a bv n cv' (D.put i B) /\ (∀ y, cv'.ownBlock = some y -> cv.ownBlock = some y \/ w1.drew.heap.size <= y)) := ⟨hd2, hf2⟩
 have KK : Hid (y5 (ym a bv cv) w w2) := kk
 have kz : w.heap.size <= w1.drew.heap.size := k1.size
 have KZ : Hid (w.heap.size <= w1.drew.heap.size) := kz
 clear hd2 hf2 hk2 kk kz
 go_wp2
 go_end0
 obtain ⟨hd2, hf2⟩ := H2.out
 exact ⟨cv', D.put i B, hd2, KK.out, fun y hy => (hf2 y hy).imp id (fun hx => Nat.le_trans KZ.out hx), rfl, rfl⟩
theorem Q1s (v a : Nat) (bv : Value) (n : Nat) (cv : Value) (D : Dv) (B : List UInt8) (i : Nat) (w : World) (hv : Vol w v a n) (h : DQ w a bv n cv D) (hi : i < n) (hn : n <= 1000) (hB : B.length = 128) (hq : D.q.length <= 1000000) (hb : D.bad = true) (hT : Tab w) :
  Calls prog 64 #[.pointer (some ⟨v, 0, none⟩), .int .i64 i, .agg (u8s B).toArray] w (WrR a bv n cv (fun D' e w' => D' = D.tick /\ Thr 6 e w') w) := by
 have m1 := Q1l
 have hla := yt h.d
 have k1 := (y5.refl [] w).alloc (.cells (u8s B).toArray 80)
 have c1 : (w.alloc (.cells (u8s B).toArray 80)).cell? ⟨v, 0, none⟩ = some (.iface 23 (.pointer (some ⟨a, 0, none⟩))) := y6 (k1.get hv (by simp)) rfl
 have h1 := h.k0 k1
 have hx := heap_alloc_new w (.cells (u8s B).toArray 80)
 have HD : Hid (DQ (w.alloc (.cells (u8s B).toArray 80)).drew a bv n cv D) := h1.k0 (y5.refl _ _).drew
 generalize hw1 : w.alloc (.cells (u8s B).toArray 80) = w1 at *
 have HW : Hid (w.alloc (.cells (u8s B).toArray 80) = w1) := hw1
 clear hw1
 go_enter func64, ntmps64
 go_wp2
 rw [HW.out]
 go_region_with (go_at_call 172; refine (Q0B a bv n w.heap.size cv D B 80 i _ HD.out hi hB (by exact hx) (by omega) hq).mono ?_; rintro e w2 hw2; unfold QB at hw2; rw [hb] at hw2; simp only [if_true, eIO] at hw2; obtain ⟨rfl, hd2, hk2⟩ := hw2)
 have KK : Hid (y5 [a] w w2) := (((k1.trans (y5.refl _ _).drew).mono (by simp)).trans hk2)
 have H2 : Hid (DQ w2 a bv n cv D.tick) := hd2
 have hT2 : Tab w2 := hT.kept KK.out (hT.dqa h)
 clear hd2 hk2
 go_wp2_with (first
  | (go_at_call 93; refine (Q1j hT2 i (by omega)).mono ?_; rintro e w3 ⟨s3, rfl, hs3, hk3⟩; have hs3' : ¬ 9223372036854775807 < 15 + s3.size := (by omega))
  | (go_at_call 46; refine (QD _ _ _).mono ?_; rintro e w4 ⟨ht, hk4⟩; obtain ⟨f, o, rfl, hf⟩ := ht.ex))
 refine ⟨rfl, cv, D.tick, (H2.out.k0 hk3).k0 hk4, (KK.out.trans ((hk3.trans hk4).mono (by simp))).mono (by intro y hy; simp at hy; subst hy; simp [ym]), fun y hy => Or.inl hy, rfl, ht⟩
def Q1t (D : Dv) (i : Nat) (B : List UInt8) (D' : Dv) (e : Ending) (w' : World) : Prop := (Wn D i B D' /\ e = .returned (.tuple #[])) \/ (Er D D' /\ Thr 6 e w')
theorem Q1u (v a : Nat) (bv : Value) (n : Nat) (cv : Value) (D : Dv) (B : List UInt8) (i : Nat) (w : World) (hv : Vol w v a n) (h : DQ w a bv n cv D) (hi : i < n) (hn : n <= 1000) (hB : B.length = 128) (hq : D.q.length <= 1000000) (hT : qc D \/ Tab w) :
  Calls prog 64 #[.pointer (some ⟨v, 0, none⟩), .int .i64 i, .agg (u8s B).toArray] w (WrR a bv n cv (Q1t D i B) w) := by
 cases hb : D.bad with
 | false => exact (Q1r v a bv n cv D B i w hv h hi hB hq hb).mono fun e w' ⟨cv', D', h1, h2, h3, h4, h5⟩ => ⟨cv', D', h1, h2, h3, Or.inl ⟨by rw [h4]; exact Wn.put hb i B, h5⟩⟩
 | true => exact (Q1s v a bv n cv D B i w hv h hi hn hB hq hb (hT.resolve_left fun hg => by rw [hg.bad] at hb; cases hb)).mono fun e w' ⟨cv', D', h1, h2, h3, h4, h5⟩ => ⟨cv', D', h1, h2, h3, Or.inr ⟨by rw [h4]; exact Er.tick hb, h5⟩⟩
def SetP (D D' : Dv) (e : Ending) (w' : World) : Prop := (Fl D D' /\ e = .returned (.tuple #[])) \/ (Er D D' /\ Thr 6 e w')
theorem ZN (v a : Nat) (bv : Value) (n : Nat) (cv : Value) (D : Dv) (w : World) (hv : Vol w v a n) (h : DQ w a bv n cv D) (hn : n <= 1000) (hq : D.q.length <= 1000000) :
  Calls prog 35 #[.pointer (some ⟨v, 0, none⟩)] w (WrR a bv n cv (SetP D) w) := by
 have m1 := Q1m
 have c1 : w.cell? ⟨v, 0, none⟩ = some (.iface 23 (.pointer (some ⟨a, 0, none⟩))) := y6 hv rfl
 cases hb : D.bad with
 | false =>
  go_enter func35, ntmps35
  go_wp2_with (go_at_call 170; refine (Q0D a bv n cv D w h hn hq).mono ?_; rintro e w2 hw2; unfold QC at hw2; rw [hb] at hw2; simp only [Bool.false_eq_true, if_false] at hw2; obtain ⟨rfl, hd2, hk2⟩ := hw2)
  go_end0
  exact ⟨_, _, hd2, hk2.mono (by intro y hy; rcases List.mem_cons.1 hy with rfl | hy; exact List.mem_cons_self; exact List.mem_cons_of_mem _ (List.mem_append_left _ hy)), (by intro y hy; cases hy), Or.inl ⟨Fl.flush hb, rfl⟩⟩
 | true =>
  go_enter func35, ntmps35
  go_wp2_with (first
   | (go_at_call 170; refine (Q0D a bv n cv D w h hn hq).mono ?_; rintro e w2 hw2; unfold QC at hw2; rw [hb] at hw2; simp only [if_true, eIO] at hw2; obtain ⟨rfl, hd2, hk2⟩ := hw2)
   | (go_at_call 46; refine (QD _ _ _).mono ?_; rintro e w4 ⟨ht, hk4⟩; obtain ⟨f, o, rfl, hf⟩ := ht.ex))
  exact ⟨rfl, cv, D.tick, hd2.k0 hk4, (hk2.trans (hk4.mono (by simp))).mono (by intro y hy; simp at hy; subst hy; simp [ym]), fun y hy => Or.inl hy, Or.inr ⟨Er.tick hb, ht⟩⟩
theorem Q1v (p : Addr) (w : World) :
  CallsD prog 119 #[.pointer (some p)] .returning w fun e u' w' => e = .returned (.tuple #[]) /\ u' = .returning /\ w' = w := by
 refine callsD_of_wpS func119 rfl fun c₀ cs hu => ?_
 apply wpS_seq
 apply wpS_region
 simp [wpOpsS, go_sem, recoverD, hu, ntmps119, Exit.thenS]
 refine wpS_cond (t := false) (by simp [Act.eval, Array.replicate]) ?_
 simp only [Bool.false_eq_true, if_false]
 refine wpS_of_wp (wp_skip ?_)
 cases c₀
 simp_all [bodyPostS, results, Tryz.results119]
theorem jb (fn : Fn) (first cap : Array Value) (w : World) : (Instr.makeFunc fn first cap).run prog w = .ok (.func fn first cap) w := rfl
theorem Q1w (a n cap : Nat) (ao : Option Addr) (cache : Value) (D : Dv) (w : World) (h : DC w a (.slice ao n cap) cache D) :
  Calls prog 97 #[.iface 23 (.pointer (some ⟨a, 0, none⟩))] w fun e w' => e = .returned (.int .i64 n) /\ y5 [] w w' := by
 have hmf := jb
 have m1 := Q1n
 have k1 := (y5.refl [] w).alloc (.cells #[.int .i64 0] 3)
 have h1 : DC _ a (.slice ao n cap) cache D := k1.get h (by simp)
 go_enter_defers func97, ntmps97
 go_wp2_with (go_at_call 23; refine (Q0c a ao n cap cache D _ h1).mono ?_; rintro e w' ⟨rfl, rfl⟩)
 refine leaves_cons (f := 119) (args := #[.pointer (some ⟨w.heap.size, 0, none⟩)]) (by simp) (by simp [go_sem]) ?_
 refine (Q1v ⟨w.heap.size, 0, none⟩ _).mono ?_
 rintro e u' w'' ⟨rfl, rfl, rfl⟩
 simp [Leaves, settle, results, Tryz.results97, go_sem]
 exact (y5.refl _ _).alloc _
def Q1x (x : Int) (w : World) (e : Ending) (w' : World) : Prop :=
 ∃ f o, e = .panicked [{ v := .iface 143 (.agg #[.iface 98 (.pointer (some ⟨f, 0, none⟩))]), recovered := false }] /\
  w'.heap[f]? = some (.cells #[o, .iface 44 (.int .i64 x)] 101 (0, 0)) /\ y5 [] w w'
theorem Qn (o : ByteArray) (x : Int) (w : World) : Calls prog 46 #[.string o, .int .i64 x] w (Q1x x w) := by
 go_enter func46, ntmps46
 go_wp2
 exact ⟨rfl, w.heap.size, .string o, rfl, heap_alloc_new _ _, (y5.refl _ _).alloc _⟩
def Q1y (a n : Nat) (w : World) (e : Ending) (w' : World) : Prop := ∃ v, e = .returned (.pointer (some ⟨v, 0, none⟩)) /\ Vol w' v a n /\ w.heap.size <= v /\ y5 [] w w'
theorem Q1z (a n cap : Nat) (ao : Option Addr) (cache : Value) (D : Dv) (w : World) (h : DC w a (.slice ao n cap) cache D) (h8 : 8 <= n) (h4 : n <= 400) :
  Calls prog 69 #[.iface 23 (.pointer (some ⟨a, 0, none⟩))] w (Q1y a n w) := by
 have g8 : ¬ (n : Int) < 8 := by omega
 have g4 : ¬ (400 : Int) < n := by omega
 go_enter func69, ntmps69
 go_wp2_with (go_at_call 97; refine (Q1w a n cap ao cache D _ h).mono ?_; rintro e w1 ⟨rfl, k1⟩)
 go_ret
 exact ⟨_, rfl, heap_alloc_new _ _, k1.size, k1.alloc _⟩
end Go.Proofs.YtcklgafpgdhnaabGreatDoor
namespace Go.Proofs.YtcklgafpgdhnaabGreatDoor
open Go.RowKit Go.Extern.Stop Go.Stop Go.Extern
theorem vOf (t : Addr) (w : World) : (ReflectliteValue.unpack (.iface 86 (.pointer (some t)))).run prog w
  = .ok (.agg #[.pointer (some ⟨5, 86, none⟩), .pointer (some ⟨w.heap.size, 0, none⟩), .int .u64 150]) (w.alloc (.cells #[.pointer (some t)] 86)) := by kernel_rfl
theorem tyOf (a : Addr) (w : World) : (ReflectliteValue.methodAny (ReflectliteValue.valueError "reflectlite.Value.Type" 0) (fun t _ _ _ => ReflectliteType.toType t) #[.agg #[.pointer (some ⟨5, 86, none⟩), .pointer (some a), .int .u64 150]]).run prog w
  = .ok (.iface 165 (.agg #[.pointer (some ⟨5, 86, none⟩)])) w := by kernel_rfl
theorem Q1A (h : Value) (w : World) : (Go.method 391 165 (.agg #[h]) "Kind").run prog w = .ok (167, h) w := by kernel_rfl
theorem kPtr (w : World) : ((ReflectliteType.abiMethod fun t => (fun a : Nat => Value.int IntKind.u8 (a : Int)) <$> Rtype.kind t) #[.pointer (some ⟨5, 86, none⟩)]).run prog w = .ok (.int .u8 22) w := by kernel_rfl
theorem Q1B (w : World) : ((ReflectliteType.abiMethod fun t => (fun a : Nat => Value.int IntKind.u8 (a : Int)) <$> Rtype.kind t) #[.pointer (some ⟨5, 44, none⟩)]).run prog w = .ok (.int .u8 2) w := by kernel_rfl
theorem Q1C (a : Addr) (w : World) : (ReflectliteValue.parts (.agg #[.pointer (some ⟨5, 86, none⟩), .pointer (some a), .int .u64 150])).run prog w = .ok (some (86, a, 150)) w := by kernel_rfl
theorem Q1D (a p : Addr) (W : World) (ha : W.cell? a = some (.pointer (some p))) :
  (ReflectliteValue.method (ReflectliteValue.valueError "reflectlite.Value.IsNil" 0) ReflectliteValue.isNil #[.agg #[.pointer (some ⟨5, 86, none⟩), .pointer (some a), .int .u64 150]]).run prog W = .ok (.bool false) W := by
 change Sem.run prog (ReflectliteValue.parts (.agg #[.pointer (some ⟨5, 86, none⟩), .pointer (some a), .int .u64 150]) >>= _) W = _
 simp only [Sem.run_bind, Q1C, Result.andThen]
 simp [ReflectliteValue.isNil, loadVar, isAgg, underlying, underlying86, ha, Result.andThen]
theorem Q1E (h : Value) (w : World) : (Go.method 391 165 (.agg #[h]) "Elem").run prog w = .ok (205, .agg #[h]) w := by kernel_rfl
theorem Q1F (h : Value) (w : World) : (Go.method 391 165 (.agg #[h]) "Implements").run prog w = .ok (206, .agg #[h]) w := by kernel_rfl
theorem Q1G (h : Value) (w : World) : (Go.method 391 165 (.agg #[h]) "AssignableTo").run prog w = .ok (203, .agg #[h]) w := by kernel_rfl
theorem Q1H (w : World) : (ReflectliteType.method ReflectliteType.elem #[.agg #[.pointer (some ⟨5, 86, none⟩)]]).run prog w = .ok (.iface 165 (.agg #[.pointer (some ⟨5, 44, none⟩)])) w := by kernel_rfl
theorem Q1I (w : World) : (ReflectliteType.relation "Implements" ReflectliteType.implements_ #[.agg #[.pointer (some ⟨5, 44, none⟩)], .iface 165 (.agg #[.pointer (some ⟨5, 35, none⟩)])]).run prog w = .ok (.bool true) w := by kernel_rfl
theorem Q1J (v : Value) (w : World) : (ReflectliteType.typeOf #[.iface 44 v]).run prog w = .ok (.iface 165 (.agg #[.pointer (some ⟨5, 44, none⟩)])) w := by kernel_rfl
theorem Q1K (v : Value) (w : World) : (ReflectliteType.typeOf #[.iface 98 v]).run prog w = .ok (.iface 165 (.agg #[.pointer (some ⟨5, 98, none⟩)])) w := by kernel_rfl
theorem Q1L (w : World) : (ReflectliteType.relation "AssignableTo" ReflectliteType.assignableTo #[.agg #[.pointer (some ⟨5, 44, none⟩)], .iface 165 (.agg #[.pointer (some ⟨5, 44, none⟩)])]).run prog w = .ok (.bool true) w := by kernel_rfl
theorem Q1M (w : World) : (ReflectliteType.relation "AssignableTo" ReflectliteType.assignableTo #[.agg #[.pointer (some ⟨5, 98, none⟩)], .iface 165 (.agg #[.pointer (some ⟨5, 44, none⟩)])]).run prog w = .ok (.bool false) w := by kernel_rfl
theorem vOfE (x : Int) (w : World) : (ReflectliteValue.unpack (.iface 44 (.int .i64 x))).run prog w
  = .ok (.agg #[.pointer (some ⟨5, 44, none⟩), .pointer (some ⟨w.heap.size, 0, none⟩), .int .u64 130]) (w.alloc (.cells #[.int .i64 x] 44)) := by kernel_rfl
theorem Q1N (w : World) : (Rtype.elem? 86).run prog w = .ok (some 44) w := by kernel_rfl
theorem mkE (p : Addr) (w : World) : (ReflectliteValue.mk 44 p ReflectliteValue.flagAddr).run prog w = .ok (.agg #[.pointer (some ⟨5, 44, none⟩), .pointer (some p), .int .u64 386]) w := by kernel_rfl
theorem Q1O (a p : Addr) (W : World) (ha : W.cell? a = some (.pointer (some p))) :
  (ReflectliteValue.method (ReflectliteValue.valueError "reflectlite.Value.Elem" 0) ReflectliteValue.elem #[.agg #[.pointer (some ⟨5, 86, none⟩), .pointer (some a), .int .u64 150]]).run prog W
   = .ok (.agg #[.pointer (some ⟨5, 44, none⟩), .pointer (some p), .int .u64 386]) W := by
 change Sem.run prog (ReflectliteValue.parts (.agg #[.pointer (some ⟨5, 86, none⟩), .pointer (some a), .int .u64 150]) >>= _) W = _
 simp only [Sem.run_bind, Q1C, Result.andThen]
 simp [ReflectliteValue.elem, loadVar, isAgg, underlying, underlying86, ha, Result.andThen, Q1N, mkE]
theorem Q1P (p : Value) (w : World) : (Instr.typeAssert (.iface 98 p) 35 170 true).run prog w = .ok (.tuple #[.nilIface, .bool false]) w := run_typeAssert_lacksB underlying170 (by kernel_rfl) (by kernel_rfl) p 35 w
theorem Q1Q (p : Value) (w : World) : (Instr.typeAssert (.iface 98 p) 35 173 true).run prog w = .ok (.tuple #[.iface 98 p, .bool true]) w := run_typeAssert_hasB underlying173 (by kernel_rfl) p 35 w
theorem Q1R (a : Addr) (w : World) : (Go.method 391 98 (.pointer (some a)) "Unwrap").run prog w = .ok (179, .pointer (some a)) w := by kernel_rfl
theorem Q1S (a : Addr) (w : World) : (ReflectliteValue.parts (.agg #[.pointer (some ⟨5, 44, none⟩), .pointer (some a), .int .u64 386])).run prog w = .ok (some (44, a, 386)) w := by kernel_rfl
theorem Q1T (a : Addr) (w : World) : (ReflectliteValue.parts (.agg #[.pointer (some ⟨5, 44, none⟩), .pointer (some a), .int .u64 130])).run prog w = .ok (some (44, a, 130)) w := by kernel_rfl
theorem Q1U (w : World) : (Rtype.directlyAssignable 44 44).run prog w = .ok true w := by kernel_rfl
theorem setE (ta b : Addr) (x : Int) (old : Value) (W : World) (hb : W.cell? b = some (.int .i64 x)) (ht : W.cell? ta = some old) (hf : W.frozen? ta = false) :
  (ReflectliteValue.set #[.agg #[.pointer (some ⟨5, 44, none⟩), .pointer (some ta), .int .u64 386], .agg #[.pointer (some ⟨5, 44, none⟩), .pointer (some b), .int .u64 130]]).run prog W
   = .ok (.tuple #[]) (W.setCell ta (.int .i64 x)) := by
 have hs : (sizeOf 44).run prog W = .ok 1 W := by kernel_rfl
 change Sem.run prog (ReflectliteValue.parts (.agg #[.pointer (some ⟨5, 44, none⟩), .pointer (some ta), .int .u64 386]) >>= fun r1 => ReflectliteValue.parts (.agg #[.pointer (some ⟨5, 44, none⟩), .pointer (some b), .int .u64 130]) >>= _) W = _
 simp only [Sem.run_bind, Q1S, Q1T, Result.andThen]
 simp [ReflectliteValue.flagAddr, loadVar, isAgg, underlying, underlying44, hb, Result.andThen, Q1U, storeVar, Value.cells, storeCells, Addr.add]
 rw [run_store prog W ta _ _ (by rfl)]
 simp [ht, hf]
theorem Q1V (f : Nat) (o E : Value) (w : World) (hf : w.heap[f]? = some (.cells #[o, E] 101 (0, 0))) :
  Calls prog 179 #[.pointer (some ⟨f, 0, none⟩)] w fun e w' => e = .returned E /\ w' = w := by
 have c1 : w.cell? ⟨f, 1, none⟩ = some E := y6 hf rfl
 clear hf
 go_enter func179, ntmps179
 go_wp2
 go_ret
 exact ⟨rfl, rfl⟩
structure Qo (w : World) (err : Value) (x : Int) : Prop where
 ex : ∃ f1 f2 o1 o2, err = .iface 98 (.pointer (some ⟨f1, 0, none⟩)) /\ w.heap[f1]? = some (.cells #[o1, .iface 98 (.pointer (some ⟨f2, 0, none⟩))] 101 (0, 0)) /\
  w.heap[f2]? = some (.cells #[o2, .iface 44 (.int .i64 x)] 101 (0, 0))
theorem Q1W (f1 f2 tb pb : Nat) (o1 o2 old tg : Value) (x : Int) (w : World)
  (h1 : w.heap[f1]? = some (.cells #[o1, .iface 98 (.pointer (some ⟨f2, 0, none⟩))] 101 (0, 0)))
  (h2 : w.heap[f2]? = some (.cells #[o2, .iface 44 (.int .i64 x)] 101 (0, 0)))
  (hp : w.heap[pb]? = some (.cells #[.pointer (some ⟨tb, 0, none⟩)] 86 (0, 0)))
  (ht : w.heap[tb]? = some (.cells #[old] 44 (0, 0))) :
  Calls prog 76 #[.iface 98 (.pointer (some ⟨f1, 0, none⟩)), tg, .agg #[.pointer (some ⟨5, 86, none⟩), .pointer (some ⟨pb, 0, none⟩), .int .u64 150], .iface 165 (.agg #[.pointer (some ⟨5, 44, none⟩)])] w
   fun e w' => e = .returned (.bool true) /\ w'.heap[tb]? = some (.cells #[.int .i64 x] 44 (0, 0)) /\ y5 [tb] w w' := by
 have e90 := @run_callFunc_extern prog 103 _ ReflectliteType.typeOf func103 (by kernel_rfl) (by kernel_rfl) (by kernel_rfl) (by kernel_rfl)
 have e142 := @run_callFunc_extern prog 203 _ (ReflectliteType.relation "AssignableTo" ReflectliteType.assignableTo) func203 (by kernel_rfl) (by kernel_rfl) (by kernel_rfl) (by kernel_rfl)
 have e91 := @run_callFunc_extern prog 104 _ (ReflectliteValue.method (ReflectliteValue.valueError "reflectlite.Value.Elem" 0) ReflectliteValue.elem) func104 (by kernel_rfl) (by kernel_rfl) (by kernel_rfl) (by kernel_rfl)
 have e74 := @run_callFunc_extern prog 73 _ (fun args => ReflectliteValue.unpack (args.getD 0 (.tuple #[]))) func73 (by kernel_rfl) (by kernel_rfl) (by kernel_rfl) (by kernel_rfl)
 have e92 := @run_callFunc_extern prog 105 _ ReflectliteValue.set func105 (by kernel_rfl) (by kernel_rfl) (by kernel_rfl) (by kernel_rfl)
 have tF := Q1K
 have tE := Q1J
 have mA := Q1G
 have aF := Q1M
 have aE := Q1L
 have rA := Q1P
 have rU := Q1Q
 have mU := Q1R
 have vE := vOfE
 have k1 := (y5.refl [] w).alloc (.cells #[.pointer (some ⟨5, 86, none⟩), .pointer (some ⟨pb, 0, none⟩), .int .u64 150] 123)
 have g1 := k1.get h1 (by simp)
 have g2 := k1.get h2 (by simp)
 have gp := k1.get hp (by simp)
 have gt := k1.get ht (by simp)
 have el := Q1O ⟨pb, 0, none⟩ ⟨tb, 0, none⟩ _ (y6 gp rfl)
 have k2 := (y5.refl [] (w.alloc (.cells #[.pointer (some ⟨5, 86, none⟩), .pointer (some ⟨pb, 0, none⟩), .int .u64 150] 123))).alloc (.cells #[.int .i64 x] 44)
 have gt2 := k2.get gt (by simp)
 have gn2 := heap_alloc_new (w.alloc (.cells #[.pointer (some ⟨5, 86, none⟩), .pointer (some ⟨pb, 0, none⟩), .int .u64 150] 123)) (.cells #[.int .i64 x] 44)
 rw [World.size_alloc] at gn2
 have st := setE ⟨tb, 0, none⟩ ⟨w.heap.size + 1, 0, none⟩ x old _ (y6 gn2 rfl) (y6 gt2 rfl) (frozen_of_row _ _ _ _ _ gt2)
 have hend := yg (i := 0) (.int .i64 x) gt2
 have kend : y5 [tb] w (((w.alloc (.cells #[.pointer (some ⟨5, 86, none⟩), .pointer (some ⟨pb, 0, none⟩), .int .u64 150] 123)).alloc (.cells #[.int .i64 x] 44)).setCell ⟨tb, 0, none⟩ (.int .i64 x)) := (((y5.refl _ _).alloc _).alloc _).setCell (Or.inl (by simp)) _
 have H1 : Hid (_ /\ _) := ⟨g1, g2⟩
 have H2 : Hid (_ /\ _) := ⟨hend, kend⟩
 clear h1 h2 hp ht k1 g1 g2 gp gt k2 gt2 gn2 hend kend
 go_enter func76, ntmps76
 go_wp2
 refine wp_loop_rounds 3 ?_
 rw [rounds_succ]
 go_wp2_with (go_at_call 179; refine (Q1V f1 _ _ _ H1.out.1).mono ?_; rintro e w' ⟨rfl, rfl⟩)
 rw [rounds_succ]
 go_wp2_with (go_at_call 179; refine (Q1V f2 _ _ _ H1.out.2).mono ?_; rintro e w' ⟨rfl, rfl⟩)
 rw [rounds_succ]
 go_wp2
 go_ret
 exact ⟨rfl, H2.out.1, H2.out.2⟩
end Go.Proofs.YtcklgafpgdhnaabGreatDoor
