import Derived.Test.YtcklgafpgdhnaabGreatDoorPtad
import Derived.Defers
import Derived.Recover
import Derived.Laws.Pointers
import Derived.Test.YtcklgafpgdhnaabGreatDoorPtac
import Derived.BigRegion
import Derived.LaidEql
import Derived.Stop.Asserts
import Derived.RowKitTokens
import Derived.Deep.RegionWith
set_option maxRecDepth 100000
set_option maxHeartbeats 4000000
open Go.Proofs.Tryz
namespace Go.Proofs.YtcklgafpgdhnaabGreatDoor
open Go.RowKit
theorem Q2E (a : Addr) (w : World) : (Go.method 391 23 (.pointer (some a)) "Read").run prog w = .ok (171, .pointer (some a)) w := by kernel_rfl
theorem Q2F (a : Addr) (w : World) : (Go.method 391 23 (.pointer (some a)) "Write").run prog w = .ok (172, .pointer (some a)) w := by kernel_rfl
theorem Q2G (a : Addr) (w : World) : (Go.method 391 23 (.pointer (some a)) "Flush").run prog w = .ok (170, .pointer (some a)) w := by kernel_rfl
theorem Q2H (a : Addr) (w : World) : (Go.method 391 23 (.pointer (some a)) "Blocks").run prog w = .ok (23, .pointer (some a)) w := by kernel_rfl
theorem zblk (w : World) : (Instr.alloc 80 true (.tuple #[])).run prog w = .ok (.pointer (some ⟨w.heap.size, 0, none⟩)) (w.alloc (.cells (u8s (List.replicate 128 0)).toArray 80)) := by kernel_rfl
def Vol (w : World) (v a n : Nat) : Prop := w.heap[v]? = some (.cells #[.iface 23 (.pointer (some ⟨a, 0, none⟩)), .int .i64 n] 105 (0, 0))
def Thr (x : Int) (e : Ending) (w' : World) : Prop :=
 ∃ f o, e = .panicked [{ v := .iface 143 (.agg #[.iface 98 (.pointer (some ⟨f, 0, none⟩))]), recovered := false }] /\
  w'.heap[f]? = some (.cells #[o, .iface 44 (.int .i64 x)] 101 (0, 0))
theorem Q2I (o : ByteArray) (x : Int) (w : World) : Calls prog 46 #[.string o, .int .i64 x] w fun e w' => Thr x e w' /\ Kept [] w w' := by
 go_enter func46, ntmps46
 go_wp2
 exact ⟨rfl, ⟨w.heap.size, .string o, rfl, heap_alloc_new _ _⟩, (Kept.refl _ _).alloc _⟩
theorem Thr.ex {x : Int} {e : Ending} {w' : World} (h : Thr x e w') : ∃ f o, e = .panicked [{ v := .iface 143 (.agg #[.iface 98 (.pointer (some ⟨f, 0, none⟩))]), recovered := false }] /\
  w'.heap[f]? = some (.cells #[o, .iface 44 (.int .i64 x)] 101 (0, 0)) := h
def RdR (a : Nat) (bv : Value) (n : Nat) (cv : Value) (D : Dv) (P : Ending -> World -> Prop) (w : World) (e : Ending) (w' : World) : Prop :=
 ∃ D', DQ w' a bv n cv D' /\ Kept [a] w w' /\ ((Qt D D' /\ P e w') \/ (Er D D' /\ Thr 6 e w'))
def WrR (a : Nat) (bv : Value) (n : Nat) (cv : Value) (P : Dv -> Ending -> World -> Prop) (w : World) (e : Ending) (w' : World) : Prop :=
 ∃ cv' D', DQ w' a bv n cv' D' /\ Kept (Q10 a bv cv) w w' /\ (∀ y, cv'.ownBlock = some y -> cv.ownBlock = some y \/ w.heap.size <= y) /\ P D' e w'
theorem DQ.no {w : World} {a : Nat} {bv : Value} {n : Nat} {cv : Value} {D : Dv} (h : DQ w a bv n cv D) {y : Nat} {cs : Array Value} {t : TypeId} {fr : Nat × Nat} (hy : w.heap[y]? = some (.cells cs t fr)) (ht : t ∉ [65, 80, 82]) : y ∉ Q10 a bv cv := by
 simp only [List.mem_cons, List.not_mem_nil, or_false, not_or] at ht
 intro hx
 rcases List.mem_cons.1 hx with rfl | hx
 ·exact Q01 hy h.d ht.1 rfl
 rcases List.mem_append.1 hx with hx | hx
 ·obtain ⟨cs', fr', hh⟩ := Q0T h.b (by simpa using hx)
  exact Q01 hy hh ht.2.1 rfl
 ·obtain ⟨cs', fr', hh⟩ := Q0T h.o (by simpa using hx)
  exact Q01 hy hh ht.2.2 rfl
theorem DQ.ge {w : World} {a : Nat} {bv : Value} {n : Nat} {cv : Value} {D : Dv} (h : DQ w a bv n cv D) {y : Nat} (hy : w.heap.size <= y) : y ∉ Q10 a bv cv := fun hx => by have := h.lt y hx; omega
theorem DQ.k1 {w w' : World} {a : Nat} {bv : Value} {n : Nat} {cv : Value} {D : Dv} {y : Nat} (h : DQ w a bv n cv D) (k : Kept [y] w w') (hy : y ∉ Q10 a bv cv) : DQ w' a bv n cv D := h.kept k (by intro x hx hm; simp at hm; subst hm; exact hy hx)
theorem Tab.dq {w : World} {a : Nat} {bv : Value} {n : Nat} {cv : Value} {D : Dv} (hT : Tab w) (h : DQ w a bv n cv D) : 2 ∉ Q10 a bv cv := by
 obtain ⟨cs, fr, hh⟩ := hT.row
 exact h.no hh (by decide)
theorem Tab.dqa {w : World} {a : Nat} {bv : Value} {n : Nat} {cv : Value} {D : Dv} (hT : Tab w) (h : DQ w a bv n cv D) : 2 ∉ [a] := by
 have := hT.dq h
 simp only [Q10, List.mem_cons, not_or] at this
 simpa using this.1
theorem Q2J (v a : Nat) (bv : Value) (n : Nat) (cv : Value) (D : Dv) (i : Nat) (w : World) (hv : Vol w v a n) (h : DQ w a bv n cv D) (hi : i < n) (hn : n <= 1000) (hq : D.q.length <= 1000000) (hb : D.bad = false) :
  Calls prog 102 #[.pointer (some ⟨v, 0, none⟩), .int .i64 i] w fun e w' => e = .returned (.agg (u8s (D.view i)).toArray) /\ DQ w' a bv n cv D.tick /\ Kept [a] w w' := by
 have m1 := Q2E
 have nva : v ≠ a := Q01 hv h.d (by decide)
 have hlv := Q00 hv
 have hla := Q00 h.d
 have hlb : (D.view i).length = 128 := Q14 (Q12 D.L n i h.l hi) h.q
 go_enter func102, ntmps102
 go_wp2_with (first
  | (refine Q2p rfl 4 rfl 80 rfl _ (zblk _) ?_; intro w1 hn1 hk1 hs1; have HS1 : Hid _ := hs1; clear hs1; have c1 : w1.cell? ⟨v, 0, none⟩ = some (.iface 23 (.pointer (some ⟨a, 0, none⟩))) := Q02 (hk1.get hv (by simp)) rfl)
  | (go_at_call 171; refine (Q1a a bv n cv D i w1 (h.k0 hk1) hi hn hq).mono ?_; rintro e w2 ⟨hd2, hk2, hr⟩; rw [hb] at hr; simp only [Bool.false_eq_true, if_false] at hr; obtain ⟨r, rfl, hr2, hrs2⟩ := hr)
  | (refine Q2p rfl 7 rfl 80 rfl _ (zblk _) ?_; intro w3 hn3 hk3 hs3; have HS3 : Hid _ := hs3; clear hs3; have hr3 := hk3.get hr2 (by simp))
  | (refine Q0d 83 83 5 underlying83 su8 w2.heap.size 0 128 128 ⟨r, 0, none⟩ 128 128 (u8s (List.replicate 128 0)) 80 hn3 (u8s (D.view i)) (by rw [Q08, hlb]; exact (Nat.min_self 128).symm) (Q17 hr3) (by rw [Q08, Q08, hlb, List.length_replicate]; omega) (Q09 _) ?_; intro w4 hg4 hk4; rw [Q0e _ _ (by rw [Q08, Q08, hlb, List.length_replicate])] at hg4)
  | (refine wpList_load_row rfl 80 (.tmp 7) rfl w2.heap.size rfl 80 (u8s (D.view i)).toArray (0, 0) _ hg4 underlying80 rfl (by rw [sblk]; simp [Q08, hlb]) ?_)
  | (refine Q0c rfl 80 (.tmp 4) (.tmp 26) rfl w.heap.size (u8s (D.view i)).toArray rfl rfl 80 _ (hk4.get (hk3.get (hk2.get hn1 (by simp; omega)) (by simp)) (by have := hk2.size; have := Q00 hn1; simp; omega)) (by rw [sblk]; simp [Q08, hlb]) (by simp [Q08, hlb]) (Q0N (Q09 _)) ?_; intro w5 hg5 hk5))
 refine bodyPost_ret (results_cell_row rfl _ w5 w.heap.size 80 _ (0, 0) _ rfl hg5 underlying80 rfl (by rw [sblk]; simp [Q08, hlb])) rfl ?_
 have hz1 := HS1.out
 have hz2 := hk2.size
 have hd3 := hd2.k0 hk3
 have hd4 := hd3.k1 hk4 (hd2.ge (Nat.le_refl _))
 have hd5 := hd4.k1 hk5 (h.ge (Nat.le_refl _))
 refine ⟨rfl, hd5, ?_⟩
 refine Kept.trans2 (Kept.trans2 (Kept.trans2 (Kept.trans2 (hk1.mono (by simp)) hk2 (by simp)) hk3 (by simp)) hk4 ?_) hk5 ?_
 ·intro x hx; simp at hx; subst hx; exact Or.inr (by omega)
 ·intro x hx; simp at hx; subst hx; exact Or.inr (Nat.le_refl _)
theorem Q2K (v a : Nat) (bv : Value) (n : Nat) (cv : Value) (D : Dv) (i : Nat) (w : World) (hv : Vol w v a n) (h : DQ w a bv n cv D) (hi : i < n) (hn : n <= 1000) (hq : D.q.length <= 1000000) (hb : D.bad = true) (hT : Tab w) :
  Calls prog 102 #[.pointer (some ⟨v, 0, none⟩), .int .i64 i] w fun e w' => Thr 6 e w' /\ DQ w' a bv n cv D.tick /\ Kept [a] w w' := by
 have m1 := Q2E
 go_enter func102, ntmps102
 go_wp2_with (first
  | (refine Q2p rfl 4 rfl 80 rfl _ (zblk _) ?_; intro w1 hn1 hk1 hs1; have HS1 : Hid _ := hs1; clear hs1; have c1 : w1.cell? ⟨v, 0, none⟩ = some (.iface 23 (.pointer (some ⟨a, 0, none⟩))) := Q02 (hk1.get hv (by simp)) rfl)
  | (go_at_call 171; refine (Q1a a bv n cv D i w1 (h.k0 hk1) hi hn hq).mono ?_; rintro e w2 ⟨hd2, hk2, hr⟩; rw [hb] at hr; simp only [if_true, eIO] at hr; subst hr; have hT2 := (hT.k hk1).kept hk2 ((hT.k hk1).dqa (h.k0 hk1)))
  | (go_at_call 93; refine (Q2D hT2 i (by omega)).mono ?_; rintro e w3 ⟨s3, rfl, hs3, hk3⟩; have hs3' : ¬ 9223372036854775807 < 14 + s3.size := (by omega))
  | (go_at_call 46; refine (Q2I _ _ _).mono ?_; rintro e w4 ⟨ht, hk4⟩; obtain ⟨f, o, rfl, hf⟩ := ht.ex))
 exact ⟨rfl, ht, (hd2.k0 hk3).k0 hk4, ((hk1.mono (by simp)).trans hk2).trans ((hk3.trans hk4).mono (by simp))⟩
theorem Q2L (v a : Nat) (bv : Value) (n : Nat) (cv : Value) (D : Dv) (i : Nat) (w : World) (hv : Vol w v a n) (h : DQ w a bv n cv D) (hi : i < n) (hn : n <= 1000) (hq : D.q.length <= 1000000) (hT : Good D \/ Tab w) :
  Calls prog 102 #[.pointer (some ⟨v, 0, none⟩), .int .i64 i] w (RdR a bv n cv D (fun e _ => e = .returned (.agg (u8s (D.view i)).toArray)) w) := by
 cases hb : D.bad with
 | false => exact (Q2J v a bv n cv D i w hv h hi hn hq hb).mono fun e w' ⟨h1, h2, h3⟩ => ⟨D.tick, h2, h3, Or.inl ⟨Qt.tick hb, h1⟩⟩
 | true => exact (Q2K v a bv n cv D i w hv h hi hn hq hb (hT.resolve_left fun hg => by rw [hg.bad] at hb; cases hb)).mono fun e w' ⟨h1, h2, h3⟩ => ⟨D.tick, h2, h3, Or.inr ⟨Er.tick hb, h1⟩⟩
theorem Q2M (v a : Nat) (bv : Value) (n : Nat) (cv : Value) (D : Dv) (B : List UInt8) (i : Nat) (w : World) (hv : Vol w v a n) (h : DQ w a bv n cv D) (hi : i < n) (hB : B.length = 128) (hq : D.q.length <= 1000000) (hb : D.bad = false) :
  Calls prog 64 #[.pointer (some ⟨v, 0, none⟩), .int .i64 i, .agg (u8s B).toArray] w (WrR a bv n cv (fun D' e _ => D' = D.put i B /\ e = .returned (.tuple #[])) w) := by
 have m1 := Q2F
 have hla := Q00 h.d
 have k1 := (Kept.refl [] w).alloc (.cells (u8s B).toArray 80)
 have c1 : (w.alloc (.cells (u8s B).toArray 80)).cell? ⟨v, 0, none⟩ = some (.iface 23 (.pointer (some ⟨a, 0, none⟩))) := Q02 (k1.get hv (by simp)) rfl
 have h1 := h.k0 k1
 have hx := heap_alloc_new w (.cells (u8s B).toArray 80)
 have HD : Hid (DQ (w.alloc (.cells (u8s B).toArray 80)).drew a bv n cv D) := h1.k0 (Kept.refl _ _).drew
 generalize hw1 : w.alloc (.cells (u8s B).toArray 80) = w1 at *
 have HW : Hid (w.alloc (.cells (u8s B).toArray 80) = w1) := hw1
 clear hw1
 go_enter func64, ntmps64
 go_wp2
 rw [HW.out]
 go_region_with (go_at_call 172; refine (Q1C a bv n w.heap.size cv D B 80 i _ HD.out hi hB (by exact hx) (by omega) hq).mono ?_; rintro e w2 hw2; unfold Q1B at hw2; rw [hb] at hw2; simp only [Bool.false_eq_true, if_false] at hw2; obtain ⟨rfl, cv', hd2, hk2, hf2⟩ := hw2)
 have kk : Kept (Q10 a bv cv) w w2 := (((k1.trans (Kept.refl _ _).drew).mono (by simp)).trans hk2)
 have H2 : Hid (DQ w2 a bv n cv' (D.put i B) /\ (∀ y, cv'.ownBlock = some y -> cv.ownBlock = some y \/ w1.drew.heap.size <= y)) := ⟨hd2, hf2⟩
 have KK : Hid (Kept (Q10 a bv cv) w w2) := kk
 have kz : w.heap.size <= w1.drew.heap.size := k1.size
 have KZ : Hid (w.heap.size <= w1.drew.heap.size) := kz
 clear hd2 hf2 hk2 kk kz
 go_wp2
 go_end0
 obtain ⟨hd2, hf2⟩ := H2.out
 exact ⟨cv', D.put i B, hd2, KK.out, fun y hy => (hf2 y hy).imp id (fun hx => Nat.le_trans KZ.out hx), rfl, rfl⟩
theorem Q2N (v a : Nat) (bv : Value) (n : Nat) (cv : Value) (D : Dv) (B : List UInt8) (i : Nat) (w : World) (hv : Vol w v a n) (h : DQ w a bv n cv D) (hi : i < n) (hn : n <= 1000) (hB : B.length = 128) (hq : D.q.length <= 1000000) (hb : D.bad = true) (hT : Tab w) :
  Calls prog 64 #[.pointer (some ⟨v, 0, none⟩), .int .i64 i, .agg (u8s B).toArray] w (WrR a bv n cv (fun D' e w' => D' = D.tick /\ Thr 6 e w') w) := by
 have m1 := Q2F
 have hla := Q00 h.d
 have k1 := (Kept.refl [] w).alloc (.cells (u8s B).toArray 80)
 have c1 : (w.alloc (.cells (u8s B).toArray 80)).cell? ⟨v, 0, none⟩ = some (.iface 23 (.pointer (some ⟨a, 0, none⟩))) := Q02 (k1.get hv (by simp)) rfl
 have h1 := h.k0 k1
 have hx := heap_alloc_new w (.cells (u8s B).toArray 80)
 have HD : Hid (DQ (w.alloc (.cells (u8s B).toArray 80)).drew a bv n cv D) := h1.k0 (Kept.refl _ _).drew
 generalize hw1 : w.alloc (.cells (u8s B).toArray 80) = w1 at *
 have HW : Hid (w.alloc (.cells (u8s B).toArray 80) = w1) := hw1
 clear hw1
 go_enter func64, ntmps64
 go_wp2
 rw [HW.out]
 go_region_with (go_at_call 172; refine (Q1C a bv n w.heap.size cv D B 80 i _ HD.out hi hB (by exact hx) (by omega) hq).mono ?_; rintro e w2 hw2; unfold Q1B at hw2; rw [hb] at hw2; simp only [if_true, eIO] at hw2; obtain ⟨rfl, hd2, hk2⟩ := hw2)
 have KK : Hid (Kept [a] w w2) := (((k1.trans (Kept.refl _ _).drew).mono (by simp)).trans hk2)
 have H2 : Hid (DQ w2 a bv n cv D.tick) := hd2
 have hT2 : Tab w2 := hT.kept KK.out (hT.dqa h)
 clear hd2 hk2
 go_wp2_with (first
  | (go_at_call 93; refine (Q2D hT2 i (by omega)).mono ?_; rintro e w3 ⟨s3, rfl, hs3, hk3⟩; have hs3' : ¬ 9223372036854775807 < 15 + s3.size := (by omega))
  | (go_at_call 46; refine (Q2I _ _ _).mono ?_; rintro e w4 ⟨ht, hk4⟩; obtain ⟨f, o, rfl, hf⟩ := ht.ex))
 refine ⟨rfl, cv, D.tick, (H2.out.k0 hk3).k0 hk4, (KK.out.trans ((hk3.trans hk4).mono (by simp))).mono (by intro y hy; simp at hy; subst hy; simp [Q10]), fun y hy => Or.inl hy, rfl, ht⟩
def Q2O (D : Dv) (i : Nat) (B : List UInt8) (D' : Dv) (e : Ending) (w' : World) : Prop := (Wn D i B D' /\ e = .returned (.tuple #[])) \/ (Er D D' /\ Thr 6 e w')
theorem Q2P (v a : Nat) (bv : Value) (n : Nat) (cv : Value) (D : Dv) (B : List UInt8) (i : Nat) (w : World) (hv : Vol w v a n) (h : DQ w a bv n cv D) (hi : i < n) (hn : n <= 1000) (hB : B.length = 128) (hq : D.q.length <= 1000000) (hT : Good D \/ Tab w) :
  Calls prog 64 #[.pointer (some ⟨v, 0, none⟩), .int .i64 i, .agg (u8s B).toArray] w (WrR a bv n cv (Q2O D i B) w) := by
 cases hb : D.bad with
 | false => exact (Q2M v a bv n cv D B i w hv h hi hB hq hb).mono fun e w' ⟨cv', D', h1, h2, h3, h4, h5⟩ => ⟨cv', D', h1, h2, h3, Or.inl ⟨by rw [h4]; exact Wn.put hb i B, h5⟩⟩
 | true => exact (Q2N v a bv n cv D B i w hv h hi hn hB hq hb (hT.resolve_left fun hg => by rw [hg.bad] at hb; cases hb)).mono fun e w' ⟨cv', D', h1, h2, h3, h4, h5⟩ => ⟨cv', D', h1, h2, h3, Or.inr ⟨by rw [h4]; exact Er.tick hb, h5⟩⟩
def SetP (D D' : Dv) (e : Ending) (w' : World) : Prop := (Fl D D' /\ e = .returned (.tuple #[])) \/ (Er D D' /\ Thr 6 e w')
theorem Q2Q (v a : Nat) (bv : Value) (n : Nat) (cv : Value) (D : Dv) (w : World) (hv : Vol w v a n) (h : DQ w a bv n cv D) (hn : n <= 1000) (hq : D.q.length <= 1000000) :
  Calls prog 35 #[.pointer (some ⟨v, 0, none⟩)] w (WrR a bv n cv (SetP D) w) := by
 have m1 := Q2G
 have c1 : w.cell? ⟨v, 0, none⟩ = some (.iface 23 (.pointer (some ⟨a, 0, none⟩))) := Q02 hv rfl
 cases hb : D.bad with
 | false =>
  go_enter func35, ntmps35
  go_wp2_with (go_at_call 170; refine (Q1J a bv n cv D w h hn hq).mono ?_; rintro e w2 hw2; unfold Q1I at hw2; rw [hb] at hw2; simp only [Bool.false_eq_true, if_false] at hw2; obtain ⟨rfl, hd2, hk2⟩ := hw2)
  go_end0
  exact ⟨_, _, hd2, hk2.mono (by intro y hy; rcases List.mem_cons.1 hy with rfl | hy; exact List.mem_cons_self; exact List.mem_cons_of_mem _ (List.mem_append_left _ hy)), (by intro y hy; cases hy), Or.inl ⟨Fl.flush hb, rfl⟩⟩
 | true =>
  go_enter func35, ntmps35
  go_wp2_with (first
   | (go_at_call 170; refine (Q1J a bv n cv D w h hn hq).mono ?_; rintro e w2 hw2; unfold Q1I at hw2; rw [hb] at hw2; simp only [if_true, eIO] at hw2; obtain ⟨rfl, hd2, hk2⟩ := hw2)
   | (go_at_call 46; refine (Q2I _ _ _).mono ?_; rintro e w4 ⟨ht, hk4⟩; obtain ⟨f, o, rfl, hf⟩ := ht.ex))
  exact ⟨rfl, cv, D.tick, hd2.k0 hk4, (hk2.trans (hk4.mono (by simp))).mono (by intro y hy; simp at hy; subst hy; simp [Q10]), fun y hy => Or.inl hy, Or.inr ⟨Er.tick hb, ht⟩⟩
theorem Q2R (p : Addr) (w : World) :
  CallsD prog 119 #[.pointer (some p)] .returning w fun e u' w' => e = .returned (.tuple #[]) /\ u' = .returning /\ w' = w := by
 refine callsD_of_wpS func119 rfl fun c₀ cs hu => ?_
 apply wpS_seq
 apply wpS_region
 simp [wpOpsS, go_sem, recoverD, hu, ntmps119, Exit.thenS]
 refine wpS_cond (t := false) (by simp [Act.eval, Array.replicate]) ?_
 simp only [Bool.false_eq_true, if_false]
 refine wpS_of_wp (wp_skip ?_)
 cases c₀
 simp_all [bodyPostS, results, Tryz.results119]
theorem Q2S (fn : Fn) (first cap : Array Value) (w : World) : (Instr.makeFunc fn first cap).run prog w = .ok (.func fn first cap) w := rfl
theorem Q2T (a n cap : Nat) (ao : Option Addr) (cache : Value) (D : Dv) (w : World) (h : DC w a (.slice ao n cap) cache D) :
  Calls prog 97 #[.iface 23 (.pointer (some ⟨a, 0, none⟩))] w fun e w' => e = .returned (.int .i64 n) /\ Kept [] w w' := by
 have hmf := Q2S
 have m1 := Q2H
 have k1 := (Kept.refl [] w).alloc (.cells #[.int .i64 0] 3)
 have h1 : DC _ a (.slice ao n cap) cache D := k1.get h (by simp)
 go_enter_defers func97, ntmps97
 go_wp2_with (go_at_call 23; refine (Q0I a ao n cap cache D _ h1).mono ?_; rintro e w' ⟨rfl, rfl⟩)
 refine leaves_cons (f := 119) (args := #[.pointer (some ⟨w.heap.size, 0, none⟩)]) (by simp) (by simp [go_sem]) ?_
 refine (Q2R ⟨w.heap.size, 0, none⟩ _).mono ?_
 rintro e u' w'' ⟨rfl, rfl, rfl⟩
 simp [Leaves, settle, results, Tryz.results97, go_sem]
 exact (Kept.refl _ _).alloc _
def Q2U (x : Int) (w : World) (e : Ending) (w' : World) : Prop :=
 ∃ f o, e = .panicked [{ v := .iface 143 (.agg #[.iface 98 (.pointer (some ⟨f, 0, none⟩))]), recovered := false }] /\
  w'.heap[f]? = some (.cells #[o, .iface 44 (.int .i64 x)] 101 (0, 0)) /\ Kept [] w w'
theorem Q2V (o : ByteArray) (x : Int) (w : World) : Calls prog 46 #[.string o, .int .i64 x] w (Q2U x w) := by
 go_enter func46, ntmps46
 go_wp2
 exact ⟨rfl, w.heap.size, .string o, rfl, heap_alloc_new _ _, (Kept.refl _ _).alloc _⟩
def Q2W (a n : Nat) (w : World) (e : Ending) (w' : World) : Prop := ∃ v, e = .returned (.pointer (some ⟨v, 0, none⟩)) /\ Vol w' v a n /\ w.heap.size <= v /\ Kept [] w w'
theorem Q2X (a n cap : Nat) (ao : Option Addr) (cache : Value) (D : Dv) (w : World) (h : DC w a (.slice ao n cap) cache D) (h8 : 8 <= n) (h4 : n <= 400) :
  Calls prog 69 #[.iface 23 (.pointer (some ⟨a, 0, none⟩))] w (Q2W a n w) := by
 have g8 : ¬ (n : Int) < 8 := by omega
 have g4 : ¬ (400 : Int) < n := by omega
 go_enter func69, ntmps69
 go_wp2_with (go_at_call 97; refine (Q2T a n cap ao cache D _ h).mono ?_; rintro e w1 ⟨rfl, k1⟩)
 go_ret
 exact ⟨_, rfl, heap_alloc_new _ _, k1.size, k1.alloc _⟩
end Go.Proofs.YtcklgafpgdhnaabGreatDoor
namespace Go.Proofs.YtcklgafpgdhnaabGreatDoor
open Go.RowKit Go.Extern.Stop Go.Stop Go.Extern
structure Q2Y (w : World) (err : Value) (x : Int) : Prop where
 ex : ∃ f1 f2 o1 o2, err = .iface 98 (.pointer (some ⟨f1, 0, none⟩)) /\ w.heap[f1]? = some (.cells #[o1, .iface 98 (.pointer (some ⟨f2, 0, none⟩))] 101 (0, 0)) /\
  w.heap[f2]? = some (.cells #[o2, .iface 44 (.int .i64 x)] 101 (0, 0))
end Go.Proofs.YtcklgafpgdhnaabGreatDoor
namespace Go.Proofs.YtcklgafpgdhnaabGreatDoor
open Go.RowKit
theorem Q2Z (v : Value) (w : World) : (Instr.typeAssert (.iface 143 v) 20 143 true).run prog w = .ok (.tuple #[v, .bool true]) w := by kernel_rfl
set_option maxRecDepth 10000 in
theorem Q30 (f : Addr) (w : World) : Calls prog 56 #[.iface 143 (.agg #[.iface 98 (.pointer (some f))])] w fun e w' => e = .returned (.iface 98 (.pointer (some f))) /\ Kept [] w w' := by
 have aT := Q2Z
 go_enter func56, ntmps56
 go_wp2
 go_ret
 exact ⟨rfl, (Kept.refl _ _).alloc _⟩
theorem Q31 (p q : Addr) (w : World) :
  CallsD prog 55 #[.pointer (some p), .pointer (some q)] .returning w fun e u' w' => e = .returned (.tuple #[]) /\ u' = .returning /\ w' = w := by
 refine callsD_of_wpS func55 rfl fun c₀ cs hu => ?_
 apply wpS_seq
 apply wpS_region
 simp [wpOpsS, go_sem, recoverD, hu, ntmps55, Exit.thenS]
 rw [show #[Value.pointer (some p), Value.pointer (some q)] ++ ((Array.replicate 10 undef).setIfInBounds 1 Value.nilIface).setIfInBounds 0 Value.nilIface = #[.pointer (some p), .pointer (some q), .nilIface, .nilIface, undef, undef, undef, undef, undef, undef, undef, undef] from rfl]
 refine wpS_of_wp ?_
 go_wp2
 cases c₀
 simp_all [bodyPostS, results, Tryz.results55]
def Q32 (x : Int) (q : Nat) (w w' : World) : Prop := ∃ err, w'.heap[q]? = some (.cells #[err] 35 (0, 0)) /\ Q2Y w' err x /\ Kept [q] w w'
theorem Q33 {w w2 : World} {q f : Nat} {o old : Value} {x : Int} {b : ByteArray} (hk2 : Kept [] w.drew w2) (hq2 : w2.heap[q]? = some (.cells #[old] 35 (0, 0)))
  (hf : w.heap[f]? = some (.cells #[o, .iface 44 (.int .i64 x)] 101 (0, 0))) :
  Q32 x q w ((w2.setCell ⟨q, 0, none⟩ (.iface 98 (.pointer (some ⟨w2.heap.size, 0, none⟩)))).alloc (.cells #[.string b, .iface 98 (.pointer (some ⟨f, 0, none⟩))] 101)) := by
 have kd : Kept [] w w.drew := (Kept.refl _ _).drew
 have hf2 := hk2.get (w := w.drew) hf (by simp)
 have nqf : q ≠ f := Q01 hq2 hf2 (by decide)
 have k1 : Kept [q] w2 (w2.setCell ⟨q, 0, none⟩ (.iface 98 (.pointer (some ⟨w2.heap.size, 0, none⟩)))) := (Kept.refl _ _).setCell (Or.inl (by simp)) _
 have h1 := Q03 (i := 0) (.iface 98 (.pointer (some ⟨w2.heap.size, 0, none⟩))) hq2
 have k2 := (Kept.refl [] (w2.setCell ⟨q, 0, none⟩ (.iface 98 (.pointer (some ⟨w2.heap.size, 0, none⟩))))).alloc (.cells #[.string b, .iface 98 (.pointer (some ⟨f, 0, none⟩))] 101)
 refine ⟨.iface 98 (.pointer (some ⟨w2.heap.size, 0, none⟩)), k2.get h1 (by simp), ⟨w2.heap.size, f, .string b, o, rfl, ?_, k2.get (k1.get hf2 (by simpa using nqf.symm)) (by simp)⟩, ?_⟩
 ·have := heap_alloc_new (w2.setCell ⟨q, 0, none⟩ (.iface 98 (.pointer (some ⟨w2.heap.size, 0, none⟩)))) (.cells #[.string b, .iface 98 (.pointer (some ⟨f, 0, none⟩))] 101)
  rwa [show (w2.setCell ⟨q, 0, none⟩ (.iface 98 (.pointer (some ⟨w2.heap.size, 0, none⟩)))).heap.size = w2.heap.size by simp] at this
 ·exact (((kd.trans hk2).mono (by simp)).trans k1).trans2 k2 (by simp)
theorem Q34 (p q f : Nat) (o s old : Value) (x : Int) (w : World) (hp : w.heap[p]? = some (.cells #[s] 9 (0, 0))) (hs : ∃ b, s = .string b) (hq : w.heap[q]? = some (.cells #[old] 35 (0, 0)))
  (hf : w.heap[f]? = some (.cells #[o, .iface 44 (.int .i64 x)] 101 (0, 0))) :
  CallsD prog 55 #[.pointer (some ⟨p, 0, none⟩), .pointer (some ⟨q, 0, none⟩)] (.panicking [{ v := .iface 143 (.agg #[.iface 98 (.pointer (some ⟨f, 0, none⟩))]), recovered := false }]) w
   fun e u' w' => e = .returned (.tuple #[]) /\ u' = .panicking [{ v := .iface 143 (.agg #[.iface 98 (.pointer (some ⟨f, 0, none⟩))]), recovered := true }] /\ Q32 x q w w' := by
 obtain ⟨b, rfl⟩ := hs
 refine callsD_of_wpS func55 rfl fun c₀ cs hu => ?_
 apply wpS_seq
 apply wpS_region
 simp [wpOpsS, go_sem, recoverD, hu, ntmps55, Exit.thenS]
 rw [show #[Value.pointer (some ⟨p, 0, none⟩), Value.pointer (some ⟨q, 0, none⟩)] ++ ((Array.replicate 10 undef).setIfInBounds 1 (Value.iface 143 (.agg #[.iface 98 (.pointer (some ⟨f, 0, none⟩))]))).setIfInBounds 0 (Value.iface 143 (.agg #[.iface 98 (.pointer (some ⟨f, 0, none⟩))])) = #[.pointer (some ⟨p, 0, none⟩), .pointer (some ⟨q, 0, none⟩), .iface 143 (.agg #[.iface 98 (.pointer (some ⟨f, 0, none⟩))]), .iface 143 (.agg #[.iface 98 (.pointer (some ⟨f, 0, none⟩))]), undef, undef, undef, undef, undef, undef, undef, undef] from rfl]
 refine wpS_of_wp ?_
 have cp : w.cell? ⟨p, 0, none⟩ = some (.string b) := Q02 hp rfl
 go_wp2
 go_region_with (go_at_call 56; refine (Q30 _ _).mono ?_; rintro e w2 ⟨rfl, hk2⟩; have cp2 : w2.cell? ⟨p, 0, none⟩ = some (.string b) := Q02 (hk2.get (w := w.drew) hp (by simp)) rfl; have hq2 := hk2.get (w := w.drew) hq (by simp); have cq2 : w2.cell? ⟨q, 0, none⟩ = some old := Q02 hq2 rfl; have fq2 : w2.frozen? ⟨q, 0, none⟩ = false := frozen_of_row _ _ _ _ _ hq2; have lq2 := Q00 hq2)
 all_goals exact ⟨rfl, _, rfl, .tuple #[], results_none rfl _ _ _, rfl, rfl, Q33 hk2 hq2 hf⟩
def Ends (S : List Nat) (R : World -> Prop) (W : World) (e : Ending) (W' : World) : Prop := e = .returned (.tuple #[]) /\ R W' /\ Kept S W W'
def Q35 (x : Int) (S : List Nat) (R : World -> Prop) (W : World) (e : Ending) (W' : World) : Prop :=
 ∃ f o, e = .panicked [{ v := .iface 143 (.agg #[.iface 98 (.pointer (some ⟨f, 0, none⟩))]), recovered := false }] /\
  W'.heap[f]? = some (.cells #[o, .iface 44 (.int .i64 x)] 101 (0, 0)) /\ R W' /\ Kept S W W'
theorem Q36 (b : ByteArray) (fid : FuncId) (caps : Array Value) (he : ∀ (args : Array Value) (W : World), (callFunc fid args).run prog W = .ok (.enter fid args) W)  (S : List Nat) (R : World -> Prop) (w : World) (hS : ∀ x ∈ S, x < w.heap.size)
  (hR : ∀ W W' T, R W -> Kept T W W' -> (∀ x ∈ T, w.heap.size <= x /\ x < w.heap.size + 2 /\ ∃ cs fr, W.heap[x]? = some (.cells cs 35 fr)) -> R W')
  (hw : ∀ W, Kept [] w W -> W.heap.size = w.heap.size + 2 -> Calls prog fid caps W (Ends S R W)) :
  Calls prog 32 #[.string b, .func (.func fid) #[] caps] w fun e w' => e = .returned .nilIface /\ R w' /\ Kept S w w' := by
 have hmf := Q2S
 have k1 := ((Kept.refl [] w).alloc (.cells #[.string b] 9)).alloc (.cells #[.nilIface] 35)
 have hE1 : ((w.alloc (.cells #[.string b] 9)).alloc (.cells #[.nilIface] 35)).heap[w.heap.size + 1]? = some (.cells #[.nilIface] 35 (0, 0)) := by
  have := heap_alloc_new (w.alloc (.cells #[.string b] 9)) (.cells #[.nilIface] 35)
  rwa [World.size_alloc] at this
 have hw1 := hw _ k1 (by simp)
 have HW : Hid (Calls _ _ _ _ _) := hw1
 have HR : Hid (∀ W W' T, R W -> Kept T W W' -> (∀ x ∈ T, w.heap.size <= x /\ x < w.heap.size + 2 /\ ∃ cs fr, W.heap[x]? = some (.cells cs 35 fr)) -> R W') := hR
 have HS : Hid (∀ x ∈ S, x < w.heap.size) := hS
 clear hw hw1 hR hS
 go_enter_defers func32, ntmps32
 go_wp2_with fail
 refine HW.out.mono ?_
 rintro e W ⟨rfl, hRW, hkW⟩
 have HRW : Hid (R W) := hRW
 have hE2 := hkW.get hE1 (fun hx => by have := HS.out _ hx; omega)
 have c2 : W.cell? ⟨w.heap.size + 1, 0, none⟩ = some .nilIface := Q02 hE2 rfl
 have f2 : W.frozen? ⟨w.heap.size + 1, 0, none⟩ = false := frozen_of_row _ _ _ _ _ hE2
 have k3 : Kept [w.heap.size + 1] W (W.setCell ⟨w.heap.size + 1, 0, none⟩ .nilIface) := (Kept.refl _ _).setCell (Or.inl (by simp)) _
 have hk13 : Kept S w (W.setCell ⟨w.heap.size + 1, 0, none⟩ .nilIface) := ((k1.mono (by simp)).trans hkW).trans2 k3 (by intro x hx; simp at hx; subst hx; exact Or.inr (by omega))
 have hR3 : R (W.setCell ⟨w.heap.size + 1, 0, none⟩ .nilIface) := HR.out _ _ _ HRW.out k3 (by intro x hx; simp at hx; subst hx; exact ⟨by omega, by omega, _, _, hE2⟩)
 have HR3 : Hid (R (W.setCell ⟨w.heap.size + 1, 0, none⟩ .nilIface)) := hR3
 have c3 : (W.setCell ⟨w.heap.size + 1, 0, none⟩ .nilIface).cell? ⟨w.heap.size + 1, 0, none⟩ = some .nilIface := Q02 (Q03 (i := 0) .nilIface hE2) rfl
 clear hRW hR3 hE1 hE2 k1
 go_wp2
 refine leaves_cons (f := 55) (args := #[.pointer (some ⟨w.heap.size, 0, none⟩), .pointer (some ⟨w.heap.size + 1, 0, none⟩)]) (by simp) (by simp [go_sem]) ?_
 refine (Q31 ⟨w.heap.size, 0, none⟩ ⟨w.heap.size + 1, 0, none⟩ _).mono ?_
 rintro e u' w'' ⟨rfl, rfl, rfl⟩
 simp [Leaves, settle, results, Tryz.results32, go_sem, c3]
 exact ⟨HR3.out, hk13⟩
end Go.Proofs.YtcklgafpgdhnaabGreatDoor
