import Derived.Test.YtcklgafpgdhnaaaGreatDoorPsac
import Derived.Deep.RegionWith
import Derived.Lib.BufferWrite
import Derived.Test.YtcklgafpgdhnaaaGreatDoorPsaa
import Derived.Defers
import Derived.Recover
import Derived.Laws.Pointers
import Derived.Laws.AppendOwnNone
import Derived.Laws.ResultCell
import Derived.BigRegion
import Derived.LaidEql
import Derived.Stop.Asserts
import Derived.RowKitTokens
set_option maxRecDepth 100000
set_option maxHeartbeats 4000000
open Go.Proofs.Tryz
namespace Go.Proofs.YtcklgafpgdhnaaaGreatDoor
open Go.RowKit
theorem Q2f {P : Program} {ops : Array Oper} {rest : List Oper} {o : Oper} {a : Act} {w : World} {Q : Exit -> Act -> World -> Prop} (hgd : o.guard = none) (d : Tmp) (_hd : o.dst = some d) (t : TypeId) (ho : o.op = .alloc t) (cs : Array Value)
  (hz : (Instr.alloc t true (.tuple #[])).run P w = .ok (.pointer (some ⟨w.heap.size, 0, none⟩)) (w.alloc (.cells cs t)))
  (h : ∀ w', w'.heap[w.heap.size]? = some (.cells cs t (0, 0)) -> Kept [] w w' -> w'.heap.size = w.heap.size + 1 -> wpList P ops Q rest (a.put o.dst (.pointer (some ⟨w.heap.size, 0, none⟩))) w') : wpList P ops Q (o :: rest) a w :=
 Q0b hgd t ho cs hz h
theorem Q2g {P : Program} {w : World} {o : Oper} {a : Act} {K : Act -> World -> Prop} {Q : Exit -> Act -> World -> Prop} {ty : TypeId} (dT sT : TypeId) (elem : TypeId) (hu : P.underlying dT = some (.slice elem)) (hsz : (P.info? elem).map (·.size) = some 1)
  (g off dLen dCap : Nat) (S : List UInt8) (cur : List UInt8) (t : TypeId) (hg : w.heap[g]? = some (.cells (u8s cur).toArray t (0, 0))) (hle : S.length <= dLen) (hfit : off + S.length <= cur.length)
  (h : ∀ w', w'.heap[g]? = some (.cells (u8s (splice cur off S)).toArray t (0, 0)) -> Kept [g] w w' -> K (a.put o.dst (goInt S.length)) w') :
  Oper.upon P o a K Q ((Sem.run P (Builtin.copy_ #[dT, sT] ty #[.slice (some ⟨g, off, none⟩) dLen dCap, .string ⟨S.toArray⟩]) w).andThen fun a w' => Result.ok (Next.value a) w') := by
 have hss : (ByteArray.mk S.toArray).size = S.length := rfl
 rw [Lib.run_copy_row_string (P := P) w dT sT ty elem g off dLen dCap ⟨S.toArray⟩ (u8s cur).toArray t hu hsz hg (by rw [hss]; exact hle) (by rw [hss]; simpa [Q08] using hfit)]
 refine h _ ?_ ((Kept.refl _ _).setRow (Or.inl (by simp)) _)
 rw [setRow_heap w g _ _ t _ hg, <- Q1D]
 simp [splice, hss, Lib.byteCells, u8s]
theorem zsec (w : World) : (Instr.alloc 175 true (.tuple #[])).run prog w = .ok (.pointer (some ⟨w.heap.size, 0, none⟩)) (w.alloc (.cells (u8s (List.replicate 32 0)).toArray 175)) := by kernel_rfl
theorem ssec : (prog.info? 175).map (·.size) = some 32 := by kernel_rfl
def Q2h : List UInt8 := [115, 116, 111, 114, 101, 32, 49, 10]
def sec0 : List UInt8 := splice (List.replicate 32 0) 0 Q2h
def sec1 (t : Nat) : List UInt8 := splice sec0 8 (Q22 t 8)
def sec2 (t r : Nat) : List UInt8 := splice (sec1 t) 16 (Q22 r 2)
def Q2i (B : List UInt8) : List UInt8 := splice B (B.length - 4) (Q22 (crc (B.take (B.length - 4))) 4)
def sec (t r : Nat) : List UInt8 := Q2i (sec2 t r)
theorem Q2j (n k : Nat) : (Q22 n k).length = k := by simp [Q22]
theorem Q2k : sec0.length = 32 := by decide
theorem Q2l (t : Nat) : (sec1 t).length = 32 := by rw [sec1, length_splice _ _ _ (by rw [Q2j, Q2k]; omega), Q2k]
theorem Q2m (t r : Nat) : (sec2 t r).length = 32 := by rw [sec2, length_splice _ _ _ (by rw [Q2j, Q2l]; omega), Q2l]
theorem Q2n (B : List UInt8) (h : 4 <= B.length) : (Q2i B).length = B.length := by rw [Q2i, length_splice _ _ _ (by rw [Q2j]; omega)]
theorem Q2o (t r : Nat) : (sec t r).length = 32 := by rw [sec, Q2n _ (by rw [Q2m]; omega), Q2m]
theorem Q2p (L : List UInt8) (off : Nat) (n : Nat) : ∀ j (hj : j < ((L.drop off).take n).length), (u8s L).toArray[off + j]? = some (.int .u8 (((L.drop off).take n)[j].toNat : Int)) := by
 intro j hj
 simp only [List.getElem?_toArray, Q0a]
 have h1 : j < n := by simp at hj; omega
 have h2 : off + j < L.length := by simp at hj; omega
 rw [List.getElem?_eq_getElem h2]
 simp
theorem Q2q (s off cap n m : Nat) (D : List UInt8) (t' : TypeId) (fr : Nat × Nat) (w : World) (h : w.heap[s]? = some (.cells (u8s D).toArray t' fr)) (hm : ((D.drop off).take m).length = n) (hn : n <= 1000) :
  Calls prog 172 #[.slice (some ⟨s, off, none⟩) n cap] w fun e w' => e = .returned (.int .u32 (crc ((D.drop off).take m))) /\ w' = w := by
 subst hm
 exact Q2a s off cap _ _ t' fr w h hn (Q2p D off m)
theorem Q2r (s off cap n m : Nat) (D : List UInt8) (t' : TypeId) (fr : Nat × Nat) (w : World) (h : w.heap[s]? = some (.cells (u8s D).toArray t' fr)) (hm : ((D.drop off).take m).length = n) (hn : n <= 8) :
  Calls prog 154 #[.slice (some ⟨s, off, none⟩) n cap] w fun e w' => e = .returned (.int .u64 (Q1V ((D.drop off).take m))) /\ w' = w := by
 subst hm
 exact Q1Z s off cap _ _ t' fr w h hn (Q2p D off m)
theorem Q2s (s : Nat) (B : List UInt8) (t' : TypeId) (w : World) (h : w.heap[s]? = some (.cells (u8s B).toArray t' (0, 0))) (h4 : 4 <= B.length) (hn : B.length <= 1000) :
  Calls prog 152 #[.slice (some ⟨s, 0, none⟩) B.length B.length] w fun e w' => e = .returned (.tuple #[]) /\ w'.heap[s]? = some (.cells (u8s (Q2i B)).toArray t' (0, 0)) /\ Kept [s] w w' := by
 obtain ⟨m, hm⟩ : ∃ m, B.length = m + 4 := ⟨B.length - 4, by omega⟩
 have hcr := (Q29 (B.take m)).2
 have HSM : Hid (∀ W : World, W.heap[s]? = some (.cells (u8s B).toArray t' (0, 0)) -> Calls prog 172 #[.slice (some ⟨s, 0, none⟩) m (m + 4)] W fun e w' => e = .returned (.int .u32 (crc (B.take m))) /\ w' = W) := by
  intro W hW
  have := Q2q s 0 (m + 4) m m B t' (0, 0) W hW (by rw [List.drop_zero, List.length_take]; omega) (by omega)
  rw [List.drop_zero] at this
  exact this
 have HE : Hid (splice B m (Q22 (crc (B.take m)) 4) = Q2i B) := by
  show _ = _
  rw [Q2i, hm]; rfl
 generalize hcc : crc (B.take m) = cc at *
 clear hcc
 have HW : Hid (IntKind.u64.wrap (cc : Int) = cc) := by show _ = _; rw [IntKind.wrap_u64]; omega
 have HP : Hid (∀ W : World, W.heap[s]? = some (.cells (u8s B).toArray t' (0, 0)) -> Calls prog 151 #[.slice (some ⟨s, m, none⟩) 4 4, .int .u64 cc] W fun e w' => e = .returned (.tuple #[]) /\
   w'.heap[s]? = some (.cells (u8s (splice B m (Q22 cc 4))).toArray t' (0, 0)) /\ Kept [s] W w') := by
  intro W hW
  exact Q24 s m 4 4 B cc t' W hW (by omega) (by omega) (by omega)
 rw [hm]
 have hl63 : m + 4 <= 1000 := by omega
 clear hm hn h4 hcr
 go_enter func152, ntmps152
 go_wp2
 go_region_with (first
  | (go_at_call 172; refine (HSM.out _ (by exact h)).mono ?_; rintro e w' ⟨rfl, rfl⟩)
  | (go_at_call 151; rw [HW.out]; refine (HP.out _ (by exact h)).mono ?_; rintro e w6 ⟨rfl, hn6, hk6⟩))
 all_goals
  rw [HE.out] at hn6
  go_end0
  exact ⟨rfl, hn6, (Kept.refl [s] w).drew.trans hk6⟩
structure Tab (w : World) : Prop where
 row : ∃ cs fr, w.heap[2]? = some (.cells cs 267 fr)
 ito : ∀ W : World, W.heap[2]? = w.heap[2]? -> ∀ i : Nat, i < 70000 -> Calls prog 115 #[.int .i64 i] W fun e w' => ∃ s, e = .returned (.string s) /\ s.size <= 1000 /\ Kept [] W w'
theorem Tab.lt {w : World} (h : Tab w) : 2 < w.heap.size := by
 obtain ⟨cs, fr, hh⟩ := h.row
 exact Q00 hh
theorem Tab.kept {S : List Nat} {w w' : World} (h : Tab w) (k : Kept S w w') (hS : 2 ∉ S) : Tab w' := by
 have e := k.block 2 h.lt hS
 obtain ⟨cs, fr, hh⟩ := h.row
 exact ⟨⟨cs, fr, by rw [e]; exact hh⟩, fun W hW => h.ito W (by rw [hW, e])⟩
theorem Tab.k {w w' : World} (h : Tab w) (k : Kept [] w w') : Tab w' := h.kept k (by simp)
theorem Q2t {w : World} (hT : Tab w) (i : Nat) (hi : i < 70000) : Calls prog 115 #[.int .i64 i] w fun e w' => ∃ s, e = .returned (.string s) /\ s.size <= 1000 /\ Kept [] w w' := hT.ito w rfl i hi
theorem Tab.ne {w : World} (h : Tab w) {y : Nat} {cs : Array Value} {t : TypeId} {fr : Nat × Nat} (hy : w.heap[y]? = some (.cells cs t fr)) (ht : t ≠ 267) : 2 ≠ y := by
 obtain ⟨cs', fr', hh⟩ := h.row
 exact Q01 hh hy ht.symm
theorem Q2u (a : Addr) (w : World) : (Go.method 433 26 (.pointer (some a)) "Read").run prog w = .ok (222, .pointer (some a)) w := by kernel_rfl
theorem Q2v (a : Addr) (w : World) : (Go.method 433 26 (.pointer (some a)) "Write").run prog w = .ok (223, .pointer (some a)) w := by kernel_rfl
theorem Q2w (a : Addr) (w : World) : (Go.method 433 26 (.pointer (some a)) "Flush").run prog w = .ok (221, .pointer (some a)) w := by kernel_rfl
theorem Q2x (a : Addr) (w : World) : (Go.method 433 26 (.pointer (some a)) "Blocks").run prog w = .ok (220, .pointer (some a)) w := by kernel_rfl
theorem zblk (w : World) : (Instr.alloc 92 true (.tuple #[])).run prog w = .ok (.pointer (some ⟨w.heap.size, 0, none⟩)) (w.alloc (.cells (u8s (List.replicate 128 0)).toArray 92)) := by kernel_rfl
def Vol (w : World) (v a n : Nat) : Prop := w.heap[v]? = some (.cells #[.iface 26 (.pointer (some ⟨a, 0, none⟩)), .int .i64 n] 128 (0, 0))
def Thr (x : Int) (e : Ending) (w' : World) : Prop :=
 ∃ f o, e = .panicked [{ v := .iface 147 (.agg #[.iface 111 (.pointer (some ⟨f, 0, none⟩))]), recovered := false }] /\
  w'.heap[f]? = some (.cells #[o, .iface 100 (.int .i64 x)] 114 (0, 0))
theorem Q2y (o : ByteArray) (x : Int) (w : World) : Calls prog 62 #[.string o, .int .i64 x] w fun e w' => Thr x e w' /\ Kept [] w w' := by
 go_enter func62, ntmps62
 go_wp2
 exact ⟨rfl, ⟨w.heap.size, .string o, rfl, heap_alloc_new _ _⟩, (Kept.refl _ _).alloc _⟩
theorem Thr.ex {x : Int} {e : Ending} {w' : World} (h : Thr x e w') : ∃ f o, e = .panicked [{ v := .iface 147 (.agg #[.iface 111 (.pointer (some ⟨f, 0, none⟩))]), recovered := false }] /\
  w'.heap[f]? = some (.cells #[o, .iface 100 (.int .i64 x)] 114 (0, 0)) := h
def RdR (a : Nat) (bv : Value) (n : Nat) (cv : Value) (D : Dv) (P : Ending -> World -> Prop) (w : World) (e : Ending) (w' : World) : Prop :=
 ∃ D', DQ w' a bv n cv D' /\ Kept [a] w w' /\ ((Qt D D' /\ P e w') \/ (Er D D' /\ Thr 6 e w'))
def WrR (a : Nat) (bv : Value) (n : Nat) (cv : Value) (P : Dv -> Ending -> World -> Prop) (w : World) (e : Ending) (w' : World) : Prop :=
 ∃ cv' D', DQ w' a bv n cv' D' /\ Kept (Q0Z a bv cv) w w' /\ (∀ y, cv'.ownBlock = some y -> cv.ownBlock = some y \/ w.heap.size <= y) /\ P D' e w'
theorem DQ.no {w : World} {a : Nat} {bv : Value} {n : Nat} {cv : Value} {D : Dv} (h : DQ w a bv n cv D) {y : Nat} {cs : Array Value} {t : TypeId} {fr : Nat × Nat} (hy : w.heap[y]? = some (.cells cs t fr)) (ht : t ∉ [91, 92, 94]) : y ∉ Q0Z a bv cv := by
 simp only [List.mem_cons, List.not_mem_nil, or_false, not_or] at ht
 intro hx
 rcases List.mem_cons.1 hx with rfl | hx
 ·exact Q01 hy h.d ht.1 rfl
 rcases List.mem_append.1 hx with hx | hx
 ·obtain ⟨cs', fr', hh⟩ := Q0S h.b (by simpa using hx)
  exact Q01 hy hh ht.2.1 rfl
 ·obtain ⟨cs', fr', hh⟩ := Q0S h.o (by simpa using hx)
  exact Q01 hy hh ht.2.2 rfl
theorem DQ.ge {w : World} {a : Nat} {bv : Value} {n : Nat} {cv : Value} {D : Dv} (h : DQ w a bv n cv D) {y : Nat} (hy : w.heap.size <= y) : y ∉ Q0Z a bv cv := fun hx => by have := h.lt y hx; omega
theorem DQ.k1 {w w' : World} {a : Nat} {bv : Value} {n : Nat} {cv : Value} {D : Dv} {y : Nat} (h : DQ w a bv n cv D) (k : Kept [y] w w') (hy : y ∉ Q0Z a bv cv) : DQ w' a bv n cv D := h.kept k (by intro x hx hm; simp at hm; subst hm; exact hy hx)
theorem Tab.dq {w : World} {a : Nat} {bv : Value} {n : Nat} {cv : Value} {D : Dv} (hT : Tab w) (h : DQ w a bv n cv D) : 2 ∉ Q0Z a bv cv := by
 obtain ⟨cs, fr, hh⟩ := hT.row
 exact h.no hh (by decide)
theorem Tab.dqa {w : World} {a : Nat} {bv : Value} {n : Nat} {cv : Value} {D : Dv} (hT : Tab w) (h : DQ w a bv n cv D) : 2 ∉ [a] := by
 have := hT.dq h
 simp only [Q0Z, List.mem_cons, not_or] at this
 simpa using this.1
theorem Q2z (v a : Nat) (bv : Value) (n : Nat) (cv : Value) (D : Dv) (i : Nat) (w : World) (hv : Vol w v a n) (h : DQ w a bv n cv D) (hi : i < n) (hn : n <= 1000) (hq : D.q.length <= 1000000) (hb : D.bad = false) :
  Calls prog 124 #[.pointer (some ⟨v, 0, none⟩), .int .i64 i] w fun e w' => e = .returned (.agg (u8s (D.view i)).toArray) /\ DQ w' a bv n cv D.tick /\ Kept [a] w w' := by
 have m1 := Q2u
 have nva : v ≠ a := Q01 hv h.d (by decide)
 have hlv := Q00 hv
 have hla := Q00 h.d
 have hlb : (D.view i).length = 128 := Q13 (Q11 D.L n i h.l hi) h.q
 go_enter func124, ntmps124
 go_wp2_with (first
  | (refine Q2f rfl 4 rfl 92 rfl _ (zblk _) ?_; intro w1 hn1 hk1 hs1; have HS1 : Hid _ := hs1; clear hs1; have c1 : w1.cell? ⟨v, 0, none⟩ = some (.iface 26 (.pointer (some ⟨a, 0, none⟩))) := Q02 (hk1.get hv (by simp)) rfl)
  | (go_at_call 222; refine (Q19 a bv n cv D i w1 (h.k0 hk1) hi hn hq).mono ?_; rintro e w2 ⟨hd2, hk2, hr⟩; rw [hb] at hr; simp only [Bool.false_eq_true, if_false] at hr; obtain ⟨r, rfl, hr2, hrs2⟩ := hr)
  | (refine Q2f rfl 7 rfl 92 rfl _ (zblk _) ?_; intro w3 hn3 hk3 hs3; have HS3 : Hid _ := hs3; clear hs3; have hr3 := hk3.get hr2 (by simp))
  | (refine Q0d 60 60 5 underlying60 su8 w2.heap.size 0 128 128 ⟨r, 0, none⟩ 128 128 (u8s (List.replicate 128 0)) 92 hn3 (u8s (D.view i)) (by rw [Q08, hlb]; exact (Nat.min_self 128).symm) (Q16 hr3) (by rw [Q08, Q08, hlb, List.length_replicate]; omega) (Q09 _) ?_; intro w4 hg4 hk4; rw [Q0e _ _ (by rw [Q08, Q08, hlb, List.length_replicate])] at hg4)
  | (refine wpList_load_row rfl 92 (.tmp 7) rfl w2.heap.size rfl 92 (u8s (D.view i)).toArray (0, 0) _ hg4 underlying92 rfl (by rw [sblk]; simp [Q08, hlb]) ?_)
  | (refine Q0c rfl 92 (.tmp 4) (.tmp 26) rfl w.heap.size (u8s (D.view i)).toArray rfl rfl 92 _ (hk4.get (hk3.get (hk2.get hn1 (by simp; omega)) (by simp)) (by have := hk2.size; have := Q00 hn1; simp; omega)) (by rw [sblk]; simp [Q08, hlb]) (by simp [Q08, hlb]) (Q0M (Q09 _)) ?_; intro w5 hg5 hk5))
 refine bodyPost_ret (results_cell_row rfl _ w5 w.heap.size 92 _ (0, 0) _ rfl hg5 underlying92 rfl (by rw [sblk]; simp [Q08, hlb])) rfl ?_
 have hz1 := HS1.out
 have hz2 := hk2.size
 have hd3 := hd2.k0 hk3
 have hd4 := hd3.k1 hk4 (hd2.ge (Nat.le_refl _))
 have hd5 := hd4.k1 hk5 (h.ge (Nat.le_refl _))
 refine ⟨rfl, hd5, ?_⟩
 refine Kept.trans2 (Kept.trans2 (Kept.trans2 (Kept.trans2 (hk1.mono (by simp)) hk2 (by simp)) hk3 (by simp)) hk4 ?_) hk5 ?_
 ·intro x hx; simp at hx; subst hx; exact Or.inr (by omega)
 ·intro x hx; simp at hx; subst hx; exact Or.inr (Nat.le_refl _)
theorem Q2A (v a : Nat) (bv : Value) (n : Nat) (cv : Value) (D : Dv) (i : Nat) (w : World) (hv : Vol w v a n) (h : DQ w a bv n cv D) (hi : i < n) (hn : n <= 1000) (hq : D.q.length <= 1000000) (hb : D.bad = true) (hT : Tab w) :
  Calls prog 124 #[.pointer (some ⟨v, 0, none⟩), .int .i64 i] w fun e w' => Thr 6 e w' /\ DQ w' a bv n cv D.tick /\ Kept [a] w w' := by
 have m1 := Q2u
 go_enter func124, ntmps124
 go_wp2_with (first
  | (refine Q2f rfl 4 rfl 92 rfl _ (zblk _) ?_; intro w1 hn1 hk1 hs1; have HS1 : Hid _ := hs1; clear hs1; have c1 : w1.cell? ⟨v, 0, none⟩ = some (.iface 26 (.pointer (some ⟨a, 0, none⟩))) := Q02 (hk1.get hv (by simp)) rfl)
  | (go_at_call 222; refine (Q19 a bv n cv D i w1 (h.k0 hk1) hi hn hq).mono ?_; rintro e w2 ⟨hd2, hk2, hr⟩; rw [hb] at hr; simp only [if_true, eIO] at hr; subst hr; have hT2 := (hT.k hk1).kept hk2 ((hT.k hk1).dqa (h.k0 hk1)))
  | (go_at_call 115; refine (Q2t hT2 i (by omega)).mono ?_; rintro e w3 ⟨s3, rfl, hs3, hk3⟩; have hs3' : ¬ 9223372036854775807 < 14 + s3.size := (by omega))
  | (go_at_call 62; refine (Q2y _ _ _).mono ?_; rintro e w4 ⟨ht, hk4⟩; obtain ⟨f, o, rfl, hf⟩ := ht.ex))
 exact ⟨rfl, ht, (hd2.k0 hk3).k0 hk4, ((hk1.mono (by simp)).trans hk2).trans ((hk3.trans hk4).mono (by simp))⟩
theorem Q2B (v a : Nat) (bv : Value) (n : Nat) (cv : Value) (D : Dv) (B : List UInt8) (i : Nat) (w : World) (hv : Vol w v a n) (h : DQ w a bv n cv D) (hi : i < n) (hB : B.length = 128) (hq : D.q.length <= 1000000) (hb : D.bad = false) :
  Calls prog 82 #[.pointer (some ⟨v, 0, none⟩), .int .i64 i, .agg (u8s B).toArray] w (WrR a bv n cv (fun D' e _ => D' = D.put i B /\ e = .returned (.tuple #[])) w) := by
 have m1 := Q2v
 have hla := Q00 h.d
 have k1 := (Kept.refl [] w).alloc (.cells (u8s B).toArray 92)
 have c1 : (w.alloc (.cells (u8s B).toArray 92)).cell? ⟨v, 0, none⟩ = some (.iface 26 (.pointer (some ⟨a, 0, none⟩))) := Q02 (k1.get hv (by simp)) rfl
 have h1 := h.k0 k1
 have hx := heap_alloc_new w (.cells (u8s B).toArray 92)
 have HD : Hid (DQ (w.alloc (.cells (u8s B).toArray 92)).drew a bv n cv D) := h1.k0 (Kept.refl _ _).drew
 generalize hw1 : w.alloc (.cells (u8s B).toArray 92) = w1 at *
 have HW : Hid (w.alloc (.cells (u8s B).toArray 92) = w1) := hw1
 clear hw1
 go_enter func82, ntmps82
 go_wp2
 rw [HW.out]
 go_region_with (go_at_call 223; refine (Q1B a bv n w.heap.size cv D B 92 i _ HD.out hi hB (by exact hx) (by omega) hq).mono ?_; rintro e w2 hw2; unfold Q1A at hw2; rw [hb] at hw2; simp only [Bool.false_eq_true, if_false] at hw2; obtain ⟨rfl, cv', hd2, hk2, hf2⟩ := hw2)
 have kk : Kept (Q0Z a bv cv) w w2 := (((k1.trans (Kept.refl _ _).drew).mono (by simp)).trans hk2)
 have H2 : Hid (DQ w2 a bv n cv' (D.put i B) /\ (∀ y, cv'.ownBlock = some y -> cv.ownBlock = some y \/ w1.drew.heap.size <= y)) := ⟨hd2, hf2⟩
 have KK : Hid (Kept (Q0Z a bv cv) w w2) := kk
 have kz : w.heap.size <= w1.drew.heap.size := k1.size
 have KZ : Hid (w.heap.size <= w1.drew.heap.size) := kz
 clear hd2 hf2 hk2 kk kz
 go_wp2
 go_end0
 obtain ⟨hd2, hf2⟩ := H2.out
 exact ⟨cv', D.put i B, hd2, KK.out, fun y hy => (hf2 y hy).imp id (fun hx => Nat.le_trans KZ.out hx), rfl, rfl⟩
theorem Q2C (v a : Nat) (bv : Value) (n : Nat) (cv : Value) (D : Dv) (B : List UInt8) (i : Nat) (w : World) (hv : Vol w v a n) (h : DQ w a bv n cv D) (hi : i < n) (hn : n <= 1000) (hB : B.length = 128) (hq : D.q.length <= 1000000) (hb : D.bad = true) (hT : Tab w) :
  Calls prog 82 #[.pointer (some ⟨v, 0, none⟩), .int .i64 i, .agg (u8s B).toArray] w (WrR a bv n cv (fun D' e w' => D' = D.tick /\ Thr 6 e w') w) := by
 have m1 := Q2v
 have hla := Q00 h.d
 have k1 := (Kept.refl [] w).alloc (.cells (u8s B).toArray 92)
 have c1 : (w.alloc (.cells (u8s B).toArray 92)).cell? ⟨v, 0, none⟩ = some (.iface 26 (.pointer (some ⟨a, 0, none⟩))) := Q02 (k1.get hv (by simp)) rfl
 have h1 := h.k0 k1
 have hx := heap_alloc_new w (.cells (u8s B).toArray 92)
 have HD : Hid (DQ (w.alloc (.cells (u8s B).toArray 92)).drew a bv n cv D) := h1.k0 (Kept.refl _ _).drew
 generalize hw1 : w.alloc (.cells (u8s B).toArray 92) = w1 at *
 have HW : Hid (w.alloc (.cells (u8s B).toArray 92) = w1) := hw1
 clear hw1
 go_enter func82, ntmps82
 go_wp2
 rw [HW.out]
 go_region_with (go_at_call 223; refine (Q1B a bv n w.heap.size cv D B 92 i _ HD.out hi hB (by exact hx) (by omega) hq).mono ?_; rintro e w2 hw2; unfold Q1A at hw2; rw [hb] at hw2; simp only [if_true, eIO] at hw2; obtain ⟨rfl, hd2, hk2⟩ := hw2)
 have KK : Hid (Kept [a] w w2) := (((k1.trans (Kept.refl _ _).drew).mono (by simp)).trans hk2)
 have H2 : Hid (DQ w2 a bv n cv D.tick) := hd2
 have hT2 : Tab w2 := hT.kept KK.out (hT.dqa h)
 clear hd2 hk2
 go_wp2_with (first
  | (go_at_call 115; refine (Q2t hT2 i (by omega)).mono ?_; rintro e w3 ⟨s3, rfl, hs3, hk3⟩; have hs3' : ¬ 9223372036854775807 < 15 + s3.size := (by omega))
  | (go_at_call 62; refine (Q2y _ _ _).mono ?_; rintro e w4 ⟨ht, hk4⟩; obtain ⟨f, o, rfl, hf⟩ := ht.ex))
 refine ⟨rfl, cv, D.tick, (H2.out.k0 hk3).k0 hk4, (KK.out.trans ((hk3.trans hk4).mono (by simp))).mono (by intro y hy; simp at hy; subst hy; simp [Q0Z]), fun y hy => Or.inl hy, rfl, ht⟩
def Q2D (D : Dv) (i : Nat) (B : List UInt8) (D' : Dv) (e : Ending) (w' : World) : Prop := (Wn D i B D' /\ e = .returned (.tuple #[])) \/ (Er D D' /\ Thr 6 e w')
theorem Q2E (v a : Nat) (bv : Value) (n : Nat) (cv : Value) (D : Dv) (B : List UInt8) (i : Nat) (w : World) (hv : Vol w v a n) (h : DQ w a bv n cv D) (hi : i < n) (hn : n <= 1000) (hB : B.length = 128) (hq : D.q.length <= 1000000) (hT : Good D \/ Tab w) :
  Calls prog 82 #[.pointer (some ⟨v, 0, none⟩), .int .i64 i, .agg (u8s B).toArray] w (WrR a bv n cv (Q2D D i B) w) := by
 cases hb : D.bad with
 | false => exact (Q2B v a bv n cv D B i w hv h hi hB hq hb).mono fun e w' ⟨cv', D', h1, h2, h3, h4, h5⟩ => ⟨cv', D', h1, h2, h3, Or.inl ⟨by rw [h4]; exact Wn.put hb i B, h5⟩⟩
 | true => exact (Q2C v a bv n cv D B i w hv h hi hn hB hq hb (hT.resolve_left fun hg => by rw [hg.bad] at hb; cases hb)).mono fun e w' ⟨cv', D', h1, h2, h3, h4, h5⟩ => ⟨cv', D', h1, h2, h3, Or.inr ⟨by rw [h4]; exact Er.tick hb, h5⟩⟩
def SetP (D D' : Dv) (e : Ending) (w' : World) : Prop := (Fl D D' /\ e = .returned (.tuple #[])) \/ (Er D D' /\ Thr 6 e w')
theorem Q2F (v a : Nat) (bv : Value) (n : Nat) (cv : Value) (D : Dv) (w : World) (hv : Vol w v a n) (h : DQ w a bv n cv D) (hn : n <= 1000) (hq : D.q.length <= 1000000) :
  Calls prog 52 #[.pointer (some ⟨v, 0, none⟩)] w (WrR a bv n cv (SetP D) w) := by
 have m1 := Q2w
 have c1 : w.cell? ⟨v, 0, none⟩ = some (.iface 26 (.pointer (some ⟨a, 0, none⟩))) := Q02 hv rfl
 cases hb : D.bad with
 | false =>
  go_enter func52, ntmps52
  go_wp2_with (go_at_call 221; refine (Q1I a bv n cv D w h hn hq).mono ?_; rintro e w2 hw2; unfold Q1H at hw2; rw [hb] at hw2; simp only [Bool.false_eq_true, if_false] at hw2; obtain ⟨rfl, hd2, hk2⟩ := hw2)
  go_end0
  exact ⟨_, _, hd2, hk2.mono (by intro y hy; rcases List.mem_cons.1 hy with rfl | hy; exact List.mem_cons_self; exact List.mem_cons_of_mem _ (List.mem_append_left _ hy)), (by intro y hy; cases hy), Or.inl ⟨Fl.flush hb, rfl⟩⟩
 | true =>
  go_enter func52, ntmps52
  go_wp2_with (first
   | (go_at_call 221; refine (Q1I a bv n cv D w h hn hq).mono ?_; rintro e w2 hw2; unfold Q1H at hw2; rw [hb] at hw2; simp only [if_true, eIO] at hw2; obtain ⟨rfl, hd2, hk2⟩ := hw2)
   | (go_at_call 62; refine (Q2y _ _ _).mono ?_; rintro e w4 ⟨ht, hk4⟩; obtain ⟨f, o, rfl, hf⟩ := ht.ex))
  exact ⟨rfl, cv, D.tick, hd2.k0 hk4, (hk2.trans (hk4.mono (by simp))).mono (by intro y hy; simp at hy; subst hy; simp [Q0Z]), fun y hy => Or.inl hy, Or.inr ⟨Er.tick hb, ht⟩⟩
theorem Q2G (p : Addr) (w : World) :
  CallsD prog 153 #[.pointer (some p)] .returning w fun e u' w' => e = .returned (.tuple #[]) /\ u' = .returning /\ w' = w := by
 refine callsD_of_wpS func153 rfl fun c₀ cs hu => ?_
 apply wpS_seq
 apply wpS_region
 simp [wpOpsS, go_sem, recoverD, hu, ntmps153, Exit.thenS]
 refine wpS_cond (t := false) (by simp [Act.eval, Array.replicate]) ?_
 simp only [Bool.false_eq_true, if_false]
 refine wpS_of_wp (wp_skip ?_)
 cases c₀
 simp_all [bodyPostS, results, Tryz.results153]
theorem Q2H (fn : Fn) (first cap : Array Value) (w : World) : (Instr.makeFunc fn first cap).run prog w = .ok (.func fn first cap) w := rfl
theorem Q2I (a n cap : Nat) (ao : Option Addr) (cache : Value) (D : Dv) (w : World) (h : DC w a (.slice ao n cap) cache D) :
  Calls prog 119 #[.iface 26 (.pointer (some ⟨a, 0, none⟩))] w fun e w' => e = .returned (.int .i64 n) /\ Kept [] w w' := by
 have hmf := Q2H
 have m1 := Q2x
 have k1 := (Kept.refl [] w).alloc (.cells #[.int .i64 0] 3)
 have h1 : DC _ a (.slice ao n cap) cache D := k1.get h (by simp)
 go_enter_defers func119, ntmps119
 go_wp2_with (go_at_call 220; refine (Q0I a ao n cap cache D _ h1).mono ?_; rintro e w' ⟨rfl, rfl⟩)
 refine leaves_cons (f := 153) (args := #[.pointer (some ⟨w.heap.size, 0, none⟩)]) (by simp) (by simp [go_sem]) ?_
 refine (Q2G ⟨w.heap.size, 0, none⟩ _).mono ?_
 rintro e u' w'' ⟨rfl, rfl, rfl⟩
 simp [Leaves, settle, results, Tryz.results119, go_sem]
 exact (Kept.refl _ _).alloc _
def Q2J (x : Int) (w : World) (e : Ending) (w' : World) : Prop :=
 ∃ f o, e = .panicked [{ v := .iface 147 (.agg #[.iface 111 (.pointer (some ⟨f, 0, none⟩))]), recovered := false }] /\
  w'.heap[f]? = some (.cells #[o, .iface 100 (.int .i64 x)] 114 (0, 0)) /\ Kept [] w w'
theorem Q2K (o : ByteArray) (x : Int) (w : World) : Calls prog 62 #[.string o, .int .i64 x] w (Q2J x w) := by
 go_enter func62, ntmps62
 go_wp2
 exact ⟨rfl, w.heap.size, .string o, rfl, heap_alloc_new _ _, (Kept.refl _ _).alloc _⟩
def Q2L (a n : Nat) (w : World) (e : Ending) (w' : World) : Prop := ∃ v, e = .returned (.pointer (some ⟨v, 0, none⟩)) /\ Vol w' v a n /\ w.heap.size <= v /\ Kept [] w w'
theorem Q2M (a n cap : Nat) (ao : Option Addr) (cache : Value) (D : Dv) (w : World) (h : DC w a (.slice ao n cap) cache D) (h8 : 8 <= n) (h4 : n <= 400) :
  Calls prog 87 #[.iface 26 (.pointer (some ⟨a, 0, none⟩))] w (Q2L a n w) := by
 have g8 : ¬ (n : Int) < 8 := by omega
 have g4 : ¬ (400 : Int) < n := by omega
 go_enter func87, ntmps87
 go_wp2_with (go_at_call 119; refine (Q2I a n cap ao cache D _ h).mono ?_; rintro e w1 ⟨rfl, k1⟩)
 go_ret
 exact ⟨_, rfl, heap_alloc_new _ _, k1.size, k1.alloc _⟩
end Go.Proofs.YtcklgafpgdhnaaaGreatDoor
namespace Go.Proofs.YtcklgafpgdhnaaaGreatDoor
open Go.RowKit Go.Extern.Stop Go.Stop Go.Extern
structure Q2N (w : World) (err : Value) (x : Int) : Prop where
 ex : ∃ f1 f2 o1 o2, err = .iface 111 (.pointer (some ⟨f1, 0, none⟩)) /\ w.heap[f1]? = some (.cells #[o1, .iface 111 (.pointer (some ⟨f2, 0, none⟩))] 114 (0, 0)) /\
  w.heap[f2]? = some (.cells #[o2, .iface 100 (.int .i64 x)] 114 (0, 0))
end Go.Proofs.YtcklgafpgdhnaaaGreatDoor
