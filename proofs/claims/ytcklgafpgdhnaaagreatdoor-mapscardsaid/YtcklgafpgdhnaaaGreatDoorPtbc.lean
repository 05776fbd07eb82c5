import Derived.Test.YtcklgafpgdhnaaaGreatDoorPtbb
import Derived.Deep.RegionWith
import Derived.Lib.BufferWrite
import Derived.Test.YtcklgafpgdhnaaaGreatDoorPtaa
import Derived.Test.YtcklgafpgdhnaaaGreatDoorPtah
set_option maxRecDepth 100000
set_option maxHeartbeats 4000000
open List renaming getElem_toArray → zA, getElem_cons_succ → zB, getElem_cons_zero → zC, setIfInBounds_toArray → zD, set_cons_succ → zE, set_cons_zero → zF
namespace Go.Proofs.YtcklgafpgdhnaaaGreatDoor
open Go.RowKit

theorem wpList_alloc_d {P : Program} {ops : Array Oper} {rest : List Oper} {o : Oper} {a : Act} {w : World} {Q : Exit → Act → World → Prop} (hgd : o.guard = none) (d : Tmp) (_hd : o.dst = some d) (t : TypeId) (ho : o.op = .alloc t) (cs : Array Value)
  (hz : (Instr.alloc t true (.tuple #[])).run P w = .ok (.pointer (some ⟨w.heap.size, 0, none⟩)) (w.alloc (.cells cs t)))
  (h : ∀ w', w'.heap[w.heap.size]? = some (.cells cs t (0, 0)) → Kept [] w w' → w'.heap.size = w.heap.size + 1 → wpList P ops Q rest (a.put o.dst (.pointer (some ⟨w.heap.size, 0, none⟩))) w') : wpList P ops Q (o :: rest) a w :=
 wpList_alloc_k hgd t ho cs hz h

theorem upon_copy_str {P : Program} {w : World} {o : Oper} {a : Act} {K : Act → World → Prop} {Q : Exit → Act → World → Prop} {ty : TypeId} (dT sT : TypeId) (elem : TypeId) (hu : P.underlying dT = some (.slice elem)) (hsz : (P.info? elem).map (·.size) = some 1)
  (g off dLen dCap : Nat) (S : List UInt8) (cur : List UInt8) (t : TypeId) (hg : w.heap[g]? = some (.cells (u8s cur).toArray t (0, 0))) (hle : S.length ≤ dLen) (hfit : off + S.length ≤ cur.length)
  (h : ∀ w', w'.heap[g]? = some (.cells (u8s (splice cur off S)).toArray t (0, 0)) → Kept [g] w w' → K (a.put o.dst (goInt S.length)) w') :
  Oper.upon P o a K Q ((Sem.run P (Builtin.copy_ #[dT, sT] ty #[.slice (some ⟨g, off, none⟩) dLen dCap, .string ⟨S.toArray⟩]) w).andThen fun a w' => Result.ok (Next.value a) w') := by
 have hss : (ByteArray.mk S.toArray).size = S.length := rfl
 rw [Lib.run_copy_row_string (P := P) w dT sT ty elem g off dLen dCap ⟨S.toArray⟩ (u8s cur).toArray t hu hsz hg (by rw [hss]; exact hle) (by rw [hss]; simpa [length_u8s] using hfit)]
 refine h _ ?_ ((Kept.refl _ _).setRow (Or.inl (by simp)) _)
 rw [setRow_heap w g _ _ t _ hg, ← u8s_splice]
 simp [splice, hss, Lib.byteCells, u8s]

theorem zsec (w : World) : (Instr.alloc 175 true (.tuple #[])).run Tryz.prog w = .ok (.pointer (some ⟨w.heap.size, 0, none⟩)) (w.alloc (.cells (u8s (List.replicate 32 0)).toArray 175)) := by kernel_rfl
theorem ssec : (Tryz.prog.info? 175).map (·.size) = some 32 := by kernel_rfl

def markL : List UInt8 := [115, 116, 111, 114, 101, 32, 49, 10]
def sec0 : List UInt8 := splice (List.replicate 32 0) 0 markL
def sec1 (t : Nat) : List UInt8 := splice sec0 8 (bytesOf t 8)
def sec2 (t r : Nat) : List UInt8 := splice (sec1 t) 16 (bytesOf r 2)
def sealL (B : List UInt8) : List UInt8 := splice B (B.length - 4) (bytesOf (crc (B.take (B.length - 4))) 4)
def sec (t r : Nat) : List UInt8 := sealL (sec2 t r)
theorem length_bytesOf (n k : Nat) : (bytesOf n k).length = k := by simp [bytesOf]
theorem length_sec0 : sec0.length = 32 := by decide
theorem length_sec1 (t : Nat) : (sec1 t).length = 32 := by rw [sec1, length_splice _ _ _ (by rw [length_bytesOf, length_sec0]; omega), length_sec0]
theorem length_sec2 (t r : Nat) : (sec2 t r).length = 32 := by rw [sec2, length_splice _ _ _ (by rw [length_bytesOf, length_sec1]; omega), length_sec1]
theorem length_sealL (B : List UInt8) (h : 4 ≤ B.length) : (sealL B).length = B.length := by rw [sealL, length_splice _ _ _ (by rw [length_bytesOf]; omega)]
theorem length_sec (t r : Nat) : (sec t r).length = 32 := by rw [sec, length_sealL _ (by rw [length_sec2]; omega), length_sec2]

theorem u8cells (L : List UInt8) (off : Nat) (n : Nat) : ∀ j (hj : j < ((L.drop off).take n).length), (u8s L).toArray[off + j]? = some (.int .u8 (((L.drop off).take n)[j].toNat : Int)) := by
 intro j hj
 simp only [List.getElem?_toArray, u8s_get]
 have h1 : j < n := by simp at hj; omega
 have h2 : off + j < L.length := by simp at hj; omega
 rw [List.getElem?_eq_getElem h2]
 simp

theorem sum_n (s off cap n m : Nat) (D : List UInt8) (t' : TypeId) (fr : Nat × Nat) (w : World) (h : w.heap[s]? = some (.cells (u8s D).toArray t' fr)) (hm : ((D.drop off).take m).length = n) (hn : n ≤ 1000) :
  Calls Tryz.prog 172 #[.slice (some ⟨s, off, none⟩) n cap] w fun e w' => e = .returned (.int .u32 (crc ((D.drop off).take m))) ∧ w' = w := by
 subst hm
 exact sum_any s off cap _ _ t' fr w h hn (u8cells D off m)
theorem number_n (s off cap n m : Nat) (D : List UInt8) (t' : TypeId) (fr : Nat × Nat) (w : World) (h : w.heap[s]? = some (.cells (u8s D).toArray t' fr)) (hm : ((D.drop off).take m).length = n) (hn : n ≤ 8) :
  Calls Tryz.prog 154 #[.slice (some ⟨s, off, none⟩) n cap] w fun e w' => e = .returned (.int .u64 (leNum ((D.drop off).take m))) ∧ w' = w := by
 subst hm
 exact number_any s off cap _ _ t' fr w h hn (u8cells D off m)

theorem Seal_any (s : Nat) (B : List UInt8) (t' : TypeId) (w : World) (h : w.heap[s]? = some (.cells (u8s B).toArray t' (0, 0))) (h4 : 4 ≤ B.length) (hn : B.length ≤ 1000) :
  Calls Tryz.prog 152 #[.slice (some ⟨s, 0, none⟩) B.length B.length] w fun e w' => e = .returned (.tuple #[]) ∧ w'.heap[s]? = some (.cells (u8s (sealL B)).toArray t' (0, 0)) ∧ Kept [s] w w' := by
 obtain ⟨m, hm⟩ : ∃ m, B.length = m + 4 := ⟨B.length - 4, by omega⟩
 have hcr := (crc_val (B.take m)).2
 have HSM : Hid (∀ W : World, W.heap[s]? = some (.cells (u8s B).toArray t' (0, 0)) → Calls Tryz.prog 172 #[.slice (some ⟨s, 0, none⟩) m (m + 4)] W fun e w' => e = .returned (.int .u32 (crc (B.take m))) ∧ w' = W) := by
  intro W hW
  have := sum_n s 0 (m + 4) m m B t' (0, 0) W hW (by rw [List.drop_zero, List.length_take]; omega) (by omega)
  rw [List.drop_zero] at this
  exact this
 have HE : Hid (splice B m (bytesOf (crc (B.take m)) 4) = sealL B) := by
  show _ = _
  rw [sealL, hm]; rfl
 generalize hcc : crc (B.take m) = cc at *
 clear hcc
 have HW : Hid (IntKind.u64.wrap (cc : Int) = cc) := by show _ = _; rw [IntKind.wrap_u64]; omega
 have HP : Hid (∀ W : World, W.heap[s]? = some (.cells (u8s B).toArray t' (0, 0)) → Calls Tryz.prog 151 #[.slice (some ⟨s, m, none⟩) 4 4, .int .u64 cc] W fun e w' => e = .returned (.tuple #[]) ∧
   w'.heap[s]? = some (.cells (u8s (splice B m (bytesOf cc 4))).toArray t' (0, 0)) ∧ Kept [s] W w') := by
  intro W hW
  exact put_any s m 4 4 B cc t' W hW (by omega) (by omega) (by omega)
 rw [hm]
 have hl63 : m + 4 ≤ 1000 := by omega
 clear hm hn h4 hcr
 go_enter Tryz.func152, Tryz.ntmps152
 go_wp2
 go_region_with (first
  | (go_at_call 172; refine (HSM.out _ (by exact h)).mono ?_; rintro e w' ⟨rfl, rfl⟩)
  | (go_at_call 151; rw [HW.out]; refine (HP.out _ (by exact h)).mono ?_; rintro e w6 ⟨rfl, hn6, hk6⟩))
 all_goals
  rw [HE.out] at hn6
  go_end0
  exact ⟨rfl, hn6, (Kept.refl [s] w).drew.trans hk6⟩

end Go.Proofs.YtcklgafpgdhnaaaGreatDoor

namespace Go.Proofs.YtcklgafpgdhnaaaGreatDoor
open Go.RowKit

structure Tab (w : World) : Prop where
 row : ∃ cs fr, w.heap[2]? = some (.cells cs 267 fr)
 ito : ∀ W : World, W.heap[2]? = w.heap[2]? → ∀ i : Nat, i < 70000 → Calls Tryz.prog 115 #[.int .i64 i] W fun e w' => ∃ s, e = .returned (.string s) ∧ s.size ≤ 1000 ∧ Kept [] W w'
theorem Tab.lt {w : World} (h : Tab w) : 2 < w.heap.size := by
 obtain ⟨cs, fr, hh⟩ := h.row
 exact lt_heap hh
theorem Tab.kept {S : List Nat} {w w' : World} (h : Tab w) (k : Kept S w w') (hS : 2 ∉ S) : Tab w' := by
 have e := k.block 2 h.lt hS
 obtain ⟨cs, fr, hh⟩ := h.row
 exact ⟨⟨cs, fr, by rw [e]; exact hh⟩, fun W hW => h.ito W (by rw [hW, e])⟩
theorem Tab.k {w w' : World} (h : Tab w) (k : Kept [] w w') : Tab w' := h.kept k (by simp)
theorem Itoa_any {w : World} (hT : Tab w) (i : Nat) (hi : i < 70000) : Calls Tryz.prog 115 #[.int .i64 i] w fun e w' => ∃ s, e = .returned (.string s) ∧ s.size ≤ 1000 ∧ Kept [] w w' := hT.ito w rfl i hi
theorem Tab.ne {w : World} (h : Tab w) {y : Nat} {cs : Array Value} {t : TypeId} {fr : Nat × Nat} (hy : w.heap[y]? = some (.cells cs t fr)) (ht : t ≠ 267) : 2 ≠ y := by
 obtain ⟨cs', fr', hh⟩ := h.row
 exact ne_tag hh hy ht.symm

end Go.Proofs.YtcklgafpgdhnaaaGreatDoor

namespace Go.Proofs.YtcklgafpgdhnaaaGreatDoor
open Go.RowKit

theorem mRead (a : Addr) (w : World) : (Go.method 433 26 (.pointer (some a)) "Read").run Tryz.prog w = .ok (222, .pointer (some a)) w := by kernel_rfl
theorem mWrite (a : Addr) (w : World) : (Go.method 433 26 (.pointer (some a)) "Write").run Tryz.prog w = .ok (223, .pointer (some a)) w := by kernel_rfl
theorem mFlush (a : Addr) (w : World) : (Go.method 433 26 (.pointer (some a)) "Flush").run Tryz.prog w = .ok (221, .pointer (some a)) w := by kernel_rfl
theorem mBlocks (a : Addr) (w : World) : (Go.method 433 26 (.pointer (some a)) "Blocks").run Tryz.prog w = .ok (220, .pointer (some a)) w := by kernel_rfl
theorem zblk (w : World) : (Instr.alloc 92 true (.tuple #[])).run Tryz.prog w = .ok (.pointer (some ⟨w.heap.size, 0, none⟩)) (w.alloc (.cells (u8s (List.replicate 128 0)).toArray 92)) := by kernel_rfl

def Vol (w : World) (v a n : Nat) : Prop := w.heap[v]? = some (.cells #[.iface 26 (.pointer (some ⟨a, 0, none⟩)), .int .i64 n] 128 (0, 0))

def Thr (x : Int) (e : Ending) (w' : World) : Prop :=
 ∃ f o, e = .panicked [{ v := .iface 147 (.agg #[.iface 111 (.pointer (some ⟨f, 0, none⟩))]), recovered := false }] ∧
  w'.heap[f]? = some (.cells #[o, .iface 100 (.int .i64 x)] 114 (0, 0))
theorem Throw_v (o : ByteArray) (x : Int) (w : World) : Calls Tryz.prog 62 #[.string o, .int .i64 x] w fun e w' => Thr x e w' ∧ Kept [] w w' := by
 go_enter Tryz.func62, Tryz.ntmps62
 go_wp2
 exact ⟨rfl, ⟨w.heap.size, .string o, rfl, heap_alloc_new _ _⟩, (Kept.refl _ _).alloc _⟩
theorem Thr.ex {x : Int} {e : Ending} {w' : World} (h : Thr x e w') : ∃ f o, e = .panicked [{ v := .iface 147 (.agg #[.iface 111 (.pointer (some ⟨f, 0, none⟩))]), recovered := false }] ∧
  w'.heap[f]? = some (.cells #[o, .iface 100 (.int .i64 x)] 114 (0, 0)) := h

def RdR (a : Nat) (bv : Value) (n : Nat) (cv : Value) (D : Dv) (P : Ending → World → Prop) (w : World) (e : Ending) (w' : World) : Prop :=
 ∃ D', DQ w' a bv n cv D' ∧ Kept [a] w w' ∧ ((Qt D D' ∧ P e w') ∨ (Er D D' ∧ Thr 6 e w'))
def WrR (a : Nat) (bv : Value) (n : Nat) (cv : Value) (P : Dv → Ending → World → Prop) (w : World) (e : Ending) (w' : World) : Prop :=
 ∃ cv' D', DQ w' a bv n cv' D' ∧ Kept (dfoot a bv cv) w w' ∧ (∀ y, cv'.ownBlock = some y → cv.ownBlock = some y ∨ w.heap.size ≤ y) ∧ P D' e w'

theorem DQ.no {w : World} {a : Nat} {bv : Value} {n : Nat} {cv : Value} {D : Dv} (h : DQ w a bv n cv D) {y : Nat} {cs : Array Value} {t : TypeId} {fr : Nat × Nat} (hy : w.heap[y]? = some (.cells cs t fr)) (ht : t ∉ [91, 92, 94]) : y ∉ dfoot a bv cv := by
 simp only [List.mem_cons, List.not_mem_nil, or_false, not_or] at ht
 intro hx
 rcases List.mem_cons.1 hx with rfl | hx
 ·exact ne_tag hy h.d ht.1 rfl
 rcases List.mem_append.1 hx with hx | hx
 ·obtain ⟨cs', fr', hh⟩ := owns_tag h.b (by simpa using hx)
  exact ne_tag hy hh ht.2.1 rfl
 ·obtain ⟨cs', fr', hh⟩ := owns_tag h.o (by simpa using hx)
  exact ne_tag hy hh ht.2.2 rfl
theorem DQ.ge {w : World} {a : Nat} {bv : Value} {n : Nat} {cv : Value} {D : Dv} (h : DQ w a bv n cv D) {y : Nat} (hy : w.heap.size ≤ y) : y ∉ dfoot a bv cv := fun hx => by have := h.lt y hx; omega
theorem DQ.k1 {w w' : World} {a : Nat} {bv : Value} {n : Nat} {cv : Value} {D : Dv} {y : Nat} (h : DQ w a bv n cv D) (k : Kept [y] w w') (hy : y ∉ dfoot a bv cv) : DQ w' a bv n cv D := h.kept k (by intro x hx hm; simp at hm; subst hm; exact hy hx)

theorem Tab.dq {w : World} {a : Nat} {bv : Value} {n : Nat} {cv : Value} {D : Dv} (hT : Tab w) (h : DQ w a bv n cv D) : 2 ∉ dfoot a bv cv := by
 obtain ⟨cs, fr, hh⟩ := hT.row
 exact h.no hh (by decide)
theorem Tab.dqa {w : World} {a : Nat} {bv : Value} {n : Nat} {cv : Value} {D : Dv} (hT : Tab w) (h : DQ w a bv n cv D) : 2 ∉ [a] := by
 have := hT.dq h
 simp only [dfoot, List.mem_cons, not_or] at this
 simpa using this.1

theorem VBlock_ok (v a : Nat) (bv : Value) (n : Nat) (cv : Value) (D : Dv) (i : Nat) (w : World) (hv : Vol w v a n) (h : DQ w a bv n cv D) (hi : i < n) (hn : n ≤ 1000) (hq : D.q.length ≤ 1000000) (hb : D.bad = false) :
  Calls Tryz.prog 124 #[.pointer (some ⟨v, 0, none⟩), .int .i64 i] w fun e w' => e = .returned (.agg (u8s (D.view i)).toArray) ∧ DQ w' a bv n cv D.tick ∧ Kept [a] w w' := by
 have m1 := mRead
 have nva : v ≠ a := ne_tag hv h.d (by decide)
 have hlv := lt_heap hv
 have hla := lt_heap h.d
 have hlb : (D.view i).length = 128 := vf_len (length_blockOf D.L n i h.l hi) h.q
 go_enter Tryz.func124, Tryz.ntmps124
 go_wp2_with (first
  | (refine wpList_alloc_d rfl 4 rfl 92 rfl _ (zblk _) ?_; intro w1 hn1 hk1 hs1; have HS1 : Hid _ := hs1; clear hs1; have c1 : w1.cell? ⟨v, 0, none⟩ = some (.iface 26 (.pointer (some ⟨a, 0, none⟩))) := cellAt (hk1.get hv (by simp)) rfl)
  | (go_at_call 222; refine (Read_any a bv n cv D i w1 (h.k0 hk1) hi hn hq).mono ?_; rintro e w2 ⟨hd2, hk2, hr⟩; rw [hb] at hr; simp only [Bool.false_eq_true, if_false] at hr; obtain ⟨r, rfl, hr2, hrs2⟩ := hr)
  | (refine wpList_alloc_d rfl 7 rfl 92 rfl _ (zblk _) ?_; intro w3 hn3 hk3 hs3; have HS3 : Hid _ := hs3; clear hs3; have hr3 := hk3.get hr2 (by simp))
  | (refine upon_copy_k 60 60 5 Tryz.underlying60 su8 w2.heap.size 0 128 128 ⟨r, 0, none⟩ 128 128 (u8s (List.replicate 128 0)) 92 hn3 (u8s (D.view i)) (by rw [length_u8s, hlb]; exact (Nat.min_self 128).symm) (row_src hr3) (by rw [length_u8s, length_u8s, hlb, List.length_replicate]; omega) (one_u8s _) ?_; intro w4 hg4 hk4; rw [splice_whole _ _ (by rw [length_u8s, length_u8s, hlb, List.length_replicate])] at hg4)
  | (refine wpList_load_row rfl 92 (.tmp 7) rfl w2.heap.size rfl 92 (u8s (D.view i)).toArray (0, 0) _ hg4 Tryz.underlying92 rfl (by rw [sblk]; simp [length_u8s, hlb]) ?_)
  | (refine wpList_store_k rfl 92 (.tmp 4) (.tmp 26) rfl w.heap.size (u8s (D.view i)).toArray rfl rfl 92 _ (hk4.get (hk3.get (hk2.get hn1 (by simp; omega)) (by simp)) (by have := hk2.size; have := lt_heap hn1; simp; omega)) (by rw [sblk]; simp [length_u8s, hlb]) (by simp [length_u8s, hlb]) (all_of (one_u8s _)) ?_; intro w5 hg5 hk5))
 refine bodyPost_ret (results_cell_row rfl _ w5 w.heap.size 92 _ (0, 0) _ rfl hg5 Tryz.underlying92 rfl (by rw [sblk]; simp [length_u8s, hlb])) rfl ?_
 have hz1 := HS1.out
 have hz2 := hk2.size
 have hd3 := hd2.k0 hk3
 have hd4 := hd3.k1 hk4 (hd2.ge (Nat.le_refl _))
 have hd5 := hd4.k1 hk5 (h.ge (Nat.le_refl _))
 refine ⟨rfl, hd5, ?_⟩
 refine Kept.trans2 (Kept.trans2 (Kept.trans2 (Kept.trans2 (hk1.mono (by simp)) hk2 (by simp)) hk3 (by simp)) hk4 ?_) hk5 ?_
 ·intro x hx; simp at hx; subst hx; exact Or.inr (by omega)
 ·intro x hx; simp at hx; subst hx; exact Or.inr (Nat.le_refl _)

theorem VBlock_bad (v a : Nat) (bv : Value) (n : Nat) (cv : Value) (D : Dv) (i : Nat) (w : World) (hv : Vol w v a n) (h : DQ w a bv n cv D) (hi : i < n) (hn : n ≤ 1000) (hq : D.q.length ≤ 1000000) (hb : D.bad = true) (hT : Tab w) :
  Calls Tryz.prog 124 #[.pointer (some ⟨v, 0, none⟩), .int .i64 i] w fun e w' => Thr 6 e w' ∧ DQ w' a bv n cv D.tick ∧ Kept [a] w w' := by
 have m1 := mRead
 go_enter Tryz.func124, Tryz.ntmps124
 go_wp2_with (first
  | (refine wpList_alloc_d rfl 4 rfl 92 rfl _ (zblk _) ?_; intro w1 hn1 hk1 hs1; have HS1 : Hid _ := hs1; clear hs1; have c1 : w1.cell? ⟨v, 0, none⟩ = some (.iface 26 (.pointer (some ⟨a, 0, none⟩))) := cellAt (hk1.get hv (by simp)) rfl)
  | (go_at_call 222; refine (Read_any a bv n cv D i w1 (h.k0 hk1) hi hn hq).mono ?_; rintro e w2 ⟨hd2, hk2, hr⟩; rw [hb] at hr; simp only [if_true, eIO] at hr; subst hr; have hT2 := (hT.k hk1).kept hk2 ((hT.k hk1).dqa (h.k0 hk1)))
  | (go_at_call 115; refine (Itoa_any hT2 i (by omega)).mono ?_; rintro e w3 ⟨s3, rfl, hs3, hk3⟩; have hs3' : ¬ 9223372036854775807 < 14 + s3.size := (by omega))
  | (go_at_call 62; refine (Throw_v _ _ _).mono ?_; rintro e w4 ⟨ht, hk4⟩; obtain ⟨f, o, rfl, hf⟩ := ht.ex))
 exact ⟨rfl, ht, (hd2.k0 hk3).k0 hk4, ((hk1.mono (by simp)).trans hk2).trans ((hk3.trans hk4).mono (by simp))⟩

theorem VBlock_any (v a : Nat) (bv : Value) (n : Nat) (cv : Value) (D : Dv) (i : Nat) (w : World) (hv : Vol w v a n) (h : DQ w a bv n cv D) (hi : i < n) (hn : n ≤ 1000) (hq : D.q.length ≤ 1000000) (hT : Good D ∨ Tab w) :
  Calls Tryz.prog 124 #[.pointer (some ⟨v, 0, none⟩), .int .i64 i] w (RdR a bv n cv D (fun e _ => e = .returned (.agg (u8s (D.view i)).toArray)) w) := by
 cases hb : D.bad with
 | false => exact (VBlock_ok v a bv n cv D i w hv h hi hn hq hb).mono fun e w' ⟨h1, h2, h3⟩ => ⟨D.tick, h2, h3, Or.inl ⟨Qt.tick hb, h1⟩⟩
 | true => exact (VBlock_bad v a bv n cv D i w hv h hi hn hq hb (hT.resolve_left fun hg => by rw [hg.bad] at hb; cases hb)).mono fun e w' ⟨h1, h2, h3⟩ => ⟨D.tick, h2, h3, Or.inr ⟨Er.tick hb, h1⟩⟩

end Go.Proofs.YtcklgafpgdhnaaaGreatDoor
