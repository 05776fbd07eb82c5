import Derived.Test.YtcklgafpgdhnaabGreatDoorPtae
import Derived.Deep.RegionWith
import Derived.Lib.BufferWrite
import Derived.Test.YtcklgafpgdhnaabGreatDoorPtad
import Derived.Test.YtcklgafpgdhnaabGreatDoorPtaf
import Derived.Lib.AppendStr
set_option maxRecDepth 100000
set_option maxHeartbeats 4000000
open List renaming getElem_toArray → zA, getElem_cons_succ → zB, getElem_cons_zero → zC, setIfInBounds_toArray → zD, set_cons_succ → zE, set_cons_zero → zF
namespace Go.Proofs.YtcklgafpgdhnaabGreatDoor
open Go.RowKit

theorem wpList_alloc_d {P : Program} {ops : Array Oper} {rest : List Oper} {o : Oper} {a : Act} {w : World} {Q : Exit → Act → World → Prop} (hgd : o.guard = none) (d : Tmp) (_hd : o.dst = some d) (t : TypeId) (ho : o.op = .alloc t) (cs : Array Value)
  (hz : (Instr.alloc t true (.tuple #[])).run P w = .ok (.pointer (some ⟨w.heap.size, 0, none⟩)) (w.alloc (.cells cs t)))
  (h : ∀ w', w'.heap[w.heap.size]? = some (.cells cs t (0, 0)) → Kept [] w w' → w'.heap.size = w.heap.size + 1 → wpList P ops Q rest (a.put o.dst (.pointer (some ⟨w.heap.size, 0, none⟩))) w') : wpList P ops Q (o :: rest) a w :=
 wpList_alloc_k hgd t ho cs hz h

theorem upon_copy_str {P : Program} {w : World} {o : Oper} {a : Act} {K : Act → World → Prop} {Q : Exit → Act → World → Prop} {ty : TypeId} (dT sT : TypeId) (elem : TypeId) (hu : P.underlying dT = some (.slice elem)) (hsz : (P.info? elem).map (·.size) = some 1)
  (g off dLen dCap : Nat) (S : List UInt8) (cur : List UInt8) (t : TypeId) (hg : w.heap[g]? = some (.cells (u8s cur).toArray t (0, 0))) (hle : S.length ≤ dLen) (hfit : off + S.length ≤ cur.length)
  (h : ∀ w', w'.heap[g]? = some (.cells (u8s (splice cur off S)).toArray t (0, 0)) → Kept [g] w w' → K (a.put o.dst (goInt S.length)) w') :
  Oper.upon P o a K Q ((Sem.run P (Builtin.copy_ #[dT, sT] ty #[.slice (some ⟨g, off, none⟩) dLen dCap, .string ⟨S.toArray⟩]) w).andThen fun a w' => Result.ok (Next.value a) w') := by
 have hss : (ByteArray.mk S.toArray).size = S.length := rfl
 rw [Lib.run_copy_row_string (P := P) w dT sT ty elem g off dLen dCap ⟨S.toArray⟩ (u8s cur).toArray t hu hsz hg (by rw [hss]; exact hle) (by rw [hss]; simpa [length_u8s] using hfit)]
 refine h _ ?_ ((Kept.refl _ _).setRow (Or.inl (by simp)) _)
 rw [setRow_heap w g _ _ t _ hg, ← u8s_splice]
 simp [splice, hss, Lib.byteCells, u8s]

theorem zsec (w : World) : (Instr.alloc 157 true (.tuple #[])).run Tryz.prog w = .ok (.pointer (some ⟨w.heap.size, 0, none⟩)) (w.alloc (.cells (u8s (List.replicate 32 0)).toArray 157)) := by kernel_rfl
theorem ssec : (Tryz.prog.info? 157).map (·.size) = some 32 := by kernel_rfl

def markL : List UInt8 := [115, 116, 111, 114, 101, 32, 49, 10]
def sec0 : List UInt8 := splice (List.replicate 32 0) 0 markL
def sec1 (t : Nat) : List UInt8 := splice sec0 8 (bytesOf t 8)
def sec2 (t r : Nat) : List UInt8 := splice (sec1 t) 16 (bytesOf r 2)
def sealL (B : List UInt8) : List UInt8 := splice B (B.length - 4) (bytesOf (crc (B.take (B.length - 4))) 4)
def sec (t r : Nat) : List UInt8 := sealL (sec2 t r)
theorem length_bytesOf (n k : Nat) : (bytesOf n k).length = k := by simp [bytesOf]
theorem length_sec0 : sec0.length = 32 := by decide
theorem length_sec1 (t : Nat) : (sec1 t).length = 32 := by rw [sec1, length_splice _ _ _ (by rw [length_bytesOf, length_sec0]; omega), length_sec0]
theorem length_sec2 (t r : Nat) : (sec2 t r).length = 32 := by rw [sec2, length_splice _ _ _ (by rw [length_bytesOf, length_sec1]; omega), length_sec1]
theorem length_sealL (B : List UInt8) (h : 4 ≤ B.length) : (sealL B).length = B.length := by rw [sealL, length_splice _ _ _ (by rw [length_bytesOf]; omega)]
theorem length_sec (t r : Nat) : (sec t r).length = 32 := by rw [sec, length_sealL _ (by rw [length_sec2]; omega), length_sec2]

theorem u8cells (L : List UInt8) (off : Nat) (n : Nat) : ∀ j (hj : j < ((L.drop off).take n).length), (u8s L).toArray[off + j]? = some (.int .u8 (((L.drop off).take n)[j].toNat : Int)) := by
 intro j hj
 simp only [List.getElem?_toArray, u8s_get]
 have h1 : j < n := by simp at hj; omega
 have h2 : off + j < L.length := by simp at hj; omega
 rw [List.getElem?_eq_getElem h2]
 simp

theorem sum_n (s off cap n m : Nat) (D : List UInt8) (t' : TypeId) (fr : Nat × Nat) (w : World) (h : w.heap[s]? = some (.cells (u8s D).toArray t' fr)) (hm : ((D.drop off).take m).length = n) (hn : n ≤ 1000) :
  Calls Tryz.prog 128 #[.slice (some ⟨s, off, none⟩) n cap] w fun e w' => e = .returned (.int .u32 (crc ((D.drop off).take m))) ∧ w' = w := by
 subst hm
 exact sum_any s off cap _ _ t' fr w h hn (u8cells D off m)
theorem number_n (s off cap n m : Nat) (D : List UInt8) (t' : TypeId) (fr : Nat × Nat) (w : World) (h : w.heap[s]? = some (.cells (u8s D).toArray t' fr)) (hm : ((D.drop off).take m).length = n) (hn : n ≤ 8) :
  Calls Tryz.prog 120 #[.slice (some ⟨s, off, none⟩) n cap] w fun e w' => e = .returned (.int .u64 (leNum ((D.drop off).take m))) ∧ w' = w := by
 subst hm
 exact number_any s off cap _ _ t' fr w h hn (u8cells D off m)

theorem Seal_any (s : Nat) (B : List UInt8) (t' : TypeId) (w : World) (h : w.heap[s]? = some (.cells (u8s B).toArray t' (0, 0))) (h4 : 4 ≤ B.length) (hn : B.length ≤ 1000) :
  Calls Tryz.prog 118 #[.slice (some ⟨s, 0, none⟩) B.length B.length] w fun e w' => e = .returned (.tuple #[]) ∧ w'.heap[s]? = some (.cells (u8s (sealL B)).toArray t' (0, 0)) ∧ Kept [s] w w' := by
 obtain ⟨m, hm⟩ : ∃ m, B.length = m + 4 := ⟨B.length - 4, by omega⟩
 have hcr := (crc_val (B.take m)).2
 have HSM : Hid (∀ W : World, W.heap[s]? = some (.cells (u8s B).toArray t' (0, 0)) → Calls Tryz.prog 128 #[.slice (some ⟨s, 0, none⟩) m (m + 4)] W fun e w' => e = .returned (.int .u32 (crc (B.take m))) ∧ w' = W) := by
  intro W hW
  have := sum_n s 0 (m + 4) m m B t' (0, 0) W hW (by rw [List.drop_zero, List.length_take]; omega) (by omega)
  rw [List.drop_zero] at this
  exact this
 have HE : Hid (splice B m (bytesOf (crc (B.take m)) 4) = sealL B) := by
  show _ = _
  rw [sealL, hm]; rfl
 generalize hcc : crc (B.take m) = cc at *
 clear hcc
 have HW : Hid (IntKind.u64.wrap (cc : Int) = cc) := by show _ = _; rw [IntKind.wrap_u64]; omega
 have HP : Hid (∀ W : World, W.heap[s]? = some (.cells (u8s B).toArray t' (0, 0)) → Calls Tryz.prog 117 #[.slice (some ⟨s, m, none⟩) 4 4, .int .u64 cc] W fun e w' => e = .returned (.tuple #[]) ∧
   w'.heap[s]? = some (.cells (u8s (splice B m (bytesOf cc 4))).toArray t' (0, 0)) ∧ Kept [s] W w') := by
  intro W hW
  exact put_any s m 4 4 B cc t' W hW (by omega) (by omega) (by omega)
 rw [hm]
 have hl63 : m + 4 ≤ 1000 := by omega
 clear hm hn h4 hcr
 go_enter Tryz.func118, Tryz.ntmps118
 go_wp2
 go_region_with (first
  | (go_at_call 128; refine (HSM.out _ (by exact h)).mono ?_; rintro e w' ⟨rfl, rfl⟩)
  | (go_at_call 117; rw [HW.out]; refine (HP.out _ (by exact h)).mono ?_; rintro e w6 ⟨rfl, hn6, hk6⟩))
 all_goals
  rw [HE.out] at hn6
  go_end0
  exact ⟨rfl, hn6, (Kept.refl [s] w).drew.trans hk6⟩

end Go.Proofs.YtcklgafpgdhnaabGreatDoor

namespace Go.Proofs.YtcklgafpgdhnaabGreatDoor
open Go.RowKit

def Bf (base : Nat) (w : World) (v : Value) (L : List UInt8) : Prop := w.ownsRow base 5 1 v L.length (u8s L)
theorem Bf.shape {base : Nat} {w : World} {v : Value} {L : List UInt8} (h : Bf base w v L) : ∃ p c, v = .slice p L.length c := owns_slice h
theorem mem_own {v : Value} {x : Nat} (h : x ∈ v.ownBlock.toList) : v.ownBlock = some x := by
 cases hu : v.ownBlock with
 | none => rw [hu] at h; cases h
 | some y => rw [hu] at h; simp at h; rw [h]
theorem Bf.keep {base : Nat} {w w' : World} {v : Value} {L : List UInt8} (h : Bf base w v L) (k : Kept [] w w') : Bf base w' v L := owns_kept h k (by simp)
theorem Bf.off {base : Nat} {w : World} {v : Value} {L : List UInt8} (h : Bf base w v L) {y : Nat} {cs : Array Value} {t : TypeId} {fr : Nat × Nat} (hy : w.heap[y]? = some (.cells cs t fr)) (ht : t ≠ 5) : y ∉ v.ownBlock.toList := by
 intro hm
 obtain ⟨_, ⟨rfl, _⟩ | ⟨g, cap, cur, rfl, _, hg, _⟩⟩ := h
 ·simp [Value.ownBlock] at hm
 ·have e := mem_own hm
  simp [Value.ownBlock] at e
  subst e
  rw [hg] at hy
  cases hy
  exact ht rfl
structure Kt (base : Nat) (w w' : World) : Prop where
 bl : Below base w w'
 row : ∀ (y : Nat) (cs : Array Value) (t : TypeId) (fr : Nat × Nat), t ≠ 5 → w.heap[y]? = some (.cells cs t fr) → w'.heap[y]? = some (.cells cs t fr)
theorem Kt.trans {base : Nat} {a b c : World} (h : Kt base a b) (g : Kt base b c) : Kt base a c := ⟨h.bl.trans g.bl, fun y cs t fr ht hy => g.row y cs t fr ht (h.row y cs t fr ht hy)⟩
theorem Kt.of {base : Nat} {w w' : World} (k : Kept [] w w') (hb : base ≤ w.heap.size) : Kt base w w' := ⟨⟨k.os, k.tape, k.output, k.size, fun i hi => k.block i (by omega) (by simp)⟩, fun y cs t fr _ hy => k.get hy (by simp)⟩
theorem Bf.kt {base : Nat} {w w' : World} {v : Value} {L : List UInt8} (h : Bf base w v L) (k : Kept v.ownBlock.toList w w') (hb : base ≤ w.heap.size) : Kt base w w' :=
 ⟨⟨k.os, k.tape, k.output, k.size, fun i hi => k.block i (by omega) (fun hm => by have := (h.lt i (mem_own hm)).1; omega)⟩, fun y cs t fr ht hy => k.get hy (h.off hy ht)⟩
def BfR (base : Nat) (L : List UInt8) (w : World) (e : Ending) (w' : World) : Prop := ∃ v', e = .returned v' ∧ Bf base w' v' L ∧ Kt base w w'
theorem iu8' : (Tryz.prog.info? 5).map (fun i => (i.zero, i.size, i.bytes)) = some (some (.int .u8 0), 1, 1) := by kernel_rfl
theorem build_u8 (w : World) (x : Int) : (Instr.buildSlice 83 1 #[(0, .int .u8 x)]).run Tryz.prog w = .ok (.slice (some ⟨w.heap.size, 0, none⟩) 1 1) (w.alloc (.cells #[.int .u8 x] 5)) := by kernel_rfl
theorem byte_conv (n : Nat) : (n : Int) % 256 = ((UInt8.ofNat n).toNat : Int) := by
 rw [UInt8.toNat_ofNat']
 omega

theorem putText_any (base : Nat) (v : Value) (L : List UInt8) (s : ByteArray) (w : World) (h : Bf base w v L) (hb : base ≤ w.heap.size) (hl : L.length ≤ 10000) (hs : s.size ≤ 255) : Calls Tryz.prog 201 #[v, .string s] w (BfR base (L ++ tx s) w) := by
 obtain ⟨ie, hie, hz1, hz2, hz3⟩ := info_parts iu8'
 have hx : (s.size : Int) = ((UInt8.ofNat s.size).toNat : Int) := by have := byte_conv s.size; omega
 have k1 := (Kept.refl [] w).alloc (.cells #[.int .u8 (s.size : Int)] 5)
 have n1 := heap_alloc_new w (.cells #[.int .u8 (s.size : Int)] 5)
 have h1 : Bf base (w.alloc (.cells #[.int .u8 (s.size : Int)] 5)) v L := h.keep k1
 have hsz := World.size_alloc w (.cells #[.int .u8 (s.size : Int)] 5)
 obtain ⟨v2, w2, hr2, hown2, hg2, -⟩ := run_append_own (P := Tryz.prog) (w.alloc (.cells #[.int .u8 (s.size : Int)] 5)) base 83 83 5 ie (.int .u8 0) 1 1 Tryz.underlying83 hie hz1 hz2 hz3 rfl (by decide) v L.length (u8s L) h1 ⟨w.heap.size, 0, none⟩ 1 1 [.int .u8 (s.size : Int)] rfl (by
  intro j u hj
  cases j with
  | zero => simp at hj; subst hj; exact cellAt n1 rfl
  | succ j => simp at hj) (by intro u hu; simp at hu; subst hu; rfl) (by unfold maxLen; omega) (by omega) (by omega)
 have t2 := h1.kt (grown_kept hg2 v.ownBlock.toList (by intro k hk; rw [hk]; simp)) (by omega)
 have e2 : u8s L ++ [Value.int .u8 (s.size : Int)] = u8s (L ++ [UInt8.ofNat s.size]) := by rw [hx]; simp [u8s]
 rw [e2] at hown2
 have hown2' : Bf base w2 v2 (L ++ [UInt8.ofNat s.size]) := by unfold Bf; rw [List.length_append]; exact hown2
 have hsz2 := t2.bl.size
 obtain ⟨v3, w3, hr3, hown3, hg3, -⟩ := Lib.run_append_own_string (P := Tryz.prog) w2 base 83 9 83 5 ie Tryz.underlying83 Tryz.underlying9 hie hz1 hz2 hz3 v2 (L.length + 1) (u8s (L ++ [UInt8.ofNat s.size])) hown2 s (by unfold maxLen; omega) (by omega) (by omega)
 have t3 := hown2'.kt (grown_kept hg3 v2.ownBlock.toList (by intro k hk; rw [hk]; simp)) (by omega)
 have e3 : u8s (L ++ [UInt8.ofNat s.size]) ++ Lib.strCells s = u8s (L ++ tx s) := by simp [u8s, tx, Lib.strCells]
 rw [e3] at hown3
 have el : L.length + 1 + s.size = (L ++ tx s).length := by rw [List.length_append, length_tx]; omega
 rw [el] at hown3
 have FIN : Hid (BfR base (L ++ tx s) w (.returned v3) w3) := ⟨v3, rfl, hown3, ((Kt.of k1 hb).trans t2).trans t3⟩
 clear hown3 hown2 hown2' t2 t3 hg2 hg3 e2 e3 h1 n1 hx
 go_enter Tryz.func201, Tryz.ntmps201
 go_wp2_with (first
  | (refine wpList_val rfl _ _ (exec_buildSlice 83 1 (.tmp 8) rfl (.int .u8 (s.size : Int)) (by rfl) _ (build_u8 _ _)) ?_)
  | (at_builtin; refine wpList_val rfl _ _ (exec_append (.tmp 5) (.tmp 9) 83 rfl v (.slice (some ⟨w.heap.size, 0, none⟩) 1 1) (by rfl) (by rfl) _ hr2) ?_)
  | (at_builtin; refine wpList_val rfl _ _ (exec_append2 (.tmp 10) (.tmp 11) 83 9 rfl v2 (.string s) (by rfl) (by rfl) _ hr3) ?_))
 go_ret
 exact FIN.out

theorem enters_putText (args : Array Value) (w : World) : (callFunc 201 args).run Tryz.prog w = .ok (.enter 201 args) w := enters Tryz.func201 (by kernel_rfl) (by kernel_rfl) args w
def RwS (g : Nat) (cs : Array Value) (t : TypeId) (W : World) : Prop := W.heap[g]? = some (.cells cs t (0, 0))
theorem pairPacked_any (base : Nat) (v : Value) (L : List UInt8) (p : Pr) (w : World) (h : Bf base w v L) (hb : base ≤ w.heap.size) (hl : L.length ≤ 9000) (h1 : p.1.size ≤ 255) (h2 : p.2.size ≤ 255) : Calls Tryz.prog 199 #[.agg #[.string p.1, .string p.2], v] w (BfR base (L ++ pkP p) w) := by
 have k1 := (Kept.refl [] w).alloc (.cells #[.string p.1, .string p.2] 138)
 have n1 := heap_alloc_new w (.cells #[.string p.1, .string p.2] 138)
 have hS : RwS w.heap.size #[.string p.1, .string p.2] 138 (w.alloc (.cells #[.string p.1, .string p.2] 138)).drew := n1
 have hB1 : Bf base (w.alloc (.cells #[.string p.1, .string p.2] 138)).drew v L := h.keep k1.drew
 have K1 : Kt base w (w.alloc (.cells #[.string p.1, .string p.2] 138)).drew := Kt.of k1.drew hb
 have hs1 : base ≤ (w.alloc (.cells #[.string p.1, .string p.2] 138)).drew.heap.size := by have := k1.drew.size; omega
 generalize hW : (w.alloc (.cells #[.string p.1, .string p.2] 138)).drew = w1 at *
 have HW : Hid _ := hW
 clear hW n1 k1 h
 go_enter Tryz.func199, Tryz.ntmps199
 go_wp2_with fail
 refine wp_region_S (RwS w.heap.size #[.string p.1, .string p.2] 138) (by kernel_rfl) ?_
 rw [HW.out]
 refine ht (i := 0) (v := v) rfl (by kernel_rfl) (by rfl) (fun W hW => by rfl) (fun _ _ _ h => h) hS ?_
 simp only [Act.put, zA, zC, zD, zE, zF]
 refine ht (i := 1) (v := .pointer (some ⟨w.heap.size, 0 + 0, none⟩)) rfl (by kernel_rfl) (by rfl) (fun W hW => exec_fieldL 138 (.tmp 2) 0 rfl w.heap.size 0 rfl 0 (by rfl)) (fun _ _ _ h => h) hS ?_
 simp only [Act.put, zA, zB, zC, zD, zE, zF]
 refine ht (i := 2) (v := .pointer (some ⟨w.heap.size, 0 + 0 + 0, none⟩)) rfl (by kernel_rfl) (by rfl) (fun W hW => exec_fieldL 52 (.tmp 6) 0 rfl w.heap.size (0 + 0) rfl 0 (by rfl)) (fun _ _ _ h => h) hS ?_
 simp only [Act.put, zA, zB, zC, zD, zE, zF]
 refine ht (i := 3) (v := .string p.1) rfl (by kernel_rfl) (by rfl) (fun W hW => exec_load 9 (.tmp 7) rfl ⟨w.heap.size, 0 + 0 + 0, none⟩ rfl _ (run_load1 Tryz.underlying9 rfl (cellAt hW rfl))) (fun _ _ _ h => h) hS ?_
 simp only [Act.put, zA, zB, zC, zD, zE, zF]
 refine ht (i := 5) (v := .pointer (some ⟨w.heap.size, 0 + 0, none⟩)) rfl (by kernel_rfl) (by rfl) (fun W hW => exec_fieldL 138 (.tmp 2) 0 rfl w.heap.size 0 rfl 0 (by rfl)) (fun _ _ _ h => h) hS ?_
 simp only [Act.put, zA, zB, zC, zD, zE, zF]
 refine ht (i := 6) (v := .pointer (some ⟨w.heap.size, 0 + 0 + 1, none⟩)) rfl (by kernel_rfl) (by rfl) (fun W hW => exec_fieldL 52 (.tmp 10) 1 rfl w.heap.size (0 + 0) rfl 1 (by rfl)) (fun _ _ _ h => h) hS ?_
 simp only [Act.put, zA, zB, zC, zD, zE, zF]
 refine ht (i := 7) (v := .string p.2) rfl (by kernel_rfl) (by rfl) (fun W hW => exec_load 9 (.tmp 11) rfl ⟨w.heap.size, 0 + 0 + 1, none⟩ rfl _ (run_load1 Tryz.underlying9 rfl (cellAt hW rfl))) (fun _ _ _ h => h) hS ?_
 simp only [Act.put, zA, zB, zC, zD, zE, zF]
 refine held_one (i := 4) (by kernel_rfl) (wpOp_call rfl (by rfl) 201 #[v, .string p.1] (exec_call _ _ _ rfl _ (by simp [Act.eval]) (enters_putText _ _)) _ (putText_any base v L p.1 w1 hB1 hs1 (by omega) h1) ?_)
 rintro e w2 ⟨v2, rfl, hB2, K2⟩
 have hS2 := K2.row _ _ _ _ (by decide) hS
 refine ⟨_, rfl, hS2, ?_⟩
 simp only [Act.put, zA, zB, zC, zD, zE, zF]
 have hs2 : base ≤ w2.heap.size := by have := K2.bl.size; omega
 have hl2 : (L ++ tx p.1).length ≤ 10000 := by rw [List.length_append, length_tx]; omega
 refine held_one (i := 8) (by kernel_rfl) (wpOp_call rfl (by rfl) 201 #[v2, .string p.2] (exec_call _ _ _ rfl _ (by simp [Act.eval]) (enters_putText _ _)) _ (putText_any base v2 (L ++ tx p.1) p.2 w2 hB2 hs2 hl2 h2) ?_)
 rintro e w3 ⟨v3, rfl, hB3, K3⟩
 refine ⟨_, rfl, K3.row _ _ _ _ (by decide) hS2, ?_⟩
 simp only [Act.put, zA, zB, zC, zD, zE, zF]
 refine held_one (i := 9) (by kernel_rfl) (wpOp_valW rfl (by rfl) v3 w3 (by rfl) ⟨K3.row _ _ _ _ (by decide) hS2, ?_⟩)
 simp only [Act.put, zA, zB, zC, zD, zE, zF]
 refine wpAnyH_done (by kernel_rfl) ?_ _
 have FIN : Hid (BfR base (L ++ pkP p) w (.returned v3) w3) := ⟨v3, rfl, by rw [pkP, ← List.append_assoc]; exact hB3, (K1.trans K2).trans K3⟩
 clear hB3 hB2 hB1 hS hS2 K1 K2 K3
 go_wp2
 go_ret
 exact FIN.out

theorem exec_lenE {P : Program} {o : Oper} {a : Act} {w : World} (x : Operand) (t : TypeId) (ho : o.op = .call { callee := .builtin .len, args := #[x], argTypes := #[t] }) (s : ByteArray) (hx : a.eval x = .string s) (hu : P.underlying t = some .string) :
  (execOp a.eval o).run P w = .ok (.value (.int .i64 s.size)) w := by
 have hl : (Builtin.len_ #[t] o.type #[.string s]).run P w = .ok (goInt s.size) w := by
  simp [Builtin.len_, run_underlying hu]
 simp [execOp, ho, resolve, invoke, builtin, hx, hl, goInt]
theorem z10 (w : World) : (Instr.alloc 281 true (.tuple #[])).run Tryz.prog w = .ok (.pointer (some ⟨w.heap.size, 0, none⟩)) (w.alloc (.cells (u8s (List.replicate 10 0)).toArray 281)) := by kernel_rfl
theorem slice10 (W : World) (g : Nat) : ∀ l : Nat, l ≤ 8 → (Instr.sliceAt 281 (.pointer (some ⟨g, 0, none⟩)) (some (.int .i64 (l : Int))) none none).run Tryz.prog W = .ok (.slice (some ⟨g, l, none⟩) (10 - l) (10 - l)) W
 | 0, _ => by kernel_rfl
 | 1, _ => by kernel_rfl
 | 2, _ => by kernel_rfl
 | 3, _ => by kernel_rfl
 | 4, _ => by kernel_rfl
 | 5, _ => by kernel_rfl
 | 6, _ => by kernel_rfl
 | 7, _ => by kernel_rfl
 | 8, _ => by kernel_rfl
 | n + 9, h => by omega
theorem rest10 (f : ByteArray) (p : Nat) (h : f.size ≤ 8) : (splice (List.replicate 10 (0 : UInt8)) 8 (bytesOf p 2)).drop f.size = List.replicate (8 - f.size) 0 ++ bytesOf p 2 := by
 have e : splice (List.replicate 10 (0 : UInt8)) 8 (bytesOf p 2) = List.replicate 8 0 ++ bytesOf p 2 := by
  simp [splice, length_bytesOf]
 rw [e, List.drop_append_of_le_length (by simp; exact h), List.drop_replicate]
theorem kidPacked_any (base : Nat) (v : Value) (L : List UInt8) (f : ByteArray) (p : Nat) (x : Value) (w : World) (h : Bf base w v L) (hb : base ≤ w.heap.size) (hl : L.length ≤ 9000) (h1 : f.size ≤ 8) (h2 : p < 65536) : Calls Tryz.prog 245 #[.agg #[.string f, .int .i64 p, x], v] w (BfR base (L ++ pkK (f, p)) w) := by
 obtain ⟨ie, hie, hz1, hz2, hz3⟩ := info_parts iu8'
 have k1 := (Kept.refl [] w).alloc (.cells #[.string f, .int .i64 p, x] 75)
 have n1 := heap_alloc_new w (.cells #[.string f, .int .i64 p, x] 75)
 have hsz1 := World.size_alloc w (.cells #[.string f, .int .i64 p, x] 75)
 have HW : Hid (IntKind.u64.wrap (p : Int) = p) := by show _ = _; rw [IntKind.wrap_u64]; omega
 go_enter Tryz.func245, Tryz.ntmps245
 go_wp2_with (refine wpList_alloc_k rfl 281 rfl _ (z10 _) ?_; intro w2 n2 k2 hsz2)
 have n12 := k2.get n1 (by simp)
 have c1 : w2.cell? ⟨w.heap.size, 1, none⟩ = some (.int .i64 p) := cellAt n12 rfl
 have hK2 := k1.trans k2
 clear k1 k2 n1
 rw [hsz1] at n2 hsz2
 go_region_with (go_at_call 117; rw [HW.out]; refine (put_any (w.heap.size + 1) 8 2 2 (List.replicate 10 0) p 281 _ (by exact n2) (by omega) (by simp) (by omega)).mono ?_; rintro e w3 ⟨rfl, n3, k3⟩)
 have n13 := k3.get (w := w2.drew) n12 (by simp)
 have hK3 : Kept [] w w3 := hK2.drew.trans2 k3 (by intro y hy; simp at hy; subst hy; exact Or.inr (by omega))
 clear n2 n12 c1 hK2 k3
 have hS : RwS w.heap.size #[.string f, .int .i64 p, x] 75 w3.drew := n13
 have hB3 : Bf base w3.drew v L := h.keep hK3.drew
 have K3 : Kt base w w3.drew := Kt.of hK3.drew hb
 have hs3 : base ≤ w3.drew.heap.size := by have := K3.bl.size; omega
 go_wp2_with fail
 refine wp_region_S (RwS w.heap.size #[.string f, .int .i64 p, x] 75) (by kernel_rfl) ?_
 refine ht (i := 0) (v := v) rfl (by kernel_rfl) (by rfl) (fun W hW => by rfl) (fun _ _ _ h => h) hS ?_
 simp only [Act.put, zA, zC, zD, zE, zF]
 refine ht (i := 1) (v := .pointer (some ⟨w.heap.size, 0 + 0, none⟩)) rfl (by kernel_rfl) (by rfl) (fun W hW => exec_fieldL 75 (.tmp 2) 0 rfl w.heap.size 0 rfl 0 (by rfl)) (fun _ _ _ h => h) hS ?_
 simp only [Act.put, zA, zB, zC, zD, zE, zF]
 refine ht (i := 2) (v := .string f) rfl (by kernel_rfl) (by rfl) (fun W hW => exec_load 9 (.tmp 12) rfl ⟨w.heap.size, 0 + 0, none⟩ rfl _ (run_load1 Tryz.underlying9 rfl (cellAt hW rfl))) (fun _ _ _ h => h) hS ?_
 simp only [Act.put, zA, zB, zC, zD, zE, zF]
 refine ht (i := 4) (v := .pointer (some ⟨w.heap.size, 0 + 0, none⟩)) rfl (by kernel_rfl) (by rfl) (fun W hW => exec_fieldL 75 (.tmp 2) 0 rfl w.heap.size 0 rfl 0 (by rfl)) (fun _ _ _ h => h) hS ?_
 simp only [Act.put, zA, zB, zC, zD, zE, zF]
 refine ht (i := 5) (v := .string f) rfl (by kernel_rfl) (by rfl) (fun W hW => exec_load 9 (.tmp 15) rfl ⟨w.heap.size, 0 + 0, none⟩ rfl _ (run_load1 Tryz.underlying9 rfl (cellAt hW rfl))) (fun _ _ _ h => h) hS ?_
 simp only [Act.put, zA, zB, zC, zD, zE, zF]
 refine ht (i := 6) (v := .int .i64 f.size) rfl (by kernel_rfl) (by rfl) (fun W hW => exec_lenE (.tmp 16) 9 rfl f rfl Tryz.underlying9) (fun _ _ _ h => h) hS ?_
 simp only [Act.put, zA, zB, zC, zD, zE, zF]
 refine ht (i := 7) (v := .slice (some ⟨w.heap.size + 1, f.size, none⟩) (10 - f.size) (10 - f.size)) rfl (by kernel_rfl) (by rfl) (fun W hW => exec_slice 281 (.tmp 5) (some (.tmp 17)) none none rfl _ (some (.int .i64 (f.size : Int))) none none (by rfl) (by rfl) rfl rfl _ (slice10 W _ _ h1)) (fun _ _ _ h => h) hS ?_
 simp only [Act.put, zA, zB, zC, zD, zE, zF]
 refine held_one (i := 3) (by kernel_rfl) (wpOp_call rfl (by rfl) 201 #[v, .string f] (exec_call _ _ _ rfl _ (by simp [Act.eval]) (enters_putText _ _)) _ (putText_any base v L f w3.drew hB3 hs3 (by omega) (by omega)) ?_)
 rintro e w4 ⟨v4, rfl, hB4, K4⟩
 have hS4 := K4.row _ _ _ _ (by decide) hS
 refine ⟨_, rfl, hS4, ?_⟩
 simp only [Act.put, zA, zB, zC, zD, zE, zF]
 have hs4 : base ≤ w4.heap.size := by have := K4.bl.size; omega
 have n4 := K4.row _ _ _ _ (by decide) (show w3.drew.heap[w.heap.size + 1]? = _ from n3)
 have hl4 : (L ++ tx f).length ≤ 9300 := by rw [List.length_append, length_tx]; omega
 have hrl : (List.replicate (8 - f.size) (0 : UInt8) ++ bytesOf p 2).length = 10 - f.size := by rw [List.length_append, List.length_replicate, length_bytesOf]; omega
 obtain ⟨v5, w5, hr5, hown5, hg5, -⟩ := run_append_own (P := Tryz.prog) w4 base 83 83 5 ie (.int .u8 0) 1 1 Tryz.underlying83 hie hz1 hz2 hz3 rfl (by decide) v4 (L ++ tx f).length (u8s (L ++ tx f)) hB4 ⟨w.heap.size + 1, f.size, none⟩ (10 - f.size) (10 - f.size) (u8s (List.replicate (8 - f.size) 0 ++ bytesOf p 2)) (by rw [length_u8s, hrl, Nat.mul_one]) (row_srcAt n4 (by
  intro j u hu
  rw [← rest10 f p h1, u8s_get, List.getElem?_drop] at hu
  rw [u8s_get]
  exact hu)) (one_u8s _) (by unfold maxLen; omega) (by omega) hs4
 have K5 := hB4.kt (grown_kept hg5 v4.ownBlock.toList (by intro k hk; rw [hk]; simp)) hs4
 have e5 : u8s (L ++ tx f) ++ u8s (List.replicate (8 - f.size) 0 ++ bytesOf p 2) = u8s (L ++ pkK (f, p)) := by simp [u8s, pkK]
 have el : (L ++ tx f).length + (10 - f.size) = (L ++ pkK (f, p)).length := by rw [List.length_append, List.length_append, length_pkK (f, p) h1, length_tx]; omega
 rw [e5, el] at hown5
 have FIN : Hid (BfR base (L ++ pkK (f, p)) w (.returned v5) w5) := ⟨v5, rfl, hown5, (K3.trans K4).trans K5⟩
 have hS5 := K5.row _ _ _ _ (by decide) hS4
 refine held_one (i := 8) (by kernel_rfl) (wpOp_valW rfl (by rfl) v5 w5 (exec_append (.tmp 14) (.tmp 18) 83 rfl v4 _ (by rfl) (by rfl) _ hr5) ⟨hS5, ?_⟩)
 simp only [Act.put, zA, zB, zC, zD, zE, zF]
 refine held_one (i := 9) (by kernel_rfl) (wpOp_valW rfl (by rfl) v5 w5 (by rfl) ⟨hS5, ?_⟩)
 simp only [Act.put, zA, zB, zC, zD, zE, zF]
 refine wpAnyH_done (by kernel_rfl) ?_ _
 clear hB3 hB4 hS hS4 hS5 K3 K4 K5 hown5 n3 n4 n13
 go_wp2
 go_ret
 exact FIN.out

end Go.Proofs.YtcklgafpgdhnaabGreatDoor

namespace Go.Proofs.YtcklgafpgdhnaabGreatDoor
open Go.RowKit

theorem own_ge {w : World} {base e size n : Nat} {v : Value} {xs : List Value} (h : w.ownsRow base e size v n xs) : ∀ y ∈ v.ownBlock.toList, base ≤ y := by
 intro y hy
 simp at hy
 exact (h.lt y hy).1
theorem own_lt {w : World} {base e size n : Nat} {v : Value} {xs : List Value} (h : w.ownsRow base e size v n xs) : ∀ y ∈ v.ownBlock.toList, y < w.heap.size := by
 intro y hy
 simp at hy
 exact (h.lt y hy).2

theorem withGo_nil (k v : ByteArray) (b : Bool) : withGo k v b [] = if b then [] else [(k, v)] := rfl
theorem withGo_cons (k v : ByteArray) (b : Bool) (p : Pr) (r : List Pr) : withGo k v b (p :: r) = (if !b && !bl p.1 k then [(k, v)] else []) ++ (if be p.1 k then [] else [p]) ++ withGo k v (b || !bl p.1 k) r := rfl

theorem owns_len2 {w : World} {base e size n : Nat} {v : Value} {xs : List Value} (h : w.ownsRow base e size v n xs) : ∃ p c, v = .slice p n c := by
 obtain ⟨_, ⟨rfl, rfl⟩ | ⟨g, cap, cur, rfl, _⟩⟩ := h
 ·exact ⟨_, _, rfl⟩
 ·exact ⟨_, _, rfl⟩

end Go.Proofs.YtcklgafpgdhnaabGreatDoor
