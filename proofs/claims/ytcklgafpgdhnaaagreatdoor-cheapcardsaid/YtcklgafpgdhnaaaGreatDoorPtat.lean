import Derived.Test.YtcklgafpgdhnaaaGreatDoorPtad
import Derived.Test.YtcklgafpgdhnaaaGreatDoorPtah
import Derived.Test.YtcklgafpgdhnaaaGreatDoorPtag
import Derived.Test.YtcklgafpgdhnaaaGreatDoorPtae
import Derived.Lib.AppendStr
import Derived.Test.YtcklgafpgdhnaaaGreatDoorPtao
import Derived.Test.YtcklgafpgdhnaaaGreatDoorPtaf
import Derived.Test.YtcklgafpgdhnaaaGreatDoorPtas
set_option maxRecDepth 100000
set_option maxHeartbeats 4000000
open List renaming getElem_toArray → zA, getElem_cons_succ → zB, getElem_cons_zero → zC, setIfInBounds_toArray → zD, set_cons_succ → zE, set_cons_zero → zF
namespace Go.Proofs.YtcklgafpgdhnaaaGreatDoor
open Go.RowKit

def Bf (base : Nat) (w : World) (v : Value) (L : List UInt8) : Prop := w.ownsRow base 5 1 v L.length (u8s L)
theorem Bf.shape {base : Nat} {w : World} {v : Value} {L : List UInt8} (h : Bf base w v L) : ∃ p c, v = .slice p L.length c := owns_slice h
theorem mem_own {v : Value} {x : Nat} (h : x ∈ v.ownBlock.toList) : v.ownBlock = some x := by
 cases hu : v.ownBlock with
 | none => rw [hu] at h; cases h
 | some y => rw [hu] at h; simp at h; rw [h]
theorem Bf.keep {base : Nat} {w w' : World} {v : Value} {L : List UInt8} (h : Bf base w v L) (k : Kept [] w w') : Bf base w' v L := owns_kept h k (by simp)
theorem Bf.off {base : Nat} {w : World} {v : Value} {L : List UInt8} (h : Bf base w v L) {y : Nat} {cs : Array Value} {t : TypeId} {fr : Nat × Nat} (hy : w.heap[y]? = some (.cells cs t fr)) (ht : t ≠ 5) : y ∉ v.ownBlock.toList := by
 intro hm
 obtain ⟨_, ⟨rfl, _⟩ | ⟨g, cap, cur, rfl, _, hg, _⟩⟩ := h
 ·simp [Value.ownBlock] at hm
 ·have e := mem_own hm
  simp [Value.ownBlock] at e
  subst e
  rw [hg] at hy
  cases hy
  exact ht rfl
structure Kt (base : Nat) (w w' : World) : Prop where
 bl : Below base w w'
 row : ∀ (y : Nat) (cs : Array Value) (t : TypeId) (fr : Nat × Nat), t ≠ 5 → w.heap[y]? = some (.cells cs t fr) → w'.heap[y]? = some (.cells cs t fr)
theorem Kt.trans {base : Nat} {a b c : World} (h : Kt base a b) (g : Kt base b c) : Kt base a c := ⟨h.bl.trans g.bl, fun y cs t fr ht hy => g.row y cs t fr ht (h.row y cs t fr ht hy)⟩
theorem Kt.of {base : Nat} {w w' : World} (k : Kept [] w w') (hb : base ≤ w.heap.size) : Kt base w w' := ⟨⟨k.os, k.tape, k.output, k.size, fun i hi => k.block i (by omega) (by simp)⟩, fun y cs t fr _ hy => k.get hy (by simp)⟩
theorem Bf.kt {base : Nat} {w w' : World} {v : Value} {L : List UInt8} (h : Bf base w v L) (k : Kept v.ownBlock.toList w w') (hb : base ≤ w.heap.size) : Kt base w w' :=
 ⟨⟨k.os, k.tape, k.output, k.size, fun i hi => k.block i (by omega) (fun hm => by have := (h.lt i (mem_own hm)).1; omega)⟩, fun y cs t fr ht hy => k.get hy (h.off hy ht)⟩
def BfR (base : Nat) (L : List UInt8) (w : World) (e : Ending) (w' : World) : Prop := ∃ v', e = .returned v' ∧ Bf base w' v' L ∧ Kt base w w'
theorem iu8' : (Tryz.prog.info? 5).map (fun i => (i.zero, i.size, i.bytes)) = some (some (.int .u8 0), 1, 1) := by kernel_rfl
theorem build_u8 (w : World) (x : Int) : (Instr.buildSlice 60 1 #[(0, .int .u8 x)]).run Tryz.prog w = .ok (.slice (some ⟨w.heap.size, 0, none⟩) 1 1) (w.alloc (.cells #[.int .u8 x] 5)) := by kernel_rfl
theorem byte_conv (n : Nat) : (n : Int) % 256 = ((UInt8.ofNat n).toNat : Int) := by
 rw [UInt8.toNat_ofNat']
 omega

theorem putText_any (base : Nat) (v : Value) (L : List UInt8) (s : ByteArray) (w : World) (h : Bf base w v L) (hb : base ≤ w.heap.size) (hl : L.length ≤ 10000) (hs : s.size ≤ 255) : Calls Tryz.prog 249 #[v, .string s] w (BfR base (L ++ tx s) w) := by
 obtain ⟨ie, hie, hz1, hz2, hz3⟩ := info_parts iu8'
 have hx : (s.size : Int) = ((UInt8.ofNat s.size).toNat : Int) := by have := byte_conv s.size; omega
 have k1 := (Kept.refl [] w).alloc (.cells #[.int .u8 (s.size : Int)] 5)
 have n1 := heap_alloc_new w (.cells #[.int .u8 (s.size : Int)] 5)
 have h1 : Bf base (w.alloc (.cells #[.int .u8 (s.size : Int)] 5)) v L := h.keep k1
 have hsz := World.size_alloc w (.cells #[.int .u8 (s.size : Int)] 5)
 obtain ⟨v2, w2, hr2, hown2, hg2, -⟩ := run_append_own (P := Tryz.prog) (w.alloc (.cells #[.int .u8 (s.size : Int)] 5)) base 60 60 5 ie (.int .u8 0) 1 1 Tryz.underlying60 hie hz1 hz2 hz3 rfl (by decide) v L.length (u8s L) h1 ⟨w.heap.size, 0, none⟩ 1 1 [.int .u8 (s.size : Int)] rfl (by
  intro j u hj
  cases j with
  | zero => simp at hj; subst hj; exact cellAt n1 rfl
  | succ j => simp at hj) (by intro u hu; simp at hu; subst hu; rfl) (by unfold maxLen; omega) (by omega) (by omega)
 have t2 := h1.kt (grown_kept hg2 v.ownBlock.toList (by intro k hk; rw [hk]; simp)) (by omega)
 have e2 : u8s L ++ [Value.int .u8 (s.size : Int)] = u8s (L ++ [UInt8.ofNat s.size]) := by rw [hx]; simp [u8s]
 rw [e2] at hown2
 have hown2' : Bf base w2 v2 (L ++ [UInt8.ofNat s.size]) := by unfold Bf; rw [List.length_append]; exact hown2
 have hsz2 := t2.bl.size
 obtain ⟨v3, w3, hr3, hown3, hg3, -⟩ := Lib.run_append_own_string (P := Tryz.prog) w2 base 60 9 60 5 ie Tryz.underlying60 Tryz.underlying9 hie hz1 hz2 hz3 v2 (L.length + 1) (u8s (L ++ [UInt8.ofNat s.size])) hown2 s (by unfold maxLen; omega) (by omega) (by omega)
 have t3 := hown2'.kt (grown_kept hg3 v2.ownBlock.toList (by intro k hk; rw [hk]; simp)) (by omega)
 have e3 : u8s (L ++ [UInt8.ofNat s.size]) ++ Lib.strCells s = u8s (L ++ tx s) := by simp [u8s, tx, Lib.strCells]
 rw [e3] at hown3
 have el : L.length + 1 + s.size = (L ++ tx s).length := by rw [List.length_append, length_tx]; omega
 rw [el] at hown3
 have FIN : Hid (BfR base (L ++ tx s) w (.returned v3) w3) := ⟨v3, rfl, hown3, ((Kt.of k1 hb).trans t2).trans t3⟩
 clear hown3 hown2 hown2' t2 t3 hg2 hg3 e2 e3 h1 n1 hx
 go_enter Tryz.func249, Tryz.ntmps249
 go_wp2_with (first
  | (refine wpList_val rfl _ _ (exec_buildSlice 60 1 (.tmp 8) rfl (.int .u8 (s.size : Int)) (by rfl) _ (build_u8 _ _)) ?_)
  | (at_builtin; refine wpList_val rfl _ _ (exec_append (.tmp 5) (.tmp 9) 60 rfl v (.slice (some ⟨w.heap.size, 0, none⟩) 1 1) (by rfl) (by rfl) _ hr2) ?_)
  | (at_builtin; refine wpList_val rfl _ _ (exec_append2 (.tmp 10) (.tmp 11) 60 9 rfl v2 (.string s) (by rfl) (by rfl) _ hr3) ?_))
 go_ret
 exact FIN.out

theorem enters_putText (args : Array Value) (w : World) : (callFunc 249 args).run Tryz.prog w = .ok (.enter 249 args) w := enters Tryz.func249 (by kernel_rfl) (by kernel_rfl) args w
def RwS (g : Nat) (cs : Array Value) (t : TypeId) (W : World) : Prop := W.heap[g]? = some (.cells cs t (0, 0))
theorem pairPacked_any (base : Nat) (v : Value) (L : List UInt8) (p : Pr) (w : World) (h : Bf base w v L) (hb : base ≤ w.heap.size) (hl : L.length ≤ 9000) (h1 : p.1.size ≤ 255) (h2 : p.2.size ≤ 255) : Calls Tryz.prog 247 #[.agg #[.string p.1, .string p.2], v] w (BfR base (L ++ pkP p) w) := by
 have k1 := (Kept.refl [] w).alloc (.cells #[.string p.1, .string p.2] 122)
 have n1 := heap_alloc_new w (.cells #[.string p.1, .string p.2] 122)
 have hS : RwS w.heap.size #[.string p.1, .string p.2] 122 (w.alloc (.cells #[.string p.1, .string p.2] 122)).drew := n1
 have hB1 : Bf base (w.alloc (.cells #[.string p.1, .string p.2] 122)).drew v L := h.keep k1.drew
 have K1 : Kt base w (w.alloc (.cells #[.string p.1, .string p.2] 122)).drew := Kt.of k1.drew hb
 have hs1 : base ≤ (w.alloc (.cells #[.string p.1, .string p.2] 122)).drew.heap.size := by have := k1.drew.size; omega
 generalize hW : (w.alloc (.cells #[.string p.1, .string p.2] 122)).drew = w1 at *
 have HW : Hid _ := hW
 clear hW n1 k1 h
 go_enter Tryz.func247, Tryz.ntmps247
 go_wp2_with fail
 refine wp_region_S (RwS w.heap.size #[.string p.1, .string p.2] 122) (by kernel_rfl) ?_
 rw [HW.out]
 refine ht (i := 0) (v := v) rfl (by kernel_rfl) (by rfl) (fun W hW => by rfl) (fun _ _ _ h => h) hS ?_
 simp only [Act.put, zA, zC, zD, zE, zF]
 refine ht (i := 1) (v := .pointer (some ⟨w.heap.size, 0 + 0, none⟩)) rfl (by kernel_rfl) (by rfl) (fun W hW => exec_fieldL 122 (.tmp 2) 0 rfl w.heap.size 0 rfl 0 (by rfl)) (fun _ _ _ h => h) hS ?_
 simp only [Act.put, zA, zB, zC, zD, zE, zF]
 refine ht (i := 2) (v := .pointer (some ⟨w.heap.size, 0 + 0 + 0, none⟩)) rfl (by kernel_rfl) (by rfl) (fun W hW => exec_fieldL 41 (.tmp 6) 0 rfl w.heap.size (0 + 0) rfl 0 (by rfl)) (fun _ _ _ h => h) hS ?_
 simp only [Act.put, zA, zB, zC, zD, zE, zF]
 refine ht (i := 3) (v := .string p.1) rfl (by kernel_rfl) (by rfl) (fun W hW => exec_load 9 (.tmp 7) rfl ⟨w.heap.size, 0 + 0 + 0, none⟩ rfl _ (run_load1 Tryz.underlying9 rfl (cellAt hW rfl))) (fun _ _ _ h => h) hS ?_
 simp only [Act.put, zA, zB, zC, zD, zE, zF]
 refine ht (i := 5) (v := .pointer (some ⟨w.heap.size, 0 + 0, none⟩)) rfl (by kernel_rfl) (by rfl) (fun W hW => exec_fieldL 122 (.tmp 2) 0 rfl w.heap.size 0 rfl 0 (by rfl)) (fun _ _ _ h => h) hS ?_
 simp only [Act.put, zA, zB, zC, zD, zE, zF]
 refine ht (i := 6) (v := .pointer (some ⟨w.heap.size, 0 + 0 + 1, none⟩)) rfl (by kernel_rfl) (by rfl) (fun W hW => exec_fieldL 41 (.tmp 10) 1 rfl w.heap.size (0 + 0) rfl 1 (by rfl)) (fun _ _ _ h => h) hS ?_
 simp only [Act.put, zA, zB, zC, zD, zE, zF]
 refine ht (i := 7) (v := .string p.2) rfl (by kernel_rfl) (by rfl) (fun W hW => exec_load 9 (.tmp 11) rfl ⟨w.heap.size, 0 + 0 + 1, none⟩ rfl _ (run_load1 Tryz.underlying9 rfl (cellAt hW rfl))) (fun _ _ _ h => h) hS ?_
 simp only [Act.put, zA, zB, zC, zD, zE, zF]
 refine held_one (i := 4) (by kernel_rfl) (wpOp_call rfl (by rfl) 249 #[v, .string p.1] (exec_call _ _ _ rfl _ (by simp [Act.eval]) (enters_putText _ _)) _ (putText_any base v L p.1 w1 hB1 hs1 (by omega) h1) ?_)
 rintro e w2 ⟨v2, rfl, hB2, K2⟩
 have hS2 := K2.row _ _ _ _ (by decide) hS
 refine ⟨_, rfl, hS2, ?_⟩
 simp only [Act.put, zA, zB, zC, zD, zE, zF]
 have hs2 : base ≤ w2.heap.size := by have := K2.bl.size; omega
 have hl2 : (L ++ tx p.1).length ≤ 10000 := by rw [List.length_append, length_tx]; omega
 refine held_one (i := 8) (by kernel_rfl) (wpOp_call rfl (by rfl) 249 #[v2, .string p.2] (exec_call _ _ _ rfl _ (by simp [Act.eval]) (enters_putText _ _)) _ (putText_any base v2 (L ++ tx p.1) p.2 w2 hB2 hs2 hl2 h2) ?_)
 rintro e w3 ⟨v3, rfl, hB3, K3⟩
 refine ⟨_, rfl, K3.row _ _ _ _ (by decide) hS2, ?_⟩
 simp only [Act.put, zA, zB, zC, zD, zE, zF]
 refine held_one (i := 9) (by kernel_rfl) (wpOp_valW rfl (by rfl) v3 w3 (by rfl) ⟨K3.row _ _ _ _ (by decide) hS2, ?_⟩)
 simp only [Act.put, zA, zB, zC, zD, zE, zF]
 refine wpAnyH_done (by kernel_rfl) ?_ _
 have FIN : Hid (BfR base (L ++ pkP p) w (.returned v3) w3) := ⟨v3, rfl, by rw [pkP, ← List.append_assoc]; exact hB3, (K1.trans K2).trans K3⟩
 clear hB3 hB2 hB1 hS hS2 K1 K2 K3
 go_wp2
 go_ret
 exact FIN.out

theorem exec_lenE {P : Program} {o : Oper} {a : Act} {w : World} (x : Operand) (t : TypeId) (ho : o.op = .call { callee := .builtin .len, args := #[x], argTypes := #[t] }) (s : ByteArray) (hx : a.eval x = .string s) (hu : P.underlying t = some .string) :
  (execOp a.eval o).run P w = .ok (.value (.int .i64 s.size)) w := by
 have hl : (Builtin.len_ #[t] o.type #[.string s]).run P w = .ok (goInt s.size) w := by
  simp [Builtin.len_, run_underlying hu]
 simp [execOp, ho, resolve, invoke, builtin, hx, hl, goInt]
theorem z10 (w : World) : (Instr.alloc 322 true (.tuple #[])).run Tryz.prog w = .ok (.pointer (some ⟨w.heap.size, 0, none⟩)) (w.alloc (.cells (u8s (List.replicate 10 0)).toArray 322)) := by kernel_rfl
theorem slice10 (W : World) (g : Nat) : ∀ l : Nat, l ≤ 8 → (Instr.sliceAt 322 (.pointer (some ⟨g, 0, none⟩)) (some (.int .i64 (l : Int))) none none).run Tryz.prog W = .ok (.slice (some ⟨g, l, none⟩) (10 - l) (10 - l)) W
 | 0, _ => by kernel_rfl
 | 1, _ => by kernel_rfl
 | 2, _ => by kernel_rfl
 | 3, _ => by kernel_rfl
 | 4, _ => by kernel_rfl
 | 5, _ => by kernel_rfl
 | 6, _ => by kernel_rfl
 | 7, _ => by kernel_rfl
 | 8, _ => by kernel_rfl
 | n + 9, h => by omega
theorem rest10 (f : ByteArray) (p : Nat) (h : f.size ≤ 8) : (splice (List.replicate 10 (0 : UInt8)) 8 (bytesOf p 2)).drop f.size = List.replicate (8 - f.size) 0 ++ bytesOf p 2 := by
 have e : splice (List.replicate 10 (0 : UInt8)) 8 (bytesOf p 2) = List.replicate 8 0 ++ bytesOf p 2 := by
  simp [splice, length_bytesOf]
 rw [e, List.drop_append_of_le_length (by simp; exact h), List.drop_replicate]
theorem kidPacked_any (base : Nat) (v : Value) (L : List UInt8) (f : ByteArray) (p : Nat) (x : Value) (w : World) (h : Bf base w v L) (hb : base ≤ w.heap.size) (hl : L.length ≤ 9000) (h1 : f.size ≤ 8) (h2 : p < 65536) : Calls Tryz.prog 296 #[.agg #[.string f, .int .i64 p, x], v] w (BfR base (L ++ pkK (f, p)) w) := by
 obtain ⟨ie, hie, hz1, hz2, hz3⟩ := info_parts iu8'
 have k1 := (Kept.refl [] w).alloc (.cells #[.string f, .int .i64 p, x] 80)
 have n1 := heap_alloc_new w (.cells #[.string f, .int .i64 p, x] 80)
 have hsz1 := World.size_alloc w (.cells #[.string f, .int .i64 p, x] 80)
 have HW : Hid (IntKind.u64.wrap (p : Int) = p) := by show _ = _; rw [IntKind.wrap_u64]; omega
 go_enter Tryz.func296, Tryz.ntmps296
 go_wp2_with (refine wpList_alloc_k rfl 322 rfl _ (z10 _) ?_; intro w2 n2 k2 hsz2)
 have n12 := k2.get n1 (by simp)
 have c1 : w2.cell? ⟨w.heap.size, 1, none⟩ = some (.int .i64 p) := cellAt n12 rfl
 have hK2 := k1.trans k2
 clear k1 k2 n1
 rw [hsz1] at n2 hsz2
 go_region_with (go_at_call 151; rw [HW.out]; refine (put_any (w.heap.size + 1) 8 2 2 (List.replicate 10 0) p 322 _ (by exact n2) (by omega) (by simp) (by omega)).mono ?_; rintro e w3 ⟨rfl, n3, k3⟩)
 have n13 := k3.get (w := w2.drew) n12 (by simp)
 have hK3 : Kept [] w w3 := hK2.drew.trans2 k3 (by intro y hy; simp at hy; subst hy; exact Or.inr (by omega))
 clear n2 n12 c1 hK2 k3
 have hS : RwS w.heap.size #[.string f, .int .i64 p, x] 80 w3.drew := n13
 have hB3 : Bf base w3.drew v L := h.keep hK3.drew
 have K3 : Kt base w w3.drew := Kt.of hK3.drew hb
 have hs3 : base ≤ w3.drew.heap.size := by have := K3.bl.size; omega
 go_wp2_with fail
 refine wp_region_S (RwS w.heap.size #[.string f, .int .i64 p, x] 80) (by kernel_rfl) ?_
 refine ht (i := 0) (v := v) rfl (by kernel_rfl) (by rfl) (fun W hW => by rfl) (fun _ _ _ h => h) hS ?_
 simp only [Act.put, zA, zC, zD, zE, zF]
 refine ht (i := 1) (v := .pointer (some ⟨w.heap.size, 0 + 0, none⟩)) rfl (by kernel_rfl) (by rfl) (fun W hW => exec_fieldL 80 (.tmp 2) 0 rfl w.heap.size 0 rfl 0 (by rfl)) (fun _ _ _ h => h) hS ?_
 simp only [Act.put, zA, zB, zC, zD, zE, zF]
 refine ht (i := 2) (v := .string f) rfl (by kernel_rfl) (by rfl) (fun W hW => exec_load 9 (.tmp 12) rfl ⟨w.heap.size, 0 + 0, none⟩ rfl _ (run_load1 Tryz.underlying9 rfl (cellAt hW rfl))) (fun _ _ _ h => h) hS ?_
 simp only [Act.put, zA, zB, zC, zD, zE, zF]
 refine ht (i := 4) (v := .pointer (some ⟨w.heap.size, 0 + 0, none⟩)) rfl (by kernel_rfl) (by rfl) (fun W hW => exec_fieldL 80 (.tmp 2) 0 rfl w.heap.size 0 rfl 0 (by rfl)) (fun _ _ _ h => h) hS ?_
 simp only [Act.put, zA, zB, zC, zD, zE, zF]
 refine ht (i := 5) (v := .string f) rfl (by kernel_rfl) (by rfl) (fun W hW => exec_load 9 (.tmp 15) rfl ⟨w.heap.size, 0 + 0, none⟩ rfl _ (run_load1 Tryz.underlying9 rfl (cellAt hW rfl))) (fun _ _ _ h => h) hS ?_
 simp only [Act.put, zA, zB, zC, zD, zE, zF]
 refine ht (i := 6) (v := .int .i64 f.size) rfl (by kernel_rfl) (by rfl) (fun W hW => exec_lenE (.tmp 16) 9 rfl f rfl Tryz.underlying9) (fun _ _ _ h => h) hS ?_
 simp only [Act.put, zA, zB, zC, zD, zE, zF]
 refine ht (i := 7) (v := .slice (some ⟨w.heap.size + 1, f.size, none⟩) (10 - f.size) (10 - f.size)) rfl (by kernel_rfl) (by rfl) (fun W hW => exec_slice 322 (.tmp 5) (some (.tmp 17)) none none rfl _ (some (.int .i64 (f.size : Int))) none none (by rfl) (by rfl) rfl rfl _ (slice10 W _ _ h1)) (fun _ _ _ h => h) hS ?_
 simp only [Act.put, zA, zB, zC, zD, zE, zF]
 refine held_one (i := 3) (by kernel_rfl) (wpOp_call rfl (by rfl) 249 #[v, .string f] (exec_call _ _ _ rfl _ (by simp [Act.eval]) (enters_putText _ _)) _ (putText_any base v L f w3.drew hB3 hs3 (by omega) (by omega)) ?_)
 rintro e w4 ⟨v4, rfl, hB4, K4⟩
 have hS4 := K4.row _ _ _ _ (by decide) hS
 refine ⟨_, rfl, hS4, ?_⟩
 simp only [Act.put, zA, zB, zC, zD, zE, zF]
 have hs4 : base ≤ w4.heap.size := by have := K4.bl.size; omega
 have n4 := K4.row _ _ _ _ (by decide) (show w3.drew.heap[w.heap.size + 1]? = _ from n3)
 have hl4 : (L ++ tx f).length ≤ 9300 := by rw [List.length_append, length_tx]; omega
 have hrl : (List.replicate (8 - f.size) (0 : UInt8) ++ bytesOf p 2).length = 10 - f.size := by rw [List.length_append, List.length_replicate, length_bytesOf]; omega
 obtain ⟨v5, w5, hr5, hown5, hg5, -⟩ := run_append_own (P := Tryz.prog) w4 base 60 60 5 ie (.int .u8 0) 1 1 Tryz.underlying60 hie hz1 hz2 hz3 rfl (by decide) v4 (L ++ tx f).length (u8s (L ++ tx f)) hB4 ⟨w.heap.size + 1, f.size, none⟩ (10 - f.size) (10 - f.size) (u8s (List.replicate (8 - f.size) 0 ++ bytesOf p 2)) (by rw [length_u8s, hrl, Nat.mul_one]) (row_srcAt n4 (by
  intro j u hu
  rw [← rest10 f p h1, u8s_get, List.getElem?_drop] at hu
  rw [u8s_get]
  exact hu)) (one_u8s _) (by unfold maxLen; omega) (by omega) hs4
 have K5 := hB4.kt (grown_kept hg5 v4.ownBlock.toList (by intro k hk; rw [hk]; simp)) hs4
 have e5 : u8s (L ++ tx f) ++ u8s (List.replicate (8 - f.size) 0 ++ bytesOf p 2) = u8s (L ++ pkK (f, p)) := by simp [u8s, pkK]
 have el : (L ++ tx f).length + (10 - f.size) = (L ++ pkK (f, p)).length := by rw [List.length_append, List.length_append, length_pkK (f, p) h1, length_tx]; omega
 rw [e5, el] at hown5
 have FIN : Hid (BfR base (L ++ pkK (f, p)) w (.returned v5) w5) := ⟨v5, rfl, hown5, (K3.trans K4).trans K5⟩
 have hS5 := K5.row _ _ _ _ (by decide) hS4
 refine held_one (i := 8) (by kernel_rfl) (wpOp_valW rfl (by rfl) v5 w5 (exec_append (.tmp 14) (.tmp 18) 60 rfl v4 _ (by rfl) (by rfl) _ hr5) ⟨hS5, ?_⟩)
 simp only [Act.put, zA, zB, zC, zD, zE, zF]
 refine held_one (i := 9) (by kernel_rfl) (wpOp_valW rfl (by rfl) v5 w5 (by rfl) ⟨hS5, ?_⟩)
 simp only [Act.put, zA, zB, zC, zD, zE, zF]
 refine wpAnyH_done (by kernel_rfl) ?_ _
 clear hB3 hB4 hS hS4 hS5 K3 K4 K5 hown5 n3 n4 n13
 go_wp2
 go_ret
 exact FIN.out

end Go.Proofs.YtcklgafpgdhnaaaGreatDoor

namespace Go.Proofs.YtcklgafpgdhnaaaGreatDoor
open Go.RowKit

theorem mPPacked (k v : Value) (w : World) : (Go.method 433 122 (.agg #[k, v]) "store/tree.packed").run Tryz.prog w = .ok (247, .agg #[k, v]) w := by kernel_rfl
theorem mKPacked (k v x : Value) (w : World) : (Go.method 433 80 (.agg #[k, v, x]) "store/tree.packed").run Tryz.prog w = .ok (296, .agg #[k, v, x]) w := by kernel_rfl
theorem build2_u8 (w : World) (x y : Int) : (Instr.buildSlice 60 2 #[(0, .int .u8 x), (1, .int .u8 y)]).run Tryz.prog w = .ok (.slice (some ⟨w.heap.size, 0, none⟩) 2 2) (w.alloc (.cells #[.int .u8 x, .int .u8 y] 5)) := by kernel_rfl
theorem exec_buildSliceE {P : Program} {o : Oper} {a : Act} {w w' : World} (t : TypeId) (n : Nat) (x y : Operand) (ho : o.op = .buildSlice t n #[(0, x), (1, y)]) (vx vy : Value) (hx : a.eval x = vx) (hy : a.eval y = vy) (v : Value)
  (hrun : (Instr.buildSlice t n #[(0, vx), (1, vy)]).run P w = .ok v w') : (execOp a.eval o).run P w = .ok (.value v) w' := by
 simp [execOp, ho, hx, hy, hrun, Result.andThen]
theorem seal_pad (out : List UInt8) (h : out.length ≤ 124) : sealL (splice (List.replicate 128 0) 0 out) = sealed (padTo 124 out) := by
 have e : splice (List.replicate 128 (0 : UInt8)) 0 out = out ++ List.replicate (128 - out.length) 0 := by unfold splice; rw [List.take_zero, List.nil_append, Nat.zero_add, List.drop_replicate]
 have hl : (out ++ List.replicate (128 - out.length) (0 : UInt8)).length = 128 := by rw [List.length_append, List.length_replicate]; omega
 have e2 : (out ++ List.replicate (128 - out.length) (0 : UInt8)).take 124 = padTo 124 out := by
  rw [List.take_append, List.take_of_length_le h, List.take_replicate]
  unfold padTo
  congr 2
  omega
 have e3 : (out ++ List.replicate (128 - out.length) (0 : UInt8)).drop 128 = [] := List.drop_of_length_le (by omega)
 rw [e, sealL, hl, show 128 - 4 = 124 from rfl, e2]
 unfold sealed splice
 rw [e2, length_bytesOf, e3, List.append_nil]
def BkI (w w1 : World) (pre : List UInt8) (m : Nat) (part : Nat → List UInt8) (out i : Value) (wr : World) : Prop :=
 ∃ j : Nat, j ≤ m ∧ i = .int .i64 j ∧ Bf w.heap.size wr out (pre ++ part j) ∧ Kt w.heap.size w1 wr

theorem blockP_any (kind : UInt8) (vl : Value) (l : List Pr) (w : World) (h : SL w 122 2 vl (l.map pe)) (hl : l.length ≤ 200) (hk : ∀ p ∈ l, p.1.size ≤ 8 ∧ p.2.size ≤ 12) (hsum : (l.flatMap pkP).length ≤ 122) :
  Calls Tryz.prog 242 #[.int .u8 kind.toNat, vl] w fun e w' => e = .returned (.agg (u8s (encI kind l.length (l.flatMap pkP))).toArray) ∧ Kept [] w w' := by
 obtain ⟨pv, cv, ev⟩ := h.shape
 rw [List.length_map] at ev
 subst ev
 have hm := mPPacked
 have hlen := byte_conv l.length
 obtain ⟨pre, epre⟩ : ∃ pre, pre = [kind, UInt8.ofNat l.length] := ⟨_, rfl⟩
 have hpre : pre.length = 2 := by rw [epre]; rfl
 have hpart : ∀ j, ((l.take j).flatMap pkP).length ≤ 122 := by
  intro j
  have e : l.flatMap pkP = (l.take j).flatMap pkP ++ (l.drop j).flatMap pkP := by
   rw [← List.flatMap_append, List.take_append_drop]
  rw [e, List.length_append] at hsum
  omega
 have hfin : pre ++ (l.take l.length).flatMap pkP = kind :: UInt8.ofNat l.length :: l.flatMap pkP := by rw [epre, List.take_length]; rfl
 have HFin : Hid _ := hfin
 have HLen : Hid _ := hlen
 have HPre : Hid _ := epre
 clear hfin hlen epre
 go_enter Tryz.func242, Tryz.ntmps242
 go_wp2_with (first
  | (refine wpList_alloc_d rfl 4 rfl 92 rfl _ (zblk _) ?_; intro w1 n1 k1 hs1)
  | (refine wpList_new rfl _ _ (exec_buildSliceE 60 2 (.tmp 9) (.tmp 12) rfl (.int .u8 kind.toNat) (.int .u8 (l.length : Int)) (by rfl) (by rfl) _ (build2_u8 _ _ _)) ?_; intro w2 n2 k2 hs2))
 have B2 : Bf w.heap.size w2 (.slice (some ⟨w.heap.size + 1, 0, none⟩) 2 2) (pre ++ (l.take 0).flatMap pkP) := by
  have e : u8s (pre ++ (l.take 0).flatMap pkP) = [.int .u8 kind.toNat, .int .u8 (l.length : Int)] := by
   rw [HPre.out, show (l.length : Int) = ((UInt8.ofNat l.length).toNat : Int) by have := HLen.out; omega]
   simp [u8s]
  have el : (pre ++ (l.take 0).flatMap pkP).length = 2 := by simp [hpre]
  unfold Bf
  rw [e, el]
  exact ⟨rfl, Or.inr ⟨w.heap.size + 1, 2, _, rfl, by omega, by rw [← hs1]; exact n2, Nat.le_refl _, by unfold maxLen; omega, rfl, rfl⟩⟩
 have K2 : Kt w.heap.size w1 w2 := Kt.of k2 (by omega)
 have HS1 : Hid _ := hs1
 have HN1 : Hid (w1.heap[w.heap.size]? = _) := n1
 have HK1 : Hid (Kept [] w w1) := k1
 clear n2 k2 hs2 hs1 n1 k1
 go_loopw [5, 16] (fun o i wr => BkI w w1 pre l.length (fun j => (l.take j).flatMap pkP) o i wr) (fun _ i _ => l.length - (intOf i).toNat)
 case atStart => exact ⟨0, Nat.zero_le _, rfl, B2, K2⟩
 case round =>
  obtain ⟨j, hj, rfl, hB, hK⟩ := hrel
  have hKr : Kept [] w wr := Kept.of_below (HK1.out.below.trans hK.bl)
  clear B2 K2
  by_cases hlt : j < l.length
  ·have hlt' : (j : Int) < (l.length : Int) := by omega
   obtain ⟨x, hx⟩ : ∃ x, l[j]? = some x := ⟨_, List.getElem?_eq_getElem hlt⟩
   have hx1 := (hk x (List.mem_of_getElem? hx)).1
   have hx2 := (hk x (List.mem_of_getElem? hx)).2
   have hnext : (l.take (j + 1)).flatMap pkP = (l.take j).flatMap pkP ++ pkP x := by
    rw [take_snoc l j x hx]; simp
   have hpj := hpart j
   obtain ⟨g, off, cap, cur, e, hg, hc1, hc2, hc3, hcur⟩ := (SL.kept h hKr).at_ (by simp; omega)
   rw [List.length_map] at e
   cases e
   have hld := load2 (P := Tryz.prog) (ty := 122) _ hg (hcur j _ (by rw [List.getElem?_map, hx]; rfl)) Tryz.underlying122 stp
   have HP : Hid (∀ o W, Bf w.heap.size W o (pre ++ (l.take j).flatMap pkP) → w.heap.size ≤ W.heap.size → Calls Tryz.prog 247 #[.agg #[.string x.1, .string x.2], o] W (BfR w.heap.size (pre ++ (l.take j).flatMap pkP ++ pkP x) W)) := fun o W hB hs => pairPacked_any w.heap.size o (pre ++ (l.take j).flatMap pkP) x W hB hs (by rw [List.length_append, hpre]; omega) (by omega) (by omega)
   simp only [pe] at hld
   have HN : Hid _ := hnext
   have HB : Hid (Bf w.heap.size wr _ _) := hB
   have hwr := hKr.size
   clear hcur hnext hB
   go_wp2_with (first
    | (refine wpList_val rfl _ _ (exec_index 115 (.tmp 14) (.tmp 16) rfl g off l.length cv j 2 rfl rfl 122 Tryz.underlying115 stp hlt (off + j * 2) rfl) ?_)
    | (refine wpList_load_seg rfl 122 (.tmp 18) rfl ⟨g, off + j * 2, none⟩ rfl _ hld ?_)
    | (go_at_call 247; refine (HP.out _ _ (HB.out.keep ((Kept.refl [] wr).alloc (.cells #[.string x.1, .string x.2] 122))) (by rw [World.size_alloc]; omega)).mono ?_; rintro e w3 ⟨v3, rfl, hB3, hK3⟩))
   have HB3 : Hid _ := hB3
   clear hB3
   go_roundw
   case rel => exact ⟨j + 1, by omega, by go_num, by show Bf w.heap.size w3 v3 (pre ++ (l.take (j + 1)).flatMap pkP); rw [HN.out, ← List.append_assoc]; exact HB3.out, (hK.trans (Kt.of ((Kept.refl [] wr).alloc _) (by omega))).trans hK3⟩
   case measure => simp [intOf]; omega
  ·have hge : ¬ (j : Int) < (l.length : Int) := by omega
   have ej : j = l.length := by omega
   subst ej
   rw [HFin.out] at hB
   obtain ⟨OUT, eout⟩ : ∃ OUT, OUT = kind :: UInt8.ofNat l.length :: l.flatMap pkP := ⟨_, rfl⟩
   have hol : OUT.length ≤ 124 := by rw [eout]; simp only [List.length_cons]; omega
   have ho2 : 0 < OUT.length := by rw [eout]; simp
   have henc : sealL (splice (List.replicate 128 0) 0 OUT) = encI kind l.length (l.flatMap pkP) := by rw [seal_pad OUT hol, eout]; rfl
   have hel : (encI kind l.length (l.flatMap pkP)).length = 128 := length_encI _ _ _ hsum
   have HE : Hid _ := henc
   rw [← eout] at hB
   obtain ⟨g, cap, cur, ev, hbg, hb0, hb1, hb2, hb3, hb4⟩ := owns_open hB ho2
   have hn1 := hK.row _ _ _ _ (by decide) HN1.out
   have hwr := hKr.size
   have hspl : (splice (List.replicate 128 (0 : UInt8)) 0 OUT).length = 128 := by rw [length_splice _ _ _ (by simp; omega)]; simp
   have HSL : Hid (∀ s W, W.heap[s]? = some (.cells (u8s (splice (List.replicate 128 0) 0 OUT)).toArray 92 (0, 0)) → Calls Tryz.prog 152 #[.slice (some ⟨s, 0, none⟩) 128 128] W fun e w' => e = .returned (.tuple #[]) ∧ w'.heap[s]? = some (.cells (u8s (encI kind l.length (l.flatMap pkP))).toArray 92 (0, 0)) ∧ Kept [s] W w') := by
    intro s W hW
    have := Seal_any s (splice (List.replicate 128 0) 0 OUT) 92 W hW (by omega) (by omega)
    rw [hspl, HE.out] at this
    exact this
   subst ev
   obtain ⟨ENC, eENC⟩ : ∃ ENC, ENC = encI kind l.length (l.flatMap pkP) := ⟨_, rfl⟩
   rw [← eENC] at hel HSL
   have HEN : Hid (ENC = _) := eENC
   clear eENC HE
   clear hB eout henc hspl
   go_wp2_with (first
    | (refine wpList_alloc_d rfl 8 rfl 92 rfl _ (zblk _) ?_; intro w3 n3 k3 hs3; have hbg3 := k3.get hbg (by simp))
    | (refine upon_copy_k 60 60 5 Tryz.underlying60 su8 wr.heap.size 0 124 128 ⟨g, 0, none⟩ OUT.length cap (u8s (List.replicate 128 0)) 92 n3 (u8s OUT) (by rw [length_u8s]; exact (Nat.min_eq_left hol).symm) (row_srcAt hbg3 (by intro q u hq; rw [Nat.zero_add]; exact take_get hb4 hq)) (by rw [length_u8s, length_u8s, List.length_replicate]; omega) (one_u8s _) ?_; intro w4 n4 k4; rw [u8s_splice] at n4)
    | (go_at_call 152; refine (HSL.out wr.heap.size _ n4).mono ?_; rintro e w5 ⟨rfl, n5, k5⟩; have n15 := k5.get (k4.get (k3.get hn1 (by simp)) (by have := HS1.out; have := hK.bl.size; simp; omega)) (by have := HS1.out; have := hK.bl.size; simp; omega))
    | (refine wpList_load_row rfl 92 (.tmp 8) rfl wr.heap.size rfl 92 (u8s ENC).toArray (0, 0) _ n5 Tryz.underlying92 rfl (by rw [sblk]; simp [length_u8s, hel]) ?_)
    | (refine wpList_store_k rfl 92 (.tmp 4) (.tmp 30) rfl w.heap.size (u8s ENC).toArray rfl rfl 92 _ n15 (by rw [sblk]; simp [length_u8s, hel]) (by simp [length_u8s, hel]) (all_of (one_u8s _)) ?_; intro w6 n6 k6))
   refine bodyPost_ret (results_cell_row rfl _ w6 w.heap.size 92 _ (0, 0) _ rfl n6 Tryz.underlying92 rfl (by rw [sblk]; simp [length_u8s, hel])) rfl ?_
   have hz := hKr.size
   exact ⟨by rw [HEN.out], (((hKr.trans k3).trans2 k4 (by intro y hy; simp at hy; subst hy; exact Or.inr hz)).trans2 k5 (by intro y hy; simp at hy; subst hy; exact Or.inr hz)).trans2 k6 (by intro y hy; simp at hy; subst hy; exact Or.inr (Nat.le_refl _))⟩

def kp (e : KE) : ByteArray × Nat := (e.1, e.3)
theorem blockK_any (kind : UInt8) (vl : Value) (l : List KE) (w : World) (h : SL w 80 3 vl (l.map ke)) (hl : l.length ≤ 200) (hk : ∀ p ∈ l, p.1.size ≤ 8 ∧ p.3 < 65536) (hsum : ((l.map kp).flatMap pkK).length ≤ 122) (ho : ∀ x ∈ l, x.2 = .nilIface ∨ ∃ t v, x.2 = .iface t v) :
  Calls Tryz.prog 261 #[.int .u8 kind.toNat, vl] w fun e w' => e = .returned (.agg (u8s (encI kind l.length ((l.map kp).flatMap pkK))).toArray) ∧ Kept [] w w' := by
 obtain ⟨pv, cv, ev⟩ := h.shape
 rw [List.length_map] at ev
 subst ev
 have hm := mKPacked
 have hlen := byte_conv l.length
 obtain ⟨pre, epre⟩ : ∃ pre, pre = [kind, UInt8.ofNat l.length] := ⟨_, rfl⟩
 have hpre : pre.length = 2 := by rw [epre]; rfl
 have hpart : ∀ j, (((l.take j).map kp).flatMap pkK).length ≤ 122 := by
  intro j
  have e : (l.map kp).flatMap pkK = ((l.take j).map kp).flatMap pkK ++ ((l.drop j).map kp).flatMap pkK := by
   rw [← List.flatMap_append, ← List.map_append, List.take_append_drop]
  rw [e, List.length_append] at hsum
  omega
 have hfin : pre ++ ((l.take l.length).map kp).flatMap pkK = kind :: UInt8.ofNat l.length :: (l.map kp).flatMap pkK := by rw [epre, List.take_length]; rfl
 have HFin : Hid _ := hfin
 have HLen : Hid _ := hlen
 have HPre : Hid _ := epre
 clear hfin hlen epre
 go_enter Tryz.func261, Tryz.ntmps261
 go_wp2_with (first
  | (refine wpList_alloc_d rfl 4 rfl 92 rfl _ (zblk _) ?_; intro w1 n1 k1 hs1)
  | (refine wpList_new rfl _ _ (exec_buildSliceE 60 2 (.tmp 9) (.tmp 12) rfl (.int .u8 kind.toNat) (.int .u8 (l.length : Int)) (by rfl) (by rfl) _ (build2_u8 _ _ _)) ?_; intro w2 n2 k2 hs2))
 have B2 : Bf w.heap.size w2 (.slice (some ⟨w.heap.size + 1, 0, none⟩) 2 2) (pre ++ ((l.take 0).map kp).flatMap pkK) := by
  have e : u8s (pre ++ ((l.take 0).map kp).flatMap pkK) = [.int .u8 kind.toNat, .int .u8 (l.length : Int)] := by
   rw [HPre.out, show (l.length : Int) = ((UInt8.ofNat l.length).toNat : Int) by have := HLen.out; omega]
   simp [u8s]
  have el : (pre ++ ((l.take 0).map kp).flatMap pkK).length = 2 := by simp [hpre]
  unfold Bf
  rw [e, el]
  exact ⟨rfl, Or.inr ⟨w.heap.size + 1, 2, _, rfl, by omega, by rw [← hs1]; exact n2, Nat.le_refl _, by unfold maxLen; omega, rfl, rfl⟩⟩
 have K2 : Kt w.heap.size w1 w2 := Kt.of k2 (by omega)
 have HS1 : Hid _ := hs1
 have HN1 : Hid (w1.heap[w.heap.size]? = _) := n1
 have HK1 : Hid (Kept [] w w1) := k1
 clear n2 k2 hs2 hs1 n1 k1
 go_loopw [5, 16] (fun o i wr => BkI w w1 pre l.length (fun j => ((l.take j).map kp).flatMap pkK) o i wr) (fun _ i _ => l.length - (intOf i).toNat)
 case atStart => exact ⟨0, Nat.zero_le _, rfl, B2, K2⟩
 case round =>
  obtain ⟨j, hj, rfl, hB, hK⟩ := hrel
  have hKr : Kept [] w wr := Kept.of_below (HK1.out.below.trans hK.bl)
  clear B2 K2
  by_cases hlt : j < l.length
  ·have hlt' : (j : Int) < (l.length : Int) := by omega
   obtain ⟨x, hx⟩ : ∃ x, l[j]? = some x := ⟨_, List.getElem?_eq_getElem hlt⟩
   have hx1 := (hk x (List.mem_of_getElem? hx)).1
   have hx2 := (hk x (List.mem_of_getElem? hx)).2
   have hnext : ((l.take (j + 1)).map kp).flatMap pkK = ((l.take j).map kp).flatMap pkK ++ pkK (x.1, x.3) := by
    rw [take_snoc l j x hx]; simp [kp]
   have hpj := hpart j
   obtain ⟨g, off, cap, cur, e, hg, hc1, hc2, hc3, hcur⟩ := (SL.kept h hKr).at_ (by simp; omega)
   rw [List.length_map] at e
   cases e
   have hld := load2 (P := Tryz.prog) (ty := 80) _ hg (hcur j _ (by rw [List.getElem?_map, hx]; rfl)) Tryz.underlying80 stk
   rcases ho x (List.mem_of_getElem? hx) with ei | ⟨ti, vi, ei⟩
   ·have HP : Hid (∀ o W, Bf w.heap.size W o (pre ++ ((l.take j).map kp).flatMap pkK) → w.heap.size ≤ W.heap.size → Calls Tryz.prog 296 #[.agg #[.string x.1, .int .i64 x.3, .nilIface], o] W (BfR w.heap.size (pre ++ ((l.take j).map kp).flatMap pkK ++ pkK (x.1, x.3)) W)) := fun o W hB hs => kidPacked_any w.heap.size o (pre ++ ((l.take j).map kp).flatMap pkK) x.1 x.3 .nilIface W hB hs (by rw [List.length_append, hpre]; omega) (by omega) (by omega)
    simp only [ke, ei] at hld
    have HN : Hid _ := hnext
    have HB : Hid (Bf w.heap.size wr _ _) := hB
    have hwr := hKr.size
    clear hcur hnext hB
    go_wp2_with (first
     | (refine wpList_val rfl _ _ (exec_index 165 (.tmp 14) (.tmp 16) rfl g off l.length cv j 3 rfl rfl 80 Tryz.underlying165 stk hlt (off + j * 3) rfl) ?_)
     | (refine wpList_load_seg rfl 80 (.tmp 18) rfl ⟨g, off + j * 3, none⟩ rfl _ hld ?_)
     | (go_at_call 296; refine (HP.out _ _ (HB.out.keep ((Kept.refl [] wr).alloc (.cells #[.string x.1, .int .i64 x.3, .nilIface] 80))) (by rw [World.size_alloc]; omega)).mono ?_; rintro e w3 ⟨v3, rfl, hB3, hK3⟩))
    have HB3 : Hid _ := hB3
    clear hB3
    go_roundw
    case rel => exact ⟨j + 1, by omega, by go_num, by show Bf w.heap.size w3 v3 (pre ++ ((l.take (j + 1)).map kp).flatMap pkK); rw [HN.out, ← List.append_assoc]; exact HB3.out, (hK.trans (Kt.of ((Kept.refl [] wr).alloc _) (by omega))).trans hK3⟩
    case measure => simp [intOf]; omega
   ·have HP : Hid (∀ o W, Bf w.heap.size W o (pre ++ ((l.take j).map kp).flatMap pkK) → w.heap.size ≤ W.heap.size → Calls Tryz.prog 296 #[.agg #[.string x.1, .int .i64 x.3, (.iface ti vi)], o] W (BfR w.heap.size (pre ++ ((l.take j).map kp).flatMap pkK ++ pkK (x.1, x.3)) W)) := fun o W hB hs => kidPacked_any w.heap.size o (pre ++ ((l.take j).map kp).flatMap pkK) x.1 x.3 (.iface ti vi) W hB hs (by rw [List.length_append, hpre]; omega) (by omega) (by omega)
    simp only [ke, ei] at hld
    have HN : Hid _ := hnext
    have HB : Hid (Bf w.heap.size wr _ _) := hB
    have hwr := hKr.size
    clear hcur hnext hB
    go_wp2_with (first
     | (refine wpList_val rfl _ _ (exec_index 165 (.tmp 14) (.tmp 16) rfl g off l.length cv j 3 rfl rfl 80 Tryz.underlying165 stk hlt (off + j * 3) rfl) ?_)
     | (refine wpList_load_seg rfl 80 (.tmp 18) rfl ⟨g, off + j * 3, none⟩ rfl _ hld ?_)
     | (go_at_call 296; refine (HP.out _ _ (HB.out.keep ((Kept.refl [] wr).alloc (.cells #[.string x.1, .int .i64 x.3, (.iface ti vi)] 80))) (by rw [World.size_alloc]; omega)).mono ?_; rintro e w3 ⟨v3, rfl, hB3, hK3⟩))
    have HB3 : Hid _ := hB3
    clear hB3
    go_roundw
    case rel => exact ⟨j + 1, by omega, by go_num, by show Bf w.heap.size w3 v3 (pre ++ ((l.take (j + 1)).map kp).flatMap pkK); rw [HN.out, ← List.append_assoc]; exact HB3.out, (hK.trans (Kt.of ((Kept.refl [] wr).alloc _) (by omega))).trans hK3⟩
    case measure => simp [intOf]; omega
  ·have hge : ¬ (j : Int) < (l.length : Int) := by omega
   have ej : j = l.length := by omega
   subst ej
   rw [HFin.out] at hB
   obtain ⟨OUT, eout⟩ : ∃ OUT, OUT = kind :: UInt8.ofNat l.length :: (l.map kp).flatMap pkK := ⟨_, rfl⟩
   have hol : OUT.length ≤ 124 := by rw [eout]; simp only [List.length_cons]; omega
   have ho2 : 0 < OUT.length := by rw [eout]; simp
   have henc : sealL (splice (List.replicate 128 0) 0 OUT) = encI kind l.length ((l.map kp).flatMap pkK) := by rw [seal_pad OUT hol, eout]; rfl
   have hel : (encI kind l.length ((l.map kp).flatMap pkK)).length = 128 := length_encI _ _ _ hsum
   have HE : Hid _ := henc
   rw [← eout] at hB
   obtain ⟨g, cap, cur, ev, hbg, hb0, hb1, hb2, hb3, hb4⟩ := owns_open hB ho2
   have hn1 := hK.row _ _ _ _ (by decide) HN1.out
   have hwr := hKr.size
   have hspl : (splice (List.replicate 128 (0 : UInt8)) 0 OUT).length = 128 := by rw [length_splice _ _ _ (by simp; omega)]; simp
   have HSL : Hid (∀ s W, W.heap[s]? = some (.cells (u8s (splice (List.replicate 128 0) 0 OUT)).toArray 92 (0, 0)) → Calls Tryz.prog 152 #[.slice (some ⟨s, 0, none⟩) 128 128] W fun e w' => e = .returned (.tuple #[]) ∧ w'.heap[s]? = some (.cells (u8s (encI kind l.length ((l.map kp).flatMap pkK))).toArray 92 (0, 0)) ∧ Kept [s] W w') := by
    intro s W hW
    have := Seal_any s (splice (List.replicate 128 0) 0 OUT) 92 W hW (by omega) (by omega)
    rw [hspl, HE.out] at this
    exact this
   subst ev
   obtain ⟨ENC, eENC⟩ : ∃ ENC, ENC = encI kind l.length ((l.map kp).flatMap pkK) := ⟨_, rfl⟩
   rw [← eENC] at hel HSL
   have HEN : Hid (ENC = _) := eENC
   clear eENC HE
   clear hB eout henc hspl
   go_wp2_with (first
    | (refine wpList_alloc_d rfl 8 rfl 92 rfl _ (zblk _) ?_; intro w3 n3 k3 hs3; have hbg3 := k3.get hbg (by simp))
    | (refine upon_copy_k 60 60 5 Tryz.underlying60 su8 wr.heap.size 0 124 128 ⟨g, 0, none⟩ OUT.length cap (u8s (List.replicate 128 0)) 92 n3 (u8s OUT) (by rw [length_u8s]; exact (Nat.min_eq_left hol).symm) (row_srcAt hbg3 (by intro q u hq; rw [Nat.zero_add]; exact take_get hb4 hq)) (by rw [length_u8s, length_u8s, List.length_replicate]; omega) (one_u8s _) ?_; intro w4 n4 k4; rw [u8s_splice] at n4)
    | (go_at_call 152; refine (HSL.out wr.heap.size _ n4).mono ?_; rintro e w5 ⟨rfl, n5, k5⟩; have n15 := k5.get (k4.get (k3.get hn1 (by simp)) (by have := HS1.out; have := hK.bl.size; simp; omega)) (by have := HS1.out; have := hK.bl.size; simp; omega))
    | (refine wpList_load_row rfl 92 (.tmp 8) rfl wr.heap.size rfl 92 (u8s ENC).toArray (0, 0) _ n5 Tryz.underlying92 rfl (by rw [sblk]; simp [length_u8s, hel]) ?_)
    | (refine wpList_store_k rfl 92 (.tmp 4) (.tmp 30) rfl w.heap.size (u8s ENC).toArray rfl rfl 92 _ n15 (by rw [sblk]; simp [length_u8s, hel]) (by simp [length_u8s, hel]) (all_of (one_u8s _)) ?_; intro w6 n6 k6))
   refine bodyPost_ret (results_cell_row rfl _ w6 w.heap.size 92 _ (0, 0) _ rfl n6 Tryz.underlying92 rfl (by rw [sblk]; simp [length_u8s, hel])) rfl ?_
   have hz := hKr.size
   exact ⟨by rw [HEN.out], (((hKr.trans k3).trans2 k4 (by intro y hy; simp at hy; subst hy; exact Or.inr hz)).trans2 k5 (by intro y hy; simp at hy; subst hy; exact Or.inr hz)).trans2 k6 (by intro y hy; simp at hy; subst hy; exact Or.inr (Nat.le_refl _))⟩

end Go.Proofs.YtcklgafpgdhnaaaGreatDoor

namespace Go.Proofs.YtcklgafpgdhnaaaGreatDoor
open Go.RowKit

theorem dBlockL (p : Option Addr) (n c : Nat) : Disp "store/tree.block" (.iface 116 (.slice p n c)) 231 (.slice p n c) := ⟨_, rfl, fun _ => by kernel_rfl, fun _ _ => by kernel_rfl⟩
theorem dBlockB (p : Option Addr) (n c : Nat) : Disp "store/tree.block" (.iface 168 (.slice p n c)) 250 (.slice p n c) := ⟨_, rfl, fun _ => by kernel_rfl, fun _ _ => by kernel_rfl⟩

theorem leafBlock_any (v : Value) (l : List Pr) (w : World) (h : LF w v l) (hk : fitsN (.leaf l)) :
  Calls Tryz.prog 231 #[v] w fun e w' => e = .returned (.agg (u8s (encL l)).toArray) ∧ Kept [] w w' := by
 have hsum : (l.flatMap pkP).length ≤ 122 := by rw [length_flatP]; exact hk.2
 have hln : l.length ≤ 200 := by have := sum_ge2 l; have := hk.2; omega
 have hel : (encL l).length = 128 := length_encI _ _ _ hsum
 have HB : Hid (∀ W, Kept [] w W → Calls Tryz.prog 242 #[.int .u8 76, v] W fun e w' => e = .returned (.agg (u8s (encL l)).toArray) ∧ Kept [] W w') := fun W kW => blockP_any 76 v l W (SL.kept h kW) hln hk.1 hsum
 generalize encL l = E at *
 go_enter Tryz.func231, Tryz.ntmps231
 go_wp2_with (first
  | (refine wpList_alloc_d rfl 2 rfl 92 rfl _ (zblk _) ?_; intro w1 n1 k1 hs1)
  | (go_at_call 242; refine (HB.out w1 k1).mono ?_; rintro e w2 ⟨rfl, k2⟩)
  | (refine wpList_store_k rfl 92 (.tmp 2) (.tmp 4) rfl w.heap.size (u8s E).toArray rfl rfl 92 _ (k2.get n1 (by simp)) (by rw [sblk]; simp [length_u8s, hel]) (by simp [length_u8s, hel]) (all_of (one_u8s _)) ?_; intro w3 n3 k3))
 refine bodyPost_ret (results_cell_row rfl _ w3 w.heap.size 92 _ (0, 0) _ rfl n3 Tryz.underlying92 rfl (by rw [sblk]; simp [length_u8s, hel])) rfl ?_
 exact ⟨rfl, (k1.trans k2).trans2 k3 (by intro y hy; simp at hy; subst hy; exact Or.inr (Nat.le_refl _))⟩

theorem brBlock_any (v : Value) (l : List KE) (w : World) (h : SL w 80 3 v (l.map ke)) (hk : fitsN (.branch (l.map kp))) (ho : ∀ x ∈ l, x.2 = .nilIface ∨ ∃ t v, x.2 = .iface t v) :
  Calls Tryz.prog 250 #[v] w fun e w' => e = .returned (.agg (u8s (encB (l.map kp))).toArray) ∧ Kept [] w w' := by
 have hk1 : ∀ x ∈ l, x.1.size ≤ 8 ∧ x.3 < 65536 := fun x hx => hk.1 (kp x) (List.mem_map.2 ⟨x, hx, rfl⟩)
 have hln := hk.2
 rw [List.length_map] at hln
 have hsum : ((l.map kp).flatMap pkK).length ≤ 122 := by rw [length_flatB _ fun k hm => (hk.1 k hm).1, List.length_map]; exact hln
 have hel : (encB (l.map kp)).length = 128 := length_encI _ _ _ hsum
 have HB : Hid (∀ W, Kept [] w W → Calls Tryz.prog 261 #[.int .u8 66, v] W fun e w' => e = .returned (.agg (u8s (encB (l.map kp))).toArray) ∧ Kept [] W w') := fun W kW => by
  have := blockK_any 66 v l W (SL.kept h kW) (by omega) hk1 hsum ho
  unfold encB
  rw [List.length_map]
  exact this
 generalize encB (l.map kp) = E at *
 go_enter Tryz.func250, Tryz.ntmps250
 go_wp2_with (first
  | (refine wpList_alloc_d rfl 2 rfl 92 rfl _ (zblk _) ?_; intro w1 n1 k1 hs1)
  | (go_at_call 261; refine (HB.out w1 k1).mono ?_; rintro e w2 ⟨rfl, k2⟩)
  | (refine wpList_store_k rfl 92 (.tmp 2) (.tmp 4) rfl w.heap.size (u8s E).toArray rfl rfl 92 _ (k2.get n1 (by simp)) (by rw [sblk]; simp [length_u8s, hel]) (by simp [length_u8s, hel]) (all_of (one_u8s _)) ?_; intro w3 n3 k3))
 refine bodyPost_ret (results_cell_row rfl _ w3 w.heap.size 92 _ (0, 0) _ rfl n3 Tryz.underlying92 rfl (by rw [sblk]; simp [length_u8s, hel])) rfl ?_
 exact ⟨rfl, (k1.trans k2).trans2 k3 (by intro y hy; simp at hy; subst hy; exact Or.inr (Nat.le_refl _))⟩

theorem F2.kps {w : World} {A : Nat → Prop} {h : Nat} {ks : List (Kid h)} {xs : List KE} (hf : F2 (KR w A h) ks xs) : xs.map kp = ks.map fun k => (k.1, k.3) := by
 apply List.ext_getElem?
 intro i
 rw [List.getElem?_map, List.getElem?_map]
 rcases Nat.lt_or_ge i ks.length with hi | hi
 ·obtain ⟨b, hb, hr⟩ := hf.get (List.getElem?_eq_getElem hi)
  rw [hb, List.getElem?_eq_getElem hi]
  simp [kp, hr.1.1, hr.1.2]
 ·rw [List.getElem?_eq_none (by rw [← hf.1]; exact hi), List.getElem?_eq_none hi]
  rfl
theorem block_nd {w : World} {A : Nat → Prop} : ∀ {h : Nat} {n : Nd h} {x : Value}, ND w A h n x → fitsN (nbN h n) → ∃ fn v, Disp "store/tree.block" x fn v ∧ Calls Tryz.prog fn #[v] w fun e w' => e = .returned (.agg (u8s (encN (nbN h n))).toArray) ∧ Kept [] w w'
 | 0, n, x, hx, hk => by
  obtain ⟨v, rfl, hl, _⟩ := hx
  have HC := leafBlock_any v n w hl hk
  obtain ⟨p, c, ev⟩ := SL.shape hl
  subst ev
  exact ⟨_, _, dBlockL _ _ _, HC⟩
 | h + 1, n, x, hx, hk => by
  obtain ⟨v, xs, rfl, hl, _, hf⟩ := ND_succ.1 hx
  have e := hf.kps
  have HC := brBlock_any v xs w hl (by rw [e]; exact hk) fun x hx => Or.inr (kids_iface hf x hx)
  rw [e] at HC
  obtain ⟨p, c, ev⟩ := SL.shape hl
  subst ev
  exact ⟨_, _, dBlockB _ _ _, HC⟩

end Go.Proofs.YtcklgafpgdhnaaaGreatDoor
