import Derived.Test.YtcklgafpgdhnaabGreatDoorPqac
import Derived.Test.YtcklgafpgdhnaabGreatDoorPqag
import Derived.Test.YtcklgafpgdhnaabGreatDoorPqaf
import Derived.Test.YtcklgafpgdhnaabGreatDoorPqad
import Derived.Lib.AppendStr
import Derived.Test.YtcklgafpgdhnaabGreatDoorPqam
import Derived.Test.YtcklgafpgdhnaabGreatDoorPqae
import Derived.Test.YtcklgafpgdhnaabGreatDoorPqap
import Derived.Test.YtcklgafpgdhnaabGreatDoorPqab
set_option maxRecDepth 100000
set_option maxHeartbeats 4000000
open Go.Proofs.Tryz
open Go.Act renaming put → zP
open List renaming getElem_toArray → zA, getElem_cons_succ → zB, getElem_cons_zero → zC, setIfInBounds_toArray → zD, set_cons_succ → zE, set_cons_zero → zF
namespace Go.Proofs.YtcklgafpgdhnaabGreatDoor
open Go.RowKit
def Bf (base : Nat) (w : World) (v : Value) (L : List UInt8) : Prop := w.ownsRow base 5 1 v L.length (u8s L)
theorem Q6a {v : Value} {x : Nat} (h : x ∈ v.ownBlock.toList) : v.ownBlock = some x := by
 cases hu : v.ownBlock with
 | none => rw [hu] at h; cases h
 | some y => rw [hu] at h; simp at h; rw [h]
theorem Bf.keep {base : Nat} {w w' : World} {v : Value} {L : List UInt8} (h : Bf base w v L) (k : y5 [] w w') : Bf base w' v L := yQ h k (by simp)
theorem Bf.off {base : Nat} {w : World} {v : Value} {L : List UInt8} (h : Bf base w v L) {y : Nat} {cs : Array Value} {t : TypeId} {fr : Nat × Nat} (hy : w.heap[y]? = some (.cells cs t fr)) (ht : t ≠ 5) : y ∉ v.ownBlock.toList := by
 intro hm
 obtain ⟨_, ⟨rfl, _⟩ | ⟨g, cap, cur, rfl, _, hg, _⟩⟩ := h
 ·simp [Value.ownBlock] at hm
 ·have e := Q6a hm
  simp [Value.ownBlock] at e
  subst e
  rw [hg] at hy
  cases hy
  exact ht rfl
structure Kt (base : Nat) (w w' : World) : Prop where
 bl : Below base w w'
 row : ∀ (y : Nat) (cs : Array Value) (t : TypeId) (fr : Nat × Nat), t ≠ 5 -> w.heap[y]? = some (.cells cs t fr) -> w'.heap[y]? = some (.cells cs t fr)
theorem Kt.trans {base : Nat} {a b c : World} (h : Kt base a b) (g : Kt base b c) : Kt base a c := ⟨h.bl.trans g.bl, fun y cs t fr ht hy => g.row y cs t fr ht (h.row y cs t fr ht hy)⟩
theorem Kt.of {base : Nat} {w w' : World} (k : y5 [] w w') (hb : base <= w.heap.size) : Kt base w w' := ⟨⟨k.os, k.tape, k.output, k.size, fun i hi => k.block i (by omega) (by simp)⟩, fun y cs t fr _ hy => k.get hy (by simp)⟩
theorem Bf.kt {base : Nat} {w w' : World} {v : Value} {L : List UInt8} (h : Bf base w v L) (k : y5 v.ownBlock.toList w w') (hb : base <= w.heap.size) : Kt base w w' :=
 ⟨⟨k.os, k.tape, k.output, k.size, fun i hi => k.block i (by omega) (fun hm => by have := (h.lt i (Q6a hm)).1; omega)⟩, fun y cs t fr ht hy => k.get hy (h.off hy ht)⟩
def BfR (base : Nat) (L : List UInt8) (w : World) (e : Ending) (w' : World) : Prop := ∃ v', e = .returned v' /\ Bf base w' v' L /\ Kt base w w'
theorem iu8' : (prog.info? 5).map (fun i => (i.zero, i.size, i.bytes)) = some (some (.int .u8 0), 1, 1) := by kernel_rfl
theorem Q6b (w : World) (x : Int) : (Instr.buildSlice 83 1 #[(0, .int .u8 x)]).run prog w = .ok (.slice (some ⟨w.heap.size, 0, none⟩) 1 1) (w.alloc (.cells #[.int .u8 x] 5)) := by kernel_rfl
theorem Q6c (n : Nat) : (n : Int) % 256 = ((UInt8.ofNat n).toNat : Int) := by
 rw [UInt8.toNat_ofNat']
 omega
theorem Za (base : Nat) (v : Value) (L : List UInt8) (s : ByteArray) (w : World) (h : Bf base w v L) (hb : base <= w.heap.size) (hl : L.length <= 10000) (hs : s.size <= 255) : Calls prog 201 #[v, .string s] w (BfR base (L ++ tx s) w) := by
 obtain ⟨ie, hie, hz1, hz2, hz3⟩ := info_parts iu8'
 have hx : (s.size : Int) = ((UInt8.ofNat s.size).toNat : Int) := by have := Q6c s.size; omega
 have k1 := (y5.refl [] w).alloc (.cells #[.int .u8 (s.size : Int)] 5)
 have n1 := heap_alloc_new w (.cells #[.int .u8 (s.size : Int)] 5)
 have h1 : Bf base (w.alloc (.cells #[.int .u8 (s.size : Int)] 5)) v L := h.keep k1
 have hsz := World.size_alloc w (.cells #[.int .u8 (s.size : Int)] 5)
 obtain ⟨v2, w2, hr2, hown2, hg2, -⟩ := run_append_own (P := prog) (w.alloc (.cells #[.int .u8 (s.size : Int)] 5)) base 83 83 5 ie (.int .u8 0) 1 1 underlying83 hie hz1 hz2 hz3 rfl (by decide) v L.length (u8s L) h1 ⟨w.heap.size, 0, none⟩ 1 1 [.int .u8 (s.size : Int)] rfl (by
  intro j u hj
  cases j with
  | zero => simp at hj; subst hj; exact y6 n1 rfl
  | succ j => simp at hj) (by intro u hu; simp at hu; subst hu; rfl) (by unfold maxLen; omega) (by omega) (by omega)
 have t2 := h1.kt (qL hg2 v.ownBlock.toList (by intro k hk; rw [hk]; simp)) (by omega)
 have e2 : u8s L ++ [Value.int .u8 (s.size : Int)] = u8s (L ++ [UInt8.ofNat s.size]) := by rw [hx]; simp [u8s]
 rw [e2] at hown2
 have hown2' : Bf base w2 v2 (L ++ [UInt8.ofNat s.size]) := by unfold Bf; rw [List.length_append]; exact hown2
 have hsz2 := t2.bl.size
 obtain ⟨v3, w3, hr3, hown3, hg3, -⟩ := Lib.run_append_own_string (P := prog) w2 base 83 9 83 5 ie underlying83 underlying9 hie hz1 hz2 hz3 v2 (L.length + 1) (u8s (L ++ [UInt8.ofNat s.size])) hown2 s (by unfold maxLen; omega) (by omega) (by omega)
 have t3 := hown2'.kt (qL hg3 v2.ownBlock.toList (by intro k hk; rw [hk]; simp)) (by omega)
 have e3 : u8s (L ++ [UInt8.ofNat s.size]) ++ Lib.strCells s = u8s (L ++ tx s) := by simp [u8s, tx, Lib.strCells]
 rw [e3] at hown3
 have el : L.length + 1 + s.size = (L ++ tx s).length := by rw [List.length_append, jh]; omega
 rw [el] at hown3
 have FIN : Hid (BfR base (L ++ tx s) w (.returned v3) w3) := ⟨v3, rfl, hown3, ((Kt.of k1 hb).trans t2).trans t3⟩
 clear hown3 hown2 hown2' t2 t3 hg2 hg3 e2 e3 h1 n1 hx
 go_enter func201, ntmps201
 go_wp2_with (first
  | (refine y8 rfl _ _ (qf 83 1 (.tmp 8) rfl (.int .u8 (s.size : Int)) (by rfl) _ (Q6b _ _)) ?_)
  | (at_builtin; refine y8 rfl _ _ (Q5 (.tmp 5) (.tmp 9) 83 rfl v (.slice (some ⟨w.heap.size, 0, none⟩) 1 1) (by rfl) (by rfl) _ hr2) ?_)
  | (at_builtin; refine y8 rfl _ _ (yG (.tmp 10) (.tmp 11) 83 9 rfl v2 (.string s) (by rfl) (by rfl) _ hr3) ?_))
 go_ret
 exact FIN.out
theorem Q1 (args : Array Value) (w : World) : (callFunc 201 args).run prog w = .ok (.enter 201 args) w := qA func201 (by kernel_rfl) (by kernel_rfl) args w
def RwS (g : Nat) (cs : Array Value) (t : TypeId) (W : World) : Prop := W.heap[g]? = some (.cells cs t (0, 0))
theorem Q6d (base : Nat) (v : Value) (L : List UInt8) (p : Pr) (w : World) (h : Bf base w v L) (hb : base <= w.heap.size) (hl : L.length <= 9000) (h1 : p.1.size <= 255) (h2 : p.2.size <= 255) : Calls prog 199 #[.agg #[.string p.1, .string p.2], v] w (BfR base (L ++ pkP p) w) := by
 have k1 := (y5.refl [] w).alloc (.cells #[.string p.1, .string p.2] 138)
 have n1 := heap_alloc_new w (.cells #[.string p.1, .string p.2] 138)
 have hS : RwS w.heap.size #[.string p.1, .string p.2] 138 (w.alloc (.cells #[.string p.1, .string p.2] 138)).drew := n1
 have hB1 : Bf base (w.alloc (.cells #[.string p.1, .string p.2] 138)).drew v L := h.keep k1.drew
 have K1 : Kt base w (w.alloc (.cells #[.string p.1, .string p.2] 138)).drew := Kt.of k1.drew hb
 have hs1 : base <= (w.alloc (.cells #[.string p.1, .string p.2] 138)).drew.heap.size := by have := k1.drew.size; omega
 generalize hW : (w.alloc (.cells #[.string p.1, .string p.2] 138)).drew = w1 at *
 have HW : Hid _ := hW
 clear hW n1 k1 h
 go_enter func199, ntmps199
 go_wp2_with fail
 refine yj (RwS w.heap.size #[.string p.1, .string p.2] 138) (by kernel_rfl) ?_
 rw [HW.out]
 refine hu 0 v rfl (fun W hW => by rfl) hS ?_
 simp only [zP, zA, zC, zD, zE, zF]
 refine hu 1 (.pointer (some ⟨w.heap.size, 0 + 0, none⟩)) rfl (fun W hW => yv 138 (.tmp 2) 0 rfl w.heap.size 0 rfl 0 (by rfl)) hS ?_
 simp only [zP, zA, zB, zC, zD, zE, zF]
 refine hu 2 (.pointer (some ⟨w.heap.size, 0 + 0 + 0, none⟩)) rfl (fun W hW => yv 52 (.tmp 6) 0 rfl w.heap.size (0 + 0) rfl 0 (by rfl)) hS ?_
 simp only [zP, zA, zB, zC, zD, zE, zF]
 refine hu 3 (.string p.1) rfl (fun W hW => y9 9 (.tmp 7) rfl ⟨w.heap.size, 0 + 0 + 0, none⟩ rfl _ (yh underlying9 rfl (y6 hW rfl))) hS ?_
 simp only [zP, zA, zB, zC, zD, zE, zF]
 refine hu 5 (.pointer (some ⟨w.heap.size, 0 + 0, none⟩)) rfl (fun W hW => yv 138 (.tmp 2) 0 rfl w.heap.size 0 rfl 0 (by rfl)) hS ?_
 simp only [zP, zA, zB, zC, zD, zE, zF]
 refine hu 6 (.pointer (some ⟨w.heap.size, 0 + 0 + 1, none⟩)) rfl (fun W hW => yv 52 (.tmp 10) 1 rfl w.heap.size (0 + 0) rfl 1 (by rfl)) hS ?_
 simp only [zP, zA, zB, zC, zD, zE, zF]
 refine hu 7 (.string p.2) rfl (fun W hW => y9 9 (.tmp 11) rfl ⟨w.heap.size, 0 + 0 + 1, none⟩ rfl _ (yh underlying9 rfl (y6 hW rfl))) hS ?_
 simp only [zP, zA, zB, zC, zD, zE, zF]
 refine yf (i := 4) (by kernel_rfl) (yo rfl (by rfl) 201 #[v, .string p.1] (yk _ _ _ rfl _ (by simp [Act.eval]) (Q1 _ _)) _ (Za base v L p.1 w1 hB1 hs1 (by omega) h1) ?_)
 rintro e w2 ⟨v2, rfl, hB2, K2⟩
 have hS2 := K2.row _ _ _ _ (by decide) hS
 refine ⟨_, rfl, hS2, ?_⟩
 simp only [zP, zA, zB, zC, zD, zE, zF]
 have hs2 : base <= w2.heap.size := by have := K2.bl.size; omega
 have hl2 : (L ++ tx p.1).length <= 10000 := by rw [List.length_append, jh]; omega
 refine yf (i := 8) (by kernel_rfl) (yo rfl (by rfl) 201 #[v2, .string p.2] (yk _ _ _ rfl _ (by simp [Act.eval]) (Q1 _ _)) _ (Za base v2 (L ++ tx p.1) p.2 w2 hB2 hs2 hl2 h2) ?_)
 rintro e w3 ⟨v3, rfl, hB3, K3⟩
 refine ⟨_, rfl, K3.row _ _ _ _ (by decide) hS2, ?_⟩
 simp only [zP, zA, zB, zC, zD, zE, zF]
 refine yf (i := 9) (by kernel_rfl) (yy rfl (by rfl) v3 w3 (by rfl) ⟨K3.row _ _ _ _ (by decide) hS2, ?_⟩)
 simp only [zP, zA, zB, zC, zD, zE, zF]
 refine wpAnyH_done (by kernel_rfl) ?_ _
 have FIN : Hid (BfR base (L ++ pkP p) w (.returned v3) w3) := ⟨v3, rfl, by rw [pkP, <- List.append_assoc]; exact hB3, (K1.trans K2).trans K3⟩
 clear hB3 hB2 hB1 hS hS2 K1 K2 K3
 go_wp2
 go_ret
 exact FIN.out
theorem Q6e {P : Program} {o : Oper} {a : Act} {w : World} (x : Operand) (t : TypeId) (ho : o.op = .call { callee := .builtin .len, args := #[x], argTypes := #[t] }) (s : ByteArray) (hx : a.eval x = .string s) (hu : P.underlying t = some .string) :
  (execOp a.eval o).run P w = .ok (.value (.int .i64 s.size)) w := by
 have hl : (Builtin.len_ #[t] o.type #[.string s]).run P w = .ok (goInt s.size) w := by
  simp [Builtin.len_, run_underlying hu]
 simp [execOp, ho, resolve, invoke, builtin, hx, hl, goInt]
theorem z10 (w : World) : (Instr.alloc 281 true (.tuple #[])).run prog w = .ok (.pointer (some ⟨w.heap.size, 0, none⟩)) (w.alloc (.cells (u8s (List.replicate 10 0)).toArray 281)) := by kernel_rfl
theorem Q6f (W : World) (g : Nat) : ∀ l : Nat, l <= 8 -> (Instr.sliceAt 281 (.pointer (some ⟨g, 0, none⟩)) (some (.int .i64 (l : Int))) none none).run prog W = .ok (.slice (some ⟨g, l, none⟩) (10 - l) (10 - l)) W
 | 0, _ => by kernel_rfl
 | 1, _ => by kernel_rfl
 | 2, _ => by kernel_rfl
 | 3, _ => by kernel_rfl
 | 4, _ => by kernel_rfl
 | 5, _ => by kernel_rfl
 | 6, _ => by kernel_rfl
 | 7, _ => by kernel_rfl
 | 8, _ => by kernel_rfl
 | n + 9, h => by omega
theorem Q6g (f : ByteArray) (p : Nat) (h : f.size <= 8) : (splice (List.replicate 10 (0 : UInt8)) 8 (yC p 2)).drop f.size = List.replicate (8 - f.size) 0 ++ yC p 2 := by
 have e : splice (List.replicate 10 (0 : UInt8)) 8 (yC p 2) = List.replicate 8 0 ++ yC p 2 := by
  simp [splice, yI]
 rw [e, List.drop_append_of_le_length (by simp; exact h), List.drop_replicate]
theorem ZF (base : Nat) (v : Value) (L : List UInt8) (f : ByteArray) (p : Nat) (x : Value) (w : World) (h : Bf base w v L) (hb : base <= w.heap.size) (hl : L.length <= 9000) (h1 : f.size <= 8) (h2 : p < 65536) : Calls prog 245 #[.agg #[.string f, .int .i64 p, x], v] w (BfR base (L ++ pkK (f, p)) w) := by
 obtain ⟨ie, hie, hz1, hz2, hz3⟩ := info_parts iu8'
 have k1 := (y5.refl [] w).alloc (.cells #[.string f, .int .i64 p, x] 75)
 have n1 := heap_alloc_new w (.cells #[.string f, .int .i64 p, x] 75)
 have hsz1 := World.size_alloc w (.cells #[.string f, .int .i64 p, x] 75)
 have HW : Hid (IntKind.u64.wrap (p : Int) = p) := by show _ = _; rw [IntKind.wrap_u64]; omega
 go_enter func245, ntmps245
 go_wp2_with (refine qx rfl 281 rfl _ (z10 _) ?_; intro w2 n2 k2 hsz2)
 have n12 := k2.get n1 (by simp)
 have c1 : w2.cell? ⟨w.heap.size, 1, none⟩ = some (.int .i64 p) := y6 n12 rfl
 have hK2 := k1.trans k2
 clear k1 k2 n1
 rw [hsz1] at n2 hsz2
 go_region_with (go_at_call 117; rw [HW.out]; refine (Q12 (w.heap.size + 1) 8 2 2 (List.replicate 10 0) p 281 _ (by exact n2) (by omega) (by simp) (by omega)).mono ?_; rintro e w3 ⟨rfl, n3, k3⟩)
 have n13 := k3.get (w := w2.drew) n12 (by simp)
 have hK3 : y5 [] w w3 := hK2.drew.trans2 k3 (by intro y hy; simp at hy; subst hy; exact Or.inr (by omega))
 clear n2 n12 c1 hK2 k3
 have hS : RwS w.heap.size #[.string f, .int .i64 p, x] 75 w3.drew := n13
 have hB3 : Bf base w3.drew v L := h.keep hK3.drew
 have K3 : Kt base w w3.drew := Kt.of hK3.drew hb
 have hs3 : base <= w3.drew.heap.size := by have := K3.bl.size; omega
 go_wp2_with fail
 refine yj (RwS w.heap.size #[.string f, .int .i64 p, x] 75) (by kernel_rfl) ?_
 refine hu 0 v rfl (fun W hW => by rfl) hS ?_
 simp only [zP, zA, zC, zD, zE, zF]
 refine hu 1 (.pointer (some ⟨w.heap.size, 0 + 0, none⟩)) rfl (fun W hW => yv 75 (.tmp 2) 0 rfl w.heap.size 0 rfl 0 (by rfl)) hS ?_
 simp only [zP, zA, zB, zC, zD, zE, zF]
 refine hu 2 (.string f) rfl (fun W hW => y9 9 (.tmp 12) rfl ⟨w.heap.size, 0 + 0, none⟩ rfl _ (yh underlying9 rfl (y6 hW rfl))) hS ?_
 simp only [zP, zA, zB, zC, zD, zE, zF]
 refine hu 4 (.pointer (some ⟨w.heap.size, 0 + 0, none⟩)) rfl (fun W hW => yv 75 (.tmp 2) 0 rfl w.heap.size 0 rfl 0 (by rfl)) hS ?_
 simp only [zP, zA, zB, zC, zD, zE, zF]
 refine hu 5 (.string f) rfl (fun W hW => y9 9 (.tmp 15) rfl ⟨w.heap.size, 0 + 0, none⟩ rfl _ (yh underlying9 rfl (y6 hW rfl))) hS ?_
 simp only [zP, zA, zB, zC, zD, zE, zF]
 refine hu 6 (.int .i64 f.size) rfl (fun W hW => Q6e (.tmp 16) 9 rfl f rfl underlying9) hS ?_
 simp only [zP, zA, zB, zC, zD, zE, zF]
 refine hu 7 (.slice (some ⟨w.heap.size + 1, f.size, none⟩) (10 - f.size) (10 - f.size)) rfl (fun W hW => yu 281 (.tmp 5) (some (.tmp 17)) none none rfl _ (some (.int .i64 (f.size : Int))) none none (by rfl) (by rfl) rfl rfl _ (Q6f W _ _ h1)) hS ?_
 simp only [zP, zA, zB, zC, zD, zE, zF]
 refine yf (i := 3) (by kernel_rfl) (yo rfl (by rfl) 201 #[v, .string f] (yk _ _ _ rfl _ (by simp [Act.eval]) (Q1 _ _)) _ (Za base v L f w3.drew hB3 hs3 (by omega) (by omega)) ?_)
 rintro e w4 ⟨v4, rfl, hB4, K4⟩
 have hS4 := K4.row _ _ _ _ (by decide) hS
 refine ⟨_, rfl, hS4, ?_⟩
 simp only [zP, zA, zB, zC, zD, zE, zF]
 have hs4 : base <= w4.heap.size := by have := K4.bl.size; omega
 have n4 := K4.row _ _ _ _ (by decide) (show w3.drew.heap[w.heap.size + 1]? = _ from n3)
 have hl4 : (L ++ tx f).length <= 9300 := by rw [List.length_append, jh]; omega
 have hrl : (List.replicate (8 - f.size) (0 : UInt8) ++ yC p 2).length = 10 - f.size := by rw [List.length_append, List.length_replicate, yI]; omega
 obtain ⟨v5, w5, hr5, hown5, hg5, -⟩ := run_append_own (P := prog) w4 base 83 83 5 ie (.int .u8 0) 1 1 underlying83 hie hz1 hz2 hz3 rfl (by decide) v4 (L ++ tx f).length (u8s (L ++ tx f)) hB4 ⟨w.heap.size + 1, f.size, none⟩ (10 - f.size) (10 - f.size) (u8s (List.replicate (8 - f.size) 0 ++ yC p 2)) (by rw [yd, hrl, Nat.mul_one]) (jd n4 (by
  intro j u hu
  rw [<- Q6g f p h1, jL, List.getElem?_drop] at hu
  rw [jL]
  exact hu)) (qv _) (by unfold maxLen; omega) (by omega) hs4
 have K5 := hB4.kt (qL hg5 v4.ownBlock.toList (by intro k hk; rw [hk]; simp)) hs4
 have e5 : u8s (L ++ tx f) ++ u8s (List.replicate (8 - f.size) 0 ++ yC p 2) = u8s (L ++ pkK (f, p)) := by simp [u8s, pkK]
 have el : (L ++ tx f).length + (10 - f.size) = (L ++ pkK (f, p)).length := by rw [List.length_append, List.length_append, Q2m (f, p) h1, jh]; omega
 rw [e5, el] at hown5
 have FIN : Hid (BfR base (L ++ pkK (f, p)) w (.returned v5) w5) := ⟨v5, rfl, hown5, (K3.trans K4).trans K5⟩
 have hS5 := K5.row _ _ _ _ (by decide) hS4
 refine yf (i := 8) (by kernel_rfl) (yy rfl (by rfl) v5 w5 (Q5 (.tmp 14) (.tmp 18) 83 rfl v4 _ (by rfl) (by rfl) _ hr5) ⟨hS5, ?_⟩)
 simp only [zP, zA, zB, zC, zD, zE, zF]
 refine yf (i := 9) (by kernel_rfl) (yy rfl (by rfl) v5 w5 (by rfl) ⟨hS5, ?_⟩)
 simp only [zP, zA, zB, zC, zD, zE, zF]
 refine wpAnyH_done (by kernel_rfl) ?_ _
 clear hB3 hB4 hS hS4 hS5 K3 K4 K5 hown5 n3 n4 n13
 go_wp2
 go_ret
 exact FIN.out
theorem Q6h (k v : Value) (w : World) : (Go.method 391 138 (.agg #[k, v]) "store/tree.packed").run prog w = .ok (199, .agg #[k, v]) w := by kernel_rfl
theorem Q6i (k v x : Value) (w : World) : (Go.method 391 75 (.agg #[k, v, x]) "store/tree.packed").run prog w = .ok (245, .agg #[k, v, x]) w := by kernel_rfl
theorem Q6j (w : World) (x y : Int) : (Instr.buildSlice 83 2 #[(0, .int .u8 x), (1, .int .u8 y)]).run prog w = .ok (.slice (some ⟨w.heap.size, 0, none⟩) 2 2) (w.alloc (.cells #[.int .u8 x, .int .u8 y] 5)) := by kernel_rfl
theorem Qv {P : Program} {o : Oper} {a : Act} {w w' : World} (t : TypeId) (n : Nat) (x y : Operand) (ho : o.op = .buildSlice t n #[(0, x), (1, y)]) (vx vy : Value) (hx : a.eval x = vx) (hy : a.eval y = vy) (v : Value)
  (hrun : (Instr.buildSlice t n #[(0, vx), (1, vy)]).run P w = .ok v w') : (execOp a.eval o).run P w = .ok (.value v) w' := by
 simp [execOp, ho, hx, hy, hrun, Result.andThen]
theorem Q6k (out : List UInt8) (h : out.length <= 124) : Qm (splice (List.replicate 128 0) 0 out) = Z2 (ZA 124 out) := by
 have e : splice (List.replicate 128 (0 : UInt8)) 0 out = out ++ List.replicate (128 - out.length) 0 := by unfold splice; rw [List.take_zero, List.nil_append, Nat.zero_add, List.drop_replicate]
 have hl : (out ++ List.replicate (128 - out.length) (0 : UInt8)).length = 128 := by rw [List.length_append, List.length_replicate]; omega
 have e2 : (out ++ List.replicate (128 - out.length) (0 : UInt8)).take 124 = ZA 124 out := by
  rw [List.take_append, List.take_of_length_le h, List.take_replicate]
  unfold ZA
  congr 2
  omega
 have e3 : (out ++ List.replicate (128 - out.length) (0 : UInt8)).drop 128 = [] := List.drop_of_length_le (by omega)
 rw [e, Qm, hl, show 128 - 4 = 124 from rfl, e2]
 unfold Z2 splice
 rw [e2, yI, e3, List.append_nil]
def BkI (w w1 : World) (pre : List UInt8) (m : Nat) (part : Nat -> List UInt8) (out i : Value) (wr : World) : Prop :=
 ∃ j : Nat, j <= m /\ i = .int .i64 j /\ Bf w.heap.size wr out (pre ++ part j) /\ Kt w.heap.size w1 wr
theorem Q6l (kind : UInt8) (vl : Value) (l : List Pr) (w : World) (h : SL w 138 2 vl (l.map pe)) (hl : l.length <= 200) (hk : ∀ p ∈ l, p.1.size <= 8 /\ p.2.size <= 12) (hsum : (l.flatMap pkP).length <= 122) :
  Calls prog 194 #[.int .u8 kind.toNat, vl] w fun e w' => e = .returned (.agg (u8s (Qe kind l.length (l.flatMap pkP))).toArray) /\ y5 [] w w' := by
 obtain ⟨pv, cv, ev⟩ := h.shape
 rw [List.length_map] at ev
 subst ev
 have hm := Q6h
 have hlen := Q6c l.length
 obtain ⟨pre, epre⟩ : ∃ pre, pre = [kind, UInt8.ofNat l.length] := ⟨_, rfl⟩
 have hpre : pre.length = 2 := by rw [epre]; rfl
 have hpart : ∀ j, ((l.take j).flatMap pkP).length <= 122 := by
  intro j
  have e : l.flatMap pkP = (l.take j).flatMap pkP ++ (l.drop j).flatMap pkP := by
   rw [<- List.flatMap_append, List.take_append_drop]
  rw [e, List.length_append] at hsum
  omega
 have hfin : pre ++ (l.take l.length).flatMap pkP = kind :: UInt8.ofNat l.length :: l.flatMap pkP := by rw [epre, List.take_length]; rfl
 have HFin : Hid _ := hfin
 have HLen : Hid _ := hlen
 have HPre : Hid _ := epre
 clear hfin hlen epre
 go_enter func194, ntmps194
 go_wp2_with (first
  | (refine yc rfl 4 rfl 80 rfl _ (zblk _) ?_; intro w1 n1 k1 hs1)
  | (refine yK rfl _ _ (Qv 83 2 (.tmp 9) (.tmp 12) rfl (.int .u8 kind.toNat) (.int .u8 (l.length : Int)) (by rfl) (by rfl) _ (Q6j _ _ _)) ?_; intro w2 n2 k2 hs2))
 have B2 : Bf w.heap.size w2 (.slice (some ⟨w.heap.size + 1, 0, none⟩) 2 2) (pre ++ (l.take 0).flatMap pkP) := by
  have e : u8s (pre ++ (l.take 0).flatMap pkP) = [.int .u8 kind.toNat, .int .u8 (l.length : Int)] := by
   rw [HPre.out, show (l.length : Int) = ((UInt8.ofNat l.length).toNat : Int) by have := HLen.out; omega]
   simp [u8s]
  have el : (pre ++ (l.take 0).flatMap pkP).length = 2 := by simp [hpre]
  unfold Bf
  rw [e, el]
  exact ⟨rfl, Or.inr ⟨w.heap.size + 1, 2, _, rfl, by omega, by rw [<- hs1]; exact n2, Nat.le_refl _, by unfold maxLen; omega, rfl, rfl⟩⟩
 have K2 : Kt w.heap.size w1 w2 := Kt.of k2 (by omega)
 have HS1 : Hid _ := hs1
 have HN1 : Hid (w1.heap[w.heap.size]? = _) := n1
 have HK1 : Hid (y5 [] w w1) := k1
 clear n2 k2 hs2 hs1 n1 k1
 go_loopw [5, 16] (fun o i wr => BkI w w1 pre l.length (fun j => (l.take j).flatMap pkP) o i wr) (fun _ i _ => l.length - (intOf i).toNat)
 case atStart => exact ⟨0, Nat.zero_le _, rfl, B2, K2⟩
 case round =>
  obtain ⟨j, hj, rfl, hB, hK⟩ := hrel
  have hKr : y5 [] w wr := y5.of_below (HK1.out.below.trans hK.bl)
  clear B2 K2
  by_cases hlt : j < l.length
  ·have hlt' : (j : Int) < (l.length : Int) := by omega
   obtain ⟨x, hx⟩ : ∃ x, l[j]? = some x := ⟨_, List.getElem?_eq_getElem hlt⟩
   have hx1 := (hk x (List.mem_of_getElem? hx)).1
   have hx2 := (hk x (List.mem_of_getElem? hx)).2
   have hnext : (l.take (j + 1)).flatMap pkP = (l.take j).flatMap pkP ++ pkP x := by
    rw [qr l j x hx]; simp
   have hpj := hpart j
   obtain ⟨g, off, cap, cur, e, hg, hc1, hc2, hc3, hcur⟩ := (SL.kept h hKr).at_ (by simp; omega)
   rw [List.length_map] at e
   cases e
   have hld := gG (P := prog) (ty := 138) _ hg (hcur j _ (by rw [List.getElem?_map, hx]; rfl)) underlying138 stp
   have HP : Hid (∀ o W, Bf w.heap.size W o (pre ++ (l.take j).flatMap pkP) -> w.heap.size <= W.heap.size -> Calls prog 199 #[.agg #[.string x.1, .string x.2], o] W (BfR w.heap.size (pre ++ (l.take j).flatMap pkP ++ pkP x) W)) := fun o W hB hs => Q6d w.heap.size o (pre ++ (l.take j).flatMap pkP) x W hB hs (by rw [List.length_append, hpre]; omega) (by omega) (by omega)
   simp only [pe] at hld
   have HN : Hid _ := hnext
   have HB : Hid (Bf w.heap.size wr _ _) := hB
   have hwr := hKr.size
   clear hcur hnext hB
   go_wp2_with (first
    | (refine y8 rfl _ _ (ya 134 (.tmp 14) (.tmp 16) rfl g off l.length cv j 2 rfl rfl 138 underlying134 stp hlt (off + j * 2) rfl) ?_)
    | (refine ye rfl 138 (.tmp 18) rfl ⟨g, off + j * 2, none⟩ rfl _ hld ?_)
    | (go_at_call 199; refine (HP.out _ _ (HB.out.keep ((y5.refl [] wr).alloc (.cells #[.string x.1, .string x.2] 138))) (by rw [World.size_alloc]; omega)).mono ?_; rintro e w3 ⟨v3, rfl, hB3, hK3⟩))
   have HB3 : Hid _ := hB3
   clear hB3
   go_roundw
   case rel => exact ⟨j + 1, by omega, by go_num, by show Bf w.heap.size w3 v3 (pre ++ (l.take (j + 1)).flatMap pkP); rw [HN.out, <- List.append_assoc]; exact HB3.out, (hK.trans (Kt.of ((y5.refl [] wr).alloc _) (by omega))).trans hK3⟩
   case measure => simp [intOf]; omega
  ·have hge : ¬ (j : Int) < (l.length : Int) := by omega
   have ej : j = l.length := by omega
   subst ej
   rw [HFin.out] at hB
   obtain ⟨OUT, eout⟩ : ∃ OUT, OUT = kind :: UInt8.ofNat l.length :: l.flatMap pkP := ⟨_, rfl⟩
   have hol : OUT.length <= 124 := by rw [eout]; simp only [List.length_cons]; omega
   have ho2 : 0 < OUT.length := by rw [eout]; simp
   have henc : Qm (splice (List.replicate 128 0) 0 OUT) = Qe kind l.length (l.flatMap pkP) := by rw [Q6k OUT hol, eout]; rfl
   have hel : (Qe kind l.length (l.flatMap pkP)).length = 128 := gV _ _ _ hsum
   have HE : Hid _ := henc
   rw [<- eout] at hB
   obtain ⟨g, cap, cur, ev, hbg, hb0, hb1, hb2, hb3, hb4⟩ := jc hB ho2
   have hn1 := hK.row _ _ _ _ (by decide) HN1.out
   have hwr := hKr.size
   have hspl : (splice (List.replicate 128 (0 : UInt8)) 0 OUT).length = 128 := by rw [length_splice _ _ _ (by simp; omega)]; simp
   have HSL : Hid (∀ s W, W.heap[s]? = some (.cells (u8s (splice (List.replicate 128 0) 0 OUT)).toArray 80 (0, 0)) -> Calls prog 118 #[.slice (some ⟨s, 0, none⟩) 128 128] W fun e w' => e = .returned (.tuple #[]) /\ w'.heap[s]? = some (.cells (u8s (Qe kind l.length (l.flatMap pkP))).toArray 80 (0, 0)) /\ y5 [s] W w') := by
    intro s W hW
    have := Q1i s (splice (List.replicate 128 0) 0 OUT) 80 W hW (by omega) (by omega)
    rw [hspl, HE.out] at this
    exact this
   subst ev
   obtain ⟨ENC, eENC⟩ : ∃ ENC, ENC = Qe kind l.length (l.flatMap pkP) := ⟨_, rfl⟩
   rw [<- eENC] at hel HSL
   have HEN : Hid (ENC = _) := eENC
   clear eENC HE
   clear hB eout henc hspl
   go_wp2_with (first
    | (refine yc rfl 8 rfl 80 rfl _ (zblk _) ?_; intro w3 n3 k3 hs3; have hbg3 := k3.get hbg (by simp))
    | (refine gQ 83 83 5 underlying83 su8 wr.heap.size 0 124 128 ⟨g, 0, none⟩ OUT.length cap (u8s (List.replicate 128 0)) 80 n3 (u8s OUT) (by rw [yd]; exact (Nat.min_eq_left hol).symm) (jd hbg3 (by intro q u hq; rw [Nat.zero_add]; exact QX hb4 hq)) (by rw [yd, yd, List.length_replicate]; omega) (qv _) ?_; intro w4 n4 k4; rw [je] at n4)
    | (go_at_call 118; refine (HSL.out wr.heap.size _ n4).mono ?_; rintro e w5 ⟨rfl, n5, k5⟩; have n15 := k5.get (k4.get (k3.get hn1 (by simp)) (by have := HS1.out; have := hK.bl.size; simp; omega)) (by have := HS1.out; have := hK.bl.size; simp; omega))
    | (refine wpList_load_row rfl 80 (.tmp 8) rfl wr.heap.size rfl 80 (u8s ENC).toArray (0, 0) _ n5 underlying80 rfl (by rw [jF]; simp [yd, hel]) ?_)
    | (refine yb rfl 80 (.tmp 4) (.tmp 30) rfl w.heap.size (u8s ENC).toArray rfl rfl 80 _ n15 (by rw [jF]; simp [yd, hel]) (by simp [yd, hel]) (yU (qv _)) ?_; intro w6 n6 k6))
   refine bodyPost_ret (results_cell_row rfl _ w6 w.heap.size 80 _ (0, 0) _ rfl n6 underlying80 rfl (by rw [jF]; simp [yd, hel])) rfl ?_
   have hz := hKr.size
   exact ⟨by rw [HEN.out], (((hKr.trans k3).trans2 k4 (by intro y hy; simp at hy; subst hy; exact Or.inr hz)).trans2 k5 (by intro y hy; simp at hy; subst hy; exact Or.inr hz)).trans2 k6 (by intro y hy; simp at hy; subst hy; exact Or.inr (Nat.le_refl _))⟩
def kp (e : KE) : ByteArray × Nat := (e.1, e.3)
theorem Q6m (kind : UInt8) (vl : Value) (l : List KE) (w : World) (h : SL w 75 3 vl (l.map ke)) (hl : l.length <= 200) (hk : ∀ p ∈ l, p.1.size <= 8 /\ p.3 < 65536) (hsum : ((l.map kp).flatMap pkK).length <= 122) (ho : ∀ x ∈ l, x.2 = .nilIface \/ ∃ t v, x.2 = .iface t v) :
  Calls prog 224 #[.int .u8 kind.toNat, vl] w fun e w' => e = .returned (.agg (u8s (Qe kind l.length ((l.map kp).flatMap pkK))).toArray) /\ y5 [] w w' := by
 obtain ⟨pv, cv, ev⟩ := h.shape
 rw [List.length_map] at ev
 subst ev
 have hm := Q6i
 have hlen := Q6c l.length
 obtain ⟨pre, epre⟩ : ∃ pre, pre = [kind, UInt8.ofNat l.length] := ⟨_, rfl⟩
 have hpre : pre.length = 2 := by rw [epre]; rfl
 have hpart : ∀ j, (((l.take j).map kp).flatMap pkK).length <= 122 := by
  intro j
  have e : (l.map kp).flatMap pkK = ((l.take j).map kp).flatMap pkK ++ ((l.drop j).map kp).flatMap pkK := by
   rw [<- List.flatMap_append, <- List.map_append, List.take_append_drop]
  rw [e, List.length_append] at hsum
  omega
 have hfin : pre ++ ((l.take l.length).map kp).flatMap pkK = kind :: UInt8.ofNat l.length :: (l.map kp).flatMap pkK := by rw [epre, List.take_length]; rfl
 have HFin : Hid _ := hfin
 have HLen : Hid _ := hlen
 have HPre : Hid _ := epre
 clear hfin hlen epre
 go_enter func224, ntmps224
 go_wp2_with (first
  | (refine yc rfl 4 rfl 80 rfl _ (zblk _) ?_; intro w1 n1 k1 hs1)
  | (refine yK rfl _ _ (Qv 83 2 (.tmp 9) (.tmp 12) rfl (.int .u8 kind.toNat) (.int .u8 (l.length : Int)) (by rfl) (by rfl) _ (Q6j _ _ _)) ?_; intro w2 n2 k2 hs2))
 have B2 : Bf w.heap.size w2 (.slice (some ⟨w.heap.size + 1, 0, none⟩) 2 2) (pre ++ ((l.take 0).map kp).flatMap pkK) := by
  have e : u8s (pre ++ ((l.take 0).map kp).flatMap pkK) = [.int .u8 kind.toNat, .int .u8 (l.length : Int)] := by
   rw [HPre.out, show (l.length : Int) = ((UInt8.ofNat l.length).toNat : Int) by have := HLen.out; omega]
   simp [u8s]
  have el : (pre ++ ((l.take 0).map kp).flatMap pkK).length = 2 := by simp [hpre]
  unfold Bf
  rw [e, el]
  exact ⟨rfl, Or.inr ⟨w.heap.size + 1, 2, _, rfl, by omega, by rw [<- hs1]; exact n2, Nat.le_refl _, by unfold maxLen; omega, rfl, rfl⟩⟩
 have K2 : Kt w.heap.size w1 w2 := Kt.of k2 (by omega)
 have HS1 : Hid _ := hs1
 have HN1 : Hid (w1.heap[w.heap.size]? = _) := n1
 have HK1 : Hid (y5 [] w w1) := k1
 clear n2 k2 hs2 hs1 n1 k1
 go_loopw [5, 16] (fun o i wr => BkI w w1 pre l.length (fun j => ((l.take j).map kp).flatMap pkK) o i wr) (fun _ i _ => l.length - (intOf i).toNat)
 case atStart => exact ⟨0, Nat.zero_le _, rfl, B2, K2⟩
 case round =>
  obtain ⟨j, hj, rfl, hB, hK⟩ := hrel
  have hKr : y5 [] w wr := y5.of_below (HK1.out.below.trans hK.bl)
  clear B2 K2
  by_cases hlt : j < l.length
  ·have hlt' : (j : Int) < (l.length : Int) := by omega
   obtain ⟨x, hx⟩ : ∃ x, l[j]? = some x := ⟨_, List.getElem?_eq_getElem hlt⟩
   have hx1 := (hk x (List.mem_of_getElem? hx)).1
   have hx2 := (hk x (List.mem_of_getElem? hx)).2
   have hnext : ((l.take (j + 1)).map kp).flatMap pkK = ((l.take j).map kp).flatMap pkK ++ pkK (x.1, x.3) := by
    rw [qr l j x hx]; simp [kp]
   have hpj := hpart j
   obtain ⟨g, off, cap, cur, e, hg, hc1, hc2, hc3, hcur⟩ := (SL.kept h hKr).at_ (by simp; omega)
   rw [List.length_map] at e
   cases e
   have hld := gG (P := prog) (ty := 75) _ hg (hcur j _ (by rw [List.getElem?_map, hx]; rfl)) underlying75 stk
   rcases ho x (List.mem_of_getElem? hx) with ei | ⟨ti, vi, ei⟩
   ·have HP : Hid (∀ o W, Bf w.heap.size W o (pre ++ ((l.take j).map kp).flatMap pkK) -> w.heap.size <= W.heap.size -> Calls prog 245 #[.agg #[.string x.1, .int .i64 x.3, .nilIface], o] W (BfR w.heap.size (pre ++ ((l.take j).map kp).flatMap pkK ++ pkK (x.1, x.3)) W)) := fun o W hB hs => ZF w.heap.size o (pre ++ ((l.take j).map kp).flatMap pkK) x.1 x.3 .nilIface W hB hs (by rw [List.length_append, hpre]; omega) (by omega) (by omega)
    simp only [ke, ei] at hld
    have HN : Hid _ := hnext
    have HB : Hid (Bf w.heap.size wr _ _) := hB
    have hwr := hKr.size
    clear hcur hnext hB
    go_wp2_with (first
     | (refine y8 rfl _ _ (ya 177 (.tmp 14) (.tmp 16) rfl g off l.length cv j 3 rfl rfl 75 underlying177 stk hlt (off + j * 3) rfl) ?_)
     | (refine ye rfl 75 (.tmp 18) rfl ⟨g, off + j * 3, none⟩ rfl _ hld ?_)
     | (go_at_call 245; refine (HP.out _ _ (HB.out.keep ((y5.refl [] wr).alloc (.cells #[.string x.1, .int .i64 x.3, .nilIface] 75))) (by rw [World.size_alloc]; omega)).mono ?_; rintro e w3 ⟨v3, rfl, hB3, hK3⟩))
    have HB3 : Hid _ := hB3
    clear hB3
    go_roundw
    case rel => exact ⟨j + 1, by omega, by go_num, by show Bf w.heap.size w3 v3 (pre ++ ((l.take (j + 1)).map kp).flatMap pkK); rw [HN.out, <- List.append_assoc]; exact HB3.out, (hK.trans (Kt.of ((y5.refl [] wr).alloc _) (by omega))).trans hK3⟩
    case measure => simp [intOf]; omega
   ·have HP : Hid (∀ o W, Bf w.heap.size W o (pre ++ ((l.take j).map kp).flatMap pkK) -> w.heap.size <= W.heap.size -> Calls prog 245 #[.agg #[.string x.1, .int .i64 x.3, (.iface ti vi)], o] W (BfR w.heap.size (pre ++ ((l.take j).map kp).flatMap pkK ++ pkK (x.1, x.3)) W)) := fun o W hB hs => ZF w.heap.size o (pre ++ ((l.take j).map kp).flatMap pkK) x.1 x.3 (.iface ti vi) W hB hs (by rw [List.length_append, hpre]; omega) (by omega) (by omega)
    simp only [ke, ei] at hld
    have HN : Hid _ := hnext
    have HB : Hid (Bf w.heap.size wr _ _) := hB
    have hwr := hKr.size
    clear hcur hnext hB
    go_wp2_with (first
     | (refine y8 rfl _ _ (ya 177 (.tmp 14) (.tmp 16) rfl g off l.length cv j 3 rfl rfl 75 underlying177 stk hlt (off + j * 3) rfl) ?_)
     | (refine ye rfl 75 (.tmp 18) rfl ⟨g, off + j * 3, none⟩ rfl _ hld ?_)
     | (go_at_call 245; refine (HP.out _ _ (HB.out.keep ((y5.refl [] wr).alloc (.cells #[.string x.1, .int .i64 x.3, (.iface ti vi)] 75))) (by rw [World.size_alloc]; omega)).mono ?_; rintro e w3 ⟨v3, rfl, hB3, hK3⟩))
    have HB3 : Hid _ := hB3
    clear hB3
    go_roundw
    case rel => exact ⟨j + 1, by omega, by go_num, by show Bf w.heap.size w3 v3 (pre ++ ((l.take (j + 1)).map kp).flatMap pkK); rw [HN.out, <- List.append_assoc]; exact HB3.out, (hK.trans (Kt.of ((y5.refl [] wr).alloc _) (by omega))).trans hK3⟩
    case measure => simp [intOf]; omega
  ·have hge : ¬ (j : Int) < (l.length : Int) := by omega
   have ej : j = l.length := by omega
   subst ej
   rw [HFin.out] at hB
   obtain ⟨OUT, eout⟩ : ∃ OUT, OUT = kind :: UInt8.ofNat l.length :: (l.map kp).flatMap pkK := ⟨_, rfl⟩
   have hol : OUT.length <= 124 := by rw [eout]; simp only [List.length_cons]; omega
   have ho2 : 0 < OUT.length := by rw [eout]; simp
   have henc : Qm (splice (List.replicate 128 0) 0 OUT) = Qe kind l.length ((l.map kp).flatMap pkK) := by rw [Q6k OUT hol, eout]; rfl
   have hel : (Qe kind l.length ((l.map kp).flatMap pkK)).length = 128 := gV _ _ _ hsum
   have HE : Hid _ := henc
   rw [<- eout] at hB
   obtain ⟨g, cap, cur, ev, hbg, hb0, hb1, hb2, hb3, hb4⟩ := jc hB ho2
   have hn1 := hK.row _ _ _ _ (by decide) HN1.out
   have hwr := hKr.size
   have hspl : (splice (List.replicate 128 (0 : UInt8)) 0 OUT).length = 128 := by rw [length_splice _ _ _ (by simp; omega)]; simp
   have HSL : Hid (∀ s W, W.heap[s]? = some (.cells (u8s (splice (List.replicate 128 0) 0 OUT)).toArray 80 (0, 0)) -> Calls prog 118 #[.slice (some ⟨s, 0, none⟩) 128 128] W fun e w' => e = .returned (.tuple #[]) /\ w'.heap[s]? = some (.cells (u8s (Qe kind l.length ((l.map kp).flatMap pkK))).toArray 80 (0, 0)) /\ y5 [s] W w') := by
    intro s W hW
    have := Q1i s (splice (List.replicate 128 0) 0 OUT) 80 W hW (by omega) (by omega)
    rw [hspl, HE.out] at this
    exact this
   subst ev
   obtain ⟨ENC, eENC⟩ : ∃ ENC, ENC = Qe kind l.length ((l.map kp).flatMap pkK) := ⟨_, rfl⟩
   rw [<- eENC] at hel HSL
   have HEN : Hid (ENC = _) := eENC
   clear eENC HE
   clear hB eout henc hspl
   go_wp2_with (first
    | (refine yc rfl 8 rfl 80 rfl _ (zblk _) ?_; intro w3 n3 k3 hs3; have hbg3 := k3.get hbg (by simp))
    | (refine gQ 83 83 5 underlying83 su8 wr.heap.size 0 124 128 ⟨g, 0, none⟩ OUT.length cap (u8s (List.replicate 128 0)) 80 n3 (u8s OUT) (by rw [yd]; exact (Nat.min_eq_left hol).symm) (jd hbg3 (by intro q u hq; rw [Nat.zero_add]; exact QX hb4 hq)) (by rw [yd, yd, List.length_replicate]; omega) (qv _) ?_; intro w4 n4 k4; rw [je] at n4)
    | (go_at_call 118; refine (HSL.out wr.heap.size _ n4).mono ?_; rintro e w5 ⟨rfl, n5, k5⟩; have n15 := k5.get (k4.get (k3.get hn1 (by simp)) (by have := HS1.out; have := hK.bl.size; simp; omega)) (by have := HS1.out; have := hK.bl.size; simp; omega))
    | (refine wpList_load_row rfl 80 (.tmp 8) rfl wr.heap.size rfl 80 (u8s ENC).toArray (0, 0) _ n5 underlying80 rfl (by rw [jF]; simp [yd, hel]) ?_)
    | (refine yb rfl 80 (.tmp 4) (.tmp 30) rfl w.heap.size (u8s ENC).toArray rfl rfl 80 _ n15 (by rw [jF]; simp [yd, hel]) (by simp [yd, hel]) (yU (qv _)) ?_; intro w6 n6 k6))
   refine bodyPost_ret (results_cell_row rfl _ w6 w.heap.size 80 _ (0, 0) _ rfl n6 underlying80 rfl (by rw [jF]; simp [yd, hel])) rfl ?_
   have hz := hKr.size
   exact ⟨by rw [HEN.out], (((hKr.trans k3).trans2 k4 (by intro y hy; simp at hy; subst hy; exact Or.inr hz)).trans2 k5 (by intro y hy; simp at hy; subst hy; exact Or.inr hz)).trans2 k6 (by intro y hy; simp at hy; subst hy; exact Or.inr (Nat.le_refl _))⟩
theorem Q6n (p : Option Addr) (n c : Nat) : qY "store/tree.block" (.iface 135 (.slice p n c)) 183 (.slice p n c) := ⟨_, rfl, fun _ => by kernel_rfl, fun _ _ => by kernel_rfl⟩
theorem Q6o (p : Option Addr) (n c : Nat) : qY "store/tree.block" (.iface 180 (.slice p n c)) 213 (.slice p n c) := ⟨_, rfl, fun _ => by kernel_rfl, fun _ _ => by kernel_rfl⟩
theorem ZG (v : Value) (l : List Pr) (w : World) (h : LF w v l) (hk : jX (.leaf l)) :
  Calls prog 183 #[v] w fun e w' => e = .returned (.agg (u8s (encL l)).toArray) /\ y5 [] w w' := by
 have hsum : (l.flatMap pkP).length <= 122 := by rw [QF]; exact hk.2
 have hln : l.length <= 200 := by have := Q2z l; have := hk.2; omega
 have hel : (encL l).length = 128 := gV _ _ _ hsum
 have HB : Hid (∀ W, y5 [] w W -> Calls prog 194 #[.int .u8 76, v] W fun e w' => e = .returned (.agg (u8s (encL l)).toArray) /\ y5 [] W w') := fun W kW => Q6l 76 v l W (SL.kept h kW) hln hk.1 hsum
 generalize encL l = E at *
 go_enter func183, ntmps183
 go_wp2_with (first
  | (refine yc rfl 2 rfl 80 rfl _ (zblk _) ?_; intro w1 n1 k1 hs1)
  | (go_at_call 194; refine (HB.out w1 k1).mono ?_; rintro e w2 ⟨rfl, k2⟩)
  | (refine yb rfl 80 (.tmp 2) (.tmp 4) rfl w.heap.size (u8s E).toArray rfl rfl 80 _ (k2.get n1 (by simp)) (by rw [jF]; simp [yd, hel]) (by simp [yd, hel]) (yU (qv _)) ?_; intro w3 n3 k3))
 refine bodyPost_ret (results_cell_row rfl _ w3 w.heap.size 80 _ (0, 0) _ rfl n3 underlying80 rfl (by rw [jF]; simp [yd, hel])) rfl ?_
 exact ⟨rfl, (k1.trans k2).trans2 k3 (by intro y hy; simp at hy; subst hy; exact Or.inr (Nat.le_refl _))⟩
theorem Q6p (v : Value) (l : List KE) (w : World) (h : SL w 75 3 v (l.map ke)) (hk : jX (.branch (l.map kp))) (ho : ∀ x ∈ l, x.2 = .nilIface \/ ∃ t v, x.2 = .iface t v) :
  Calls prog 213 #[v] w fun e w' => e = .returned (.agg (u8s (Zw (l.map kp))).toArray) /\ y5 [] w w' := by
 have hk1 : ∀ x ∈ l, x.1.size <= 8 /\ x.3 < 65536 := fun x hx => hk.1 (kp x) (List.mem_map.2 ⟨x, hx, rfl⟩)
 have hln := hk.2
 rw [List.length_map] at hln
 have hsum : ((l.map kp).flatMap pkK).length <= 122 := by rw [QG _ fun k hm => (hk.1 k hm).1, List.length_map]; exact hln
 have hel : (Zw (l.map kp)).length = 128 := gV _ _ _ hsum
 have HB : Hid (∀ W, y5 [] w W -> Calls prog 224 #[.int .u8 66, v] W fun e w' => e = .returned (.agg (u8s (Zw (l.map kp))).toArray) /\ y5 [] W w') := fun W kW => by
  have := Q6m 66 v l W (SL.kept h kW) (by omega) hk1 hsum ho
  unfold Zw
  rw [List.length_map]
  exact this
 generalize Zw (l.map kp) = E at *
 go_enter func213, ntmps213
 go_wp2_with (first
  | (refine yc rfl 2 rfl 80 rfl _ (zblk _) ?_; intro w1 n1 k1 hs1)
  | (go_at_call 224; refine (HB.out w1 k1).mono ?_; rintro e w2 ⟨rfl, k2⟩)
  | (refine yb rfl 80 (.tmp 2) (.tmp 4) rfl w.heap.size (u8s E).toArray rfl rfl 80 _ (k2.get n1 (by simp)) (by rw [jF]; simp [yd, hel]) (by simp [yd, hel]) (yU (qv _)) ?_; intro w3 n3 k3))
 refine bodyPost_ret (results_cell_row rfl _ w3 w.heap.size 80 _ (0, 0) _ rfl n3 underlying80 rfl (by rw [jF]; simp [yd, hel])) rfl ?_
 exact ⟨rfl, (k1.trans k2).trans2 k3 (by intro y hy; simp at hy; subst hy; exact Or.inr (Nat.le_refl _))⟩
theorem F2.kps {w : World} {A : Nat -> Prop} {h : Nat} {ks : List (Kid h)} {xs : List KE} (hf : F2 (KR w A h) ks xs) : xs.map kp = ks.map fun k => (k.1, k.3) := by
 apply List.ext_getElem?
 intro i
 rw [List.getElem?_map, List.getElem?_map]
 rcases Nat.lt_or_ge i ks.length with hi | hi
 ·obtain ⟨b, hb, hr⟩ := hf.get (List.getElem?_eq_getElem hi)
  rw [hb, List.getElem?_eq_getElem hi]
  simp [kp, hr.1.1, hr.1.2]
 ·rw [List.getElem?_eq_none (by rw [<- hf.1]; exact hi), List.getElem?_eq_none hi]
  rfl
theorem Q6q {w : World} {A : Nat -> Prop} : ∀ {h : Nat} {n : Nd h} {x : Value}, ND w A h n x -> jX (nbN h n) -> ∃ fn v, qY "store/tree.block" x fn v /\ Calls prog fn #[v] w fun e w' => e = .returned (.agg (u8s (j3 (nbN h n))).toArray) /\ y5 [] w w'
 | 0, n, x, hx, hk => by
  obtain ⟨v, rfl, hl, _⟩ := hx
  have HC := ZG v n w hl hk
  obtain ⟨p, c, ev⟩ := SL.shape hl
  subst ev
  exact ⟨_, _, Q6n _ _ _, HC⟩
 | h + 1, n, x, hx, hk => by
  obtain ⟨v, xs, rfl, hl, _, hf⟩ := qE.1 hx
  have e := hf.kps
  have HC := Q6p v xs w hl (by rw [e]; exact hk) fun x hx => Or.inr (qS hf x hx)
  rw [e] at HC
  obtain ⟨p, c, ev⟩ := SL.shape hl
  subst ev
  exact ⟨_, _, Q6o _ _ _, HC⟩
end Go.Proofs.YtcklgafpgdhnaabGreatDoor
