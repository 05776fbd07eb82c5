import Derived.Test.YtcklgafpgdhnaabGreatDoorPtar
import Derived.Test.YtcklgafpgdhnaabGreatDoorPtas
set_option maxRecDepth 100000
set_option maxHeartbeats 4000000
open List renaming getElem_toArray → zA, getElem_cons_succ → zB, getElem_cons_zero → zC, setIfInBounds_toArray → zD, set_cons_succ → zE, set_cons_zero → zF
namespace Go.Proofs.YtcklgafpgdhnaabGreatDoor
open Go.RowKit

theorem enters_cloneP (args : Array Value) (w : World) : (callFunc 108 args).run Tryz.prog w = .ok (.enter 108 args) w := enters Tryz.func108 (by kernel_rfl) (by kernel_rfl) args w
theorem enters_replP (args : Array Value) (w : World) : (callFunc 107 args).run Tryz.prog w = .ok (.enter 107 args) w := enters Tryz.func107 (by kernel_rfl) (by kernel_rfl) args w
def WiS (w : World) (k x : ByteArray) (W : World) : Prop := W.heap[w.heap.size]? = some (.cells #[.string k, .string x] 138 (0, 0))
theorem run_pair1' (w : World) (k x : ByteArray) : (Instr.buildSlice 134 1 #[(0, .agg #[.string k, .string x])]).run Tryz.prog w = .ok (.slice (some ⟨w.heap.size, 0, none⟩) 1 1) (w.alloc (.cells #[.string k, .string x] 138)) := by
 obtain ⟨ie, hie, hz1, hz2, hz3⟩ := info_parts itp
 exact run_build1 w 134 138 _ ie _ Tryz.underlying134 hie hz1 hz2 (by simp) (by simp)
theorem pe_cells (k x : ByteArray) : ∀ (j : Nat) (u : Value), (pe (k, x))[j]? = some u → (#[.string k, .string x] : Array Value)[0 + j]? = some u := by
 intro j u hj
 match j, hj with
 | 0, hj => simpa [pe] using hj
 | 1, hj => simpa [pe] using hj
 | j + 2, hj => simp [pe] at hj
theorem one_new (W : World) (k x : ByteArray) : SL (W.alloc (.cells #[.string k, .string x] 138)) 138 2 (.slice (some ⟨W.heap.size, 0, none⟩) 1 1) [pe (k, x)] := by
 refine Or.inr ⟨W.heap.size, 0, 1, #[.string k, .string x], rfl, heap_alloc_new _ _, Nat.le_refl _, by unfold maxLen; omega, by simp, ?_⟩
 intro i e he
 cases i with
 | zero => simp at he; subst he; refine ⟨rfl, ?_⟩; intro j u hj; match j, hj with
  | 0, hj => simpa [pe] using hj
  | 1, hj => simpa [pe] using hj
  | j + 2, hj => simp [pe] at hj
 | succ i => simp at he

theorem leafWith_any (v : Value) (l : List Pr) (k x : ByteArray) (w : World) (h : LF w v l) (hs : Srt l) (hl : l.length ≤ 1000) : Calls Tryz.prog 79 #[v, .agg #[.string k, .string x]] w (LeafR v (withL k x l) w) := by
 have hpos := pos_pK (srt_rise hs) k
 have hres := with_pos (v := x) hs hpos (bK_iff (l.map (·.1)) k)
 have hbi := bK_iff (l.map (·.1)) k
 have k0 := (Kept.refl [] w).alloc (.cells #[.string k, .string x] 138)
 have hcall := fun W (kW : Kept [] w W) => (findP_any v (l.map pe) (l.map (·.1)) k W (SL.kept h kW) (pe_keys l) (srt_rise hs) (by simp; omega)).mono fun _ _ h => find_det h
 have hib := hpos.1
 rw [List.length_map] at hib
 have hlen : (l.map pe).length = l.length := List.length_map _
 have h' := h
 obtain ⟨p, c, ev⟩ := SL.shape h'
 rw [hlen] at ev
 subst ev
 have hone : One 2 [pe (k, x)] := by intro e he; simp at he; subst he; exact ⟨rfl, by intro u hu; simp [pe] at hu; rcases hu with rfl | rfl <;> rfl⟩
 have HCl : Hid (∀ W, Kept [] w W → _) := fun W kW => cloneP_any _ (l.map pe) W (SL.kept h kW) (one_pe l) (by simp; omega)
 generalize pK (l.map (·.1)) k = i at *
 generalize bK (l.map (·.1)) k = b at *
 have HF : Hid (∀ W, Kept [] w W → _) := hcall
 have mid : ∀ (j : Nat) (e : withL k x l = l.take i ++ [(k, x)] ++ l.drop j), (l.map pe).take i ++ [pe (k, x)] ++ (l.map pe).drop j = (withL k x l).map pe := by
  intro j e; rw [e]; simp [pe]
 clear hcall hpos
 cases b with
 | false =>
  have hmid := mid (i) hres
  have HRp : Hid (∀ W B v2 gv, OW W B 138 2 v2 (l.map pe) → B ≤ W.heap.size → SL W 138 2 (.slice (some ⟨gv, 0, none⟩) 1 1) [pe (k, x)] → v2.ownBlock ≠ some gv → Calls Tryz.prog 107 #[v2, .int .i64 (i : Int), .int .i64 ((i : Int)), .slice (some ⟨gv, 0, none⟩) 1 1] W (OwnR B 138 2 v2 ((withL k x l).map pe) W)) := by
   intro W B v2 gv ho hB hv hap
   have := replP_eq B v2 (l.map pe) i W ho (one_pe l) (by omega) (by omega) hB gv 0 1 [pe (k, x)] hv hone (by simp) (by simp) hap
   rw [hmid] at this
   exact this
  clear hbi hres hmid mid
  go_enter Tryz.func79, Tryz.ntmps79
  go_wp2_with (first | (go_at_call 83; refine (HF.out _ k0).mono ?_; rintro e w1 ⟨rfl, hk1⟩))
  have hS : WiS w k x w1.drew := hk1.get (by exact heap_alloc_new w _) (by simp)
  have hK1 : Kept [] w w1 := k0.trans hk1
  have hsz1 : w.heap.size + 1 ≤ w1.heap.size := by have := hk1.size; rwa [World.size_alloc] at this
  refine wp_region_S (WiS w k x) (by kernel_rfl) ?_
  refine wpAnyH_take (i := 0) (v := .slice p l.length c) rfl (by kernel_rfl) (by kernel_rfl) (by kernel_rfl) (fun _ _ _ h => h) (Or.inl ⟨by rfl, fun W hW => by rfl⟩) hS ?_
  simp only [Act.put, zA, zC, zD, zE, zF]
  refine wpAnyH_take (i := 2) (v := .int .i64 (i : Int)) rfl (by kernel_rfl) (by kernel_rfl) (by kernel_rfl) (fun _ _ _ h => h) (Or.inl ⟨by rfl, fun W hW => by rfl⟩) hS ?_
  simp only [Act.put, zA, zB, zC, zD, zE, zF]
  refine wpAnyH_take (i := 3) (v := .int .i64 ((i : Int))) rfl (by kernel_rfl) (by kernel_rfl) (by kernel_rfl) (fun _ _ _ h => h) (Or.inl ⟨by rfl, fun W hW => by rfl⟩) hS ?_
  simp only [Act.put, zA, zB, zC, zD, zE, zF]
  refine wpAnyH_take (i := 4) (v := .agg #[.string k, .string x]) rfl (by kernel_rfl) (by kernel_rfl) (by kernel_rfl) (fun _ _ _ h => h) (Or.inl ⟨by rfl, fun W hW => exec_load 138 (.tmp 3) rfl ⟨w.heap.size, 0, none⟩ rfl _ (load2 (e := pe (k, x)) _ hW ⟨rfl, pe_cells k x⟩ Tryz.underlying138 stp)⟩) hS ?_
  simp only [Act.put, zA, zB, zC, zD, zE, zF]
  refine held_two (i := 1) (j := 5) (by kernel_rfl) ?_ ?_
  ·refine wpOp_call rfl (by rfl) 108 #[.slice p l.length c] (exec_call _ _ _ rfl _ (by simp [Act.eval]) (enters_cloneP _ _)) _ (HCl.out _ hK1.drew) ?_
   rintro e w2 ⟨v2, rfl, ho2, hk2⟩
   have hS2 : WiS w k x w2 := hk2.get hS (by simp)
   refine ⟨_, rfl, hS2, ?_⟩
   simp only [Act.put, zA, zB, zC, zD, zE, zF]
   have hsz2 : w.heap.size + 1 ≤ w1.drew.heap.size := hsz1
   have hk2s := hk2.size
   have k3 := (Kept.refl [] w2).alloc (.cells #[.string k, .string x] 138)
   have hS3 : WiS w k x (w2.alloc (.cells #[.string k, .string x] 138)) := k3.get hS2 (by simp)
   have ho3 : OW (w2.alloc (.cells #[.string k, .string x] 138)) w1.drew.heap.size 138 2 v2 (l.map pe) := ⟨owns_kept ho2.1 k3 (by simp), ho2.2⟩
   have hv3 := one_new w2 k x
   have hap3 : v2.ownBlock ≠ some w2.heap.size := by intro e; have := own_lt ho2.1 w2.heap.size (by rw [e]; simp); omega
   have hb3 : w1.drew.heap.size ≤ (w2.alloc (.cells #[.string k, .string x] 138)).heap.size := by rw [World.size_alloc]; omega
   refine held_one (i := 5) (by kernel_rfl) (wpOp_valW rfl (by rfl) _ _ (exec_buildSlice 134 1 (.tmp 24) rfl (.agg #[.string k, .string x]) rfl _ (run_pair1' _ k x)) ⟨hS3, ?_⟩)
   simp only [Act.put, zA, zB, zC, zD, zE, zF]
   refine held_one (i := 6) (by kernel_rfl) (wpOp_call rfl (by rfl) 107 #[v2, .int .i64 (i : Int), .int .i64 ((i : Int)), .slice (some ⟨w2.heap.size, 0, none⟩) 1 1] (exec_call _ _ _ rfl _ (by simp [Act.eval]) (enters_replP _ _)) _ (HRp.out _ _ v2 w2.heap.size ho3 hb3 hv3 hap3) ?_)
   rintro e w4 ⟨v4, rfl, ho4, hk4⟩
   have hS4 : WiS w k x w4 := hk4.get hS3 (by intro hm; have := own_ge ho3.1 _ hm; omega)
   refine ⟨v4, rfl, hS4, ?_⟩
   simp only [Act.put, zA, zB, zC, zD, zE, zF]
   refine held_one (i := 7) (by kernel_rfl) (wpOp_valW rfl (by rfl) v4 w4 rfl ⟨hS4, ?_⟩)
   simp only [Act.put, zA, zB, zC, zD, zE, zF]
   refine wpAnyH_done (by kernel_rfl) ?_ _
   have K4 : Kept [] w w4 := (hK1.drew.trans (hk2.trans k3)).trans2 hk4 fun y hy => Or.inr (by have := own_ge ho3.1 y hy; omega)
   have FIN : Hid (LeafR (.slice p l.length c) (withL k x l) w (.returned v4) w4) := ⟨v4, rfl, ho4.sl, fun y hy => Or.inr (by have := own_ge ho4.1 y (by rw [hy]; simp); omega), K4⟩
   clear hS hS2 hS3 hS4 ho4 hk4 K4 ho3 hv3 hap3 hb3 ho2 hk2
   go_wp2
   go_ret
   exact FIN.out
  ·have k2 := (Kept.refl [] w1.drew).alloc (.cells #[.string k, .string x] 138)
   have hS2 : WiS w k x (w1.drew.alloc (.cells #[.string k, .string x] 138)) := k2.get hS (by simp)
   refine wpOp_valW rfl (by rfl) _ _ (exec_buildSlice 134 1 (.tmp 24) rfl (.agg #[.string k, .string x]) rfl _ (run_pair1' _ k x)) ⟨hS2, ?_⟩
   simp only [Act.put, zA, zB, zC, zD, zE, zF]
   refine held_one (i := 1) (by kernel_rfl) (wpOp_call rfl (by rfl) 108 #[.slice p l.length c] (exec_call _ _ _ rfl _ (by simp [Act.eval]) (enters_cloneP _ _)) _ (HCl.out _ (hK1.drew.alloc _)) ?_)
   rintro e w2 ⟨v2, rfl, ho2, hk2⟩
   have hS3 : WiS w k x w2 := hk2.get hS2 (by simp)
   refine ⟨_, rfl, hS3, ?_⟩
   simp only [Act.put, zA, zB, zC, zD, zE, zF]
   have hsz2 : w.heap.size + 1 ≤ w1.drew.heap.size := hsz1
   have hk2s := hk2.size
   rw [World.size_alloc] at hk2s
   have ho3 : OW w2 (w1.drew.heap.size + 1) 138 2 v2 (l.map pe) := by have := ho2; rw [World.size_alloc] at this; exact this
   have hv3 := (one_new w1.drew k x).kept hk2
   have hap3 : v2.ownBlock ≠ some w1.drew.heap.size := by intro e; have := own_ge ho3.1 w1.drew.heap.size (by rw [e]; simp); omega
   have hb3 : w1.drew.heap.size + 1 ≤ w2.heap.size := hk2s
   refine held_one (i := 6) (by kernel_rfl) (wpOp_call rfl (by rfl) 107 #[v2, .int .i64 (i : Int), .int .i64 ((i : Int)), .slice (some ⟨w1.drew.heap.size, 0, none⟩) 1 1] (exec_call _ _ _ rfl _ (by simp [Act.eval]) (enters_replP _ _)) _ (HRp.out _ _ v2 w1.drew.heap.size ho3 hb3 hv3 hap3) ?_)
   rintro e w4 ⟨v4, rfl, ho4, hk4⟩
   have hS4 : WiS w k x w4 := hk4.get hS3 (by intro hm; have := own_ge ho3.1 _ hm; omega)
   refine ⟨v4, rfl, hS4, ?_⟩
   simp only [Act.put, zA, zB, zC, zD, zE, zF]
   refine held_one (i := 7) (by kernel_rfl) (wpOp_valW rfl (by rfl) v4 w4 rfl ⟨hS4, ?_⟩)
   simp only [Act.put, zA, zB, zC, zD, zE, zF]
   refine wpAnyH_done (by kernel_rfl) ?_ _
   have K4 : Kept [] w w4 := (hK1.drew.trans (k2.trans hk2)).trans2 hk4 fun y hy => Or.inr (by have := own_ge ho3.1 y hy; omega)
   have FIN : Hid (LeafR (.slice p l.length c) (withL k x l) w (.returned v4) w4) := ⟨v4, rfl, ho4.sl, fun y hy => Or.inr (by have := own_ge ho4.1 y (by rw [hy]; simp); omega), K4⟩
   clear hS hS2 hS3 hS4 ho4 hk4 K4 ho3 hv3 hap3 hb3 ho2 hk2
   go_wp2
   go_ret
   exact FIN.out
 | true =>
  have hil : i < l.length := by
   have := (List.getElem?_eq_some_iff.1 (hbi.1 rfl)).1
   rwa [List.length_map] at this
  have hmid := mid (i + 1) hres
  have HRp : Hid (∀ W B v2 gv, OW W B 138 2 v2 (l.map pe) → B ≤ W.heap.size → SL W 138 2 (.slice (some ⟨gv, 0, none⟩) 1 1) [pe (k, x)] → v2.ownBlock ≠ some gv → Calls Tryz.prog 107 #[v2, .int .i64 (i : Int), .int .i64 ((i : Int) + 1), .slice (some ⟨gv, 0, none⟩) 1 1] W (OwnR B 138 2 v2 ((withL k x l).map pe) W)) := by
   intro W B v2 gv ho hB hv hap
   have := replP_any B v2 (l.map pe) i (i + 1) W ho (one_pe l) (by omega) (by omega) (by omega) hB gv 0 1 [pe (k, x)] hv hone (by simp) (by simp) hap
   rw [hmid] at this
   exact this
  clear hbi hres hmid mid
  go_enter Tryz.func79, Tryz.ntmps79
  go_wp2_with (first | (go_at_call 83; refine (HF.out _ k0).mono ?_; rintro e w1 ⟨rfl, hk1⟩))
  have hS : WiS w k x w1.drew := hk1.get (by exact heap_alloc_new w _) (by simp)
  have hK1 : Kept [] w w1 := k0.trans hk1
  have hsz1 : w.heap.size + 1 ≤ w1.heap.size := by have := hk1.size; rwa [World.size_alloc] at this
  refine wp_region_S (WiS w k x) (by kernel_rfl) ?_
  refine wpAnyH_take (i := 0) (v := .slice p l.length c) rfl (by kernel_rfl) (by kernel_rfl) (by kernel_rfl) (fun _ _ _ h => h) (Or.inl ⟨by rfl, fun W hW => by rfl⟩) hS ?_
  simp only [Act.put, zA, zC, zD, zE, zF]
  refine wpAnyH_take (i := 2) (v := .int .i64 (i : Int)) rfl (by kernel_rfl) (by kernel_rfl) (by kernel_rfl) (fun _ _ _ h => h) (Or.inl ⟨by rfl, fun W hW => by rfl⟩) hS ?_
  simp only [Act.put, zA, zB, zC, zD, zE, zF]
  refine wpAnyH_take (i := 3) (v := .int .i64 ((i : Int) + 1)) rfl (by kernel_rfl) (by kernel_rfl) (by kernel_rfl) (fun _ _ _ h => h) (Or.inl ⟨by rfl, fun W hW => by rfl⟩) hS ?_
  simp only [Act.put, zA, zB, zC, zD, zE, zF]
  refine wpAnyH_take (i := 4) (v := .agg #[.string k, .string x]) rfl (by kernel_rfl) (by kernel_rfl) (by kernel_rfl) (fun _ _ _ h => h) (Or.inl ⟨by rfl, fun W hW => exec_load 138 (.tmp 3) rfl ⟨w.heap.size, 0, none⟩ rfl _ (load2 (e := pe (k, x)) _ hW ⟨rfl, pe_cells k x⟩ Tryz.underlying138 stp)⟩) hS ?_
  simp only [Act.put, zA, zB, zC, zD, zE, zF]
  refine held_two (i := 1) (j := 5) (by kernel_rfl) ?_ ?_
  ·refine wpOp_call rfl (by rfl) 108 #[.slice p l.length c] (exec_call _ _ _ rfl _ (by simp [Act.eval]) (enters_cloneP _ _)) _ (HCl.out _ hK1.drew) ?_
   rintro e w2 ⟨v2, rfl, ho2, hk2⟩
   have hS2 : WiS w k x w2 := hk2.get hS (by simp)
   refine ⟨_, rfl, hS2, ?_⟩
   simp only [Act.put, zA, zB, zC, zD, zE, zF]
   have hsz2 : w.heap.size + 1 ≤ w1.drew.heap.size := hsz1
   have hk2s := hk2.size
   have k3 := (Kept.refl [] w2).alloc (.cells #[.string k, .string x] 138)
   have hS3 : WiS w k x (w2.alloc (.cells #[.string k, .string x] 138)) := k3.get hS2 (by simp)
   have ho3 : OW (w2.alloc (.cells #[.string k, .string x] 138)) w1.drew.heap.size 138 2 v2 (l.map pe) := ⟨owns_kept ho2.1 k3 (by simp), ho2.2⟩
   have hv3 := one_new w2 k x
   have hap3 : v2.ownBlock ≠ some w2.heap.size := by intro e; have := own_lt ho2.1 w2.heap.size (by rw [e]; simp); omega
   have hb3 : w1.drew.heap.size ≤ (w2.alloc (.cells #[.string k, .string x] 138)).heap.size := by rw [World.size_alloc]; omega
   refine held_one (i := 5) (by kernel_rfl) (wpOp_valW rfl (by rfl) _ _ (exec_buildSlice 134 1 (.tmp 24) rfl (.agg #[.string k, .string x]) rfl _ (run_pair1' _ k x)) ⟨hS3, ?_⟩)
   simp only [Act.put, zA, zB, zC, zD, zE, zF]
   refine held_one (i := 6) (by kernel_rfl) (wpOp_call rfl (by rfl) 107 #[v2, .int .i64 (i : Int), .int .i64 ((i : Int) + 1), .slice (some ⟨w2.heap.size, 0, none⟩) 1 1] (exec_call _ _ _ rfl _ (by simp [Act.eval]) (enters_replP _ _)) _ (HRp.out _ _ v2 w2.heap.size ho3 hb3 hv3 hap3) ?_)
   rintro e w4 ⟨v4, rfl, ho4, hk4⟩
   have hS4 : WiS w k x w4 := hk4.get hS3 (by intro hm; have := own_ge ho3.1 _ hm; omega)
   refine ⟨v4, rfl, hS4, ?_⟩
   simp only [Act.put, zA, zB, zC, zD, zE, zF]
   refine held_one (i := 7) (by kernel_rfl) (wpOp_valW rfl (by rfl) v4 w4 rfl ⟨hS4, ?_⟩)
   simp only [Act.put, zA, zB, zC, zD, zE, zF]
   refine wpAnyH_done (by kernel_rfl) ?_ _
   have K4 : Kept [] w w4 := (hK1.drew.trans (hk2.trans k3)).trans2 hk4 fun y hy => Or.inr (by have := own_ge ho3.1 y hy; omega)
   have FIN : Hid (LeafR (.slice p l.length c) (withL k x l) w (.returned v4) w4) := ⟨v4, rfl, ho4.sl, fun y hy => Or.inr (by have := own_ge ho4.1 y (by rw [hy]; simp); omega), K4⟩
   clear hS hS2 hS3 hS4 ho4 hk4 K4 ho3 hv3 hap3 hb3 ho2 hk2
   go_wp2
   go_ret
   exact FIN.out
  ·have k2 := (Kept.refl [] w1.drew).alloc (.cells #[.string k, .string x] 138)
   have hS2 : WiS w k x (w1.drew.alloc (.cells #[.string k, .string x] 138)) := k2.get hS (by simp)
   refine wpOp_valW rfl (by rfl) _ _ (exec_buildSlice 134 1 (.tmp 24) rfl (.agg #[.string k, .string x]) rfl _ (run_pair1' _ k x)) ⟨hS2, ?_⟩
   simp only [Act.put, zA, zB, zC, zD, zE, zF]
   refine held_one (i := 1) (by kernel_rfl) (wpOp_call rfl (by rfl) 108 #[.slice p l.length c] (exec_call _ _ _ rfl _ (by simp [Act.eval]) (enters_cloneP _ _)) _ (HCl.out _ (hK1.drew.alloc _)) ?_)
   rintro e w2 ⟨v2, rfl, ho2, hk2⟩
   have hS3 : WiS w k x w2 := hk2.get hS2 (by simp)
   refine ⟨_, rfl, hS3, ?_⟩
   simp only [Act.put, zA, zB, zC, zD, zE, zF]
   have hsz2 : w.heap.size + 1 ≤ w1.drew.heap.size := hsz1
   have hk2s := hk2.size
   rw [World.size_alloc] at hk2s
   have ho3 : OW w2 (w1.drew.heap.size + 1) 138 2 v2 (l.map pe) := by have := ho2; rw [World.size_alloc] at this; exact this
   have hv3 := (one_new w1.drew k x).kept hk2
   have hap3 : v2.ownBlock ≠ some w1.drew.heap.size := by intro e; have := own_ge ho3.1 w1.drew.heap.size (by rw [e]; simp); omega
   have hb3 : w1.drew.heap.size + 1 ≤ w2.heap.size := hk2s
   refine held_one (i := 6) (by kernel_rfl) (wpOp_call rfl (by rfl) 107 #[v2, .int .i64 (i : Int), .int .i64 ((i : Int) + 1), .slice (some ⟨w1.drew.heap.size, 0, none⟩) 1 1] (exec_call _ _ _ rfl _ (by simp [Act.eval]) (enters_replP _ _)) _ (HRp.out _ _ v2 w1.drew.heap.size ho3 hb3 hv3 hap3) ?_)
   rintro e w4 ⟨v4, rfl, ho4, hk4⟩
   have hS4 : WiS w k x w4 := hk4.get hS3 (by intro hm; have := own_ge ho3.1 _ hm; omega)
   refine ⟨v4, rfl, hS4, ?_⟩
   simp only [Act.put, zA, zB, zC, zD, zE, zF]
   refine held_one (i := 7) (by kernel_rfl) (wpOp_valW rfl (by rfl) v4 w4 rfl ⟨hS4, ?_⟩)
   simp only [Act.put, zA, zB, zC, zD, zE, zF]
   refine wpAnyH_done (by kernel_rfl) ?_ _
   have K4 : Kept [] w w4 := (hK1.drew.trans (k2.trans hk2)).trans2 hk4 fun y hy => Or.inr (by have := own_ge ho3.1 y hy; omega)
   have FIN : Hid (LeafR (.slice p l.length c) (withL k x l) w (.returned v4) w4) := ⟨v4, rfl, ho4.sl, fun y hy => Or.inr (by have := own_ge ho4.1 y (by rw [hy]; simp); omega), K4⟩
   clear hS hS2 hS3 hS4 ho4 hk4 K4 ho3 hv3 hap3 hb3 ho2 hk2
   go_wp2
   go_ret
   exact FIN.out

end Go.Proofs.YtcklgafpgdhnaabGreatDoor

namespace Go.Proofs.YtcklgafpgdhnaabGreatDoor
open Go.RowKit

theorem chg_loose {F : List Pr → List Pr} {k : ByteArray} (hF : OpAt F k) (h : Nat) (f : ByteArray) (ks : List (Kid h)) (hw : WFN (h + 1) f ks) (hf : FullN (h + 1) ks) (hk : ge k f) (h22 : 0 < h + 1 → 22 ≤ sizeN (h + 1) ks) :
  ∃ a, ks[wayK ks k]? = some a ∧ a ∈ ks ∧ ge k a.1 ∧ Loose h (ks.set (wayK ks k) ⟨a.1, chgN F k h a.2, a.3⟩) (wayK ks k) ∧ chgN F k (h + 1) ks = fittedN h (ks.set (wayK ks k) ⟨a.1, chgN F k h a.2, a.3⟩) (wayK ks k) := by
 obtain ⟨⟨n0, x0, r0, e0⟩, hkw⟩ := (WFN_succ h f ks).1 hw
 have hfull := (FullN_succ h ks).1 hf
 obtain ⟨A, a, B, esp, hlen, hga, hB⟩ := way_split f n0 x0 r0 k (by rw [← e0]; exact hkw) hk
 rw [← e0] at esp hlen
 have hamem : a ∈ ks := by rw [esp]; simp
 have hget : ks[wayK ks k]? = some a := by
  rw [← hlen, esp]; simp
 have haR := hfull a hamem
 have ih := chg_ok hF h a.1 a.2 (hkw.all a hamem) haR.2 hga (fun _ => by have := haR.1.1; omega)
 have hset : ks.set (wayK ks k) ⟨a.1, chgN F k h a.2, a.3⟩ = A ++ (([⟨a.1, chgN F k h a.2, a.3⟩] : List (Kid h)) ++ B) := by
  rw [← hlen]
  conv => lhs; rw [esp]
  simp
 have hord := hkw.ord
 rw [esp] at hord
 obtain ⟨pA, pMB, pAMB⟩ := List.pairwise_append.1 hord
 obtain ⟨_, pB, pMB'⟩ := List.pairwise_append.1 pMB
 have hAlt : ∀ p ∈ flatK h A, bl p.1 k = true := by
  intro p hp
  obtain ⟨c, hc, hp⟩ := mem_flatK.1 hp
  exact lt_of_lt_ge ((pAMB c hc a (by simp)).2 p hp) hga
 have hBgt : ∀ p ∈ flatK h B, bl k p.1 = true := by
  intro p hp
  obtain ⟨c, hc, hp⟩ := mem_flatK.1 hp
  exact lt_of_lt_ge (hB c hc) (WFN.keys (hkw.all c (by rw [esp]; simp [hc])) p hp).1
 have hmemF : ∀ p ∈ flatN h (chgN F k h a.2), p ∈ flatN h a.2 ∨ p.1 = k := by
  intro p hp
  rw [ih.flat] at hp
  rcases hF.mem _ p hp with e | e
  ·exact Or.inl e
  ·exact Or.inr e.1
 have kw' : KW h (A ++ (([⟨a.1, chgN F k h a.2, a.3⟩] : List (Kid h)) ++ B)) := by
  refine ⟨List.pairwise_append.2 ⟨pA, List.pairwise_append.2 ⟨by simp, pB, ?_⟩, ?_⟩, ?_⟩
  ·intro x hx b hb
   simp at hx; subst hx
   have h1 := pMB' a (by simp) b hb
   refine ⟨h1.1, fun p hp => ?_⟩
   rcases hmemF p hp with e | e
   ·exact h1.2 p e
   ·rw [e]; exact hB b hb
  ·intro x hx b hb
   rcases List.mem_append.1 hb with hb | hb
   ·simp at hb; subst hb
    exact pAMB x hx a (by simp)
   ·exact pAMB x hx b (List.mem_append_right _ hb)
  ·intro x hx
   rcases List.mem_append.1 hx with hx | hx
   ·exact hkw.all x (by rw [esp]; simp [hx])
   rcases List.mem_append.1 hx with hx | hx
   ·simp at hx; subst hx; exact ih.wf
   ·exact hkw.all x (by rw [esp]; simp [hx])
 have hsz : sizeN (h + 1) ks = 11 * ks.length := rfl
 have hlk : ks.length = A.length + (1 + B.length) := by rw [esp]; simp; omega
 have h22' := h22 (by omega)
 have loose : Loose h (A ++ (([⟨a.1, chgN F k h a.2, a.3⟩] : List (Kid h)) ++ B)) (wayK ks k) := by
  rw [← hlen]
  refine ⟨kw', ?_, by simp, ?_, ?_, ?_⟩
  ·simp only [List.length_append, List.length_cons, List.length_nil]; omega
  ·intro x hx
   rcases List.mem_append.1 hx with hx | hx
   ·exact (hfull x (by rw [esp]; simp [hx])).2
   rcases List.mem_append.1 hx with hx | hx
   ·simp at hx; subst hx; exact ih.full
   ·exact (hfull x (by rw [esp]; simp [hx])).2
  ·intro j x hj hne
   have : x ∈ A ∨ x ∈ B := by
    rcases Nat.lt_or_ge j A.length with hj' | hj'
    ·rw [List.getElem?_append_left hj'] at hj; exact Or.inl (List.mem_of_getElem? hj)
    ·rw [List.getElem?_append_right hj', List.getElem?_append_right (by simp; omega)] at hj
     exact Or.inr (List.mem_of_getElem? hj)
   rcases this with hx | hx
   ·exact (hfull x (by rw [esp]; simp [hx])).1
   ·exact (hfull x (by rw [esp]; simp [hx])).1
  ·intro x hx
   simp at hx; subst hx
   have := ih.hi; have := ih.lo; have := haR.1.1; have := haR.1.2
   exact ⟨by show 18 ≤ sizeN h (chgN F k h a.2); omega, by show sizeN h (chgN F k h a.2) ≤ 144; omega⟩
 refine ⟨a, hget, hamem, hga, by rw [hset]; exact loose, ?_⟩
 show chgK h (chgN F k h) k ks = _
 unfold chgK
 rw [hget]

theorem dChangedL (p : Option Addr) (n c : Nat) : Disp "store/tree.changed" (.iface 135 (.slice p n c)) 184 (.slice p n c) := ⟨_, rfl, fun _ => by kernel_rfl, fun _ _ => by kernel_rfl⟩
theorem dChangedB (p : Option Addr) (n c : Nat) : Disp "store/tree.changed" (.iface 180 (.slice p n c)) 214 (.slice p n c) := ⟨_, rfl, fun _ => by kernel_rfl, fun _ _ => by kernel_rfl⟩

structure Cl (F : List Pr → List Pr) (Q : List Pr → Prop) (fid : FuncId) (cap : Value) (w : World) : Prop where
 en : ∀ (args : Array Value) (W : World), (callFunc fid args).run Tryz.prog W = .ok (.enter fid args) W
 call : ∀ W v l, Kept [] w W → LF W v l → Srt l → l.length ≤ 1000 → Q l → Calls Tryz.prog fid #[v, cap] W (LeafR v (F l) W)
theorem Cl.k {F : List Pr → List Pr} {Q : List Pr → Prop} {fid : FuncId} {cap : Value} {w W : World} (h : Cl F Q fid cap w) (k : Kept [] w W) : Cl F Q fid cap W := ⟨h.en, fun W' v l kW => h.call W' v l (k.trans kW)⟩

theorem leafChanged_any {F : List Pr → List Pr} {Q : List Pr → Prop} {fid : FuncId} {cap : Value} {w : World} (hc : Cl F Q fid cap w) (v : Value) (l : List Pr) (k : ByteArray) (h : LF w v l) (hs : Srt l) (hl : l.length ≤ 1000) (hq : Q l) :
  Calls Tryz.prog 184 #[v, .string k, .func (.func fid) #[] #[cap]] w fun e w' => ∃ v', e = .returned (.iface 135 v') ∧ LF w' v' (F l) ∧ (∀ y, v'.ownBlock = some y → v.ownBlock = some y ∨ w.heap.size ≤ y) ∧ Kept [] w w' := by
 have HC : Hid (Calls _ _ _ _ _) := hc.call w v l (Kept.refl _ _) h hs hl hq
 have he := hc.en
 obtain ⟨p, c, ev⟩ := SL.shape h
 rw [List.length_map] at ev
 subst ev
 clear hc h hs hl hq
 go_enter Tryz.func184, Tryz.ntmps184
 go_wp2_with (first | (go_at_fn fid; refine HC.out.mono ?_; rintro e w1 ⟨v1, rfl, hl1, ho1, hk1⟩; obtain ⟨p1, c1, ev1⟩ := SL.shape hl1; rw [List.length_map] at ev1; subst ev1))
 go_ret
 exact ⟨_, rfl, hl1, ho1, hk1⟩

end Go.Proofs.YtcklgafpgdhnaabGreatDoor

namespace Go.Proofs.YtcklgafpgdhnaabGreatDoor
open Go.RowKit

theorem fl_set (es : List El) (hw : Wd 3 es) (i : Nat) (e : El) (u : Value) (h : es[i]? = some e) : fl (es.set i (e.set 2 u)) = (fl es).set (i * 3 + 2) u := by
 induction es generalizing i with
 | nil => simp at h
 | cons x r ih =>
  have hx : x.length = 3 := hw x (by simp)
  cases i with
  | zero =>
   simp at h; subst h
   rw [zF, fl_cons, fl_cons, List.set_append_left _ _ (by omega)]
  | succ i =>
   rw [zE, fl_cons, fl_cons, ih hw.tl i (by simpa using h), List.set_append_right _ _ (by omega), show (i + 1) * 3 + 2 - x.length = i * 3 + 2 by omega]

theorem OW.set2 {w : World} {B : Nat} {t : TypeId} {es : List El} (hw : Wd 3 es) {g n cap : Nat} {cur : List Value} (hB : B ≤ g) (hg : Rw w g t cur) (hn : n = es.length) (h1 : n ≤ cap) (h2 : cap ≤ maxLen) (h3 : cur.length = cap * 3) (htk : cur.take (n * 3) = fl es) (i : Nat) (e : El) (he : es[i]? = some e) (u : Value) :
  OW (w.setCell ⟨g, i * 3 + 2, none⟩ u) B t 3 (.slice (some ⟨g, 0, none⟩) n cap) (es.set i (e.set 2 u)) ∧ Kept [g] w (w.setCell ⟨g, i * 3 + 2, none⟩ u) := by
 have hs := setCellAt (i := i * 3 + 2) u hg
 have hw' : Wd 3 (es.set i (e.set 2 u)) := by
  intro x hx
  rcases List.mem_or_eq_of_mem_set hx with hx | hx
  ·exact hw x hx
  ·rw [hx, List.length_set]
   exact hw e (List.mem_of_getElem? he)
 refine ⟨OW.close (cur := cur.set (i * 3 + 2) u) hw' hB ?_ (by simp [hn]) h1 h2 (by simp [h3]) ?_, (Kept.refl _ _).setCell (Or.inl (by simp)) _⟩
 ·unfold Rw
  rw [hs]
  simp
 ·rw [List.take_set, htk, fl_set es hw i e u he]

theorem chg_tail {h : Nat} {A : Nat → Prop} {v2 : Value} {xs : List KE} {ks : List (Kid h)} {i : Nat} {q : Kid h} {n' : Nd h} {y : KE} {w w1 w2 w3 : World} {a : Value} {g2 cap2 : Nat} {cur : List Value}
  (hf : F2 (KR w A h) ks xs) (hAb : ∀ z, A z → z < w.heap.size) (hq : ks[i]? = some q) (hy : xs[i]? = some y) (hkl : ks.length ≤ 1000) (hloose : Loose h (ks.set i ⟨q.1, n', q.3⟩) i)
  (k1 : Kept [] w w1) (k2 : Kept [] w1 w2) (k3 : Kept [] w2 w3) (hB : w1.heap.size ≤ g2) (hg : Rw w2 g2 75 cur) (hc1 : ks.length ≤ cap2) (hc2 : cap2 ≤ maxLen) (hc3 : cur.length = cap2 * 3) (htk : cur.take (ks.length * 3) = fl (xs.map ke))
  (hn3 : ND w3 (fun z => A z ∨ w2.heap.size ≤ z) h n' a) (hv2 : v2 = .slice (some ⟨g2, 0, none⟩) ks.length cap2) :
  Calls Tryz.prog 227 #[v2, .int .i64 i] (w3.setCell ⟨g2, i * 3 + 2, none⟩ a) fun e w5 => ∃ v5 xs5, e = .returned v5 ∧ SL w5 75 3 v5 (xs5.map ke) ∧ (∀ z, v5.ownBlock = some z → w.heap.size ≤ z) ∧ F2 (KR w5 (fun z => A z ∨ w.heap.size ≤ z) h) (fittedN h (ks.set i ⟨q.1, n', q.3⟩) i) xs5 ∧ Kept [] w w5 := by
 subst hv2
 have hlen : (xs.map ke).length = ks.length := by rw [List.length_map, hf.1]
 have hg2 : g2 < w2.heap.size := (Array.getElem?_eq_some_iff.1 hg).1
 have hg3 : Rw w3 g2 75 cur := hg.kept k3 (by simp)
 have hye := (hf.2 i q y hq hy).1
 obtain ⟨ho4, k4⟩ := OW.set2 (B := w1.heap.size) (one_ke (kids_iface hf)).wd hB hg3 hlen.symm hc1 hc2 hc3 htk i (ke y) (by rw [List.getElem?_map, hy]; rfl) a
 have es4 : (xs.map ke).set i ((ke y).set 2 a) = (xs.set i ⟨y.1, a, y.3⟩).map ke := by rw [List.map_set]; rfl
 rw [es4] at ho4
 have s1 := k1.size
 have s2 := k2.size
 have s3 := k3.size
 have s4 := k4.size
 have hnA : ∀ z ∈ [g2], ¬ (A z ∨ w2.heap.size ≤ z) := by
  intro z hz
  simp at hz
  subst hz
  rintro (h1 | h1)
  ·have := hAb _ h1; omega
  ·omega
 have up : F2 (KR (w3.setCell ⟨g2, i * 3 + 2, none⟩ a) (fun z => A z ∨ w2.heap.size ≤ z) h) ks xs := hf.mono fun _ _ _ hr => KR.kept (KR.kept hr ((k1.trans k2).trans k3) (by simp) fun _ h => Or.inl h) k4 hnA fun _ h => h
 have hnew : KR (w3.setCell ⟨g2, i * 3 + 2, none⟩ a) (fun z => A z ∨ w2.heap.size ≤ z) h ⟨q.1, n', q.3⟩ ⟨y.1, a, y.3⟩ := ⟨hye, ND.kept k4 hnA (fun _ h => h) hn3⟩
 refine (brFitted_any ho4 (by omega) (up.set i hnew) (fun z hz e => hnA g2 (by simp) (by cases e; exact hz)) (by simpa using hkl) i hloose).mono ?_
 rintro e w5 ⟨v5, xs5, rfl, ho5, hf5, hk5⟩
 refine ⟨v5, xs5, rfl, ho5.sl, fun z hz => ?_, ?_, ?_⟩
 ·have := own_ge ho5.1 z (by rw [hz]; simp)
  omega
 ·refine hf5.mono fun _ _ _ hr => KR.kept hr (Kept.refl [] _) (by simp) ?_
  rintro z ((h1 | h1) | h1)
  ·exact Or.inl h1
  ·exact Or.inr (by omega)
  ·exact Or.inr (by omega)
 ·have k45 : Kept [g2] w3 w5 := k4.trans hk5
  exact ((k1.trans k2).trans k3).trans2 k45 fun z hz => Or.inr (by simp at hz; subst hz; omega)

def ChgOk (F : List Pr → List Pr) (Q : List Pr → Prop) (k : ByteArray) (fid : FuncId) (cap : Value) (h : Nat) : Prop := ∀ (w : World) (A : Nat → Prop) (f : ByteArray) (n : Nd h) (x : Value), ND w A h n x → (∀ y, A y → y < w.heap.size) → WFN h f n → FullN h n → ge k f → (0 < h → 22 ≤ sizeN h n) → sizeN h n ≤ 122 → Cl F Q fid cap w → Q (leafN k h n) →
  ∃ fn v, Disp "store/tree.changed" x fn v ∧ Calls Tryz.prog fn #[v, .string k, .func (.func fid) #[] #[cap]] w fun e w' => ∃ a, e = .returned a ∧ ND w' (fun y => A y ∨ w.heap.size ≤ y) h (chgN F k h n) a ∧ Kept [] w w'

theorem brChanged_any {F : List Pr → List Pr} {Q : List Pr → Prop} {k : ByteArray} {fid : FuncId} {cap : Value} (hF : OpAt F k) (h : Nat) (IH : ChgOk F Q k fid cap h) {A : Nat → Prop} {v : Value} {xs : List KE} {f : ByteArray} {ks : List (Kid h)} {w : World} (hl : SL w 75 3 v (xs.map ke)) (hf : F2 (KR w A h) ks xs) (hAb : ∀ y, A y → y < w.heap.size)
  (hw : WFN (h + 1) f ks) (hfu : FullN (h + 1) ks) (hk : ge k f) (h22 : 22 ≤ 11 * ks.length) (hsz : 11 * ks.length ≤ 122) (hc : Cl F Q fid cap w) (hQ : Q (leafN k (h + 1) ks)) :
  Calls Tryz.prog 214 #[v, .string k, .func (.func fid) #[] #[cap]] w fun e w5 => ∃ v5 xs5, e = .returned (.iface 180 v5) ∧ SL w5 75 3 v5 (xs5.map ke) ∧ (∀ z, v5.ownBlock = some z → w.heap.size ≤ z) ∧ F2 (KR w5 (fun z => A z ∨ w.heap.size ≤ z) h) (chgN F k (h + 1) ks) xs5 ∧ Kept [] w w5 := by
 obtain ⟨q, hq, hqm, hgq, hloose, hres⟩ := chg_loose hF h f ks hw hfu hk (fun _ => h22)
 have hkw := ((WFN_succ h f ks).1 hw).2
 have hqf := (FullN_succ h ks).1 hfu q hqm
 have hlt : wayK ks k < ks.length := (List.getElem?_eq_some_iff.1 hq).1
 have hlen : (xs.map ke).length = ks.length := by rw [List.length_map, hf.1]
 have HWy : Hid (Calls _ _ _ _ _) := brWay_any h A v xs ks k w hl hf hkw (by omega)
 obtain ⟨y, hy, hr⟩ := hf.get hq
 have HCl : Hid (∀ W, Kept [] w W → _) := fun W kW => cloneK_any v (xs.map ke) W (hl.kept kW) (one_ke (kids_iface hf)) (by omega)
 have HIH : Hid (∀ W, Kept [] w W → _) := fun W kW => IH W A q.1 q.2 y.2 (ND.k hr.2 kW) (fun z hz => Nat.lt_of_lt_of_le (hAb z hz) kW.size) (hkw.all q hqm) hqf.2 hgq (fun _ => by have := hqf.1.1; omega) hqf.1.2 (hc.k kW) (by rw [leafN_succ k h ks q hq] at hQ; exact hQ)
 obtain ⟨g, off, cp, cur, ev, hg, hc1, hc2, hc3, hcur⟩ := hl.at_ (by omega)
 rw [hlen] at ev
 have hcl := (hcur (wayK ks k) (ke y) (by rw [List.getElem?_map, hy]; rfl)).2
 have HCell : Hid (∀ W, Kept [] w W → W.cell? ⟨g, off + wayK ks k * 3 + 2, none⟩ = some y.2) := fun W kW => by rw [cell_of_row _ _ _ _ _ _ (kW.get hg (by simp))]; exact hcl 2 _ rfl
 have HT : Hid (∀ w1 w2 w3 a g2 cap2 cur (v2 : Value) n', n' = chgN F k h q.2 → Kept [] w w1 → Kept [] w1 w2 → Kept [] w2 w3 → w1.heap.size ≤ g2 → Rw w2 g2 75 cur → ks.length ≤ cap2 → cap2 ≤ maxLen → cur.length = cap2 * 3 → cur.take (ks.length * 3) = fl (xs.map ke) → ND w3 (fun z => A z ∨ w2.heap.size ≤ z) h n' a → v2 = .slice (some ⟨g2, 0, none⟩) ks.length cap2 → _) := fun w1 w2 w3 a g2 cap2 cur v2 n' en k1 k2 k3 hB hg c1 c2 c3 htk hn hv => chg_tail hf hAb hq hy (by omega) (by rw [en]; exact hloose) k1 k2 k3 hB hg c1 c2 c3 htk hn hv
 have HR : Hid _ := hres
 have hOpen : ∀ W B vl, OW W B 75 3 vl (xs.map ke) → ∃ g cap cur, vl = .slice (some ⟨g, 0, none⟩) ks.length cap ∧ B ≤ g ∧ Rw W g 75 cur ∧ ks.length ≤ cap ∧ cap ≤ maxLen ∧ cur.length = cap * 3 ∧ cur.take (ks.length * 3) = fl (xs.map ke) := by
  intro W B vl ho
  have := ho.open (by omega)
  rw [hlen] at this
  exact this
 have HO : Hid _ := hOpen
 have hCell2 : ∀ (W : World) (g2 : Nat) (cap2 : Nat) (cur : List Value), Rw W g2 75 cur → cur.take (ks.length * 3) = fl (xs.map ke) → W.cell? ⟨g2, wayK ks k * 3 + 2, none⟩ = some y.2 := by
  intro W g2 cap2 cur hg htk
  have := fl_get (one_ke (kids_iface hf)).wd (wayK ks k) (ke y) (by rw [List.getElem?_map, hy]; rfl) 2 y.2 rfl
  rw [← htk, List.getElem?_take, if_pos (by omega)] at this
  rw [cell_of_row _ _ _ _ _ _ hg]
  simpa using this
 have HC2 : Hid _ := hCell2
 subst ev
 have hbd : ks.length ≤ 1000 := by omega
 generalize wayK ks k = i at *
 generalize ks.length = m at *
 clear hcl hcur hq hqm hgq hloose hres hkw hqf hlen hy hr hw hfu hk h22 hsz hc hl hf hOpen hCell2 hQ
 go_enter Tryz.func214, Tryz.ntmps214
 go_wp2_with (first
  | (go_at_call 225; refine HWy.out.mono ?_; rintro e w1 ⟨rfl, hk1⟩)
  | (go_at_call 226; refine (HCl.out _ hk1).mono ?_; rintro e w2 ⟨v2, rfl, ho2, hk2⟩; obtain ⟨g2, cap2, cur2, ev2, hB2, hg2, hd1, hd2, hd3, htk2⟩ := HO.out w2 _ v2 ho2; obtain ⟨fn, vv, ⟨t, ex, hm, he⟩, hcall⟩ := HIH.out w2 (hk1.trans hk2); have c1 := HCell.out w2 (hk1.trans hk2); rw [ex] at c1; subst ev2; have HCall : Hid (Calls _ _ _ _ _) := hcall; clear hcall ho2; have HTK : Hid _ := htk2; clear htk2)
  | (refine wpList_val rfl _ _ (exec_index 180 (.tmp 16) (.tmp 17) rfl g off m cp i 3 rfl rfl 75 Tryz.underlying180 stk' hlt (off + i * 3) rfl) ?_)
  | (go_at_fn fn; refine HCall.out.mono ?_; rintro e w3 ⟨a, rfl, hn3, hk3⟩; have hg3 : Rw w3 g2 75 cur2 := hg2.kept hk3 (by simp); have c3 := HC2.out w3 g2 cap2 cur2 hg3 HTK.out; rw [ex] at c3; have fz : w3.frozen? ⟨g2, i * 3 + 2, none⟩ = false := frozen_of_row _ _ _ _ _ hg3; obtain ⟨ta, va, ea⟩ := hn3.iface; have HN3 : Hid _ := hn3; clear hn3; subst ea)
  | (refine wpList_val rfl _ _ (exec_index 180 (.tmp 14) (.tmp 15) rfl g2 0 m cap2 i 3 rfl rfl 75 Tryz.underlying180 stk' hlt (i * 3) (by omega)) ?_)
  | (go_at_call 227; refine (HT.out w1 w2 w3 _ g2 cap2 cur2 _ _ rfl hk1 hk2 hk3 hB2 hg2 hd1 hd2 hd3 HTK.out HN3.out rfl).mono ?_; rintro e w5 ⟨v5, xs5, rfl, hl5, ho5, hf5, hk5⟩; obtain ⟨p5, c5, ev5⟩ := hl5.shape; rw [List.length_map] at ev5; subst ev5))
 go_ret
 exact ⟨_, xs5, rfl, hl5, ho5, by rw [HR.out]; exact hf5, hk5⟩

theorem changed_nd {F : List Pr → List Pr} {Q : List Pr → Prop} {k : ByteArray} {fid : FuncId} {cap : Value} (hF : OpAt F k) : ∀ h, ChgOk F Q k fid cap h
 | 0 => by
  intro w A f n x hx hAb hw hfu hk h22 hsz hc hQ
  obtain ⟨v, rfl, hl, hA⟩ := hx
  have hlen := (Sm.of hw (by omega)).2
  have HC := leafChanged_any hc v n k hl hw.1 hlen hQ
  obtain ⟨p, c, ev⟩ := SL.shape hl
  subst ev
  refine ⟨_, _, dChangedL _ _ _, HC.mono ?_⟩
  rintro e w' ⟨v', rfl, hl', ho', hk'⟩
  exact ⟨_, rfl, ⟨v', rfl, hl', fun y hy => (ho' y hy).imp (hA y) id⟩, hk'⟩
 | h + 1 => by
  intro w A f n x hx hAb hw hfu hk h22 hsz hc hQ
  obtain ⟨v, xs, rfl, hl, hA, hf⟩ := ND_succ.1 hx
  have HC := brChanged_any hF h (changed_nd hF h) hl hf hAb hw hfu hk (h22 (by omega)) hsz hc hQ
  obtain ⟨p, c, ev⟩ := SL.shape hl
  subst ev
  refine ⟨_, _, dChangedB _ _ _, HC.mono ?_⟩
  rintro e w' ⟨v', xs', rfl, hl', ho', hf', hk'⟩
  exact ⟨_, rfl, ND_succ.2 ⟨v', xs', rfl, hl', fun y hy => Or.inr (ho' y hy), hf'⟩, hk'⟩

end Go.Proofs.YtcklgafpgdhnaabGreatDoor
