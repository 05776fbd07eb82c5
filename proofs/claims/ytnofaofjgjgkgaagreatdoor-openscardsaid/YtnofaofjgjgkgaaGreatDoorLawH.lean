import Derived.Test.YtnofaofjgjgkgaaGreatDoorHeld
import Derived.Maps.AppendAt
namespace Go.Proofs.YtnofaofjgjgkgaaGreatDoor
open Go.RowKit

/-- a slice literal of one plain value -/
theorem run_buildS {P : Program} (w : World) (t e : TypeId) (v : Value) (ie : TypeInfo) (z : Value) (hu : P.underlying t = some (.slice e)) (hi : P.info? e = some ie) (hz : ie.zero = some z) (hzc : z.cells = #[z]) (hs : ie.size = 1) (h1 : v.cells = #[v]) :
    (Instr.buildSlice t 1 #[(0, v)]).run P w = .ok (.slice (some ⟨w.heap.size, 0, none⟩) 1 1) (w.alloc (.cells #[v] e)) := by
  have hr : (Array.range 1).map (fun i => (z.cells)[i % z.cells.size]!) = #[z] := by
    rw [hzc]
    apply Array.ext
    · simp
    · intro i _ h2
      simp at h2
      subst h2
      simp
  have hf : Instr.fill (fun i => some (i, 1)) #[z] [(0, v)] = some #[v] := by
    simp [Instr.fill, h1]
  simp [Instr.buildSlice, run_underlying hu, sizeOf, typeInfo, hi, zeroValue, hz, newRow, hs, hr, hf]

theorem sints : (Tryz.prog.info? 24).map (·.size) = some 1 := by kernel_rfl

def KS (w : World) (p : Nat) (kv dv : Value) (cs : Array Value) (W : World) : Prop := WC W p kv dv ∧ W.heap[w.heap.size]? = some (.cells cs 27 (0, 0))

set_option maxRecDepth 100000 in
set_option maxHeartbeats 1000000 in
theorem owner_keep (p : Nat) (X A B : Int) (s t : ByteArray) (Bs j N : Nat) (ds : List Dk) (w : World) (h : WI Bs w p ds j) (hl : ds.length ≤ N) (hj : j + 1 ≤ N) (hk : ∀ d ∈ ds, d.k ≤ N) (hN : N ≤ 20000) :
    Calls Tryz.prog 12 #[.pointer (some ⟨p, 0, none⟩), .agg (opc 1 X A B s t)] w (StepR Bs p N true w) := by
  obtain ⟨kv, dv, xs, h1, h2, h3, h4⟩ := h.ex
  obtain ⟨ie, hie, hz1, hz2, hz3⟩ := info_parts iint
  have hlp := lt_heap h1
  have k1 := (Kept.refl [] w).alloc (.cells (opc 1 X A B s t) 27)
  have n1 := heap_alloc_new w (.cells (opc 1 X A B s t) 27)
  have hS : KS w p kv dv (opc 1 X A B s t) (w.alloc (.cells (opc 1 X A B s t) 27)).drew := ⟨k1.get h1 (by simp), n1⟩
  have k1d : Kept [] w (w.alloc (.cells (opc 1 X A B s t) 27)).drew := k1.drew
  have hz : (w.alloc (.cells (opc 1 X A B s t) 27)).drew.heap.size = w.heap.size + 1 := by simp [World.drew]
  have HZ : Hid _ := hz
  clear hz n1
  go_enter Tryz.func12, Tryz.ntmps12
  unfold opc at *
  go_wp2
  refine wp_region_K (KS w p kv dv #[.int .i64 1, .int .i64 X, .int .i64 A, .int .i64 B, .string s, .string t]) 11 (by kernel_rfl) ?_
  generalize (w.alloc (.cells #[.int .i64 1, .int .i64 X, .int .i64 A, .int .i64 B, .string s, .string t] 27)).drew = w1 at *
  have own1 := owns_kept h2 k1d (by simp)
  have b1 : Bs ≤ w1.heap.size := Nat.le_trans h.size k1d.size
  have hbs := run_buildS (P := Tryz.prog) w1 24 3 (.int .i64 A) ie (.int .i64 0) Tryz.underlying24 hie hz1 rfl hz2 rfl
  have hS2 : KS w p kv dv #[.int .i64 1, .int .i64 X, .int .i64 A, .int .i64 B, .string s, .string t] (w1.alloc (.cells #[.int .i64 A] 3)) := ⟨((Kept.refl [] w1).alloc _).get hS.1 (by simp), ((Kept.refl [] w1).alloc _).get hS.2 (by simp)⟩
  refine wpAnyK_take (i := 0) (v := .pointer (some ⟨p, 0, none⟩)) rfl (by kernel_rfl) (by kernel_rfl) (by kernel_rfl) (by kernel_rfl) (fun _ _ _ h => h) (Or.inl ⟨by rfl, fun W hW => by rfl⟩) hS ?_
  simp only [Act.put, List.getElem_toArray, List.getElem_cons_zero, List.setIfInBounds_toArray, List.set_cons_succ, List.set_cons_zero]
  refine wpAnyK_take (i := 1) (v := .pointer (some ⟨p, 0, none⟩)) rfl (by kernel_rfl) (by kernel_rfl) (by kernel_rfl) (by kernel_rfl) (fun _ _ _ h => h) (Or.inl ⟨by rfl, fun W hW => by rfl⟩) hS ?_
  simp only [Act.put, List.getElem_toArray, List.getElem_cons_succ, List.getElem_cons_zero, List.setIfInBounds_toArray, List.set_cons_succ, List.set_cons_zero]
  refine wpAnyK_take (i := 2) (v := .pointer (some ⟨p, 0, none⟩)) rfl (by kernel_rfl) (by kernel_rfl) (by kernel_rfl) (by kernel_rfl) (fun _ _ _ h => h) (Or.inl ⟨by rfl, fun W hW => by rfl⟩) hS ?_
  simp only [Act.put, List.getElem_toArray, List.getElem_cons_succ, List.getElem_cons_zero, List.setIfInBounds_toArray, List.set_cons_succ, List.set_cons_zero]
  refine wpAnyK_take (i := 3) (v := .pointer (some ⟨p, 0, none⟩)) rfl (by kernel_rfl) (by kernel_rfl) (by kernel_rfl) (by kernel_rfl) (fun _ _ _ h => h) (Or.inl ⟨by rfl, fun W hW => by rfl⟩) hS ?_
  simp only [Act.put, List.getElem_toArray, List.getElem_cons_succ, List.getElem_cons_zero, List.setIfInBounds_toArray, List.set_cons_succ, List.set_cons_zero]
  refine wpAnyK_take (i := 4) (v := kv) rfl (by kernel_rfl) (by kernel_rfl) (by kernel_rfl) (by kernel_rfl) (fun _ _ _ h => h) (Or.inl ⟨by rfl, fun W hW => exec_load 24 (.tmp 17) rfl ⟨p, 0, none⟩ rfl _ (run_load1 Tryz.underlying24 rfl (cellAt hW.1 rfl))⟩) hS ?_
  simp only [Act.put, List.getElem_toArray, List.getElem_cons_succ, List.getElem_cons_zero, List.setIfInBounds_toArray, List.set_cons_succ, List.set_cons_zero]
  refine wpAnyK_take (i := 5) (v := .pointer (some ⟨w.heap.size, 2, none⟩)) rfl (by kernel_rfl) (by kernel_rfl) (by kernel_rfl) (by kernel_rfl) (fun _ _ _ h => h) (Or.inl ⟨by rfl, fun W hW => by rfl⟩) hS ?_
  simp only [Act.put, List.getElem_toArray, List.getElem_cons_succ, List.getElem_cons_zero, List.setIfInBounds_toArray, List.set_cons_succ, List.set_cons_zero]
  refine wpAnyK_take (i := 6) (v := .int .i64 A) rfl (by kernel_rfl) (by kernel_rfl) (by kernel_rfl) (by kernel_rfl) (fun _ _ _ h => h) (Or.inl ⟨by rfl, fun W hW => exec_load 3 (.tmp 19) rfl ⟨w.heap.size, 2, none⟩ rfl _ (run_load1 Tryz.underlying3 rfl (cellAt hW.2 rfl))⟩) hS ?_
  simp only [Act.put, List.getElem_toArray, List.getElem_cons_succ, List.getElem_cons_zero, List.setIfInBounds_toArray, List.set_cons_succ, List.set_cons_zero]
  refine K_one (i := 7) (by kernel_rfl) (wpOp_val rfl rfl _ _ (exec_buildSlice 24 1 (.tmp 20) rfl (.int .i64 A) rfl _ hbs) ⟨fun _ => hS2, ?_⟩)
  simp only [Act.put, List.getElem_toArray, List.getElem_cons_succ, List.getElem_cons_zero, List.setIfInBounds_toArray, List.set_cons_succ, List.set_cons_zero]
  obtain ⟨v8, w8, hr8, hown8, hgr8, -⟩ := run_append_own (P := Tryz.prog) (w1.alloc (.cells #[.int .i64 A] 3)) Bs 24 24 3 ie _ 1 8 Tryz.underlying24 hie hz1 hz2 hz3 rfl (by decide) kv j xs (own1.alloc _) ⟨w1.heap.size, 0, none⟩ 1 1 [.int .i64 A] rfl (cell_one_new _ _ _) (by simp [Value.oneCell']) (by unfold maxLen; omega) (by omega) (by simp; omega)
  obtain ⟨p8, l8, q8, rfl⟩ := owns_slice hown8
  have k12 : Kept [] w (w1.alloc (.cells #[.int .i64 A] 3)) := k1d.alloc _
  have own2 := own1.alloc (.cells #[.int .i64 A] 3)
  have k8 := grown_kept hgr8 kv.ownBlock.toList (by intro x hx; rw [hx]; simp)
  have hpn : p ∉ kv.ownBlock.toList := by intro hx; simp at hx; exact ne_row ⟨_, _, hS2.1⟩ (owns_row own2 hx) (by decide) rfl
  have hon : w.heap.size ∉ kv.ownBlock.toList := by intro hx; simp at hx; exact ne_row ⟨_, _, hS2.2⟩ (owns_row own2 hx) (by decide) rfl
  have hS8 : KS w p kv dv #[.int .i64 1, .int .i64 X, .int .i64 A, .int .i64 B, .string s, .string t] w8 := ⟨k8.get hS2.1 hpn, k8.get hS2.2 hon⟩
  refine K_one (i := 8) (by kernel_rfl) (wpOp_val rfl rfl _ w8 (exec_append (.tmp 18) (.tmp 21) 24 rfl kv (.slice (some ⟨w1.heap.size, 0, none⟩) 1 1) rfl rfl _ hr8) ⟨fun _ => hS8, ?_⟩)
  simp only [Act.put, List.getElem_toArray, List.getElem_cons_succ, List.getElem_cons_zero, List.setIfInBounds_toArray, List.set_cons_succ, List.set_cons_zero]
  refine K_one (i := 9) (by kernel_rfl) (wpOp_val rfl rfl (.pointer (some ⟨p, 0, none⟩)) w8 rfl ⟨fun _ => hS8, ?_⟩)
  simp only [Act.put, List.getElem_toArray, List.getElem_cons_succ, List.getElem_cons_zero, List.setIfInBounds_toArray, List.set_cons_succ, List.set_cons_zero]
  refine K_one (i := 10) (by kernel_rfl) (wpOp_val rfl rfl (.pointer (some ⟨p, 0, none⟩)) w8 rfl ⟨fun _ => hS8, ?_⟩)
  simp only [Act.put, List.getElem_toArray, List.getElem_cons_succ, List.getElem_cons_zero, List.setIfInBounds_toArray, List.set_cons_succ, List.set_cons_zero]
  refine K_one (i := 11) (by kernel_rfl) (wpOp_skip rfl rfl _ (exec_store 24 (.tmp 24) (.tmp 22) rfl ⟨p, 0, none⟩ rfl (.slice p8 l8 q8) rfl (run_store1 sints rfl hS8.1 (by simp))) ⟨fun hne => absurd rfl hne, ?_⟩)
  simp only [Act.put, List.getElem_toArray, List.getElem_cons_succ, List.getElem_cons_zero]
  refine wpAnyK_done (by kernel_rfl) ?_ _
  have k9 : Kept [p] w8 (w8.setCell ⟨p, 0, none⟩ (.slice p8 l8 q8)) := (Kept.refl _ _).setCell (Or.inl (by simp)) _
  have hWC9 := setCellAt (i := 0) (.slice p8 l8 q8) hS8.1
  have hown9 := owns_kept hown8 k9 (by intro b hb; simp; exact ne_row (owns_row hown8 hb) ⟨_, _, hS8.1⟩ (by decide))
  have k29 : Kept (p :: kv.ownBlock.toList) (w1.alloc (.cells #[.int .i64 A] 3)) (w8.setCell ⟨p, 0, none⟩ (.slice p8 l8 q8)) := (k8.mono (by intro x hx; exact List.mem_cons_of_mem _ hx)).trans (k9.mono (by intro x hx; simp at hx; subst hx; simp))
  obtain ⟨hI, hB⟩ := (h.kept k12).keep hS2.1 (owns_kept h4 k12 (by simp)) own2 k29 hWC9 hown9 (by intro v hv; rcases List.mem_append.1 hv with hv | hv; exact h3 v hv; simp at hv; subst hv; rfl)
  clear hr8 hgr8 hown8 hS8 k8 k9 hWC9 hown9 k29 hS2 hbs hS
  go_wp2
  go_ret
  exact ⟨rfl, ds, j + 1, hI, hl, hj, hk, (k12.belowB h.size (by simp)).trans hB⟩

end Go.Proofs.YtnofaofjgjgkgaaGreatDoor
