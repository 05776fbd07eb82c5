import Derived.Test.YtloihcnbcknbnaaGreatDoorPtbj
namespace Go.Proofs.YtloihcnbcknbnaaGreatDoor
open Go.RowKit

theorem enters_hblock (args : Array Value) (w : World) : (callFunc 99 args).run Tryz.prog w = .ok (.enter 99 args) w := enters Tryz.func99 (by kernel_rfl) (by kernel_rfl) args w
theorem enters_sector (args : Array Value) (w : World) : (callFunc 97 args).run Tryz.prog w = .ok (.enter 97 args) w := enters Tryz.func97 (by kernel_rfl) (by kernel_rfl) args w
theorem enters_VLay (args : Array Value) (w : World) : (callFunc 98 args).run Tryz.prog w = .ok (.enter 98 args) w := enters Tryz.func98 (by kernel_rfl) (by kernel_rfl) args w

theorem exec_neq {P : Program} {o : Oper} {a : Act} {w : World} (t u : TypeId) (x y : Operand) (ho : o.op = .binOp .neq t x y u) (p q : Int) (hx : a.eval x = .int .i64 p) (hy : a.eval y = .int .i64 q) :
    (execOp a.eval o).run P w = .ok (.value (.bool (p != q))) w := by
  unfold execOp
  simp only [ho, hx, hy, Sem.run_bind, eqGuard_at_int, Sem.run_pure, Result.andThen_ok]
  rfl
theorem exec_neq_arr {P : Program} {o : Oper} {a : Act} {w : World} (t u : TypeId) (x y : Operand) (ho : o.op = .binOp .neq t x y u) (A B : List UInt8) (hx : a.eval x = .agg (u8s A).toArray) (hy : a.eval y = .agg (u8s B).toArray)
    (len : Nat) (e : TypeId) (hA : A.length = len) (hB : B.length = len) (ht : P.underlying t = some (.array len e)) (he : P.underlying e = some (.int .u8)) (hs : (P.info? e).map (·.size) = some 1) (hm : P.eqGuardType P.depth t = false) :
    (execOp a.eval o).run P w = .ok (.value (.bool (!decide (A = B)))) w := by
  unfold execOp
  simp only [ho, hx, hy, Sem.run_bind, run_eqGuard_agg (P := P) (w := w) .neq t x y _ _ hm, neq_arr P w len t e A B hA hB ht he hs, Result.andThen_ok, Sem.run_pure]

theorem shead : (Tryz.prog.info? 122).map (·.size) = some 1 := by kernel_rfl

theorem res2 {P : Program} {fn : Func} {p u : Tmp} {ty : TypeId} (h : fn.results = #[.cell p ty, .tmp u]) (tmps : Array Value) (w : World) (g : Nat) (t : TypeId) (cs : Array Value) (fr : Nat × Nat) (d : TypeDesc) (b : Value)
    (hp : tmps.getD p undef = .pointer (some ⟨g, 0, none⟩)) (hb : tmps.getD u undef = b) (hg : w.heap[g]? = some (.cells cs t fr))
    (hu : P.underlying ty = some d) (hd : (match d with | .struct _ | .array _ _ => true | _ => false) = true) (hi : (P.info? ty).map (·.size) = some cs.size) :
    (results fn tmps).run P w = .ok (.tuple #[.agg cs, b]) w := by
  rw [results_cell_tmp h, hp, hb]
  simp [asAddr, run_loadVar_row w g t ty cs fr d hg hu hd hi]

/-- what a read of a head gives -/
def ReadR (a g n : Nat) (L : List UInt8) (wr t : Int) (T : Nat) (b : Bool) (w : World) (e : Ending) (w' : World) : Prop :=
  e = .returned (.tuple #[.agg #[.int .u64 T], .bool b]) ∧ DevK a g n L wr t w w'

set_option maxRecDepth 100000 in
set_option maxHeartbeats 1000000 in
theorem hread_at (v a g n : Nat) (L : List UInt8) (c wr t : Int) (i T : Nat) (w : World) (hv : Vol w v a n) (h : Dev w a g n L c wr t) (hi : i < n) (hn : n ≤ 1000)
    (hT : leNum (((blockOf L i).drop 8).take 8) = T) (hT2 : (T : Int) < 9223372036854775807) (hb : T % 2 = i) (hs : sec T = (blockOf L i).take 32) :
    Calls Tryz.prog 95 #[.pointer (some ⟨v, 0, none⟩), .int .i64 i] w (ReadR a g n L wr t T true w) := by
  have hlb := length_blockOf L n i h.l hi
  have hla := lt_heap h.d
  have hlg := lt_heap h.b
  have hlv := lt_heap hv
  have k0 := (Kept.refl [] w).alloc (.cells #[.int .u64 0] 122)
  have n0 := heap_alloc_new w (.cells #[.int .u64 0] 122)
  have hlen8 : (((blockOf L i).drop 8).take 8).length = 8 := by rw [List.length_take, List.length_drop, hlb]; rfl
  go_enter Tryz.func95, Tryz.ntmps95
  go_wp2_with (first
    | (go_at_call 125; refine (VBlock_any v a g n L c wr t i _ (k0.get hv (by simp)) (h.kept k0 (by simp) (by simp)) hi hn).mono ?_; rintro e w1 ⟨rfl, hd1, hk1⟩; have n1 := hk1.get n0 (by simp; omega))
    | (refine wpList_alloc_d rfl 6 rfl 84 rfl _ (zblk _) ?_; intro w2 hn2 hk2 hs2; clear hs2; have n2 := hk2.get n1 (by simp))
    | (refine wpList_store_k rfl 84 (.tmp 6) (.tmp 9) rfl w1.heap.size (u8s (blockOf L i)).toArray rfl rfl 84 _ hn2 (by rw [sblk]; simp [length_u8s, hlb]) (by simp [length_u8s, hlb]) (all_of (one_u8s _)) ?_; intro w3 hn3 hk3; have n3 := hk3.get n2 (by have := hk1.size; simp at this ⊢; omega); have c3 : w3.cell? ⟨w.heap.size, 0, none⟩ = some (.int .u64 0) := cellAt n3 rfl; have f3 : w3.frozen? ⟨w.heap.size, 0, none⟩ = false := frozen_of_row _ _ _ _ _ n3)
    | (go_at_call 126; refine (number_n w1.heap.size 8 120 8 8 (blockOf L i) 84 (0, 0) w3 hn3 hlen8 (by omega)).mono ?_; rintro e w' ⟨rfl, rfl⟩))
  have hz1 := hk1.size
  rw [World.size_alloc] at hz1
  have hk03 : Kept [a] w w' := by
    refine Kept.trans2 (Kept.trans (Kept.trans (k0.mono (by simp)) hk1) (hk2.mono (by simp))) hk3 ?_
    intro x hx; simp at hx; subst hx; exact Or.inr (by omega)
  have k4 : Kept [w.heap.size] w' (w'.setCell ⟨w.heap.size, 0, none⟩ (.int .u64 T)) := (Kept.refl _ _).setCell (Or.inl (by simp)) _
  have n4 := setCellAt (i := 0) (.int .u64 (T : Int)) n3
  have hn4 := k4.get hn3 (by simp; omega)
  have hk04 : Kept [a] w (w'.setCell ⟨w.heap.size, 0, none⟩ (.int .u64 T)) := hk03.trans2 k4 (by intro x hx; simp at hx; subst hx; exact Or.inr (Nat.le_refl _))
  have hd4 : ∃ c', Dev (w'.setCell ⟨w.heap.size, 0, none⟩ (.int .u64 T)) a g n L c' wr t := by
    obtain ⟨c', hd1⟩ := hd1
    exact ⟨c', ((hd1.kept hk2 (by simp) (by simp)).kept hk3 (by simp; omega) (by simp; omega)).kept k4 (by simp; omega) (by simp; omega)⟩
  generalize w'.setCell ⟨w.heap.size, 0, none⟩ (.int .u64 T) = w4 at *
  have hS : (fun W : World => (W.heap[w.heap.size]? = some (.cells #[.int .u64 T] 122 (0, 0)) ∧ W.heap[w1.heap.size]? = some (.cells (u8s (blockOf L i)).toArray 84 (0, 0))) ∧ (∃ c', Dev W a g n L c' wr t) ∧ Kept [a] w W) w4.drew := by
    obtain ⟨c', hd4⟩ := hd4
    exact ⟨⟨n4, hn4⟩, ⟨c', hd4.d, hd4.b, hd4.l⟩, hk04.drew⟩
  have hseg : ∀ j v, (u8s ((blockOf L i).take 32))[j]? = some v → (u8s (blockOf L i))[0 + j]? = some v := by
    intro j v hv
    rw [Nat.zero_add]
    rw [u8s_get] at hv ⊢
    rw [List.getElem?_take] at hv
    split at hv
    · exact hv
    · simp at hv
  have hSk : ∀ W W', ((W.heap[w.heap.size]? = some (.cells #[.int .u64 T] 122 (0, 0)) ∧ W.heap[w1.heap.size]? = some (.cells (u8s (blockOf L i)).toArray 84 (0, 0))) ∧ (∃ c', Dev W a g n L c' wr t) ∧ Kept [a] w W) → Kept [] W W' → ((W'.heap[w.heap.size]? = some (.cells #[.int .u64 T] 122 (0, 0)) ∧ W'.heap[w1.heap.size]? = some (.cells (u8s (blockOf L i)).toArray 84 (0, 0))) ∧ (∃ c', Dev W' a g n L c' wr t) ∧ Kept [a] w W') := by
    rintro W W' ⟨⟨h1, h2⟩, ⟨c', h3⟩, h4⟩ k
    exact ⟨⟨k.get h1 (by simp), k.get h2 (by simp)⟩, ⟨c', h3.kept k (by simp) (by simp)⟩, h4.trans2 k (by simp)⟩
  clear n4 hn4 hk04 hd4 c3 f3 n3 hn3 hk3 n2 hk2 hn2 n1 hk1 hd1 k0 n0 k4 hk03
  refine wp_region_held (S := fun W => (W.heap[w.heap.size]? = some (.cells #[.int .u64 T] 122 (0, 0)) ∧ W.heap[w1.heap.size]? = some (.cells (u8s (blockOf L i)).toArray 84 (0, 0))) ∧ (∃ c', Dev W a g n L c' wr t) ∧ Kept [a] w W) (by kernel_rfl) ?_
  refine wpAnyH_take (i := 0) (v := .agg #[.int .u64 T]) rfl (by kernel_rfl) (by kernel_rfl) (by kernel_rfl) (fun _ _ _ h => h) (Or.inl ⟨by rfl, fun W hW => exec_load 122 (.tmp 4) rfl ⟨w.heap.size, 0, none⟩ rfl _ (run_loadVar_row W _ _ _ _ _ _ hW.1.1 Tryz.underlying122 rfl shead)⟩) hS ?_
  simp only [Act.put, List.getElem_toArray, List.getElem_cons_zero, List.setIfInBounds_toArray, List.set_cons_succ, List.set_cons_zero]
  refine wpAnyH_take (i := 2) (v := .int .i64 i) rfl (by kernel_rfl) (by kernel_rfl) (by kernel_rfl) (fun _ _ _ h => h) (Or.inl ⟨by rfl, fun W hW => by rfl⟩) hS ?_
  simp only [Act.put, List.getElem_toArray, List.getElem_cons_succ, List.getElem_cons_zero, List.setIfInBounds_toArray, List.set_cons_succ, List.set_cons_zero]
  refine held_one (i := 1) (by kernel_rfl) (wpOp_call rfl (by rfl) 99 #[.agg #[.int .u64 T]] (exec_call _ _ _ rfl _ (by simp [Act.eval]) (enters_hblock _ _)) _ (hblock_any T _ (by omega)) ?_)
  rintro e W5 ⟨rfl, k5⟩
  refine ⟨_, rfl, hSk _ _ hS k5, ?_⟩
  have hS5 := hSk _ _ hS k5
  simp only [Act.put, List.getElem_toArray, List.getElem_cons_succ, List.getElem_cons_zero, List.setIfInBounds_toArray, List.set_cons_succ, List.set_cons_zero]
  rw [hb]
  refine wpAnyH_take (i := 3) (v := .bool false) rfl (by kernel_rfl) (by kernel_rfl) (by kernel_rfl) (fun _ _ _ h => h) (Or.inl ⟨by rfl, fun W hW => (exec_neq 3 3 (.tmp 14) (.tmp 15) rfl i i rfl rfl).trans (by simp)⟩) hS5 ?_
  simp only [Act.put, List.getElem_toArray, List.getElem_cons_succ, List.getElem_cons_zero, List.setIfInBounds_toArray, List.set_cons_succ, List.set_cons_zero]
  refine wpAnyH_take (i := 4) (v := .bool false) rfl (by kernel_rfl) (by kernel_rfl) (by kernel_rfl) (fun _ _ _ h => h) (Or.inl ⟨by rfl, fun W hW => by rfl⟩) hS5 ?_
  simp only [Act.put, List.getElem_toArray, List.getElem_cons_succ, List.getElem_cons_zero, List.setIfInBounds_toArray, List.set_cons_succ, List.set_cons_zero]
  refine wpAnyH_take (i := 5) (v := .agg #[.int .u64 T]) rfl (by kernel_rfl) (by kernel_rfl) (by kernel_rfl) (fun _ _ _ h => h) (Or.inl ⟨by rfl, fun W hW => exec_load 122 (.tmp 4) rfl ⟨w.heap.size, 0, none⟩ rfl _ (run_loadVar_row W _ _ _ _ _ _ hW.1.1 Tryz.underlying122 rfl shead)⟩) hS5 ?_
  simp only [Act.put, List.getElem_toArray, List.getElem_cons_succ, List.getElem_cons_zero, List.setIfInBounds_toArray, List.set_cons_succ, List.set_cons_zero]
  refine wpAnyH_take (i := 7) (v := .slice (some ⟨w1.heap.size, 0, none⟩) 32 128) rfl (by kernel_rfl) (by kernel_rfl) (by kernel_rfl) (fun _ _ _ h => h) (Or.inl ⟨by rfl, fun W hW => by rfl⟩) hS5 ?_
  simp only [Act.put, List.getElem_toArray, List.getElem_cons_succ, List.getElem_cons_zero, List.setIfInBounds_toArray, List.set_cons_succ, List.set_cons_zero]
  refine wpAnyH_take (i := 8) (v := .pointer (some ⟨w1.heap.size, 0, none⟩)) rfl (by kernel_rfl) (by kernel_rfl) (by kernel_rfl) (fun _ _ _ h => h) (Or.inl ⟨by rfl, fun W hW => by rfl⟩) hS5 ?_
  simp only [Act.put, List.getElem_toArray, List.getElem_cons_succ, List.getElem_cons_zero, List.setIfInBounds_toArray, List.set_cons_succ, List.set_cons_zero]
  refine wpAnyH_take (i := 9) (v := .agg (u8s ((blockOf L i).take 32)).toArray) rfl (by kernel_rfl) (by kernel_rfl) (by kernel_rfl) (fun _ _ _ h => h) (Or.inl ⟨by rfl, fun W hW => exec_load 160 (.tmp 21) rfl ⟨w1.heap.size, 0, none⟩ rfl _ (run_loadVar_seg W _ 0 _ _ (u8s (blockOf L i)) (u8s ((blockOf L i).take 32)) _ _ hW.1.2 Tryz.underlying160 rfl (by rw [ssec, length_u8s, List.length_take, hlb]; rfl) hseg)⟩) hS5 ?_
  simp only [Act.put, List.getElem_toArray, List.getElem_cons_succ, List.getElem_cons_zero, List.setIfInBounds_toArray, List.set_cons_succ, List.set_cons_zero]
  refine held_one (i := 6) (by kernel_rfl) (wpOp_call rfl (by rfl) 97 #[.agg #[.int .u64 T]] (exec_call _ _ _ rfl _ (by simp [Act.eval]) (enters_sector _ _)) _ (sector_any T _ hT2) ?_)
  rintro e W6 ⟨rfl, k6⟩
  refine ⟨_, rfl, hSk _ _ hS5 k6, ?_⟩
  have hS6 := hSk _ _ hS5 k6
  simp only [Act.put, List.getElem_toArray, List.getElem_cons_succ, List.getElem_cons_zero, List.setIfInBounds_toArray, List.set_cons_succ, List.set_cons_zero]
  refine wpAnyH_take (i := 10) (v := .bool (!decide (sec T = (blockOf L i).take 32))) rfl (by kernel_rfl) (by kernel_rfl) (by kernel_rfl) (fun _ _ _ h => h) (Or.inl ⟨by rfl, fun W hW => exec_neq_arr 160 160 (.tmp 19) (.tmp 22) rfl (sec T) ((blockOf L i).take 32) rfl rfl 32 5 (length_sec T) (by rw [List.length_take, hlb]; rfl) Tryz.underlying160 Tryz.underlying5 su8 (by kernel_rfl)⟩) hS6 ?_
  simp only [Act.put, List.getElem_toArray, List.getElem_cons_succ, List.getElem_cons_zero, List.setIfInBounds_toArray, List.set_cons_succ, List.set_cons_zero]
  have hD : (!decide (sec T = (blockOf L i).take 32)) = false := by simp [hs]
  rw [hD]
  refine wpAnyH_take (i := 11) (v := .bool false) rfl (by kernel_rfl) (by kernel_rfl) (by kernel_rfl) (fun _ _ _ h => h) (Or.inl ⟨by rfl, fun W hW => by rfl⟩) hS6 ?_
  simp only [Act.put, List.getElem_toArray, List.getElem_cons_succ, List.getElem_cons_zero, List.setIfInBounds_toArray, List.set_cons_succ, List.set_cons_zero]
  refine wpAnyH_done (by kernel_rfl) ?_ _
  obtain ⟨⟨n6, -⟩, ⟨c6, hd6⟩, hk6⟩ := hS6
  have e6 : W6.cell? ⟨w.heap.size, 0, none⟩ = some (.int .u64 T) := cellAt n6 rfl
  have f6 : W6.frozen? ⟨w.heap.size, 0, none⟩ = false := frozen_of_row _ _ _ _ _ n6
  clear hD hS hS5 k5 k6 hSk hs hT hseg
  go_wp2
  have k7 : Kept [w.heap.size] W6 (W6.setCell ⟨w.heap.size, 0, none⟩ (.int .u64 (T : Int))) := (Kept.refl _ _).setCell (Or.inl (by simp)) _
  refine bodyPost_ret (res2 rfl _ _ w.heap.size 122 #[.int .u64 (T : Int)] (0, 0) _ _ rfl rfl (setCellAt (i := 0) (.int .u64 (T : Int)) n6) Tryz.underlying122 rfl shead) rfl ?_
  exact ⟨rfl, ⟨c6, hd6.kept k7 (by simp; omega) (by simp; omega)⟩, hk6.trans2 k7 (by intro x hx; simp at hx; subst hx; exact Or.inr (Nat.le_refl _))⟩

set_option maxRecDepth 100000 in
set_option maxHeartbeats 1000000 in
theorem hread_torn (v a g n : Nat) (L : List UInt8) (c wr t : Int) (i T : Nat) (w : World) (hv : Vol w v a n) (h : Dev w a g n L c wr t) (hi : i < n) (hn : n ≤ 1000)
    (hT : leNum (((blockOf L i).drop 8).take 8) = T) (hT2 : (T : Int) < 9223372036854775807) (hb : T % 2 = i) (hs : ¬ sec T = (blockOf L i).take 32) :
    Calls Tryz.prog 95 #[.pointer (some ⟨v, 0, none⟩), .int .i64 i] w (ReadR a g n L wr t 0 false w) := by
  have hlb := length_blockOf L n i h.l hi
  have hla := lt_heap h.d
  have hlg := lt_heap h.b
  have hlv := lt_heap hv
  have k0 := (Kept.refl [] w).alloc (.cells #[.int .u64 0] 122)
  have n0 := heap_alloc_new w (.cells #[.int .u64 0] 122)
  have hlen8 : (((blockOf L i).drop 8).take 8).length = 8 := by rw [List.length_take, List.length_drop, hlb]; rfl
  go_enter Tryz.func95, Tryz.ntmps95
  go_wp2_with (first
    | (go_at_call 125; refine (VBlock_any v a g n L c wr t i _ (k0.get hv (by simp)) (h.kept k0 (by simp) (by simp)) hi hn).mono ?_; rintro e w1 ⟨rfl, hd1, hk1⟩; have n1 := hk1.get n0 (by simp; omega))
    | (refine wpList_alloc_d rfl 6 rfl 84 rfl _ (zblk _) ?_; intro w2 hn2 hk2 hs2; clear hs2; have n2 := hk2.get n1 (by simp))
    | (refine wpList_store_k rfl 84 (.tmp 6) (.tmp 9) rfl w1.heap.size (u8s (blockOf L i)).toArray rfl rfl 84 _ hn2 (by rw [sblk]; simp [length_u8s, hlb]) (by simp [length_u8s, hlb]) (all_of (one_u8s _)) ?_; intro w3 hn3 hk3; have n3 := hk3.get n2 (by have := hk1.size; simp at this ⊢; omega); have c3 : w3.cell? ⟨w.heap.size, 0, none⟩ = some (.int .u64 0) := cellAt n3 rfl; have f3 : w3.frozen? ⟨w.heap.size, 0, none⟩ = false := frozen_of_row _ _ _ _ _ n3)
    | (go_at_call 126; refine (number_n w1.heap.size 8 120 8 8 (blockOf L i) 84 (0, 0) w3 hn3 hlen8 (by omega)).mono ?_; rintro e w' ⟨rfl, rfl⟩))
  have hz1 := hk1.size
  rw [World.size_alloc] at hz1
  have hk03 : Kept [a] w w' := by
    refine Kept.trans2 (Kept.trans (Kept.trans (k0.mono (by simp)) hk1) (hk2.mono (by simp))) hk3 ?_
    intro x hx; simp at hx; subst hx; exact Or.inr (by omega)
  have k4 : Kept [w.heap.size] w' (w'.setCell ⟨w.heap.size, 0, none⟩ (.int .u64 T)) := (Kept.refl _ _).setCell (Or.inl (by simp)) _
  have n4 := setCellAt (i := 0) (.int .u64 (T : Int)) n3
  have hn4 := k4.get hn3 (by simp; omega)
  have hk04 : Kept [a] w (w'.setCell ⟨w.heap.size, 0, none⟩ (.int .u64 T)) := hk03.trans2 k4 (by intro x hx; simp at hx; subst hx; exact Or.inr (Nat.le_refl _))
  have hd4 : ∃ c', Dev (w'.setCell ⟨w.heap.size, 0, none⟩ (.int .u64 T)) a g n L c' wr t := by
    obtain ⟨c', hd1⟩ := hd1
    exact ⟨c', ((hd1.kept hk2 (by simp) (by simp)).kept hk3 (by simp; omega) (by simp; omega)).kept k4 (by simp; omega) (by simp; omega)⟩
  generalize w'.setCell ⟨w.heap.size, 0, none⟩ (.int .u64 T) = w4 at *
  have hS : (fun W : World => (W.heap[w.heap.size]? = some (.cells #[.int .u64 T] 122 (0, 0)) ∧ W.heap[w1.heap.size]? = some (.cells (u8s (blockOf L i)).toArray 84 (0, 0))) ∧ (∃ c', Dev W a g n L c' wr t) ∧ Kept [a] w W) w4.drew := by
    obtain ⟨c', hd4⟩ := hd4
    exact ⟨⟨n4, hn4⟩, ⟨c', hd4.d, hd4.b, hd4.l⟩, hk04.drew⟩
  have hseg : ∀ j v, (u8s ((blockOf L i).take 32))[j]? = some v → (u8s (blockOf L i))[0 + j]? = some v := by
    intro j v hv
    rw [Nat.zero_add]
    rw [u8s_get] at hv ⊢
    rw [List.getElem?_take] at hv
    split at hv
    · exact hv
    · simp at hv
  have hSk : ∀ W W', ((W.heap[w.heap.size]? = some (.cells #[.int .u64 T] 122 (0, 0)) ∧ W.heap[w1.heap.size]? = some (.cells (u8s (blockOf L i)).toArray 84 (0, 0))) ∧ (∃ c', Dev W a g n L c' wr t) ∧ Kept [a] w W) → Kept [] W W' → ((W'.heap[w.heap.size]? = some (.cells #[.int .u64 T] 122 (0, 0)) ∧ W'.heap[w1.heap.size]? = some (.cells (u8s (blockOf L i)).toArray 84 (0, 0))) ∧ (∃ c', Dev W' a g n L c' wr t) ∧ Kept [a] w W') := by
    rintro W W' ⟨⟨h1, h2⟩, ⟨c', h3⟩, h4⟩ k
    exact ⟨⟨k.get h1 (by simp), k.get h2 (by simp)⟩, ⟨c', h3.kept k (by simp) (by simp)⟩, h4.trans2 k (by simp)⟩
  clear n4 hn4 hk04 hd4 c3 f3 n3 hn3 hk3 n2 hk2 hn2 n1 hk1 hd1 k0 n0 k4 hk03
  refine wp_region_held (S := fun W => (W.heap[w.heap.size]? = some (.cells #[.int .u64 T] 122 (0, 0)) ∧ W.heap[w1.heap.size]? = some (.cells (u8s (blockOf L i)).toArray 84 (0, 0))) ∧ (∃ c', Dev W a g n L c' wr t) ∧ Kept [a] w W) (by kernel_rfl) ?_
  refine wpAnyH_take (i := 0) (v := .agg #[.int .u64 T]) rfl (by kernel_rfl) (by kernel_rfl) (by kernel_rfl) (fun _ _ _ h => h) (Or.inl ⟨by rfl, fun W hW => exec_load 122 (.tmp 4) rfl ⟨w.heap.size, 0, none⟩ rfl _ (run_loadVar_row W _ _ _ _ _ _ hW.1.1 Tryz.underlying122 rfl shead)⟩) hS ?_
  simp only [Act.put, List.getElem_toArray, List.getElem_cons_zero, List.setIfInBounds_toArray, List.set_cons_succ, List.set_cons_zero]
  refine wpAnyH_take (i := 2) (v := .int .i64 i) rfl (by kernel_rfl) (by kernel_rfl) (by kernel_rfl) (fun _ _ _ h => h) (Or.inl ⟨by rfl, fun W hW => by rfl⟩) hS ?_
  simp only [Act.put, List.getElem_toArray, List.getElem_cons_succ, List.getElem_cons_zero, List.setIfInBounds_toArray, List.set_cons_succ, List.set_cons_zero]
  refine held_one (i := 1) (by kernel_rfl) (wpOp_call rfl (by rfl) 99 #[.agg #[.int .u64 T]] (exec_call _ _ _ rfl _ (by simp [Act.eval]) (enters_hblock _ _)) _ (hblock_any T _ (by omega)) ?_)
  rintro e W5 ⟨rfl, k5⟩
  refine ⟨_, rfl, hSk _ _ hS k5, ?_⟩
  have hS5 := hSk _ _ hS k5
  simp only [Act.put, List.getElem_toArray, List.getElem_cons_succ, List.getElem_cons_zero, List.setIfInBounds_toArray, List.set_cons_succ, List.set_cons_zero]
  rw [hb]
  refine wpAnyH_take (i := 3) (v := .bool false) rfl (by kernel_rfl) (by kernel_rfl) (by kernel_rfl) (fun _ _ _ h => h) (Or.inl ⟨by rfl, fun W hW => (exec_neq 3 3 (.tmp 14) (.tmp 15) rfl i i rfl rfl).trans (by simp)⟩) hS5 ?_
  simp only [Act.put, List.getElem_toArray, List.getElem_cons_succ, List.getElem_cons_zero, List.setIfInBounds_toArray, List.set_cons_succ, List.set_cons_zero]
  refine wpAnyH_take (i := 4) (v := .bool false) rfl (by kernel_rfl) (by kernel_rfl) (by kernel_rfl) (fun _ _ _ h => h) (Or.inl ⟨by rfl, fun W hW => by rfl⟩) hS5 ?_
  simp only [Act.put, List.getElem_toArray, List.getElem_cons_succ, List.getElem_cons_zero, List.setIfInBounds_toArray, List.set_cons_succ, List.set_cons_zero]
  refine wpAnyH_take (i := 5) (v := .agg #[.int .u64 T]) rfl (by kernel_rfl) (by kernel_rfl) (by kernel_rfl) (fun _ _ _ h => h) (Or.inl ⟨by rfl, fun W hW => exec_load 122 (.tmp 4) rfl ⟨w.heap.size, 0, none⟩ rfl _ (run_loadVar_row W _ _ _ _ _ _ hW.1.1 Tryz.underlying122 rfl shead)⟩) hS5 ?_
  simp only [Act.put, List.getElem_toArray, List.getElem_cons_succ, List.getElem_cons_zero, List.setIfInBounds_toArray, List.set_cons_succ, List.set_cons_zero]
  refine wpAnyH_take (i := 7) (v := .slice (some ⟨w1.heap.size, 0, none⟩) 32 128) rfl (by kernel_rfl) (by kernel_rfl) (by kernel_rfl) (fun _ _ _ h => h) (Or.inl ⟨by rfl, fun W hW => by rfl⟩) hS5 ?_
  simp only [Act.put, List.getElem_toArray, List.getElem_cons_succ, List.getElem_cons_zero, List.setIfInBounds_toArray, List.set_cons_succ, List.set_cons_zero]
  refine wpAnyH_take (i := 8) (v := .pointer (some ⟨w1.heap.size, 0, none⟩)) rfl (by kernel_rfl) (by kernel_rfl) (by kernel_rfl) (fun _ _ _ h => h) (Or.inl ⟨by rfl, fun W hW => by rfl⟩) hS5 ?_
  simp only [Act.put, List.getElem_toArray, List.getElem_cons_succ, List.getElem_cons_zero, List.setIfInBounds_toArray, List.set_cons_succ, List.set_cons_zero]
  refine wpAnyH_take (i := 9) (v := .agg (u8s ((blockOf L i).take 32)).toArray) rfl (by kernel_rfl) (by kernel_rfl) (by kernel_rfl) (fun _ _ _ h => h) (Or.inl ⟨by rfl, fun W hW => exec_load 160 (.tmp 21) rfl ⟨w1.heap.size, 0, none⟩ rfl _ (run_loadVar_seg W _ 0 _ _ (u8s (blockOf L i)) (u8s ((blockOf L i).take 32)) _ _ hW.1.2 Tryz.underlying160 rfl (by rw [ssec, length_u8s, List.length_take, hlb]; rfl) hseg)⟩) hS5 ?_
  simp only [Act.put, List.getElem_toArray, List.getElem_cons_succ, List.getElem_cons_zero, List.setIfInBounds_toArray, List.set_cons_succ, List.set_cons_zero]
  refine held_one (i := 6) (by kernel_rfl) (wpOp_call rfl (by rfl) 97 #[.agg #[.int .u64 T]] (exec_call _ _ _ rfl _ (by simp [Act.eval]) (enters_sector _ _)) _ (sector_any T _ hT2) ?_)
  rintro e W6 ⟨rfl, k6⟩
  refine ⟨_, rfl, hSk _ _ hS5 k6, ?_⟩
  have hS6 := hSk _ _ hS5 k6
  simp only [Act.put, List.getElem_toArray, List.getElem_cons_succ, List.getElem_cons_zero, List.setIfInBounds_toArray, List.set_cons_succ, List.set_cons_zero]
  refine wpAnyH_take (i := 10) (v := .bool (!decide (sec T = (blockOf L i).take 32))) rfl (by kernel_rfl) (by kernel_rfl) (by kernel_rfl) (fun _ _ _ h => h) (Or.inl ⟨by rfl, fun W hW => exec_neq_arr 160 160 (.tmp 19) (.tmp 22) rfl (sec T) ((blockOf L i).take 32) rfl rfl 32 5 (length_sec T) (by rw [List.length_take, hlb]; rfl) Tryz.underlying160 Tryz.underlying5 su8 (by kernel_rfl)⟩) hS6 ?_
  simp only [Act.put, List.getElem_toArray, List.getElem_cons_succ, List.getElem_cons_zero, List.setIfInBounds_toArray, List.set_cons_succ, List.set_cons_zero]
  have hD : (!decide (sec T = (blockOf L i).take 32)) = true := by simp [hs]
  rw [hD]
  refine wpAnyH_take (i := 11) (v := .bool true) rfl (by kernel_rfl) (by kernel_rfl) (by kernel_rfl) (fun _ _ _ h => h) (Or.inl ⟨by rfl, fun W hW => by rfl⟩) hS6 ?_
  simp only [Act.put, List.getElem_toArray, List.getElem_cons_succ, List.getElem_cons_zero, List.setIfInBounds_toArray, List.set_cons_succ, List.set_cons_zero]
  refine wpAnyH_done (by kernel_rfl) ?_ _
  obtain ⟨⟨n6, -⟩, ⟨c6, hd6⟩, hk6⟩ := hS6
  have e6 : W6.cell? ⟨w.heap.size, 0, none⟩ = some (.int .u64 T) := cellAt n6 rfl
  have f6 : W6.frozen? ⟨w.heap.size, 0, none⟩ = false := frozen_of_row _ _ _ _ _ n6
  clear hD hS hS5 k5 k6 hSk hs hT hseg
  go_wp2
  have k7 : Kept [w.heap.size] W6 (W6.setCell ⟨w.heap.size, 0, none⟩ (.int .u64 0)) := (Kept.refl _ _).setCell (Or.inl (by simp)) _
  refine bodyPost_ret (res2 rfl _ _ w.heap.size 122 #[.int .u64 0] (0, 0) _ _ rfl rfl (setCellAt (i := 0) (.int .u64 0) n6) Tryz.underlying122 rfl shead) rfl ?_
  exact ⟨rfl, ⟨c6, hd6.kept k7 (by simp; omega) (by simp; omega)⟩, hk6.trans2 k7 (by intro x hx; simp at hx; subst hx; exact Or.inr (Nat.le_refl _))⟩

set_option maxRecDepth 100000 in
set_option maxHeartbeats 1000000 in
theorem hread_other (v a g n : Nat) (L : List UInt8) (c wr t : Int) (i T : Nat) (w : World) (hv : Vol w v a n) (h : Dev w a g n L c wr t) (hi : i < n) (hn : n ≤ 1000)
    (hT : leNum (((blockOf L i).drop 8).take 8) = T) (hT2 : (T : Int) < 9223372036854775807) (hb : ¬ T % 2 = i) :
    Calls Tryz.prog 95 #[.pointer (some ⟨v, 0, none⟩), .int .i64 i] w (ReadR a g n L wr t 0 false w) := by
  have hlb := length_blockOf L n i h.l hi
  have hla := lt_heap h.d
  have hlg := lt_heap h.b
  have hlv := lt_heap hv
  have k0 := (Kept.refl [] w).alloc (.cells #[.int .u64 0] 122)
  have n0 := heap_alloc_new w (.cells #[.int .u64 0] 122)
  have hlen8 : (((blockOf L i).drop 8).take 8).length = 8 := by rw [List.length_take, List.length_drop, hlb]; rfl
  go_enter Tryz.func95, Tryz.ntmps95
  go_wp2_with (first
    | (go_at_call 125; refine (VBlock_any v a g n L c wr t i _ (k0.get hv (by simp)) (h.kept k0 (by simp) (by simp)) hi hn).mono ?_; rintro e w1 ⟨rfl, hd1, hk1⟩; have n1 := hk1.get n0 (by simp; omega))
    | (refine wpList_alloc_d rfl 6 rfl 84 rfl _ (zblk _) ?_; intro w2 hn2 hk2 hs2; clear hs2; have n2 := hk2.get n1 (by simp))
    | (refine wpList_store_k rfl 84 (.tmp 6) (.tmp 9) rfl w1.heap.size (u8s (blockOf L i)).toArray rfl rfl 84 _ hn2 (by rw [sblk]; simp [length_u8s, hlb]) (by simp [length_u8s, hlb]) (all_of (one_u8s _)) ?_; intro w3 hn3 hk3; have n3 := hk3.get n2 (by have := hk1.size; simp at this ⊢; omega); have c3 : w3.cell? ⟨w.heap.size, 0, none⟩ = some (.int .u64 0) := cellAt n3 rfl; have f3 : w3.frozen? ⟨w.heap.size, 0, none⟩ = false := frozen_of_row _ _ _ _ _ n3)
    | (go_at_call 126; refine (number_n w1.heap.size 8 120 8 8 (blockOf L i) 84 (0, 0) w3 hn3 hlen8 (by omega)).mono ?_; rintro e w' ⟨rfl, rfl⟩))
  have hz1 := hk1.size
  rw [World.size_alloc] at hz1
  have hk03 : Kept [a] w w' := by
    refine Kept.trans2 (Kept.trans (Kept.trans (k0.mono (by simp)) hk1) (hk2.mono (by simp))) hk3 ?_
    intro x hx; simp at hx; subst hx; exact Or.inr (by omega)
  have k4 : Kept [w.heap.size] w' (w'.setCell ⟨w.heap.size, 0, none⟩ (.int .u64 T)) := (Kept.refl _ _).setCell (Or.inl (by simp)) _
  have n4 := setCellAt (i := 0) (.int .u64 (T : Int)) n3
  have hn4 := k4.get hn3 (by simp; omega)
  have hk04 : Kept [a] w (w'.setCell ⟨w.heap.size, 0, none⟩ (.int .u64 T)) := hk03.trans2 k4 (by intro x hx; simp at hx; subst hx; exact Or.inr (Nat.le_refl _))
  have hd4 : ∃ c', Dev (w'.setCell ⟨w.heap.size, 0, none⟩ (.int .u64 T)) a g n L c' wr t := by
    obtain ⟨c', hd1⟩ := hd1
    exact ⟨c', ((hd1.kept hk2 (by simp) (by simp)).kept hk3 (by simp; omega) (by simp; omega)).kept k4 (by simp; omega) (by simp; omega)⟩
  generalize w'.setCell ⟨w.heap.size, 0, none⟩ (.int .u64 T) = w4 at *
  have hS : (fun W : World => (W.heap[w.heap.size]? = some (.cells #[.int .u64 T] 122 (0, 0)) ∧ W.heap[w1.heap.size]? = some (.cells (u8s (blockOf L i)).toArray 84 (0, 0))) ∧ (∃ c', Dev W a g n L c' wr t) ∧ Kept [a] w W) w4.drew := by
    obtain ⟨c', hd4⟩ := hd4
    exact ⟨⟨n4, hn4⟩, ⟨c', hd4.d, hd4.b, hd4.l⟩, hk04.drew⟩
  have hseg : ∀ j v, (u8s ((blockOf L i).take 32))[j]? = some v → (u8s (blockOf L i))[0 + j]? = some v := by
    intro j v hv
    rw [Nat.zero_add]
    rw [u8s_get] at hv ⊢
    rw [List.getElem?_take] at hv
    split at hv
    · exact hv
    · simp at hv
  have hSk : ∀ W W', ((W.heap[w.heap.size]? = some (.cells #[.int .u64 T] 122 (0, 0)) ∧ W.heap[w1.heap.size]? = some (.cells (u8s (blockOf L i)).toArray 84 (0, 0))) ∧ (∃ c', Dev W a g n L c' wr t) ∧ Kept [a] w W) → Kept [] W W' → ((W'.heap[w.heap.size]? = some (.cells #[.int .u64 T] 122 (0, 0)) ∧ W'.heap[w1.heap.size]? = some (.cells (u8s (blockOf L i)).toArray 84 (0, 0))) ∧ (∃ c', Dev W' a g n L c' wr t) ∧ Kept [a] w W') := by
    rintro W W' ⟨⟨h1, h2⟩, ⟨c', h3⟩, h4⟩ k
    exact ⟨⟨k.get h1 (by simp), k.get h2 (by simp)⟩, ⟨c', h3.kept k (by simp) (by simp)⟩, h4.trans2 k (by simp)⟩
  clear n4 hn4 hk04 hd4 c3 f3 n3 hn3 hk3 n2 hk2 hn2 n1 hk1 hd1 k0 n0 k4 hk03
  refine wp_region_held (S := fun W => (W.heap[w.heap.size]? = some (.cells #[.int .u64 T] 122 (0, 0)) ∧ W.heap[w1.heap.size]? = some (.cells (u8s (blockOf L i)).toArray 84 (0, 0))) ∧ (∃ c', Dev W a g n L c' wr t) ∧ Kept [a] w W) (by kernel_rfl) ?_
  refine wpAnyH_take (i := 0) (v := .agg #[.int .u64 T]) rfl (by kernel_rfl) (by kernel_rfl) (by kernel_rfl) (fun _ _ _ h => h) (Or.inl ⟨by rfl, fun W hW => exec_load 122 (.tmp 4) rfl ⟨w.heap.size, 0, none⟩ rfl _ (run_loadVar_row W _ _ _ _ _ _ hW.1.1 Tryz.underlying122 rfl shead)⟩) hS ?_
  simp only [Act.put, List.getElem_toArray, List.getElem_cons_zero, List.setIfInBounds_toArray, List.set_cons_succ, List.set_cons_zero]
  refine wpAnyH_take (i := 2) (v := .int .i64 i) rfl (by kernel_rfl) (by kernel_rfl) (by kernel_rfl) (fun _ _ _ h => h) (Or.inl ⟨by rfl, fun W hW => by rfl⟩) hS ?_
  simp only [Act.put, List.getElem_toArray, List.getElem_cons_succ, List.getElem_cons_zero, List.setIfInBounds_toArray, List.set_cons_succ, List.set_cons_zero]
  refine held_one (i := 1) (by kernel_rfl) (wpOp_call rfl (by rfl) 99 #[.agg #[.int .u64 T]] (exec_call _ _ _ rfl _ (by simp [Act.eval]) (enters_hblock _ _)) _ (hblock_any T _ (by omega)) ?_)
  rintro e W5 ⟨rfl, k5⟩
  refine ⟨_, rfl, hSk _ _ hS k5, ?_⟩
  have hS5 := hSk _ _ hS k5
  simp only [Act.put, List.getElem_toArray, List.getElem_cons_succ, List.getElem_cons_zero, List.setIfInBounds_toArray, List.set_cons_succ, List.set_cons_zero]
  have hne : (((T % 2 : Nat) : Int) != (i : Int)) = true := by rw [bne_iff_ne]; omega
  refine wpAnyH_take (i := 3) (v := .bool true) rfl (by kernel_rfl) (by kernel_rfl) (by kernel_rfl) (fun _ _ _ h => h) (Or.inl ⟨by rfl, fun W hW => (exec_neq 3 3 (.tmp 14) (.tmp 15) rfl (T % 2 : Nat) i rfl rfl).trans (by rw [hne])⟩) hS5 ?_
  simp only [Act.put, List.getElem_toArray, List.getElem_cons_succ, List.getElem_cons_zero, List.setIfInBounds_toArray, List.set_cons_succ, List.set_cons_zero]
  refine wpAnyH_take (i := 4) (v := .bool true) rfl (by kernel_rfl) (by kernel_rfl) (by kernel_rfl) (fun _ _ _ h => h) (Or.inl ⟨by rfl, fun W hW => by rfl⟩) hS5 ?_
  simp only [Act.put, List.getElem_toArray, List.getElem_cons_succ, List.getElem_cons_zero, List.setIfInBounds_toArray, List.set_cons_succ, List.set_cons_zero]
  refine wpAnyH_take (i := 5) (v := undef) rfl (by kernel_rfl) (by kernel_rfl) (by kernel_rfl) (fun _ _ _ h => h) (Or.inr ⟨by rfl, rfl⟩) hS5 ?_
  simp only [Act.put, List.getElem_toArray, List.getElem_cons_succ, List.getElem_cons_zero, List.setIfInBounds_toArray, List.set_cons_succ, List.set_cons_zero]
  refine wpAnyH_take (i := 6) (v := undef) rfl (by kernel_rfl) (by kernel_rfl) (by kernel_rfl) (fun _ _ _ h => h) (Or.inr ⟨by rfl, rfl⟩) hS5 ?_
  simp only [Act.put, List.getElem_toArray, List.getElem_cons_succ, List.getElem_cons_zero, List.setIfInBounds_toArray, List.set_cons_succ, List.set_cons_zero]
  refine wpAnyH_take (i := 7) (v := undef) rfl (by kernel_rfl) (by kernel_rfl) (by kernel_rfl) (fun _ _ _ h => h) (Or.inr ⟨by rfl, rfl⟩) hS5 ?_
  simp only [Act.put, List.getElem_toArray, List.getElem_cons_succ, List.getElem_cons_zero, List.setIfInBounds_toArray, List.set_cons_succ, List.set_cons_zero]
  refine wpAnyH_take (i := 8) (v := undef) rfl (by kernel_rfl) (by kernel_rfl) (by kernel_rfl) (fun _ _ _ h => h) (Or.inr ⟨by rfl, rfl⟩) hS5 ?_
  simp only [Act.put, List.getElem_toArray, List.getElem_cons_succ, List.getElem_cons_zero, List.setIfInBounds_toArray, List.set_cons_succ, List.set_cons_zero]
  refine wpAnyH_take (i := 9) (v := undef) rfl (by kernel_rfl) (by kernel_rfl) (by kernel_rfl) (fun _ _ _ h => h) (Or.inr ⟨by rfl, rfl⟩) hS5 ?_
  simp only [Act.put, List.getElem_toArray, List.getElem_cons_succ, List.getElem_cons_zero, List.setIfInBounds_toArray, List.set_cons_succ, List.set_cons_zero]
  refine wpAnyH_take (i := 10) (v := undef) rfl (by kernel_rfl) (by kernel_rfl) (by kernel_rfl) (fun _ _ _ h => h) (Or.inr ⟨by rfl, rfl⟩) hS5 ?_
  simp only [Act.put, List.getElem_toArray, List.getElem_cons_succ, List.getElem_cons_zero, List.setIfInBounds_toArray, List.set_cons_succ, List.set_cons_zero]
  refine wpAnyH_take (i := 11) (v := .bool true) rfl (by kernel_rfl) (by kernel_rfl) (by kernel_rfl) (fun _ _ _ h => h) (Or.inl ⟨by rfl, fun W hW => by rfl⟩) hS5 ?_
  simp only [Act.put, List.getElem_toArray, List.getElem_cons_succ, List.getElem_cons_zero, List.setIfInBounds_toArray, List.set_cons_succ, List.set_cons_zero]
  refine wpAnyH_done (by kernel_rfl) ?_ _
  obtain ⟨⟨n6, -⟩, ⟨c6, hd6⟩, hk6⟩ := hS5
  have e6 : W5.cell? ⟨w.heap.size, 0, none⟩ = some (.int .u64 T) := cellAt n6 rfl
  have f6 : W5.frozen? ⟨w.heap.size, 0, none⟩ = false := frozen_of_row _ _ _ _ _ n6
  clear hS k5 hSk hT hseg
  go_wp2
  have k7 : Kept [w.heap.size] W5 (W5.setCell ⟨w.heap.size, 0, none⟩ (.int .u64 0)) := (Kept.refl _ _).setCell (Or.inl (by simp)) _
  refine bodyPost_ret (res2 rfl _ _ w.heap.size 122 #[.int .u64 0] (0, 0) _ _ rfl rfl (setCellAt (i := 0) (.int .u64 0) n6) Tryz.underlying122 rfl shead) rfl ?_
  exact ⟨rfl, ⟨c6, hd6.kept k7 (by simp; omega) (by simp; omega)⟩, hk6.trans2 k7 (by intro x hx; simp at hx; subst hx; exact Or.inr (Nat.le_refl _))⟩

end Go.Proofs.YtloihcnbcknbnaaGreatDoor
