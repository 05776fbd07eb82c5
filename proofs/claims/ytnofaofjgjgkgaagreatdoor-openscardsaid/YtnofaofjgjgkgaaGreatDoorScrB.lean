import Derived.Test.YtnofaofjgjgkgaaGreatDoorScrA
namespace Go.Proofs.YtnofaofjgjgkgaaGreatDoor
open Go.RowKit

set_option maxHeartbeats 400000 in
theorem upTo_none (ao : Option Addr) (cap : Nat) (w : World) :
    Calls Tryz.prog 10 #[.slice ao 0 cap] w fun e w' => e = .returned (.int .i64 (-1)) ∧ Kept [] w w' := by
  go_enter Tryz.func10, Tryz.ntmps10
  go_wp2
  refine wp_loop_rounds 1 ?_
  rw [rounds_succ]
  go_wp2
  go_ret
  exact ⟨rfl, (Kept.refl [] w).alloc _⟩

/-- what small answers -/
def SmallR (n : Nat) (w : World) (e : Ending) (w' : World) : Prop := ∃ b, e = .returned (.bool b) ∧ (b = true → n ≤ 16384) ∧ Kept [] w w'

set_option maxHeartbeats 400000 in
theorem small_none (ao : Option Addr) (cap : Nat) (w : World) : Calls Tryz.prog 9 #[.slice ao 0 cap] w (SmallR 0 w) := by
  go_enter Tryz.func9, Tryz.ntmps9
  go_wp2
  refine wp_loop_rounds 1 ?_
  rw [rounds_succ]
  go_wp2
  go_ret
  exact ⟨_, rfl, fun _ => Nat.zero_le _, Kept.refl [] w⟩

theorem exec_lenS {P : Program} {o : Oper} {a : Act} {w : World} (x : Operand) (t : TypeId) (ho : o.op = .call { callee := .builtin .len, args := #[x], argTypes := #[t] }) (b : ByteArray) (hx : a.eval x = .string b) (hu : P.underlying t = some .string) :
    (execOp a.eval o).run P w = .ok (.value (.int .i64 b.size)) w := by
  have hl : (Builtin.len_ #[t] o.type #[.string b]).run P w = .ok (goInt b.size) w := by
    simp [Builtin.len_, run_underlying hu]
  simp [execOp, ho, resolve, invoke, builtin, hx, hl, goInt]

theorem exec_field {P : Program} {o : Oper} {a : Act} {w : World} (t : TypeId) (x : Operand) (i : Nat) (ho : o.op = .fieldAddr t x i) (ad : Addr) (hx : a.eval x = .pointer (some ad)) (off : Nat) (hr : (Instr.fieldAt t (.pointer (some ad)) i).run P w = .ok (.pointer (some (ad.add off))) w) :
    (execOp a.eval o).run P w = .ok (.value (.pointer (some (ad.add off)))) w := by
  simp [execOp, ho, hx, hr]

theorem exec_add {o : Oper} {a : Act} {w : World} (x y : Operand) (ho : o.op = .binOp .add 3 x y 3) (m n : Int) (hx : a.eval x = .int .i64 m) (hy : a.eval y = .int .i64 n) :
    (execOp a.eval o).run Tryz.prog w = .ok (.value (.int .i64 (IntKind.i64.wrap (m + n)))) w := by
  have hb : (binOp .add 3 (.int .i64 m) (.int .i64 n)).run Tryz.prog w = .ok (.int .i64 (IntKind.i64.wrap (m + n))) w := by
    simp [go_sem]
  have hg : (eqGuard .add 3 x y (.int .i64 m) (.int .i64 n)).run Tryz.prog w = .ok () w := by simp [eqGuard]
  simp [execOp, ho, hx, hy, hb, hg]

set_option maxRecDepth 100000 in
set_option maxHeartbeats 1000000 in
theorem small_some (ad : Addr) (cap : Nat) (os : List Op6) (w : World) (h : Scr w ad os) :
    Calls Tryz.prog 9 #[.slice (some ad) os.length cap] w (SmallR os.length w) := by
  by_cases hbig : (16384 : Int) < (os.length : Int)
  · go_enter Tryz.func9, Tryz.ntmps9
    go_wp2
    go_ret
    exact ⟨false, rfl, (fun h => by cases h), Kept.refl [] w⟩
  have hd : decide ((16384 : Int) < (os.length : Int)) = false := by simpa using hbig
  go_enter Tryz.func9, Tryz.ntmps9
  go_wp2
  go_loopw [3, 4] (fun n i wr => ∃ (k : Nat) (m : Int), k ≤ os.length ∧ i = .int .i64 k ∧ n = .int .i64 m ∧ Kept [] w wr) (fun _ i _ => os.length - (intOf i).toNat)
  case atStart => exact ⟨0, _, Nat.zero_le _, rfl, rfl, Kept.refl [] w⟩
  case round =>
    obtain ⟨k, m, hk, rfl, rfl, hkr⟩ := hrel
    by_cases hlt : k < os.length
    · obtain ⟨o, ho⟩ : ∃ o, os[k]? = some o := ⟨_, List.getElem?_eq_getElem hlt⟩
      have hsc := h.below hkr.drew
      have l4 := hsc k o ho 4 _ rfl
      have l5 := hsc k o ho 5 _ rfl
      go_wp2
      refine wp_region_S (fun W => W = wr.drew) (by kernel_rfl) ?_
      refine wpAnyH_take (i := 0) (v := .int .i64 m) rfl (by kernel_rfl) (by kernel_rfl) (by kernel_rfl) (fun _ _ _ h => h) (Or.inl ⟨by rfl, fun W hW => by rfl⟩) rfl ?_
      simp only [Act.put, List.getElem_toArray, List.getElem_cons_zero, List.setIfInBounds_toArray, List.set_cons_succ, List.set_cons_zero]
      refine wpAnyH_take (i := 1) (v := .slice (some ad) os.length cap) rfl (by kernel_rfl) (by kernel_rfl) (by kernel_rfl) (fun _ _ _ h => h) (Or.inl ⟨by rfl, fun W hW => by rfl⟩) rfl ?_
      simp only [Act.put, List.getElem_toArray, List.getElem_cons_succ, List.getElem_cons_zero, List.setIfInBounds_toArray, List.set_cons_succ, List.set_cons_zero]
      refine wpAnyH_take (i := 2) (v := .int .i64 k) rfl (by kernel_rfl) (by kernel_rfl) (by kernel_rfl) (fun _ _ _ h => h) (Or.inl ⟨by rfl, fun W hW => by rfl⟩) rfl ?_
      simp only [Act.put, List.getElem_toArray, List.getElem_cons_succ, List.getElem_cons_zero, List.setIfInBounds_toArray, List.set_cons_succ, List.set_cons_zero]
      refine wpAnyH_take (i := 3) (v := .pointer (some (ad.add (k * 6)))) rfl (by kernel_rfl) (by kernel_rfl) (by kernel_rfl) (fun _ _ _ h => h) (Or.inl ⟨by rfl, fun W hW => exec_indexA 22 (.tmp 17) (.tmp 18) rfl ad os.length cap k 6 rfl rfl 27 Tryz.underlying22 sop hlt⟩) rfl ?_
      simp only [Act.put, List.getElem_toArray, List.getElem_cons_succ, List.getElem_cons_zero, List.setIfInBounds_toArray, List.set_cons_succ, List.set_cons_zero]
      refine wpAnyH_take (i := 4) (v := .pointer (some ((ad.add (k * 6)).add 4))) rfl (by kernel_rfl) (by kernel_rfl) (by kernel_rfl) (fun _ _ _ h => h) (Or.inl ⟨by rfl, fun W hW => exec_field 27 (.tmp 19) 4 rfl (ad.add (k * 6)) rfl 4 (by rfl)⟩) rfl ?_
      simp only [Act.put, List.getElem_toArray, List.getElem_cons_succ, List.getElem_cons_zero, List.setIfInBounds_toArray, List.set_cons_succ, List.set_cons_zero]
      refine wpAnyH_take (i := 5) (v := .string o.s) rfl (by kernel_rfl) (by kernel_rfl) (by kernel_rfl) (fun _ _ _ h => h) (Or.inl ⟨by rfl, fun W hW => exec_load 9 (.tmp 20) rfl _ rfl _ (run_load1 Tryz.underlying9 rfl (by rw [hW]; exact l4))⟩) rfl ?_
      simp only [Act.put, List.getElem_toArray, List.getElem_cons_succ, List.getElem_cons_zero, List.setIfInBounds_toArray, List.set_cons_succ, List.set_cons_zero]
      refine wpAnyH_take (i := 6) (v := .int .i64 o.s.size) rfl (by kernel_rfl) (by kernel_rfl) (by kernel_rfl) (fun _ _ _ h => h) (Or.inl ⟨by rfl, fun W hW => exec_lenS (.tmp 21) 9 rfl _ rfl Tryz.underlying9⟩) rfl ?_
      simp only [Act.put, List.getElem_toArray, List.getElem_cons_succ, List.getElem_cons_zero, List.setIfInBounds_toArray, List.set_cons_succ, List.set_cons_zero]
      refine wpAnyH_take (i := 7) (v := .int .i64 (IntKind.i64.wrap (m + o.s.size))) rfl (by kernel_rfl) (by kernel_rfl) (by kernel_rfl) (fun _ _ _ h => h) (Or.inl ⟨by rfl, fun W hW => exec_add (.tmp 16) (.tmp 22) rfl _ _ rfl rfl⟩) rfl ?_
      simp only [Act.put, List.getElem_toArray, List.getElem_cons_succ, List.getElem_cons_zero, List.setIfInBounds_toArray, List.set_cons_succ, List.set_cons_zero]
      refine wpAnyH_take (i := 8) (v := .slice (some ad) os.length cap) rfl (by kernel_rfl) (by kernel_rfl) (by kernel_rfl) (fun _ _ _ h => h) (Or.inl ⟨by rfl, fun W hW => by rfl⟩) rfl ?_
      simp only [Act.put, List.getElem_toArray, List.getElem_cons_succ, List.getElem_cons_zero, List.setIfInBounds_toArray, List.set_cons_succ, List.set_cons_zero]
      refine wpAnyH_take (i := 9) (v := .int .i64 k) rfl (by kernel_rfl) (by kernel_rfl) (by kernel_rfl) (fun _ _ _ h => h) (Or.inl ⟨by rfl, fun W hW => by rfl⟩) rfl ?_
      simp only [Act.put, List.getElem_toArray, List.getElem_cons_succ, List.getElem_cons_zero, List.setIfInBounds_toArray, List.set_cons_succ, List.set_cons_zero]
      refine wpAnyH_take (i := 10) (v := .pointer (some (ad.add (k * 6)))) rfl (by kernel_rfl) (by kernel_rfl) (by kernel_rfl) (fun _ _ _ h => h) (Or.inl ⟨by rfl, fun W hW => exec_indexA 22 (.tmp 24) (.tmp 25) rfl ad os.length cap k 6 rfl rfl 27 Tryz.underlying22 sop hlt⟩) rfl ?_
      simp only [Act.put, List.getElem_toArray, List.getElem_cons_succ, List.getElem_cons_zero, List.setIfInBounds_toArray, List.set_cons_succ, List.set_cons_zero]
      refine wpAnyH_take (i := 11) (v := .pointer (some ((ad.add (k * 6)).add 5))) rfl (by kernel_rfl) (by kernel_rfl) (by kernel_rfl) (fun _ _ _ h => h) (Or.inl ⟨by rfl, fun W hW => exec_field 27 (.tmp 26) 5 rfl (ad.add (k * 6)) rfl 5 (by rfl)⟩) rfl ?_
      simp only [Act.put, List.getElem_toArray, List.getElem_cons_succ, List.getElem_cons_zero, List.setIfInBounds_toArray, List.set_cons_succ, List.set_cons_zero]
      refine wpAnyH_take (i := 12) (v := .string o.t) rfl (by kernel_rfl) (by kernel_rfl) (by kernel_rfl) (fun _ _ _ h => h) (Or.inl ⟨by rfl, fun W hW => exec_load 9 (.tmp 27) rfl _ rfl _ (run_load1 Tryz.underlying9 rfl (by rw [hW]; exact l5))⟩) rfl ?_
      simp only [Act.put, List.getElem_toArray, List.getElem_cons_succ, List.getElem_cons_zero, List.setIfInBounds_toArray, List.set_cons_succ, List.set_cons_zero]
      refine wpAnyH_take (i := 13) (v := .int .i64 o.t.size) rfl (by kernel_rfl) (by kernel_rfl) (by kernel_rfl) (fun _ _ _ h => h) (Or.inl ⟨by rfl, fun W hW => exec_lenS (.tmp 28) 9 rfl _ rfl Tryz.underlying9⟩) rfl ?_
      simp only [Act.put, List.getElem_toArray, List.getElem_cons_succ, List.getElem_cons_zero, List.setIfInBounds_toArray, List.set_cons_succ, List.set_cons_zero]
      refine wpAnyH_take (i := 14) (v := .int .i64 (IntKind.i64.wrap (IntKind.i64.wrap (m + o.s.size) + o.t.size))) rfl (by kernel_rfl) (by kernel_rfl) (by kernel_rfl) (fun _ _ _ h => h) (Or.inl ⟨by rfl, fun W hW => exec_add (.tmp 23) (.tmp 29) rfl _ _ rfl rfl⟩) rfl ?_
      simp only [Act.put, List.getElem_toArray, List.getElem_cons_succ, List.getElem_cons_zero, List.setIfInBounds_toArray, List.set_cons_succ, List.set_cons_zero]
      refine wpAnyH_take (i := 15) (v := .int .i64 (IntKind.i64.wrap (IntKind.i64.wrap (m + o.s.size) + o.t.size))) rfl (by kernel_rfl) (by kernel_rfl) (by kernel_rfl) (fun _ _ _ h => h) (Or.inl ⟨by rfl, fun W hW => by rfl⟩) rfl ?_
      simp only [Act.put, List.getElem_toArray, List.getElem_cons_succ, List.getElem_cons_zero, List.setIfInBounds_toArray, List.set_cons_succ, List.set_cons_zero]
      refine wpAnyH_done (by kernel_rfl) ?_ _
      have hk2 := hkr.drew
      generalize IntKind.i64.wrap (IntKind.i64.wrap (m + o.s.size) + o.t.size) = m2 at *
      clear l4 l5 hsc
      generalize wr.drew = w2 at *
      by_cases hm : 16384 < m2
      · go_wp2
        go_ret
        exact ⟨false, rfl, (fun h => by cases h), hk2⟩
      · have hdm : decide (16384 < m2) = false := by simpa using hm
        go_wp2
        go_roundw
        case rel => exact ⟨k + 1, m2, by omega, by go_num, rfl, hk2⟩
        case measure => simp [intOf]; omega
    · have hge : ¬ (k : Int) < (os.length : Int) := by omega
      go_wp2
      go_ret
      exact ⟨true, rfl, fun _ => by omega, hkr⟩

end Go.Proofs.YtnofaofjgjgkgaaGreatDoor
