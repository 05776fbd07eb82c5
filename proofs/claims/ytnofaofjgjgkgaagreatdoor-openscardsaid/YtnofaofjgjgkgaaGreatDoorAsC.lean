import Derived.Test.YtnofaofjgjgkgaaGreatDoorAsB
namespace Go.Proofs.YtnofaofjgjgkgaaGreatDoor
open Go.RowKit Go.Extern.Stop Go.Stop Go.Extern

theorem Unwrap_any (f : Nat) (o E : Value) (w : World) (hf : w.heap[f]? = some (.cells #[o, E] 144 (0, 0))) :
    Calls Tryz.prog 140 #[.pointer (some ⟨f, 0, none⟩)] w fun e w' => e = .returned E ∧ w' = w := by
  have c1 : w.cell? ⟨f, 1, none⟩ = some E := cellAt hf rfl
  clear hf
  go_enter Tryz.func140, Tryz.ntmps140
  go_wp2
  go_ret
  exact ⟨rfl, rfl⟩

/-- the errors that a Catch gives: two faults round a number -/
structure Chain (w : World) (err : Value) (x : Int) : Prop where
  ex : ∃ f1 f2 o1 o2, err = .iface 141 (.pointer (some ⟨f1, 0, none⟩)) ∧ w.heap[f1]? = some (.cells #[o1, .iface 141 (.pointer (some ⟨f2, 0, none⟩))] 144 (0, 0)) ∧
    w.heap[f2]? = some (.cells #[o2, .iface 54 (.int .i64 x)] 144 (0, 0))

set_option maxRecDepth 100000 in
set_option maxHeartbeats 4000000 in
theorem as_chain (f1 f2 tb pb : Nat) (o1 o2 old tg : Value) (x : Int) (w : World)
    (h1 : w.heap[f1]? = some (.cells #[o1, .iface 141 (.pointer (some ⟨f2, 0, none⟩))] 144 (0, 0)))
    (h2 : w.heap[f2]? = some (.cells #[o2, .iface 54 (.int .i64 x)] 144 (0, 0)))
    (hp : w.heap[pb]? = some (.cells #[.pointer (some ⟨tb, 0, none⟩)] 102 (0, 0)))
    (ht : w.heap[tb]? = some (.cells #[old] 54 (0, 0))) :
    Calls Tryz.prog 77 #[.iface 141 (.pointer (some ⟨f1, 0, none⟩)), tg, .agg #[.pointer (some ⟨4, 102, none⟩), .pointer (some ⟨pb, 0, none⟩), .int .u64 150], .iface 154 (.agg #[.pointer (some ⟨4, 54, none⟩)])] w
      fun e w' => e = .returned (.bool true) ∧ w'.heap[tb]? = some (.cells #[.int .i64 x] 54 (0, 0)) ∧ Kept [tb] w w' := by
  have e90 := @run_callFunc_extern Tryz.prog 90 _ ReflectliteType.typeOf Tryz.func90 (by kernel_rfl) (by kernel_rfl) (by kernel_rfl) (by kernel_rfl)
  have e142 := @run_callFunc_extern Tryz.prog 142 _ (ReflectliteType.relation "AssignableTo" ReflectliteType.assignableTo) Tryz.func142 (by kernel_rfl) (by kernel_rfl) (by kernel_rfl) (by kernel_rfl)
  have e91 := @run_callFunc_extern Tryz.prog 91 _ (ReflectliteValue.method (ReflectliteValue.valueError "reflectlite.Value.Elem" 0) ReflectliteValue.elem) Tryz.func91 (by kernel_rfl) (by kernel_rfl) (by kernel_rfl) (by kernel_rfl)
  have e74 := @run_callFunc_extern Tryz.prog 74 _ (fun args => ReflectliteValue.unpack (args.getD 0 (.tuple #[]))) Tryz.func74 (by kernel_rfl) (by kernel_rfl) (by kernel_rfl) (by kernel_rfl)
  have e92 := @run_callFunc_extern Tryz.prog 92 _ ReflectliteValue.set Tryz.func92 (by kernel_rfl) (by kernel_rfl) (by kernel_rfl) (by kernel_rfl)
  have tF := typeOfF
  have tE := typeOfE
  have mA := mAssign
  have aF := assignF
  have aE := assignE
  have rA := asrtAs
  have rU := asrtUn
  have mU := mUnwrap
  have vE := vOfE
  have k1 := (Kept.refl [] w).alloc (.cells #[.pointer (some ⟨4, 102, none⟩), .pointer (some ⟨pb, 0, none⟩), .int .u64 150] 127)
  have g1 := k1.get h1 (by simp)
  have g2 := k1.get h2 (by simp)
  have gp := k1.get hp (by simp)
  have gt := k1.get ht (by simp)
  have el := elemVP ⟨pb, 0, none⟩ ⟨tb, 0, none⟩ _ (cellAt gp rfl)
  have k2 := (Kept.refl [] (w.alloc (.cells #[.pointer (some ⟨4, 102, none⟩), .pointer (some ⟨pb, 0, none⟩), .int .u64 150] 127))).alloc (.cells #[.int .i64 x] 54)
  have gt2 := k2.get gt (by simp)
  have gn2 := heap_alloc_new (w.alloc (.cells #[.pointer (some ⟨4, 102, none⟩), .pointer (some ⟨pb, 0, none⟩), .int .u64 150] 127)) (.cells #[.int .i64 x] 54)
  rw [World.size_alloc] at gn2
  have st := setE ⟨tb, 0, none⟩ ⟨w.heap.size + 1, 0, none⟩ x old _ (cellAt gn2 rfl) (cellAt gt2 rfl) (frozen_of_row _ _ _ _ _ gt2)
  have hend := setCellAt (i := 0) (.int .i64 x) gt2
  have kend : Kept [tb] w (((w.alloc (.cells #[.pointer (some ⟨4, 102, none⟩), .pointer (some ⟨pb, 0, none⟩), .int .u64 150] 127)).alloc (.cells #[.int .i64 x] 54)).setCell ⟨tb, 0, none⟩ (.int .i64 x)) := (((Kept.refl _ _).alloc _).alloc _).setCell (Or.inl (by simp)) _
  have H1 : Hid (_ ∧ _) := ⟨g1, g2⟩
  have H2 : Hid (_ ∧ _) := ⟨hend, kend⟩
  clear h1 h2 hp ht k1 g1 g2 gp gt k2 gt2 gn2 hend kend
  go_enter Tryz.func77, Tryz.ntmps77
  go_wp2
  refine wp_loop_rounds 3 ?_
  rw [rounds_succ]
  go_wp2_with (go_at_call 140; refine (Unwrap_any f1 _ _ _ H1.out.1).mono ?_; rintro e w' ⟨rfl, rfl⟩)
  rw [rounds_succ]
  go_wp2_with (go_at_call 140; refine (Unwrap_any f2 _ _ _ H1.out.2).mono ?_; rintro e w' ⟨rfl, rfl⟩)
  rw [rounds_succ]
  go_wp2
  go_ret
  exact ⟨rfl, H2.out.1, H2.out.2⟩

end Go.Proofs.YtnofaofjgjgkgaaGreatDoor
