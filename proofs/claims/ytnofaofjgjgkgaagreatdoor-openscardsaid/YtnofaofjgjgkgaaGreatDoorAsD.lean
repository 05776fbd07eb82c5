import Derived.Test.YtnofaofjgjgkgaaGreatDoorAsC
namespace Go.Proofs.YtnofaofjgjgkgaaGreatDoor
open Go.RowKit Go.Extern.Stop Go.Stop Go.Extern

/-- what package errors keeps of the type error -/
def Glob (w : World) : Prop := w.cell? ⟨0, 0, none⟩ = some (.iface 154 (.agg #[.pointer (some ⟨4, 52, none⟩)]))
theorem Glob.lt {w : World} (h : Glob w) : 0 < w.heap.size := block_lt_of_cell h
theorem Glob.kept {S : List Nat} {w w' : World} (h : Glob w) (k : Kept S w w') (h0 : 0 ∉ S) : Glob w' := by
  have hl := h.lt
  unfold Glob at *
  rw [World.cell?_of_block (w := w) (a := ⟨0, 0, none⟩) (k.block 0 hl h0)]
  exact h

set_option maxRecDepth 100000 in
set_option maxHeartbeats 4000000 in
theorem As_chain (err : Value) (tb : Nat) (old : Value) (x : Int) (w : World) (hg : Glob w) (hc : Chain w err x)
    (ht : w.heap[tb]? = some (.cells #[old] 54 (0, 0))) :
    Calls Tryz.prog 61 #[err, .iface 102 (.pointer (some ⟨tb, 0, none⟩))] w
      fun e w' => e = .returned (.bool true) ∧ w'.heap[tb]? = some (.cells #[.int .i64 x] 54 (0, 0)) ∧ Kept [tb] w w' := by
  obtain ⟨f1, f2, o1, o2, rfl, h1, h2⟩ := hc.ex
  have e74 := @run_callFunc_extern Tryz.prog 74 _ (fun args => ReflectliteValue.unpack (args.getD 0 (.tuple #[]))) Tryz.func74 (by kernel_rfl) (by kernel_rfl) (by kernel_rfl) (by kernel_rfl)
  have e75 := @run_callFunc_extern Tryz.prog 75 _ (ReflectliteValue.methodAny (ReflectliteValue.valueError "reflectlite.Value.Type" 0) (fun t _ _ _ => ReflectliteType.toType t)) Tryz.func75 (by kernel_rfl) (by kernel_rfl) (by kernel_rfl) (by kernel_rfl)
  have e76 := @run_callFunc_extern Tryz.prog 76 _ (ReflectliteValue.method (ReflectliteValue.valueError "reflectlite.Value.IsNil" 0) ReflectliteValue.isNil) Tryz.func76 (by kernel_rfl) (by kernel_rfl) (by kernel_rfl) (by kernel_rfl)
  have e126 := @run_callFunc_extern Tryz.prog 126 _ (ReflectliteType.abiMethod fun t => do pure (.int .u8 (← Rtype.kind t))) Tryz.func126 (by kernel_rfl) (by kernel_rfl) (by kernel_rfl) (by kernel_rfl)
  have e144 := @run_callFunc_extern Tryz.prog 144 _ (ReflectliteType.method ReflectliteType.elem) Tryz.func144 (by kernel_rfl) (by kernel_rfl) (by kernel_rfl) (by kernel_rfl)
  have e145 := @run_callFunc_extern Tryz.prog 145 _ (ReflectliteType.relation "Implements" ReflectliteType.implements_) Tryz.func145 (by kernel_rfl) (by kernel_rfl) (by kernel_rfl) (by kernel_rfl)
  have f6 := vOf
  have f7 := tyOf
  have mK := mKind
  have mE := mElem
  have mI := mImpl
  have kP := kPtr
  have kE := kErrno
  have eP := elemP
  have iE := implE
  have k1 := (Kept.refl [] w).alloc (.cells #[.pointer (some ⟨tb, 0, none⟩)] 102)
  have p1 := heap_alloc_new w (.cells #[.pointer (some ⟨tb, 0, none⟩)] 102)
  have k2 := (Kept.refl [] (w.alloc (.cells #[.pointer (some ⟨tb, 0, none⟩)] 102))).alloc (.cells #[.pointer (some ⟨4, 102, none⟩), .pointer (some ⟨w.heap.size, 0, none⟩), .int .u64 150] 127)
  have p2 := k2.get p1 (by simp)
  have n8 := isNilP ⟨w.heap.size, 0, none⟩ ⟨tb, 0, none⟩ _ (cellAt p2 rfl)
  have hg2 : Glob _ := (hg.kept k1 (by simp)).kept k2 (by simp)
  have hg2' := hg2
  unfold Glob at hg2'
  have h12 := k2.get (k1.get h1 (by simp)) (by simp)
  have h22 := k2.get (k1.get h2 (by simp)) (by simp)
  have ht2 := k2.get (k1.get ht (by simp)) (by simp)
  have H := as_chain f1 f2 tb w.heap.size o1 o2 old (.iface 102 (.pointer (some ⟨tb, 0, none⟩))) x _ h12 h22 p2 ht2
  have HH : Hid (Calls _ _ _ _ _) := H
  have k12 := k1.trans k2
  clear H h1 h2 h12 h22 ht ht2 p1 p2 k1 k2 hg hg2
  go_enter Tryz.func61, Tryz.ntmps61
  go_wp2_with (go_at_call 77; refine HH.out.mono ?_; rintro e w' ⟨rfl, ht3, hk3⟩)
  go_ret
  exact ⟨rfl, ht3, (k12.mono (by simp)).trans hk3⟩

set_option maxHeartbeats 1000000 in
theorem PTold_nil (w : World) : Calls Tryz.prog 28 #[.nilIface] w fun e w' => e = .returned (.int .i64 0) ∧ w' = w := by
  go_enter Tryz.func28, Tryz.ntmps28
  go_wp2
  go_ret
  exact ⟨rfl, rfl⟩

set_option maxHeartbeats 1000000 in
theorem PTold_chain (err : Value) (x : Int) (w : World) (hg : Glob w) (hc : Chain w err x) : Calls Tryz.prog 28 #[err] w fun e w' => e = .returned (.int .i64 x) ∧ Kept [] w w' := by
  have k1 := (Kept.refl [] w).alloc (.cells #[.int .i64 0] 54)
  have hc1 : Chain (w.alloc (.cells #[.int .i64 0] 54)) err x := by
    obtain ⟨f1, f2, o1, o2, rfl, h1, h2⟩ := hc.ex
    exact ⟨f1, f2, o1, o2, rfl, k1.get h1 (by simp), k1.get h2 (by simp)⟩
  have H := As_chain err w.heap.size (.int .i64 0) x _ (hg.kept k1 (by simp)) hc1 (heap_alloc_new _ _)
  have HH : Hid (Calls _ _ _ _ _) := H
  obtain ⟨f1, f2, o1, o2, rfl, -, -⟩ := hc.ex
  clear hc hc1 H hg
  go_enter Tryz.func28, Tryz.ntmps28
  go_wp2_with (go_at_call 61; refine HH.out.mono ?_; rintro e w' ⟨rfl, ht3, hk3⟩; have c3 := cellAt (j := 0) ht3 rfl)
  go_ret
  exact ⟨rfl, k1.trans2 hk3 (by intro y hy; simp at hy; subst hy; exact Or.inr (Nat.le_refl _))⟩

end Go.Proofs.YtnofaofjgjgkgaaGreatDoor
