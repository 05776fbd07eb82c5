import Derived.Test.YtloihcnbcknbnaaGreatDoorPtah
import Derived.LaidEql
import Derived.Stop.Asserts
import Derived.RowKitTokens
namespace Go.Proofs.YtloihcnbcknbnaaGreatDoor
open Go.RowKit Go.Extern.Stop Go.Stop Go.Extern

/-- a type's handle -/
theorem hd_err : typeHandle Tryz.prog 35 = .pointer (some ⟨5, 35, none⟩) := by kernel_rfl

theorem as_nil (t : Value) (w : World) :
    Calls Tryz.prog 138 #[.nilIface, t] w fun e w' => e = .returned (.bool false) ∧ w' = w := by
  go_enter Tryz.func138, Tryz.ntmps138
  go_wp2
  go_ret
  exact ⟨rfl, rfl⟩

theorem vOf (t : Addr) (w : World) : (ReflectliteValue.unpack (.iface 199 (.pointer (some t)))).run Tryz.prog w
    = .ok (.agg #[.pointer (some ⟨5, 199, none⟩), .pointer (some ⟨w.heap.size, 0, none⟩), .int .u64 150]) (w.alloc (.cells #[.pointer (some t)] 199)) := by kernel_rfl
theorem tyOf (a : Addr) (w : World) : (ReflectliteValue.methodAny (ReflectliteValue.valueError "reflectlite.Value.Type" 0) (fun t _ _ _ => ReflectliteType.toType t) #[.agg #[.pointer (some ⟨5, 199, none⟩), .pointer (some a), .int .u64 150]]).run Tryz.prog w
    = .ok (.iface 220 (.agg #[.pointer (some ⟨5, 199, none⟩)])) w := by kernel_rfl
theorem mKind (h : Value) (w : World) : (Go.method 395 220 (.agg #[h]) "Kind").run Tryz.prog w = .ok (181, h) w := by kernel_rfl
theorem kPtr (w : World) : ((ReflectliteType.abiMethod fun t => (fun a : Nat => Value.int IntKind.u8 (a : Int)) <$> Rtype.kind t) #[.pointer (some ⟨5, 199, none⟩)]).run Tryz.prog w = .ok (.int .u8 22) w := by kernel_rfl
theorem kErrno (w : World) : ((ReflectliteType.abiMethod fun t => (fun a : Nat => Value.int IntKind.u8 (a : Int)) <$> Rtype.kind t) #[.pointer (some ⟨5, 92, none⟩)]).run Tryz.prog w = .ok (.int .u8 2) w := by kernel_rfl
theorem partsP (a : Addr) (w : World) : (ReflectliteValue.parts (.agg #[.pointer (some ⟨5, 199, none⟩), .pointer (some a), .int .u64 150])).run Tryz.prog w = .ok (some (199, a, 150)) w := by kernel_rfl
theorem isNilP (a p : Addr) (W : World) (ha : W.cell? a = some (.pointer (some p))) :
    (ReflectliteValue.method (ReflectliteValue.valueError "reflectlite.Value.IsNil" 0) ReflectliteValue.isNil #[.agg #[.pointer (some ⟨5, 199, none⟩), .pointer (some a), .int .u64 150]]).run Tryz.prog W = .ok (.bool false) W := by
  change Sem.run Tryz.prog (ReflectliteValue.parts (.agg #[.pointer (some ⟨5, 199, none⟩), .pointer (some a), .int .u64 150]) >>= _) W = _
  simp only [Sem.run_bind, partsP, Result.andThen]
  simp [ReflectliteValue.isNil, loadVar, isAgg, underlying, Tryz.underlying199, ha, Result.andThen]
theorem mElem (h : Value) (w : World) : (Go.method 395 220 (.agg #[h]) "Elem").run Tryz.prog w = .ok (240, .agg #[h]) w := by kernel_rfl
theorem mImpl (h : Value) (w : World) : (Go.method 395 220 (.agg #[h]) "Implements").run Tryz.prog w = .ok (241, .agg #[h]) w := by kernel_rfl
theorem mAssign (h : Value) (w : World) : (Go.method 395 220 (.agg #[h]) "AssignableTo").run Tryz.prog w = .ok (238, .agg #[h]) w := by kernel_rfl
theorem elemP (w : World) : (ReflectliteType.method ReflectliteType.elem #[.agg #[.pointer (some ⟨5, 199, none⟩)]]).run Tryz.prog w = .ok (.iface 220 (.agg #[.pointer (some ⟨5, 92, none⟩)])) w := by kernel_rfl
theorem implE (w : World) : (ReflectliteType.relation "Implements" ReflectliteType.implements_ #[.agg #[.pointer (some ⟨5, 92, none⟩)], .iface 220 (.agg #[.pointer (some ⟨5, 35, none⟩)])]).run Tryz.prog w = .ok (.bool true) w := by kernel_rfl
theorem typeOfE (v : Value) (w : World) : (ReflectliteType.typeOf #[.iface 92 v]).run Tryz.prog w = .ok (.iface 220 (.agg #[.pointer (some ⟨5, 92, none⟩)])) w := by kernel_rfl
theorem typeOfF (v : Value) (w : World) : (ReflectliteType.typeOf #[.iface 103 v]).run Tryz.prog w = .ok (.iface 220 (.agg #[.pointer (some ⟨5, 103, none⟩)])) w := by kernel_rfl
theorem assignE (w : World) : (ReflectliteType.relation "AssignableTo" ReflectliteType.assignableTo #[.agg #[.pointer (some ⟨5, 92, none⟩)], .iface 220 (.agg #[.pointer (some ⟨5, 92, none⟩)])]).run Tryz.prog w = .ok (.bool true) w := by kernel_rfl
theorem assignF (w : World) : (ReflectliteType.relation "AssignableTo" ReflectliteType.assignableTo #[.agg #[.pointer (some ⟨5, 103, none⟩)], .iface 220 (.agg #[.pointer (some ⟨5, 92, none⟩)])]).run Tryz.prog w = .ok (.bool false) w := by kernel_rfl
theorem vOfE (x : Int) (w : World) : (ReflectliteValue.unpack (.iface 92 (.int .i64 x))).run Tryz.prog w
    = .ok (.agg #[.pointer (some ⟨5, 92, none⟩), .pointer (some ⟨w.heap.size, 0, none⟩), .int .u64 130]) (w.alloc (.cells #[.int .i64 x] 92)) := by kernel_rfl
theorem elemOfP (w : World) : (Rtype.elem? 199).run Tryz.prog w = .ok (some 92) w := by kernel_rfl
theorem mkE (p : Addr) (w : World) : (ReflectliteValue.mk 92 p ReflectliteValue.flagAddr).run Tryz.prog w = .ok (.agg #[.pointer (some ⟨5, 92, none⟩), .pointer (some p), .int .u64 386]) w := by kernel_rfl
theorem elemVP (a p : Addr) (W : World) (ha : W.cell? a = some (.pointer (some p))) :
    (ReflectliteValue.method (ReflectliteValue.valueError "reflectlite.Value.Elem" 0) ReflectliteValue.elem #[.agg #[.pointer (some ⟨5, 199, none⟩), .pointer (some a), .int .u64 150]]).run Tryz.prog W
      = .ok (.agg #[.pointer (some ⟨5, 92, none⟩), .pointer (some p), .int .u64 386]) W := by
  change Sem.run Tryz.prog (ReflectliteValue.parts (.agg #[.pointer (some ⟨5, 199, none⟩), .pointer (some a), .int .u64 150]) >>= _) W = _
  simp only [Sem.run_bind, partsP, Result.andThen]
  simp [ReflectliteValue.elem, loadVar, isAgg, underlying, Tryz.underlying199, ha, Result.andThen, elemOfP, mkE]
theorem asrtAs (p : Value) (w : World) : (Instr.typeAssert (.iface 103 p) 35 225 true).run Tryz.prog w = .ok (.tuple #[.nilIface, .bool false]) w := run_typeAssert_lacksB Tryz.underlying225 (by kernel_rfl) (by kernel_rfl) p 35 w
theorem asrtUn (p : Value) (w : World) : (Instr.typeAssert (.iface 103 p) 35 228 true).run Tryz.prog w = .ok (.tuple #[.iface 103 p, .bool true]) w := run_typeAssert_hasB Tryz.underlying228 (by kernel_rfl) p 35 w
theorem mUnwrap (a : Addr) (w : World) : (Go.method 395 103 (.pointer (some a)) "Unwrap").run Tryz.prog w = .ok (192, .pointer (some a)) w := by kernel_rfl

end Go.Proofs.YtloihcnbcknbnaaGreatDoor

namespace Go.Proofs.YtloihcnbcknbnaaGreatDoor
open Go.RowKit Go.Extern.Stop Go.Stop Go.Extern

theorem partsEa (a : Addr) (w : World) : (ReflectliteValue.parts (.agg #[.pointer (some ⟨5, 92, none⟩), .pointer (some a), .int .u64 386])).run Tryz.prog w = .ok (some (92, a, 386)) w := by kernel_rfl
theorem partsE (a : Addr) (w : World) : (ReflectliteValue.parts (.agg #[.pointer (some ⟨5, 92, none⟩), .pointer (some a), .int .u64 130])).run Tryz.prog w = .ok (some (92, a, 130)) w := by kernel_rfl
theorem directE (w : World) : (Rtype.directlyAssignable 92 92).run Tryz.prog w = .ok true w := by kernel_rfl
theorem setE (ta b : Addr) (x : Int) (old : Value) (W : World) (hb : W.cell? b = some (.int .i64 x)) (ht : W.cell? ta = some old) (hf : W.frozen? ta = false) :
    (ReflectliteValue.set #[.agg #[.pointer (some ⟨5, 92, none⟩), .pointer (some ta), .int .u64 386], .agg #[.pointer (some ⟨5, 92, none⟩), .pointer (some b), .int .u64 130]]).run Tryz.prog W
      = .ok (.tuple #[]) (W.setCell ta (.int .i64 x)) := by
  have hs : (sizeOf 92).run Tryz.prog W = .ok 1 W := by kernel_rfl
  change Sem.run Tryz.prog (ReflectliteValue.parts (.agg #[.pointer (some ⟨5, 92, none⟩), .pointer (some ta), .int .u64 386]) >>= fun r1 => ReflectliteValue.parts (.agg #[.pointer (some ⟨5, 92, none⟩), .pointer (some b), .int .u64 130]) >>= _) W = _
  simp only [Sem.run_bind, partsEa, partsE, Result.andThen]
  simp [ReflectliteValue.flagAddr, loadVar, isAgg, underlying, Tryz.underlying92, hb, Result.andThen, directE, storeVar, Value.cells, storeCells, Addr.add]
  rw [run_store Tryz.prog W ta _ _ (by rfl)]
  simp [ht, hf]

end Go.Proofs.YtloihcnbcknbnaaGreatDoor

namespace Go.Proofs.YtloihcnbcknbnaaGreatDoor
open Go.RowKit Go.Extern.Stop Go.Stop Go.Extern

theorem Unwrap_any (f : Nat) (o E : Value) (w : World) (hf : w.heap[f]? = some (.cells #[o, E] 106 (0, 0))) :
    Calls Tryz.prog 192 #[.pointer (some ⟨f, 0, none⟩)] w fun e w' => e = .returned E ∧ w' = w := by
  have c1 : w.cell? ⟨f, 1, none⟩ = some E := cellAt hf rfl
  clear hf
  go_enter Tryz.func192, Tryz.ntmps192
  go_wp2
  go_ret
  exact ⟨rfl, rfl⟩

/-- the errors that a Catch gives: two faults round a number -/
structure Chain (w : World) (err : Value) (x : Int) : Prop where
  ex : ∃ f1 f2 o1 o2, err = .iface 103 (.pointer (some ⟨f1, 0, none⟩)) ∧ w.heap[f1]? = some (.cells #[o1, .iface 103 (.pointer (some ⟨f2, 0, none⟩))] 106 (0, 0)) ∧
    w.heap[f2]? = some (.cells #[o2, .iface 92 (.int .i64 x)] 106 (0, 0))

set_option maxRecDepth 100000 in
set_option maxHeartbeats 4000000 in
theorem as_chain (f1 f2 tb pb : Nat) (o1 o2 old tg : Value) (x : Int) (w : World)
    (h1 : w.heap[f1]? = some (.cells #[o1, .iface 103 (.pointer (some ⟨f2, 0, none⟩))] 106 (0, 0)))
    (h2 : w.heap[f2]? = some (.cells #[o2, .iface 92 (.int .i64 x)] 106 (0, 0)))
    (hp : w.heap[pb]? = some (.cells #[.pointer (some ⟨tb, 0, none⟩)] 199 (0, 0)))
    (ht : w.heap[tb]? = some (.cells #[old] 92 (0, 0))) :
    Calls Tryz.prog 150 #[.iface 103 (.pointer (some ⟨f1, 0, none⟩)), tg, .agg #[.pointer (some ⟨5, 199, none⟩), .pointer (some ⟨pb, 0, none⟩), .int .u64 150], .iface 220 (.agg #[.pointer (some ⟨5, 92, none⟩)])] w
      fun e w' => e = .returned (.bool true) ∧ w'.heap[tb]? = some (.cells #[.int .i64 x] 92 (0, 0)) ∧ Kept [tb] w w' := by
  have e90 := @run_callFunc_extern Tryz.prog 153 _ ReflectliteType.typeOf Tryz.func153 (by kernel_rfl) (by kernel_rfl) (by kernel_rfl) (by kernel_rfl)
  have e142 := @run_callFunc_extern Tryz.prog 238 _ (ReflectliteType.relation "AssignableTo" ReflectliteType.assignableTo) Tryz.func238 (by kernel_rfl) (by kernel_rfl) (by kernel_rfl) (by kernel_rfl)
  have e91 := @run_callFunc_extern Tryz.prog 154 _ (ReflectliteValue.method (ReflectliteValue.valueError "reflectlite.Value.Elem" 0) ReflectliteValue.elem) Tryz.func154 (by kernel_rfl) (by kernel_rfl) (by kernel_rfl) (by kernel_rfl)
  have e74 := @run_callFunc_extern Tryz.prog 147 _ (fun args => ReflectliteValue.unpack (args.getD 0 (.tuple #[]))) Tryz.func147 (by kernel_rfl) (by kernel_rfl) (by kernel_rfl) (by kernel_rfl)
  have e92 := @run_callFunc_extern Tryz.prog 155 _ ReflectliteValue.set Tryz.func155 (by kernel_rfl) (by kernel_rfl) (by kernel_rfl) (by kernel_rfl)
  have tF := typeOfF
  have tE := typeOfE
  have mA := mAssign
  have aF := assignF
  have aE := assignE
  have rA := asrtAs
  have rU := asrtUn
  have mU := mUnwrap
  have vE := vOfE
  have k1 := (Kept.refl [] w).alloc (.cells #[.pointer (some ⟨5, 199, none⟩), .pointer (some ⟨pb, 0, none⟩), .int .u64 150] 208)
  have g1 := k1.get h1 (by simp)
  have g2 := k1.get h2 (by simp)
  have gp := k1.get hp (by simp)
  have gt := k1.get ht (by simp)
  have el := elemVP ⟨pb, 0, none⟩ ⟨tb, 0, none⟩ _ (cellAt gp rfl)
  have k2 := (Kept.refl [] (w.alloc (.cells #[.pointer (some ⟨5, 199, none⟩), .pointer (some ⟨pb, 0, none⟩), .int .u64 150] 208))).alloc (.cells #[.int .i64 x] 92)
  have gt2 := k2.get gt (by simp)
  have gn2 := heap_alloc_new (w.alloc (.cells #[.pointer (some ⟨5, 199, none⟩), .pointer (some ⟨pb, 0, none⟩), .int .u64 150] 208)) (.cells #[.int .i64 x] 92)
  rw [World.size_alloc] at gn2
  have st := setE ⟨tb, 0, none⟩ ⟨w.heap.size + 1, 0, none⟩ x old _ (cellAt gn2 rfl) (cellAt gt2 rfl) (frozen_of_row _ _ _ _ _ gt2)
  have hend := setCellAt (i := 0) (.int .i64 x) gt2
  have kend : Kept [tb] w (((w.alloc (.cells #[.pointer (some ⟨5, 199, none⟩), .pointer (some ⟨pb, 0, none⟩), .int .u64 150] 208)).alloc (.cells #[.int .i64 x] 92)).setCell ⟨tb, 0, none⟩ (.int .i64 x)) := (((Kept.refl _ _).alloc _).alloc _).setCell (Or.inl (by simp)) _
  have H1 : Hid (_ ∧ _) := ⟨g1, g2⟩
  have H2 : Hid (_ ∧ _) := ⟨hend, kend⟩
  clear h1 h2 hp ht k1 g1 g2 gp gt k2 gt2 gn2 hend kend
  go_enter Tryz.func150, Tryz.ntmps150
  go_wp2
  refine wp_loop_rounds 3 ?_
  rw [rounds_succ]
  go_wp2_with (go_at_call 192; refine (Unwrap_any f1 _ _ _ H1.out.1).mono ?_; rintro e w' ⟨rfl, rfl⟩)
  rw [rounds_succ]
  go_wp2_with (go_at_call 192; refine (Unwrap_any f2 _ _ _ H1.out.2).mono ?_; rintro e w' ⟨rfl, rfl⟩)
  rw [rounds_succ]
  go_wp2
  go_ret
  exact ⟨rfl, H2.out.1, H2.out.2⟩

end Go.Proofs.YtloihcnbcknbnaaGreatDoor

namespace Go.Proofs.YtloihcnbcknbnaaGreatDoor
open Go.RowKit Go.Extern.Stop Go.Stop Go.Extern

/-- what package errors keeps of the type error -/
def Glob (w : World) : Prop := w.cell? ⟨1, 0, none⟩ = some (.iface 220 (.agg #[.pointer (some ⟨5, 35, none⟩)]))
theorem Glob.lt {w : World} (h : Glob w) : 1 < w.heap.size := block_lt_of_cell h
theorem Glob.kept {S : List Nat} {w w' : World} (h : Glob w) (k : Kept S w w') (h0 : 1 ∉ S) : Glob w' := by
  have hl := h.lt
  unfold Glob at *
  rw [World.cell?_of_block (w := w) (a := ⟨1, 0, none⟩) (k.block 1 hl h0)]
  exact h

set_option maxRecDepth 100000 in
set_option maxHeartbeats 4000000 in
theorem As_chain (err : Value) (tb : Nat) (old : Value) (x : Int) (w : World) (hg : Glob w) (hc : Chain w err x)
    (ht : w.heap[tb]? = some (.cells #[old] 92 (0, 0))) :
    Calls Tryz.prog 138 #[err, .iface 199 (.pointer (some ⟨tb, 0, none⟩))] w
      fun e w' => e = .returned (.bool true) ∧ w'.heap[tb]? = some (.cells #[.int .i64 x] 92 (0, 0)) ∧ Kept [tb] w w' := by
  obtain ⟨f1, f2, o1, o2, rfl, h1, h2⟩ := hc.ex
  have e74 := @run_callFunc_extern Tryz.prog 147 _ (fun args => ReflectliteValue.unpack (args.getD 0 (.tuple #[]))) Tryz.func147 (by kernel_rfl) (by kernel_rfl) (by kernel_rfl) (by kernel_rfl)
  have e75 := @run_callFunc_extern Tryz.prog 148 _ (ReflectliteValue.methodAny (ReflectliteValue.valueError "reflectlite.Value.Type" 0) (fun t _ _ _ => ReflectliteType.toType t)) Tryz.func148 (by kernel_rfl) (by kernel_rfl) (by kernel_rfl) (by kernel_rfl)
  have e76 := @run_callFunc_extern Tryz.prog 149 _ (ReflectliteValue.method (ReflectliteValue.valueError "reflectlite.Value.IsNil" 0) ReflectliteValue.isNil) Tryz.func149 (by kernel_rfl) (by kernel_rfl) (by kernel_rfl) (by kernel_rfl)
  have e126 := @run_callFunc_extern Tryz.prog 181 _ (ReflectliteType.abiMethod fun t => do pure (.int .u8 (← Rtype.kind t))) Tryz.func181 (by kernel_rfl) (by kernel_rfl) (by kernel_rfl) (by kernel_rfl)
  have e144 := @run_callFunc_extern Tryz.prog 240 _ (ReflectliteType.method ReflectliteType.elem) Tryz.func240 (by kernel_rfl) (by kernel_rfl) (by kernel_rfl) (by kernel_rfl)
  have e145 := @run_callFunc_extern Tryz.prog 241 _ (ReflectliteType.relation "Implements" ReflectliteType.implements_) Tryz.func241 (by kernel_rfl) (by kernel_rfl) (by kernel_rfl) (by kernel_rfl)
  have f6 := vOf
  have f7 := tyOf
  have mK := mKind
  have mE := mElem
  have mI := mImpl
  have kP := kPtr
  have kE := kErrno
  have eP := elemP
  have iE := implE
  have k1 := (Kept.refl [] w).alloc (.cells #[.pointer (some ⟨tb, 0, none⟩)] 199)
  have p1 := heap_alloc_new w (.cells #[.pointer (some ⟨tb, 0, none⟩)] 199)
  have k2 := (Kept.refl [] (w.alloc (.cells #[.pointer (some ⟨tb, 0, none⟩)] 199))).alloc (.cells #[.pointer (some ⟨5, 199, none⟩), .pointer (some ⟨w.heap.size, 0, none⟩), .int .u64 150] 208)
  have p2 := k2.get p1 (by simp)
  have n8 := isNilP ⟨w.heap.size, 0, none⟩ ⟨tb, 0, none⟩ _ (cellAt p2 rfl)
  have hg2 : Glob _ := (hg.kept k1 (by simp)).kept k2 (by simp)
  have hg2' := hg2
  unfold Glob at hg2'
  have h12 := k2.get (k1.get h1 (by simp)) (by simp)
  have h22 := k2.get (k1.get h2 (by simp)) (by simp)
  have ht2 := k2.get (k1.get ht (by simp)) (by simp)
  have H := as_chain f1 f2 tb w.heap.size o1 o2 old (.iface 199 (.pointer (some ⟨tb, 0, none⟩))) x _ h12 h22 p2 ht2
  have HH : Hid (Calls _ _ _ _ _) := H
  have k12 := k1.trans k2
  clear H h1 h2 h12 h22 ht ht2 p1 p2 k1 k2 hg hg2
  go_enter Tryz.func138, Tryz.ntmps138
  go_wp2_with (go_at_call 150; refine HH.out.mono ?_; rintro e w' ⟨rfl, ht3, hk3⟩)
  go_ret
  exact ⟨rfl, ht3, (k12.mono (by simp)).trans hk3⟩

set_option maxHeartbeats 1000000 in
theorem PTold_nil (w : World) : Calls Tryz.prog 106 #[.nilIface] w fun e w' => e = .returned (.int .i64 0) ∧ w' = w := by
  go_enter Tryz.func106, Tryz.ntmps106
  go_wp2
  go_ret
  exact ⟨rfl, rfl⟩

set_option maxHeartbeats 1000000 in
theorem PTold_chain (err : Value) (x : Int) (w : World) (hg : Glob w) (hc : Chain w err x) : Calls Tryz.prog 106 #[err] w fun e w' => e = .returned (.int .i64 x) ∧ Kept [] w w' := by
  have k1 := (Kept.refl [] w).alloc (.cells #[.int .i64 0] 92)
  have hc1 : Chain (w.alloc (.cells #[.int .i64 0] 92)) err x := by
    obtain ⟨f1, f2, o1, o2, rfl, h1, h2⟩ := hc.ex
    exact ⟨f1, f2, o1, o2, rfl, k1.get h1 (by simp), k1.get h2 (by simp)⟩
  have H := As_chain err w.heap.size (.int .i64 0) x _ (hg.kept k1 (by simp)) hc1 (heap_alloc_new _ _)
  have HH : Hid (Calls _ _ _ _ _) := H
  obtain ⟨f1, f2, o1, o2, rfl, -, -⟩ := hc.ex
  clear hc hc1 H hg
  go_enter Tryz.func106, Tryz.ntmps106
  go_wp2_with (go_at_call 138; refine HH.out.mono ?_; rintro e w' ⟨rfl, ht3, hk3⟩; have c3 := cellAt (j := 0) ht3 rfl)
  go_ret
  exact ⟨rfl, k1.trans2 hk3 (by intro y hy; simp at hy; subst hy; exact Or.inr (Nat.le_refl _))⟩

end Go.Proofs.YtloihcnbcknbnaaGreatDoor
