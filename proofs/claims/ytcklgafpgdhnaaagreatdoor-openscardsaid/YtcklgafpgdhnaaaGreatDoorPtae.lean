import Derived.Test.YtcklgafpgdhnaaaGreatDoorPtad
import Derived.Laws.AppendOwnNone
import Derived.Laws.ResultCell
import Derived.LaidEql
import Derived.Stop.Asserts
import Derived.RowKitTokens
set_option maxRecDepth 100000
set_option maxHeartbeats 4000000
open List renaming getElem_toArray → zA, getElem_cons_succ → zB, getElem_cons_zero → zC, setIfInBounds_toArray → zD, set_cons_succ → zE, set_cons_zero → zF
namespace Go.Proofs.YtcklgafpgdhnaaaGreatDoor
open Go.RowKit

theorem owns_mono {w : World} {base base' e size n : Nat} {v : Value} {xs : List Value} (h : w.ownsRow base e size v n xs) (hb : base' ≤ base) : w.ownsRow base' e size v n xs := by
 obtain ⟨h1, h2⟩ := h
 refine ⟨h1, ?_⟩
 rcases h2 with h2 | ⟨g, cap, cur, rfl, hg, r⟩
 ·exact Or.inl h2
 ·exact Or.inr ⟨g, cap, cur, rfl, by omega, r⟩

theorem wpList_append_src {P : Program} {w : World} {ops : Array Oper} {rest : List Oper} {o : Oper} {a : Act} {Q : Exit → Act → World → Prop} (hgd : o.guard = none) (s x : Operand) (t : TypeId)
  (ho : o.op = .call { callee := .builtin .append, args := #[s, x], argTypes := #[t, t] })
  (base : Nat) (e : TypeId) (i : TypeInfo) (z : Value) (size bytes : Nat) (ht : P.underlying t = some (.slice e)) (hi : P.info? e = some i) (hz : i.zero = some z)
  (hsize : i.size = size) (hby : i.bytes = bytes) (hzs : z.cells.size = size) (hsz : 0 < size)
  (v : Value) (n : Nat) (xs : List Value) (hs : a.eval s = v) (hown : w.ownsRow base e size v n xs)
  (y : Value) (base2 m : Nat) (ys : List Value) (hx : a.eval x = y) (hsrc : w.ownsRow base2 e size y m ys) (h1 : ∀ u ∈ ys, u.oneCell' = true)
  (h63 : n + m ≤ maxLen) (hbytes : (n + m) * bytes ≤ 140737488355328) (hbase : base ≤ w.heap.size)
  (h : ∀ v' w', w'.ownsRow base e size v' (n + m) (xs ++ ys) → w.grownBy w' v.ownBlock → wpList P ops Q rest (a.put o.dst v') w') : wpList P ops Q (o :: rest) a w := by
 obtain ⟨hl, ⟨rfl, rfl⟩ | ⟨g, cap, cur, rfl, hg, hh, h4, h5, h6, h7⟩⟩ := hsrc
 ·refine wpList_append_own_none hgd s x t ho base e i size ht hi v n xs hs hown hx ?_
  have : ys = [] := List.eq_nil_of_length_eq_zero (by simpa using hl)
  subst this
  exact h v w (by simpa using hown) (World.grownBy.refl _ _)
 ·refine wpList_append_own w hgd s x t ho base e i z size bytes ht hi hz hsize hby hzs hsz v n xs hs hown ⟨g, 0, none⟩ m cap ys hx hl ?_ h1 h63 hbytes hbase (fun v' w' ho' hg' _ => h v' w' ho' hg')
  intro j u hj
  rw [add_lit, Nat.zero_add, cell_of_row _ _ _ _ _ _ hh]
  rw [← h7, List.getElem?_take] at hj
  by_cases hjn : j < m * size
  ·simpa [hjn] using hj
  ·simp [hjn] at hj

end Go.Proofs.YtcklgafpgdhnaaaGreatDoor

namespace Go.Proofs.YtcklgafpgdhnaaaGreatDoor
open Go.RowKit Go.Extern.Stop Go.Stop Go.Extern

theorem hd_err : typeHandle Tryz.prog 35 = .pointer (some ⟨5, 35, none⟩) := by kernel_rfl

theorem as_nil (t : Value) (w : World) :
  Calls Tryz.prog 164 #[.nilIface, t] w fun e w' => e = .returned (.bool false) ∧ w' = w := by
 go_enter Tryz.func164, Tryz.ntmps164
 go_wp2
 go_ret
 exact ⟨rfl, rfl⟩

theorem vOf (t : Addr) (w : World) : (ReflectliteValue.unpack (.iface 222 (.pointer (some t)))).run Tryz.prog w
  = .ok (.agg #[.pointer (some ⟨5, 222, none⟩), .pointer (some ⟨w.heap.size, 0, none⟩), .int .u64 150]) (w.alloc (.cells #[.pointer (some t)] 222)) := by kernel_rfl
theorem tyOf (a : Addr) (w : World) : (ReflectliteValue.methodAny (ReflectliteValue.valueError "reflectlite.Value.Type" 0) (fun t _ _ _ => ReflectliteType.toType t) #[.agg #[.pointer (some ⟨5, 222, none⟩), .pointer (some a), .int .u64 150]]).run Tryz.prog w
  = .ok (.iface 254 (.agg #[.pointer (some ⟨5, 222, none⟩)])) w := by kernel_rfl
theorem mKind (h : Value) (w : World) : (Go.method 433 254 (.agg #[h]) "Kind").run Tryz.prog w = .ok (217, h) w := by kernel_rfl
theorem kPtr (w : World) : ((ReflectliteType.abiMethod fun t => (fun a : Nat => Value.int IntKind.u8 (a : Int)) <$> Rtype.kind t) #[.pointer (some ⟨5, 222, none⟩)]).run Tryz.prog w = .ok (.int .u8 22) w := by kernel_rfl
theorem kErrno (w : World) : ((ReflectliteType.abiMethod fun t => (fun a : Nat => Value.int IntKind.u8 (a : Int)) <$> Rtype.kind t) #[.pointer (some ⟨5, 100, none⟩)]).run Tryz.prog w = .ok (.int .u8 2) w := by kernel_rfl
theorem partsP (a : Addr) (w : World) : (ReflectliteValue.parts (.agg #[.pointer (some ⟨5, 222, none⟩), .pointer (some a), .int .u64 150])).run Tryz.prog w = .ok (some (222, a, 150)) w := by kernel_rfl
theorem isNilP (a p : Addr) (W : World) (ha : W.cell? a = some (.pointer (some p))) :
  (ReflectliteValue.method (ReflectliteValue.valueError "reflectlite.Value.IsNil" 0) ReflectliteValue.isNil #[.agg #[.pointer (some ⟨5, 222, none⟩), .pointer (some a), .int .u64 150]]).run Tryz.prog W = .ok (.bool false) W := by
 change Sem.run Tryz.prog (ReflectliteValue.parts (.agg #[.pointer (some ⟨5, 222, none⟩), .pointer (some a), .int .u64 150]) >>= _) W = _
 simp only [Sem.run_bind, partsP, Result.andThen]
 simp [ReflectliteValue.isNil, loadVar, isAgg, underlying, Tryz.underlying222, ha, Result.andThen]
theorem mElem (h : Value) (w : World) : (Go.method 433 254 (.agg #[h]) "Elem").run Tryz.prog w = .ok (288, .agg #[h]) w := by kernel_rfl
theorem mImpl (h : Value) (w : World) : (Go.method 433 254 (.agg #[h]) "Implements").run Tryz.prog w = .ok (289, .agg #[h]) w := by kernel_rfl
theorem mAssign (h : Value) (w : World) : (Go.method 433 254 (.agg #[h]) "AssignableTo").run Tryz.prog w = .ok (286, .agg #[h]) w := by kernel_rfl
theorem elemP (w : World) : (ReflectliteType.method ReflectliteType.elem #[.agg #[.pointer (some ⟨5, 222, none⟩)]]).run Tryz.prog w = .ok (.iface 254 (.agg #[.pointer (some ⟨5, 100, none⟩)])) w := by kernel_rfl
theorem implE (w : World) : (ReflectliteType.relation "Implements" ReflectliteType.implements_ #[.agg #[.pointer (some ⟨5, 100, none⟩)], .iface 254 (.agg #[.pointer (some ⟨5, 35, none⟩)])]).run Tryz.prog w = .ok (.bool true) w := by kernel_rfl
theorem typeOfE (v : Value) (w : World) : (ReflectliteType.typeOf #[.iface 100 v]).run Tryz.prog w = .ok (.iface 254 (.agg #[.pointer (some ⟨5, 100, none⟩)])) w := by kernel_rfl
theorem typeOfF (v : Value) (w : World) : (ReflectliteType.typeOf #[.iface 111 v]).run Tryz.prog w = .ok (.iface 254 (.agg #[.pointer (some ⟨5, 111, none⟩)])) w := by kernel_rfl
theorem assignE (w : World) : (ReflectliteType.relation "AssignableTo" ReflectliteType.assignableTo #[.agg #[.pointer (some ⟨5, 100, none⟩)], .iface 254 (.agg #[.pointer (some ⟨5, 100, none⟩)])]).run Tryz.prog w = .ok (.bool true) w := by kernel_rfl
theorem assignF (w : World) : (ReflectliteType.relation "AssignableTo" ReflectliteType.assignableTo #[.agg #[.pointer (some ⟨5, 111, none⟩)], .iface 254 (.agg #[.pointer (some ⟨5, 100, none⟩)])]).run Tryz.prog w = .ok (.bool false) w := by kernel_rfl
theorem vOfE (x : Int) (w : World) : (ReflectliteValue.unpack (.iface 100 (.int .i64 x))).run Tryz.prog w
  = .ok (.agg #[.pointer (some ⟨5, 100, none⟩), .pointer (some ⟨w.heap.size, 0, none⟩), .int .u64 130]) (w.alloc (.cells #[.int .i64 x] 100)) := by kernel_rfl
theorem elemOfP (w : World) : (Rtype.elem? 222).run Tryz.prog w = .ok (some 100) w := by kernel_rfl
theorem mkE (p : Addr) (w : World) : (ReflectliteValue.mk 100 p ReflectliteValue.flagAddr).run Tryz.prog w = .ok (.agg #[.pointer (some ⟨5, 100, none⟩), .pointer (some p), .int .u64 386]) w := by kernel_rfl
theorem elemVP (a p : Addr) (W : World) (ha : W.cell? a = some (.pointer (some p))) :
  (ReflectliteValue.method (ReflectliteValue.valueError "reflectlite.Value.Elem" 0) ReflectliteValue.elem #[.agg #[.pointer (some ⟨5, 222, none⟩), .pointer (some a), .int .u64 150]]).run Tryz.prog W
   = .ok (.agg #[.pointer (some ⟨5, 100, none⟩), .pointer (some p), .int .u64 386]) W := by
 change Sem.run Tryz.prog (ReflectliteValue.parts (.agg #[.pointer (some ⟨5, 222, none⟩), .pointer (some a), .int .u64 150]) >>= _) W = _
 simp only [Sem.run_bind, partsP, Result.andThen]
 simp [ReflectliteValue.elem, loadVar, isAgg, underlying, Tryz.underlying222, ha, Result.andThen, elemOfP, mkE]
theorem asrtAs (p : Value) (w : World) : (Instr.typeAssert (.iface 111 p) 35 259 true).run Tryz.prog w = .ok (.tuple #[.nilIface, .bool false]) w := run_typeAssert_lacksB Tryz.underlying259 (by kernel_rfl) (by kernel_rfl) p 35 w
theorem asrtUn (p : Value) (w : World) : (Instr.typeAssert (.iface 111 p) 35 262 true).run Tryz.prog w = .ok (.tuple #[.iface 111 p, .bool true]) w := run_typeAssert_hasB Tryz.underlying262 (by kernel_rfl) p 35 w
theorem mUnwrap (a : Addr) (w : World) : (Go.method 433 111 (.pointer (some a)) "Unwrap").run Tryz.prog w = .ok (230, .pointer (some a)) w := by kernel_rfl

end Go.Proofs.YtcklgafpgdhnaaaGreatDoor

namespace Go.Proofs.YtcklgafpgdhnaaaGreatDoor
open Go.RowKit Go.Extern.Stop Go.Stop Go.Extern

theorem partsEa (a : Addr) (w : World) : (ReflectliteValue.parts (.agg #[.pointer (some ⟨5, 100, none⟩), .pointer (some a), .int .u64 386])).run Tryz.prog w = .ok (some (100, a, 386)) w := by kernel_rfl
theorem partsE (a : Addr) (w : World) : (ReflectliteValue.parts (.agg #[.pointer (some ⟨5, 100, none⟩), .pointer (some a), .int .u64 130])).run Tryz.prog w = .ok (some (100, a, 130)) w := by kernel_rfl
theorem directE (w : World) : (Rtype.directlyAssignable 100 100).run Tryz.prog w = .ok true w := by kernel_rfl
theorem setE (ta b : Addr) (x : Int) (old : Value) (W : World) (hb : W.cell? b = some (.int .i64 x)) (ht : W.cell? ta = some old) (hf : W.frozen? ta = false) :
  (ReflectliteValue.set #[.agg #[.pointer (some ⟨5, 100, none⟩), .pointer (some ta), .int .u64 386], .agg #[.pointer (some ⟨5, 100, none⟩), .pointer (some b), .int .u64 130]]).run Tryz.prog W
   = .ok (.tuple #[]) (W.setCell ta (.int .i64 x)) := by
 have hs : (sizeOf 100).run Tryz.prog W = .ok 1 W := by kernel_rfl
 change Sem.run Tryz.prog (ReflectliteValue.parts (.agg #[.pointer (some ⟨5, 100, none⟩), .pointer (some ta), .int .u64 386]) >>= fun r1 => ReflectliteValue.parts (.agg #[.pointer (some ⟨5, 100, none⟩), .pointer (some b), .int .u64 130]) >>= _) W = _
 simp only [Sem.run_bind, partsEa, partsE, Result.andThen]
 simp [ReflectliteValue.flagAddr, loadVar, isAgg, underlying, Tryz.underlying100, hb, Result.andThen, directE, storeVar, Value.cells, storeCells, Addr.add]
 rw [run_store Tryz.prog W ta _ _ (by rfl)]
 simp [ht, hf]

end Go.Proofs.YtcklgafpgdhnaaaGreatDoor

namespace Go.Proofs.YtcklgafpgdhnaaaGreatDoor
open Go.RowKit Go.Extern.Stop Go.Stop Go.Extern

theorem Unwrap_any (f : Nat) (o E : Value) (w : World) (hf : w.heap[f]? = some (.cells #[o, E] 114 (0, 0))) :
  Calls Tryz.prog 230 #[.pointer (some ⟨f, 0, none⟩)] w fun e w' => e = .returned E ∧ w' = w := by
 have c1 : w.cell? ⟨f, 1, none⟩ = some E := cellAt hf rfl
 clear hf
 go_enter Tryz.func230, Tryz.ntmps230
 go_wp2
 go_ret
 exact ⟨rfl, rfl⟩

structure Chain (w : World) (err : Value) (x : Int) : Prop where
 ex : ∃ f1 f2 o1 o2, err = .iface 111 (.pointer (some ⟨f1, 0, none⟩)) ∧ w.heap[f1]? = some (.cells #[o1, .iface 111 (.pointer (some ⟨f2, 0, none⟩))] 114 (0, 0)) ∧
  w.heap[f2]? = some (.cells #[o2, .iface 100 (.int .i64 x)] 114 (0, 0))

theorem as_chain (f1 f2 tb pb : Nat) (o1 o2 old tg : Value) (x : Int) (w : World)
  (h1 : w.heap[f1]? = some (.cells #[o1, .iface 111 (.pointer (some ⟨f2, 0, none⟩))] 114 (0, 0)))
  (h2 : w.heap[f2]? = some (.cells #[o2, .iface 100 (.int .i64 x)] 114 (0, 0)))
  (hp : w.heap[pb]? = some (.cells #[.pointer (some ⟨tb, 0, none⟩)] 222 (0, 0)))
  (ht : w.heap[tb]? = some (.cells #[old] 100 (0, 0))) :
  Calls Tryz.prog 179 #[.iface 111 (.pointer (some ⟨f1, 0, none⟩)), tg, .agg #[.pointer (some ⟨5, 222, none⟩), .pointer (some ⟨pb, 0, none⟩), .int .u64 150], .iface 254 (.agg #[.pointer (some ⟨5, 100, none⟩)])] w
   fun e w' => e = .returned (.bool true) ∧ w'.heap[tb]? = some (.cells #[.int .i64 x] 100 (0, 0)) ∧ Kept [tb] w w' := by
 have e90 := @run_callFunc_extern Tryz.prog 190 _ ReflectliteType.typeOf Tryz.func190 (by kernel_rfl) (by kernel_rfl) (by kernel_rfl) (by kernel_rfl)
 have e142 := @run_callFunc_extern Tryz.prog 286 _ (ReflectliteType.relation "AssignableTo" ReflectliteType.assignableTo) Tryz.func286 (by kernel_rfl) (by kernel_rfl) (by kernel_rfl) (by kernel_rfl)
 have e91 := @run_callFunc_extern Tryz.prog 191 _ (ReflectliteValue.method (ReflectliteValue.valueError "reflectlite.Value.Elem" 0) ReflectliteValue.elem) Tryz.func191 (by kernel_rfl) (by kernel_rfl) (by kernel_rfl) (by kernel_rfl)
 have e74 := @run_callFunc_extern Tryz.prog 176 _ (fun args => ReflectliteValue.unpack (args.getD 0 (.tuple #[]))) Tryz.func176 (by kernel_rfl) (by kernel_rfl) (by kernel_rfl) (by kernel_rfl)
 have e92 := @run_callFunc_extern Tryz.prog 192 _ ReflectliteValue.set Tryz.func192 (by kernel_rfl) (by kernel_rfl) (by kernel_rfl) (by kernel_rfl)
 have tF := typeOfF
 have tE := typeOfE
 have mA := mAssign
 have aF := assignF
 have aE := assignE
 have rA := asrtAs
 have rU := asrtUn
 have mU := mUnwrap
 have vE := vOfE
 have k1 := (Kept.refl [] w).alloc (.cells #[.pointer (some ⟨5, 222, none⟩), .pointer (some ⟨pb, 0, none⟩), .int .u64 150] 233)
 have g1 := k1.get h1 (by simp)
 have g2 := k1.get h2 (by simp)
 have gp := k1.get hp (by simp)
 have gt := k1.get ht (by simp)
 have el := elemVP ⟨pb, 0, none⟩ ⟨tb, 0, none⟩ _ (cellAt gp rfl)
 have k2 := (Kept.refl [] (w.alloc (.cells #[.pointer (some ⟨5, 222, none⟩), .pointer (some ⟨pb, 0, none⟩), .int .u64 150] 233))).alloc (.cells #[.int .i64 x] 100)
 have gt2 := k2.get gt (by simp)
 have gn2 := heap_alloc_new (w.alloc (.cells #[.pointer (some ⟨5, 222, none⟩), .pointer (some ⟨pb, 0, none⟩), .int .u64 150] 233)) (.cells #[.int .i64 x] 100)
 rw [World.size_alloc] at gn2
 have st := setE ⟨tb, 0, none⟩ ⟨w.heap.size + 1, 0, none⟩ x old _ (cellAt gn2 rfl) (cellAt gt2 rfl) (frozen_of_row _ _ _ _ _ gt2)
 have hend := setCellAt (i := 0) (.int .i64 x) gt2
 have kend : Kept [tb] w (((w.alloc (.cells #[.pointer (some ⟨5, 222, none⟩), .pointer (some ⟨pb, 0, none⟩), .int .u64 150] 233)).alloc (.cells #[.int .i64 x] 100)).setCell ⟨tb, 0, none⟩ (.int .i64 x)) := (((Kept.refl _ _).alloc _).alloc _).setCell (Or.inl (by simp)) _
 have H1 : Hid (_ ∧ _) := ⟨g1, g2⟩
 have H2 : Hid (_ ∧ _) := ⟨hend, kend⟩
 clear h1 h2 hp ht k1 g1 g2 gp gt k2 gt2 gn2 hend kend
 go_enter Tryz.func179, Tryz.ntmps179
 go_wp2
 refine wp_loop_rounds 3 ?_
 rw [rounds_succ]
 go_wp2_with (go_at_call 230; refine (Unwrap_any f1 _ _ _ H1.out.1).mono ?_; rintro e w' ⟨rfl, rfl⟩)
 rw [rounds_succ]
 go_wp2_with (go_at_call 230; refine (Unwrap_any f2 _ _ _ H1.out.2).mono ?_; rintro e w' ⟨rfl, rfl⟩)
 rw [rounds_succ]
 go_wp2
 go_ret
 exact ⟨rfl, H2.out.1, H2.out.2⟩

end Go.Proofs.YtcklgafpgdhnaaaGreatDoor

namespace Go.Proofs.YtcklgafpgdhnaaaGreatDoor
open Go.RowKit Go.Extern.Stop Go.Stop Go.Extern

def Glob (w : World) : Prop := w.cell? ⟨1, 0, none⟩ = some (.iface 254 (.agg #[.pointer (some ⟨5, 35, none⟩)]))
theorem Glob.lt {w : World} (h : Glob w) : 1 < w.heap.size := block_lt_of_cell h
theorem Glob.kept {S : List Nat} {w w' : World} (h : Glob w) (k : Kept S w w') (h0 : 1 ∉ S) : Glob w' := by
 have hl := h.lt
 unfold Glob at *
 rw [World.cell?_of_block (w := w) (a := ⟨1, 0, none⟩) (k.block 1 hl h0)]
 exact h

theorem As_chain (err : Value) (tb : Nat) (old : Value) (x : Int) (w : World) (hg : Glob w) (hc : Chain w err x)
  (ht : w.heap[tb]? = some (.cells #[old] 100 (0, 0))) :
  Calls Tryz.prog 164 #[err, .iface 222 (.pointer (some ⟨tb, 0, none⟩))] w
   fun e w' => e = .returned (.bool true) ∧ w'.heap[tb]? = some (.cells #[.int .i64 x] 100 (0, 0)) ∧ Kept [tb] w w' := by
 obtain ⟨f1, f2, o1, o2, rfl, h1, h2⟩ := hc.ex
 have e74 := @run_callFunc_extern Tryz.prog 176 _ (fun args => ReflectliteValue.unpack (args.getD 0 (.tuple #[]))) Tryz.func176 (by kernel_rfl) (by kernel_rfl) (by kernel_rfl) (by kernel_rfl)
 have e75 := @run_callFunc_extern Tryz.prog 177 _ (ReflectliteValue.methodAny (ReflectliteValue.valueError "reflectlite.Value.Type" 0) (fun t _ _ _ => ReflectliteType.toType t)) Tryz.func177 (by kernel_rfl) (by kernel_rfl) (by kernel_rfl) (by kernel_rfl)
 have e76 := @run_callFunc_extern Tryz.prog 178 _ (ReflectliteValue.method (ReflectliteValue.valueError "reflectlite.Value.IsNil" 0) ReflectliteValue.isNil) Tryz.func178 (by kernel_rfl) (by kernel_rfl) (by kernel_rfl) (by kernel_rfl)
 have e126 := @run_callFunc_extern Tryz.prog 217 _ (ReflectliteType.abiMethod fun t => do pure (.int .u8 (← Rtype.kind t))) Tryz.func217 (by kernel_rfl) (by kernel_rfl) (by kernel_rfl) (by kernel_rfl)
 have e144 := @run_callFunc_extern Tryz.prog 288 _ (ReflectliteType.method ReflectliteType.elem) Tryz.func288 (by kernel_rfl) (by kernel_rfl) (by kernel_rfl) (by kernel_rfl)
 have e145 := @run_callFunc_extern Tryz.prog 289 _ (ReflectliteType.relation "Implements" ReflectliteType.implements_) Tryz.func289 (by kernel_rfl) (by kernel_rfl) (by kernel_rfl) (by kernel_rfl)
 have f6 := vOf
 have f7 := tyOf
 have mK := mKind
 have mE := mElem
 have mI := mImpl
 have kP := kPtr
 have kE := kErrno
 have eP := elemP
 have iE := implE
 have k1 := (Kept.refl [] w).alloc (.cells #[.pointer (some ⟨tb, 0, none⟩)] 222)
 have p1 := heap_alloc_new w (.cells #[.pointer (some ⟨tb, 0, none⟩)] 222)
 have k2 := (Kept.refl [] (w.alloc (.cells #[.pointer (some ⟨tb, 0, none⟩)] 222))).alloc (.cells #[.pointer (some ⟨5, 222, none⟩), .pointer (some ⟨w.heap.size, 0, none⟩), .int .u64 150] 233)
 have p2 := k2.get p1 (by simp)
 have n8 := isNilP ⟨w.heap.size, 0, none⟩ ⟨tb, 0, none⟩ _ (cellAt p2 rfl)
 have hg2 : Glob _ := (hg.kept k1 (by simp)).kept k2 (by simp)
 have hg2' := hg2
 unfold Glob at hg2'
 have h12 := k2.get (k1.get h1 (by simp)) (by simp)
 have h22 := k2.get (k1.get h2 (by simp)) (by simp)
 have ht2 := k2.get (k1.get ht (by simp)) (by simp)
 have H := as_chain f1 f2 tb w.heap.size o1 o2 old (.iface 222 (.pointer (some ⟨tb, 0, none⟩))) x _ h12 h22 p2 ht2
 have HH : Hid (Calls _ _ _ _ _) := H
 have k12 := k1.trans k2
 clear H h1 h2 h12 h22 ht ht2 p1 p2 k1 k2 hg hg2
 go_enter Tryz.func164, Tryz.ntmps164
 go_wp2_with (go_at_call 179; refine HH.out.mono ?_; rintro e w' ⟨rfl, ht3, hk3⟩)
 go_ret
 exact ⟨rfl, ht3, (k12.mono (by simp)).trans hk3⟩

theorem PTold_nil (w : World) : Calls Tryz.prog 131 #[.nilIface] w fun e w' => e = .returned (.int .i64 0) ∧ w' = w := by
 go_enter Tryz.func131, Tryz.ntmps131
 go_wp2
 go_ret
 exact ⟨rfl, rfl⟩

theorem PTold_chain (err : Value) (x : Int) (w : World) (hg : Glob w) (hc : Chain w err x) : Calls Tryz.prog 131 #[err] w fun e w' => e = .returned (.int .i64 x) ∧ Kept [] w w' := by
 have k1 := (Kept.refl [] w).alloc (.cells #[.int .i64 0] 100)
 have hc1 : Chain (w.alloc (.cells #[.int .i64 0] 100)) err x := by
  obtain ⟨f1, f2, o1, o2, rfl, h1, h2⟩ := hc.ex
  exact ⟨f1, f2, o1, o2, rfl, k1.get h1 (by simp), k1.get h2 (by simp)⟩
 have H := As_chain err w.heap.size (.int .i64 0) x _ (hg.kept k1 (by simp)) hc1 (heap_alloc_new _ _)
 have HH : Hid (Calls _ _ _ _ _) := H
 obtain ⟨f1, f2, o1, o2, rfl, -, -⟩ := hc.ex
 clear hc hc1 H hg
 go_enter Tryz.func131, Tryz.ntmps131
 go_wp2_with (go_at_call 164; refine HH.out.mono ?_; rintro e w' ⟨rfl, ht3, hk3⟩; have c3 := cellAt (j := 0) ht3 rfl)
 go_ret
 exact ⟨rfl, k1.trans2 hk3 (by intro y hy; simp at hy; subst hy; exact Or.inr (Nat.le_refl _))⟩

end Go.Proofs.YtcklgafpgdhnaaaGreatDoor

namespace Go.Proofs.YtcklgafpgdhnaaaGreatDoor
open Go.RowKit

def rcells (n : Int) (may : Value) (e : Bool) (were : Value) (wd b : Bool) : Array Value := #[.int .i64 n, may, .bool e, were, .bool wd, .bool b]
def nilMaps (k : Nat) : List Value := List.replicate k (.slice none 0 0)
theorem imap : (Tryz.prog.info? 189).map (fun i => (i.zero, i.size, i.bytes)) = some (some (.agg #[.slice none 0 0]), 1, 24) := by kernel_rfl
theorem one_nilMaps (k : Nat) : ∀ u ∈ nilMaps k, u.oneCell' = true := by intro u hu; rw [List.eq_of_mem_replicate hu]; rfl
def Maps (w : World) (v : Value) (k : Nat) : Prop := w.ownsRow 0 189 1 v k (nilMaps k)

theorem Fits_any (n : Nat) (may : Value) (e : Bool) (were : Value) (wd b : Bool) (w : World) :
  Calls Tryz.prog 132 #[.agg (rcells n may e were wd b)] w fun ev w' => ev = .returned (.bool (decide (8 ≤ n ∧ n ≤ 400))) ∧ Kept [] w w' := by
 unfold rcells
 by_cases h8 : 8 ≤ n
 ·by_cases h4 : n ≤ 400
  ·have g8 : (8 : Int) ≤ n := by omega
   have g4 : (n : Int) ≤ 400 := by omega
   go_enter Tryz.func132, Tryz.ntmps132
   go_wp2
   go_ret
   exact ⟨by simp [h8, h4], (Kept.refl _ _).alloc _⟩
  ·have g8 : (8 : Int) ≤ n := by omega
   have g4 : ¬ (n : Int) ≤ 400 := by omega
   have d4 : decide ((n : Int) ≤ 400) = false := by simpa using g4
   go_enter Tryz.func132, Tryz.ntmps132
   go_wp2
   go_ret
   exact ⟨by simp, (Kept.refl _ _).alloc _⟩
 ·have g8 : ¬ (8 : Int) ≤ n := by omega
  have d8 : decide ((8 : Int) ≤ n) = false := by simpa using g8
  go_enter Tryz.func132, Tryz.ntmps132
  go_wp2
  go_ret
  exact ⟨by simp, (Kept.refl _ _).alloc _⟩

end Go.Proofs.YtcklgafpgdhnaaaGreatDoor
