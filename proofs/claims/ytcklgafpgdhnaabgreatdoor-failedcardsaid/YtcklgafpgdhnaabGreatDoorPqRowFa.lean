import Derived.Test.YtcklgafpgdhnaabGreatDoorCards
import Derived.Test.YtcklgafpgdhnaabGreatDoorTie
import Derived.Test.YtcklgafpgdhnaabGreatDoorPqbx
import Derived.Test.YtcklgafpgdhnaabGreatDoorPqby
import Derived.ProofKit
import Derived.OpenShut
import Derived.ChangeSlices
import Derived.ChangeSame
import Derived.ChangeVars
import Derived.ChangeMaps5
import Derived.JoinedOf
import Derived.LaidLaws
import Derived.LaidHandle
import Derived.Lib.LaidTab
import Derived.Deep.Slices
import Derived.Deep.Strs
import Derived.Deep.DeepHandedRow
import Derived.Carry
set_option maxRecDepth 100000
set_option maxHeartbeats 4000000
open Go.Proofs.Tryz
namespace Go.Proofs.YtcklgafpgdhnaabGreatDoor
open Go.ChangeShapes Go.WideShapes Go.ChangeAt Go.RowKit Go.Deep
theorem own : ownKnob prog.godebug = none := by kernel_rfl
theorem QcY : laidOutB prog = true := by kernel_rfl
theorem gErr : prog.globalNamed "errors.errorType" = some 0 := by kernel_rfl
theorem QcZ : (prog.cutTypes.find? (·.1 == "internal/reflectlite.rtype")).map (·.2) = some 165 := by kernel_rfl
theorem Qd0 : ((List.range 291).filter fun t => prog.rowNamed t [101, 114, 114, 111, 114]) = [35] := by kernel_rfl
theorem Qd1 : prog.types.size = 291 := by kernel_rfl
theorem Qd2 {W : World} (h : laidMetH prog Rows.failedRow.laid W) : Glob W /\ Lib.TabIs prog W "internal/strconv.uint64pow10" .u64 Lib.pow10Tab := by
 have h' : laidMet prog [("math/bits.deBruijn32tab", Rows.laid_math_bits_deBruijn32tab), ("math/bits.deBruijn64tab", Rows.laid_math_bits_deBruijn64tab), ("internal/strconv.uint64pow10", Rows.laid_internal_strconv_uint64pow10)] W /\
   handlesMet prog [("errors.errorType", Rows.laid_errors_errorType)] W := h
 constructor
 ·obtain ⟨name, u, ty, e1, e2, e3, e4, e5⟩ := h'.2 _ (List.mem_singleton.2 rfl)
  have en : name = [101, 114, 114, 111, 114] := (Option.some.inj e1).symm
  subst en
  obtain rfl := Option.some.inj (QcZ.symm.trans e2)
  have hm : ty ∈ (List.range 291).filter fun t => prog.rowNamed t [101, 114, 114, 111, 114] := List.mem_filter.2 ⟨List.mem_range.2 (by rw [<- Qd1]; exact e3), e4⟩
  rw [Qd0] at hm
  obtain rfl := List.mem_singleton.1 hm
  have hh : typeHandle prog 35 = .pointer (some ⟨5, 35, none⟩) := by kernel_rfl
  rw [hh] at e5
  unfold Glob
  simpa using World.var?_cell gErr e5 0
 ·obtain ⟨ps, ⟨_, _, _, _, _, _, _, _, _, _, ⟨_, _, _, _, _, _, _, _, _, _, ⟨g', t', cs, fuel, p, q, hg', ht', hvar, hd, _, _⟩, _⟩, _⟩, _⟩ := h'.1
  have hty : (prog.globals[2]?).map (·.type) = some 225 := by kernel_rfl
  obtain rfl := Option.some.inj (gPow.symm.trans hg')
  obtain rfl := Option.some.inj (hty.symm.trans ht')
  have hz : (Rows.laid_internal_strconv_uint64pow10 : DataW Unit) = Lib.tabData .u64 Lib.pow10Tab := by rfl
  rw [hz] at hd
  unfold Lib.TabIs
  rw [hvar, <- Lib.cells_of_tab underlying225 underlying69 (by kernel_rfl) (by kernel_rfl) hd]
noncomputable def Qd3 (os : Os) : World :=
 let w0 := World.holding prog os ⟨#[], #[], []⟩
 let put (h : Array Obj) (b : Nat) (cs : Array Value) : Array Obj := h.modify b fun
   | .cells _ t frozen => .cells cs t frozen
   | o => o
 { w0 with heap := put (put (put (put w0.heap 0 #[.iface 165 (.agg #[.pointer (some ⟨5, 35, none⟩)])]) 3 #[.int .u8 0, .int .u8 1, .int .u8 28, .int .u8 2, .int .u8 29, .int .u8 14, .int .u8 24, .int .u8 3, .int .u8 30, .int .u8 22, .int .u8 20, .int .u8 15, .int .u8 25, .int .u8 17, .int .u8 4, .int .u8 8, .int .u8 31, .int .u8 27, .int .u8 13, .int .u8 23, .int .u8 21, .int .u8 19, .int .u8 16, .int .u8 7, .int .u8 26, .int .u8 12, .int .u8 18, .int .u8 6, .int .u8 11, .int .u8 5, .int .u8 10, .int .u8 9]) 4 #[.int .u8 0, .int .u8 1, .int .u8 56, .int .u8 2, .int .u8 57, .int .u8 49, .int .u8 28, .int .u8 3, .int .u8 61, .int .u8 58, .int .u8 42, .int .u8 50, .int .u8 38, .int .u8 29, .int .u8 17, .int .u8 4, .int .u8 62, .int .u8 47, .int .u8 59, .int .u8 36, .int .u8 45, .int .u8 43, .int .u8 51, .int .u8 22, .int .u8 53, .int .u8 39, .int .u8 33, .int .u8 30, .int .u8 24, .int .u8 18, .int .u8 12, .int .u8 5, .int .u8 63, .int .u8 55, .int .u8 48, .int .u8 27, .int .u8 60, .int .u8 41, .int .u8 37, .int .u8 16, .int .u8 46, .int .u8 35, .int .u8 44, .int .u8 21, .int .u8 52, .int .u8 32, .int .u8 23, .int .u8 11, .int .u8 54, .int .u8 26, .int .u8 40, .int .u8 15, .int .u8 34, .int .u8 20, .int .u8 31, .int .u8 10, .int .u8 25, .int .u8 14, .int .u8 19, .int .u8 9, .int .u8 13, .int .u8 8, .int .u8 7, .int .u8 6]) 2 #[.int .u64 1, .int .u64 10, .int .u64 100, .int .u64 1000, .int .u64 10000, .int .u64 100000, .int .u64 1000000, .int .u64 10000000, .int .u64 100000000, .int .u64 1000000000, .int .u64 10000000000, .int .u64 100000000000, .int .u64 1000000000000, .int .u64 10000000000000, .int .u64 100000000000000, .int .u64 1000000000000000, .int .u64 10000000000000000, .int .u64 100000000000000000, .int .u64 1000000000000000000, .int .u64 10000000000000000000] }
theorem Qd4 (os : Os) : laidMetH prog Rows.failedRow.laid ((Qd3 os).forCall (fun _ _ => 0) ⟨#[], #[.int .i64 0, .int .i64 0, .int .i64 0, .int .i64 0, .slice none 0 0], []⟩).memory :=
 laidMetH_of_parts (laidMet_of_run' 8 (by kernel_rfl) (by kernel_rfl)) (by kernel_rfl)
theorem Qd5 (os : Os) {H : Type} (enc : TypeId × Value -> H) : ∃ places, DataW.whole enc prog ((Qd3 os).forCall (fun _ _ => 0) ⟨#[], #[.int .i64 0, .int .i64 0, .int .i64 0, .int .i64 0, .slice none 0 0], []⟩).memory Tryz.f4.params.toList Rows.failedSpec.vars false #[Value.int .i64 0, .int .i64 0, .int .i64 0, .int .i64 0, .slice none 0 0].toList 8 = some ([.lit (.int .i64 0), .lit (.int .i64 0), .lit (.int .i64 0), .lit (.int .i64 0), .nil], [], places) :=
 ⟨[], by kernel_rfl⟩
theorem Zh {z : Int} (hz : (Lit.int .i64 z).wf = true) : -9223372036854775808 <= z /\ z <= 9223372036854775807 := by
 simp only [Lit.wf, Bool.and_eq_true, decide_eq_true_eq] at hz
 have h1 : IntKind.min .i64 = -9223372036854775808 := by decide
 have h2 : IntKind.max .i64 = 9223372036854775807 := by decide
 rw [h1, h2] at hz
 exact hz
theorem Qd6 (H : Type) (enc : TypeId × Value -> H) (W : World) (base : Nat) (args : Array Value) (ds gs : List (DataW H)) (before : List MemPlace)
  (hval : ∀ (j : Nat) t v, Tryz.f4.params[j]? = some t -> args[j]? = some v -> Value.okWide prog W .any base t v)
  (hW : DataW.Whole enc prog Tryz.f4.params.toList Rows.failedSpec.vars false W args.toList ds gs before) (hL : laidMetH prog Rows.failedRow.laid W) (hS : W.ShapedOpen prog) :
  Calls prog 4 args W fun e W' => ∃ v, e = .returned v /\ Rows.failedSpec.post enc prog Tryz.f4 false true false false W args v W' := by
 have hW' := hW
 obtain ⟨p, q, hA0, hV, rfl, _, _⟩ := hW
 have hA : DataW.TrodAll enc prog W 0 (fun _ => true) true Tryz.f4.params.toList args.toList ds p := hA0
 rw [params4] at hA hval
 obtain ⟨v0, v1, v2, v3, v4, d0, d1, d2, d3, d4, p0, p1, p2, p3, p4, rfl, rfl, rfl, h0, h1, h2, h3, h4⟩ := QcO hA
 obtain ⟨rfl, rfl⟩ := trodVars_none hV
 clear hA0
 simp only [List.append_nil] at hW'
 obtain ⟨hG, hTb⟩ := Qd2 hL
 obtain ⟨cs, hrow⟩ := QcX hS
 have hT := QcW hrow hTb
 have hlt : ∀ x ∈ p0 ++ p1 ++ p2 ++ p3 ++ p4, x.block < W.heap.size := fun x hx => hW'.lt x (by simpa using hx)
 obtain ⟨x0, rfl, _, hp0, hx0⟩ := open_int underlying3 (hval 0 3 v0 rfl rfl) h0
 obtain ⟨x1, rfl, _, hp1, hx1⟩ := open_int underlying3 (hval 1 3 v1 rfl rfl) h1
 obtain ⟨x2, rfl, _, hp2, hx2⟩ := open_int underlying3 (hval 2 3 v2 rfl rfl) h2
 obtain ⟨x3, rfl, _, hp3, hx3⟩ := open_int underlying3 (hval 3 3 v3 rfl rfl) h3
 have hl4 := QcS (hval 4 22 v4 rfl rfl) h4
 refine (QcN x0 x1 x2 x3 v4 W (Zh hx0).1 (Zh hx0).2 (Zh hx1).1 (Zh hx1).2 (Zh hx2).1 (Zh hx2).2 (Zh hx3).1 (Zh hx3).2 hl4 hG hT).mono ?_
 rintro e W' ⟨rfl, hk⟩
 exact ⟨_, rfl, ⟨_, _, _, [], _, [], hW', trodAll_mk1 (shut_bool underlying4 true), QcP (Below.trod QcY (by kernel_rfl) (of_decide_eq_true (by kernel_rfl)) h0 hk.below (by rw [hp0]; simp)) (Below.trod QcY (by kernel_rfl) (of_decide_eq_true (by kernel_rfl)) h1 hk.below (by rw [hp1]; simp)) (Below.trod QcY (by kernel_rfl) (of_decide_eq_true (by kernel_rfl)) h2 hk.below (by rw [hp2]; simp)) (Below.trod QcY (by kernel_rfl) (of_decide_eq_true (by kernel_rfl)) h3 hk.below (by rw [hp3]; simp)) (Below.trod QcY (by kernel_rfl) (of_decide_eq_true (by kernel_rfl)) h4 hk.below (fun x hx => hlt x (by simp [hx]))), rfl, hk.below.frame _, fun h => by cases h⟩⟩
theorem Qd7 (os : Os) (started : os.Started) (H : Type) (enc : TypeId × Value -> H) (F : Stop.Interp) :
  ReturnsInHanded {} Tryz.checked os 4 .any ((OpenSpec.ofChange Rows.failedSpec).preRow enc prog Tryz.f4 Rows.failedRow.domain false Rows.failedRow.laid) (((OpenSpec.ofChange Rows.failedSpec).at F).post enc prog Tryz.f4 false true false false) := by
 obtain ⟨places, hx⟩ := Qd5 os enc
 refine returnsInHanded_of_row (C := Tryz.checked) (s := OpenSpec.ofChange Rows.failedSpec) own started (by kernel_rfl) func4
  (witness_row_at (enc := enc) (C := Tryz.checked) false (Qd3 os) #[.int .i64 0, .int .i64 0, .int .i64 0, .int .i64 0, .slice none 0 0] rfl (by kernel_rfl) (by kernel_rfl) (by kernel_rfl)
   (OpenSpec.preRow_of_cond 8 hx (by kernel_rfl) (fun k hk => by cases hk) (by kernel_rfl) (Qd4 os))) ?_
 intro W base args ds gs before hval hW _ _ _ hL hS _
 exact Qd6 H enc W base args ds gs before hval hW hL hS
theorem said : Rows.FailedSaid :=
 OpenClaim.holds_of_cond 4 Tryz.f4 rfl rfl rfl rfl rfl rfl rfl ⟨rfl, rfl, rfl, rfl, rfl⟩ rfl rfl rfl rfl rfl (by kernel_rfl) func4 (by kernel_rfl)
  (of_decide_eq_true (by kernel_rfl)) (by unfold Func.isWrapper; first | (rw [if_pos (by decide +kernel)]; kernel_rfl) | (rw [if_neg (by decide +kernel)]; exact ⟨rfl, rfl⟩))
  (fun os started H enc _ F => by rw [OpenClaim.pre_eq_preRow]; exact Qd7 os started H enc F)
theorem Qd8 (f : FuncId) (fn : Func) (hf : Tryz.pinned.checked.prog.funcNamed "store/storekeep.Failed" = some f) (hfn : Tryz.pinned.checked.prog.funcs[f]? = some fn) :
  true = Tryz.pinned.checked.prog.looks [] /\ ∀ (j : Nat) t, fn.params[j]? = some t -> Tryz.pinned.checked.prog.wantsStandIn t = false := by
 obtain rfl : f = 4 := Option.some.inj ((show prog.funcNamed "store/storekeep.Failed" = some 4 by kernel_rfl).symm.trans hf) |>.symm
 obtain rfl : fn = Tryz.f4 := (Option.some.inj (func4.symm.trans hfn)).symm
 refine ⟨by kernel_rfl, fun j t ht => ?_⟩
 rw [params4] at ht
 have hm : t = 3 \/ t = 22 := by
  have := Array.mem_of_getElem? ht
  simp at this
  rcases this with h | h
  ·exact Or.inl h
  ·exact Or.inr h
 rcases hm with rfl | rfl
 ·exact (show prog.wantsStandIn 3 = false by kernel_rfl)
 ·exact (show prog.wantsStandIn 22 = false by kernel_rfl)
theorem failed_card_holds : Rows.FailedCardSaid :=
 Claim7.holds_tied_plain_at .later [] _ _ _ _ said (fun _ h => by cases h) (by kernel_rfl) (fun _ h => by cases h) failed_row_tie rfl ⟨rfl, rfl⟩ (by kernel_rfl) rfl Qd8 (by kernel_rfl)
#print axioms failed_card_holds
end Go.Proofs.YtcklgafpgdhnaabGreatDoor
