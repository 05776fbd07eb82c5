import Derived.Test.YtcklgafpgdhnaaaGreatDoorCards
import Derived.Test.YtcklgafpgdhnaaaGreatDoorTie
import Derived.Test.YtcklgafpgdhnaaaGreatDoorPsbn
import Derived.ProofKit
import Derived.OpenShut
import Derived.ChangeSlices
import Derived.ChangeSame
import Derived.ChangeVars
import Derived.ChangeMaps5
import Derived.JoinedOf
import Derived.LaidLaws
import Derived.LaidHandle
import Derived.Lib.LaidTab
import Derived.Deep.Slices
import Derived.Deep.Strs
import Derived.Deep.DeepHandedRow
import Derived.Carry
set_option maxRecDepth 100000
set_option maxHeartbeats 4000000
open Go.Proofs.Tryz
namespace Go.Proofs.YtcklgafpgdhnaaaGreatDoor
open Go.ChangeShapes Go.WideShapes Go.ChangeAt Go.RowKit Go.Deep
theorem own : ownKnob prog.godebug = none := by kernel_rfl
theorem Qex : laidOutB prog = true := by kernel_rfl
noncomputable def Qey (os : Os) : World :=
 let w0 := World.holding prog os ⟨#[], #[], []⟩
 let put (h : Array Obj) (b : Nat) (cs : Array Value) : Array Obj := h.modify b fun
   | .cells _ t frozen => .cells cs t frozen
   | o => o
 { w0 with heap := put (put (put (put w0.heap 1 #[.iface 254 (.agg #[.pointer (some ⟨5, 35, none⟩)])]) 3 #[.int .u8 0, .int .u8 1, .int .u8 28, .int .u8 2, .int .u8 29, .int .u8 14, .int .u8 24, .int .u8 3, .int .u8 30, .int .u8 22, .int .u8 20, .int .u8 15, .int .u8 25, .int .u8 17, .int .u8 4, .int .u8 8, .int .u8 31, .int .u8 27, .int .u8 13, .int .u8 23, .int .u8 21, .int .u8 19, .int .u8 16, .int .u8 7, .int .u8 26, .int .u8 12, .int .u8 18, .int .u8 6, .int .u8 11, .int .u8 5, .int .u8 10, .int .u8 9]) 4 #[.int .u8 0, .int .u8 1, .int .u8 56, .int .u8 2, .int .u8 57, .int .u8 49, .int .u8 28, .int .u8 3, .int .u8 61, .int .u8 58, .int .u8 42, .int .u8 50, .int .u8 38, .int .u8 29, .int .u8 17, .int .u8 4, .int .u8 62, .int .u8 47, .int .u8 59, .int .u8 36, .int .u8 45, .int .u8 43, .int .u8 51, .int .u8 22, .int .u8 53, .int .u8 39, .int .u8 33, .int .u8 30, .int .u8 24, .int .u8 18, .int .u8 12, .int .u8 5, .int .u8 63, .int .u8 55, .int .u8 48, .int .u8 27, .int .u8 60, .int .u8 41, .int .u8 37, .int .u8 16, .int .u8 46, .int .u8 35, .int .u8 44, .int .u8 21, .int .u8 52, .int .u8 32, .int .u8 23, .int .u8 11, .int .u8 54, .int .u8 26, .int .u8 40, .int .u8 15, .int .u8 34, .int .u8 20, .int .u8 31, .int .u8 10, .int .u8 25, .int .u8 14, .int .u8 19, .int .u8 9, .int .u8 13, .int .u8 8, .int .u8 7, .int .u8 6]) 2 #[.int .u64 1, .int .u64 10, .int .u64 100, .int .u64 1000, .int .u64 10000, .int .u64 100000, .int .u64 1000000, .int .u64 10000000, .int .u64 100000000, .int .u64 1000000000, .int .u64 10000000000, .int .u64 100000000000, .int .u64 1000000000000, .int .u64 10000000000000, .int .u64 100000000000000, .int .u64 1000000000000000, .int .u64 10000000000000000, .int .u64 100000000000000000, .int .u64 1000000000000000000, .int .u64 10000000000000000000] }
theorem Qez (os : Os) : laidMetH prog Rows.sortedRow.laid ((Qey os).forCall (fun _ _ => 0) ⟨#[], #[.int .i64 0, .string ⟨#[]⟩, .string ⟨#[]⟩, .int .i64 0], []⟩).memory :=
 laidMetH_of_parts (laidMet_of_run' 8 (by kernel_rfl) (by kernel_rfl)) (by kernel_rfl)
theorem QeA (os : Os) {H : Type} (enc : TypeId × Value -> H) : ∃ places, DataW.whole enc prog ((Qey os).forCall (fun _ _ => 0) ⟨#[], #[.int .i64 0, .string ⟨#[]⟩, .string ⟨#[]⟩, .int .i64 0], []⟩).memory Tryz.f10.params.toList Rows.sortedSpec.vars false #[Value.int .i64 0, .string ⟨#[]⟩, .string ⟨#[]⟩, .int .i64 0].toList 8 = some ([.lit (.int .i64 0), .lit (.string []), .lit (.string []), .lit (.int .i64 0)], [], places) :=
 ⟨[], by kernel_rfl⟩
theorem QeB {z : Int} (hz : (Lit.int .i64 z).wf = true) : -9223372036854775808 <= z /\ z <= 9223372036854775807 := by
 simp only [Lit.wf, Bool.and_eq_true, decide_eq_true_eq] at hz
 have h1 : IntKind.min .i64 = -9223372036854775808 := by decide
 have h2 : IntKind.max .i64 = 9223372036854775807 := by decide
 rw [h1, h2] at hz
 exact hz
theorem QeC (H : Type) (enc : TypeId × Value -> H) (W : World) (base : Nat) (args : Array Value) (ds gs : List (DataW H)) (before : List MemPlace)
  (hval : ∀ (j : Nat) t v, Tryz.f10.params[j]? = some t -> args[j]? = some v -> Value.okWide prog W .any base t v)
  (hW : DataW.Whole enc prog Tryz.f10.params.toList Rows.sortedSpec.vars false W args.toList ds gs before) (_ : laidMetH prog Rows.sortedRow.laid W) (_ : W.ShapedOpen prog) :
  Calls prog 10 args W fun e W' => ∃ v, e = .returned v /\ Rows.sortedSpec.post enc prog Tryz.f10 false true false false W args v W' := by
 have hW' := hW
 obtain ⟨p, q, hA0, hV, rfl, _, _⟩ := hW
 have hA : DataW.TrodAll enc prog W 0 (fun _ => true) true Tryz.f10.params.toList args.toList ds p := hA0
 rw [params10] at hA hval
 obtain ⟨v0, v1, v2, v3, d0, d1, d2, d3, p0, p1, p2, p3, rfl, rfl, rfl, h0, h1, h2, h3⟩ := trodAll_four hA
 obtain ⟨rfl, rfl⟩ := trodVars_none hV
 clear hA0
 simp only [List.append_nil] at hW'
 obtain ⟨x0, rfl, _, hp0, hx0⟩ := open_int underlying3 (hval 0 3 v0 rfl rfl) h0
 obtain ⟨x1, rfl, _, hp1, _⟩ := Go.ChangeMaps.open_string underlying9 (hval 1 9 v1 rfl rfl) h1
 obtain ⟨x2, rfl, _, hp2, _⟩ := Go.ChangeMaps.open_string underlying9 (hval 2 9 v2 rfl rfl) h2
 obtain ⟨x3, rfl, _, hp3, hx3⟩ := open_int underlying3 (hval 3 3 v3 rfl rfl) h3
 refine (Qew x0 x1 x2 x3 W (QeB hx0).1 (QeB hx0).2 (QeB hx3).1 (QeB hx3).2).mono ?_
 rintro e W' ⟨rfl, hk⟩
 exact ⟨_, rfl, ⟨_, _, _, [], _, [], hW', trodAll_mk1 (shut_bool underlying4 true), trodAll_mk4 (Below.trod Qex (by kernel_rfl) (of_decide_eq_true (by kernel_rfl)) h0 hk.below (by rw [hp0]; simp)) (Below.trod Qex (by kernel_rfl) (of_decide_eq_true (by kernel_rfl)) h1 hk.below (by rw [hp1]; simp)) (Below.trod Qex (by kernel_rfl) (of_decide_eq_true (by kernel_rfl)) h2 hk.below (by rw [hp2]; simp)) (Below.trod Qex (by kernel_rfl) (of_decide_eq_true (by kernel_rfl)) h3 hk.below (by rw [hp3]; simp)), rfl, hk.below.frame _, fun h => by cases h⟩⟩
theorem QeD (os : Os) (started : os.Started) (H : Type) (enc : TypeId × Value -> H) (F : Stop.Interp) :
  ReturnsInHanded {} Tryz.checked os 10 .any ((OpenSpec.ofChange Rows.sortedSpec).preRow enc prog Tryz.f10 Rows.sortedRow.domain false Rows.sortedRow.laid) (((OpenSpec.ofChange Rows.sortedSpec).at F).post enc prog Tryz.f10 false true false false) := by
 obtain ⟨places, hx⟩ := QeA os enc
 refine returnsInHanded_of_row (C := Tryz.checked) (s := OpenSpec.ofChange Rows.sortedSpec) own started (by kernel_rfl) func10
  (witness_row_at (enc := enc) (C := Tryz.checked) false (Qey os) #[.int .i64 0, .string ⟨#[]⟩, .string ⟨#[]⟩, .int .i64 0] rfl (by kernel_rfl) (by kernel_rfl) (by kernel_rfl)
   (OpenSpec.preRow_of_cond 8 hx (by kernel_rfl) (fun k hk => by cases hk) (by kernel_rfl) (Qez os))) ?_
 intro W base args ds gs before hval hW _ _ _ hL hS _
 exact QeC H enc W base args ds gs before hval hW hL hS
theorem said : Rows.SortedSaid :=
 OpenClaim.holds_of_cond 10 Tryz.f10 rfl rfl rfl rfl rfl rfl rfl ⟨rfl, rfl, rfl, rfl, rfl⟩ rfl rfl rfl rfl rfl (by kernel_rfl) func10 (by kernel_rfl)
  (of_decide_eq_true (by kernel_rfl)) (by unfold Func.isWrapper; first | (rw [if_pos (by decide +kernel)]; kernel_rfl) | (rw [if_neg (by decide +kernel)]; exact ⟨rfl, rfl⟩))
  (fun os started H enc _ F => by rw [OpenClaim.pre_eq_preRow]; exact QeD os started H enc F)
theorem QeE (f : FuncId) (fn : Func) (hf : Tryz.pinned.checked.prog.funcNamed "store/storekeep.Sorted" = some f) (hfn : Tryz.pinned.checked.prog.funcs[f]? = some fn) :
  true = Tryz.pinned.checked.prog.looks [] /\ ∀ (j : Nat) t, fn.params[j]? = some t -> Tryz.pinned.checked.prog.wantsStandIn t = false := by
 obtain rfl : f = 10 := Option.some.inj ((show prog.funcNamed "store/storekeep.Sorted" = some 10 by kernel_rfl).symm.trans hf) |>.symm
 obtain rfl : fn = Tryz.f10 := (Option.some.inj (func10.symm.trans hfn)).symm
 refine ⟨by kernel_rfl, fun j t ht => ?_⟩
 rw [params10] at ht
 have hm : t = 3 \/ t = 9 := by
  have := Array.mem_of_getElem? ht
  simp at this
  rcases this with h | h | h
  ·exact Or.inl h
  ·exact Or.inr h
  ·exact Or.inl h
 rcases hm with rfl | rfl
 ·exact (show prog.wantsStandIn 3 = false by kernel_rfl)
 ·exact (show prog.wantsStandIn 9 = false by kernel_rfl)
theorem sorted_card_holds : Rows.SortedCardSaid :=
 Claim7.holds_tied_plain_at .later [] _ _ _ _ said (fun _ h => by cases h) (by kernel_rfl) (fun _ h => by cases h) sorted_row_tie rfl ⟨rfl, rfl⟩ (by kernel_rfl) rfl QeE (by kernel_rfl)
#print axioms sorted_card_holds
end Go.Proofs.YtcklgafpgdhnaaaGreatDoor
