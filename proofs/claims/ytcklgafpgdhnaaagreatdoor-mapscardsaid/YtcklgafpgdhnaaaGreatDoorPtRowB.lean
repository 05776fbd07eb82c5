import Derived.Test.YtcklgafpgdhnaaaGreatDoorCards
import Derived.Test.YtcklgafpgdhnaaaGreatDoorTie
import Derived.Test.YtcklgafpgdhnaaaGreatDoorPtap
import Derived.Test.YtcklgafpgdhnaaaGreatDoorPtbv
import Derived.ProofKit
import Derived.OpenShut
import Derived.ChangeSlices
import Derived.ChangeSame
import Derived.ChangeVars
import Derived.JoinedOf
import Derived.LaidLaws
import Derived.LaidHandle
import Derived.Deep.Slices
import Derived.Deep.Strs
import Derived.Deep.DeepHandedRow
import Derived.Carry
set_option maxRecDepth 100000
set_option maxHeartbeats 4000000
open List renaming getElem_toArray → zA, getElem_cons_succ → zB, getElem_cons_zero → zC, setIfInBounds_toArray → zD, set_cons_succ → zE, set_cons_zero → zF
namespace Go.Proofs.YtcklgafpgdhnaaaGreatDoor
open Go.ChangeShapes Go.WideShapes Go.ChangeAt Go.RowKit Go.Deep

theorem own : ownKnob Tryz.prog.godebug = none := by kernel_rfl
theorem laidOut : laidOutB Tryz.prog = true := by kernel_rfl
theorem gErr : Tryz.prog.globalNamed "errors.errorType" = some 1 := by kernel_rfl
theorem rtRow : (Tryz.prog.cutTypes.find? (·.1 == "internal/reflectlite.rtype")).map (·.2) = some 254 := by kernel_rfl
theorem oneRow : ((List.range 333).filter fun t => Tryz.prog.rowNamed t [101, 114, 114, 111, 114]) = [35] := by kernel_rfl
theorem nTypes : Tryz.prog.types.size = 333 := by kernel_rfl
theorem cellsOp : Tryz.prog.cellsOf 64 = 6 := by kernel_rfl
theorem cellsInt : Tryz.prog.cellsOf 3 = 1 := by kernel_rfl
theorem cellsStr : Tryz.prog.cellsOf 9 = 1 := by kernel_rfl

theorem glob_of_laid {W : World} (h : laidMetH Tryz.prog Rows.mapsRow.laid W) : Glob W := by
 have h' : laidMet Tryz.prog [("math/bits.deBruijn32tab", Rows.laid_math_bits_deBruijn32tab), ("math/bits.deBruijn64tab", Rows.laid_math_bits_deBruijn64tab), ("internal/strconv.uint64pow10", Rows.laid_internal_strconv_uint64pow10)] W ∧
   handlesMet Tryz.prog [("errors.errorType", Rows.laid_errors_errorType)] W := h
 obtain ⟨name, u, ty, e1, e2, e3, e4, e5⟩ := h'.2 _ (List.mem_singleton.2 rfl)
 have en : name = [101, 114, 114, 111, 114] := (Option.some.inj e1).symm
 subst en
 obtain rfl := Option.some.inj (rtRow.symm.trans e2)
 have hm : ty ∈ (List.range 333).filter fun t => Tryz.prog.rowNamed t [101, 114, 114, 111, 114] := List.mem_filter.2 ⟨List.mem_range.2 (by rw [← nTypes]; exact e3), e4⟩
 rw [oneRow] at hm
 obtain rfl := List.mem_singleton.1 hm
 have hh : typeHandle Tryz.prog 35 = .pointer (some ⟨5, 35, none⟩) := by kernel_rfl
 rw [hh] at e5
 unfold Glob
 simpa using World.var?_cell gErr e5 0

noncomputable def laidWorld (os : Os) : World :=
 let w0 := World.holding Tryz.prog os ⟨#[], #[], []⟩
 let put (h : Array Obj) (b : Nat) (cs : Array Value) : Array Obj := h.modify b fun
   | .cells _ t frozen => .cells cs t frozen
   | o => o
 { w0 with heap := put (put (put (put w0.heap 1 #[.iface 254 (.agg #[.pointer (some ⟨5, 35, none⟩)])]) 3 #[.int .u8 0, .int .u8 1, .int .u8 28, .int .u8 2, .int .u8 29, .int .u8 14, .int .u8 24, .int .u8 3, .int .u8 30, .int .u8 22, .int .u8 20, .int .u8 15, .int .u8 25, .int .u8 17, .int .u8 4, .int .u8 8, .int .u8 31, .int .u8 27, .int .u8 13, .int .u8 23, .int .u8 21, .int .u8 19, .int .u8 16, .int .u8 7, .int .u8 26, .int .u8 12, .int .u8 18, .int .u8 6, .int .u8 11, .int .u8 5, .int .u8 10, .int .u8 9]) 4 #[.int .u8 0, .int .u8 1, .int .u8 56, .int .u8 2, .int .u8 57, .int .u8 49, .int .u8 28, .int .u8 3, .int .u8 61, .int .u8 58, .int .u8 42, .int .u8 50, .int .u8 38, .int .u8 29, .int .u8 17, .int .u8 4, .int .u8 62, .int .u8 47, .int .u8 59, .int .u8 36, .int .u8 45, .int .u8 43, .int .u8 51, .int .u8 22, .int .u8 53, .int .u8 39, .int .u8 33, .int .u8 30, .int .u8 24, .int .u8 18, .int .u8 12, .int .u8 5, .int .u8 63, .int .u8 55, .int .u8 48, .int .u8 27, .int .u8 60, .int .u8 41, .int .u8 37, .int .u8 16, .int .u8 46, .int .u8 35, .int .u8 44, .int .u8 21, .int .u8 52, .int .u8 32, .int .u8 23, .int .u8 11, .int .u8 54, .int .u8 26, .int .u8 40, .int .u8 15, .int .u8 34, .int .u8 20, .int .u8 31, .int .u8 10, .int .u8 25, .int .u8 14, .int .u8 19, .int .u8 9, .int .u8 13, .int .u8 8, .int .u8 7, .int .u8 6]) 2 #[.int .u64 1, .int .u64 10, .int .u64 100, .int .u64 1000, .int .u64 10000, .int .u64 100000, .int .u64 1000000, .int .u64 10000000, .int .u64 100000000, .int .u64 1000000000, .int .u64 10000000000, .int .u64 100000000000, .int .u64 1000000000000, .int .u64 10000000000000, .int .u64 100000000000000, .int .u64 1000000000000000, .int .u64 10000000000000000, .int .u64 100000000000000000, .int .u64 1000000000000000000, .int .u64 10000000000000000000] }

theorem laid_met (os : Os) : laidMetH Tryz.prog Rows.mapsRow.laid ((laidWorld os).forCall (fun _ _ => 0) ⟨#[], #[.slice none 0 0], []⟩).memory :=
 laidMetH_of_parts (laidMet_of_run' 8 (by kernel_rfl) (by kernel_rfl)) (by kernel_rfl)

theorem reads (os : Os) {H : Type} (enc : TypeId × Value → H) : ∃ places, DataW.whole enc Tryz.prog ((laidWorld os).forCall (fun _ _ => 0) ⟨#[], #[.slice none 0 0], []⟩).memory Tryz.f4.params.toList Rows.mapsSpec.vars false #[Value.slice none 0 0].toList 8 = some ([.nil], [], places) :=
 ⟨[], by kernel_rfl⟩


theorem op_of {H : Type} {enc : TypeId × Value → H} {W : World} {base n i : Nat} {a : Addr} {spare : Nat → Bool} {x : DataW H × List MemPlace} {cs : List Value} (hc : W.cells? base (a.add (i * 6)) 6 = some cs) (ht : DataW.trod enc Tryz.prog W base spare true n 64 cs = some x) :
  ∃ o : Op6, o.ok ∧ ∀ (j : Nat) (v : Value), o.cells[j]? = some v → W.cell? ((a.add (i * 6)).add j) = some v := by
 obtain ⟨_, hl, hcell⟩ := World.cells?_some hc
 obtain ⟨xs, m, _, _, _, hlen, hf⟩ := DataW.trod_struct Tryz.underlying64 ht
 match cs, hl, xs, hlen with
 | [c0, c1, c2, c3, c4, c5], _, [y0, y1, y2, y3, y4, y5], _ =>
  have f0 : DataW.trod enc Tryz.prog W base spare true m 3 (List.take (Tryz.prog.cellsOf 3) (List.drop 0 [c0, c1, c2, c3, c4, c5])) = [y0, y1, y2, y3, y4, y5][0]? := hf 0 _ rfl
  rw [cellsInt] at f0
  have f1 : DataW.trod enc Tryz.prog W base spare true m 3 (List.take (Tryz.prog.cellsOf 3) (List.drop 1 [c0, c1, c2, c3, c4, c5])) = [y0, y1, y2, y3, y4, y5][1]? := hf 1 _ rfl
  rw [cellsInt] at f1
  have f2 : DataW.trod enc Tryz.prog W base spare true m 3 (List.take (Tryz.prog.cellsOf 3) (List.drop 2 [c0, c1, c2, c3, c4, c5])) = [y0, y1, y2, y3, y4, y5][2]? := hf 2 _ rfl
  rw [cellsInt] at f2
  have f3 : DataW.trod enc Tryz.prog W base spare true m 3 (List.take (Tryz.prog.cellsOf 3) (List.drop 3 [c0, c1, c2, c3, c4, c5])) = [y0, y1, y2, y3, y4, y5][3]? := hf 3 _ rfl
  rw [cellsInt] at f3
  have f4 : DataW.trod enc Tryz.prog W base spare true m 9 (List.take (Tryz.prog.cellsOf 9) (List.drop 4 [c0, c1, c2, c3, c4, c5])) = [y0, y1, y2, y3, y4, y5][4]? := hf 4 _ rfl
  rw [cellsStr] at f4
  have f5 : DataW.trod enc Tryz.prog W base spare true m 9 (List.take (Tryz.prog.cellsOf 9) (List.drop 5 [c0, c1, c2, c3, c4, c5])) = [y0, y1, y2, y3, y4, y5][5]? := hf 5 _ rfl
  rw [cellsStr] at f5
  simp only [List.drop_zero, List.drop_succ_cons, List.take_succ_cons, List.take_zero, List.getElem?_cons_zero, List.getElem?_cons_succ] at f0 f1 f2 f3 f4 f5
  obtain ⟨K, e0, _, k0⟩ := DataW.trod_int Tryz.underlying3 f0
  obtain ⟨X, e1, _, k1⟩ := DataW.trod_int Tryz.underlying3 f1
  obtain ⟨A, e2, _, k2⟩ := DataW.trod_int Tryz.underlying3 f2
  obtain ⟨B, e3, _, k3⟩ := DataW.trod_int Tryz.underlying3 f3
  obtain ⟨s, e4, _⟩ := DataW.trod_string Tryz.underlying9 f4
  obtain ⟨t, e5, _⟩ := DataW.trod_string Tryz.underlying9 f5
  have hw : ∀ z : Int, (Lit.int .i64 z).wf = true → I64 z := by
   intro z hz
   simp only [Lit.wf, Bool.and_eq_true, decide_eq_true_eq] at hz
   have h1 : IntKind.min .i64 = -9223372036854775808 := by decide
   have h2 : IntKind.max .i64 = 9223372036854775807 := by decide
   rw [h1, h2] at hz
   exact hz
  refine ⟨⟨K, X, A, B, s, t⟩, ⟨hw _ k0, hw _ k1, hw _ k2, hw _ k3⟩, ?_⟩
  intro j v hv
  have hj : j < 6 := by have := (List.getElem?_eq_some_iff.1 hv).1; simpa [Op6.cells] using this
  rw [hcell j hj, ← hv]
  simp only [List.cons.injEq, and_true] at e0 e1 e2 e3 e4 e5
  subst e0 e1 e2 e3 e4 e5
  rfl

theorem contract (H : Type) (enc : TypeId × Value → H) (W : World) (base : Nat) (args : Array Value) (ds gs : List (DataW H)) (before : List MemPlace)
  (hval : ∀ (j : Nat) t v, Tryz.f4.params[j]? = some t → args[j]? = some v → Value.okWide Tryz.prog W .any base t v)
  (hW : DataW.Whole enc Tryz.prog Tryz.f4.params.toList Rows.mapsSpec.vars false W args.toList ds gs before) (hL : laidMetH Tryz.prog Rows.mapsRow.laid W) :
  Calls Tryz.prog 4 args W fun e W' => ∃ v, e = .returned v ∧ Rows.mapsSpec.post enc Tryz.prog Tryz.f4 false true false false W args v W' := by
 have hW' := hW
 obtain ⟨p, q, hA0, hV, rfl, _, _⟩ := hW
 have hA : DataW.TrodAll enc Tryz.prog W 0 (fun _ => true) true Tryz.f4.params.toList args.toList ds p := hA0
 rw [Tryz.params4] at hA hval
 obtain ⟨v0, d0, rfl, rfl, h0⟩ := trodAll_one hA
 obtain ⟨rfl, rfl⟩ := trodVars_none hV
 have h0k := h0
 obtain ⟨fuel, hf⟩ := h0
 clear hA0
 simp only [List.append_nil] at hW'
 have hlt : ∀ x ∈ p, x.block < W.heap.size := fun x hx => by simpa using hW'.lt x hx
 have hG := glob_of_laid hL
 have fin : ∀ e W', TrueR W e W' → ∃ v, e = .returned v ∧ Rows.mapsSpec.post enc Tryz.prog Tryz.f4 false true false false W #[v0] v W' := by
  rintro e W' ⟨rfl, hk⟩
  exact ⟨_, rfl, ⟨_, _, _, [], _, [], hW', trodAll_mk1 (shut_bool Tryz.underlying4 true), trodAll_mk1 (Below.trod laidOut (by kernel_rfl) (of_decide_eq_true (by kernel_rfl)) h0k hk.below hlt), rfl, hk.below.frame _, fun h => by cases h⟩⟩
 rcases open_slice Tryz.underlying22 hf with ⟨hcs, _⟩ | ⟨a, len, cap, m, n, D, Pl, hcs, _, hl, _, hmm, _, hel⟩
 ·obtain ⟨a0, len, cap, rfl⟩ := okWide_slice Tryz.underlying22 (hval 0 22 v0 rfl rfl)
  simp [Value.cells] at hcs
  obtain ⟨rfl, rfl, rfl⟩ := hcs
  exact (Maps_none none 0 W).mono fin
 ·obtain ⟨a0, len', cap', rfl⟩ := okWide_slice Tryz.underlying22 (hval 0 22 v0 rfl rfl)
  simp [Value.cells] at hcs
  obtain ⟨rfl, rfl, rfl⟩ := hcs
  simp only [if_true] at hmm
  subst hmm
  have hin : Inhabited Op6 := ⟨⟨0, 0, 0, 0, ByteArray.empty, ByteArray.empty⟩⟩
  obtain ⟨O, hO⟩ := choose_lt (α := Op6) (n := len') (p := fun i o => o.ok ∧ ∀ (j : Nat) (v : Value), o.cells[j]? = some v → W.cell? ((a.add (i * 6)).add j) = some v) (by
   intro i hi
   obtain ⟨cs, hc, ht⟩ := hel i (by omega)
   rw [cellsOp] at hc
   exact op_of hc ht)
  have hlen : ((List.range len').map O).length = len' := by simp
  have hsc : Scr W a ((List.range len').map O) := by
   intro i o hi
   rw [List.getElem?_map] at hi
   obtain ⟨i', hi', rfl⟩ := Option.map_eq_some_iff.1 hi
   have hlt' : i < len' := by have := (List.getElem?_eq_some_iff.1 hi').1; simpa using this
   rw [List.getElem?_range hlt'] at hi'
   cases hi'
   exact (hO i hlt').2
  have hok : ∀ o ∈ (List.range len').map O, o.ok := by
   intro o ho
   obtain ⟨i, hi, rfl⟩ := List.mem_map.1 ho
   exact (hO i (List.mem_range.1 hi)).1
  have h := fun c => Maps_some stores a c ((List.range len').map O) W hG hsc hok
  simp only [hlen] at h
  exact (h _).mono fin

theorem lifted (os : Os) (started : os.Started) (H : Type) (enc : TypeId × Value → H) (F : Stop.Interp) :
  ReturnsInHanded {} Tryz.checked os 4 .any ((OpenSpec.ofChange Rows.mapsSpec).preRow enc Tryz.prog Tryz.f4 Rows.mapsRow.domain false Rows.mapsRow.laid) (((OpenSpec.ofChange Rows.mapsSpec).at F).post enc Tryz.prog Tryz.f4 false true false false) := by
 obtain ⟨places, hx⟩ := reads os enc
 refine returnsInHanded_of_row (C := Tryz.checked) (s := OpenSpec.ofChange Rows.mapsSpec) own started (by kernel_rfl) Tryz.func4
  (witness_row_at (enc := enc) (C := Tryz.checked) false (laidWorld os) #[.slice none 0 0] rfl (by kernel_rfl) (by kernel_rfl) (by kernel_rfl)
   (OpenSpec.preRow_of_cond 8 hx (by kernel_rfl) (fun k hk => by cases hk) (by kernel_rfl) (laid_met os))) ?_
 intro W base args ds gs before hval hW _ _ _ hL _ _
 exact contract H enc W base args ds gs before hval hW hL

theorem said : Rows.MapsSaid :=
 OpenClaim.holds_of_cond 4 Tryz.f4 rfl rfl rfl rfl rfl rfl rfl ⟨rfl, rfl, rfl, rfl, rfl⟩ rfl rfl rfl rfl rfl (by kernel_rfl) Tryz.func4 (by kernel_rfl)
  (of_decide_eq_true (by kernel_rfl)) (by unfold Func.isWrapper; first | (rw [if_pos (by decide +kernel)]; kernel_rfl) | (rw [if_neg (by decide +kernel)]; exact ⟨rfl, rfl⟩))
  (fun os started H enc _ F => by rw [OpenClaim.pre_eq_preRow]; exact lifted os started H enc F)

theorem plain (f : FuncId) (fn : Func) (hf : Tryz.pinned.checked.prog.funcNamed "store/storelaw.Maps" = some f) (hfn : Tryz.pinned.checked.prog.funcs[f]? = some fn) :
  true = Tryz.pinned.checked.prog.looks [] ∧ ∀ (j : Nat) t, fn.params[j]? = some t → Tryz.pinned.checked.prog.wantsStandIn t = false := by
 obtain rfl : f = 4 := Option.some.inj ((show Tryz.prog.funcNamed "store/storelaw.Maps" = some 4 by kernel_rfl).symm.trans hf) |>.symm
 obtain rfl : fn = Tryz.f4 := (Option.some.inj (Tryz.func4.symm.trans hfn)).symm
 refine ⟨by kernel_rfl, fun j t ht => ?_⟩
 rw [Tryz.params4] at ht
 obtain rfl : t = 22 := by simpa using Array.mem_of_getElem? ht
 exact (show Tryz.prog.wantsStandIn 22 = false by kernel_rfl)

theorem maps_card_holds : Rows.MapsCardSaid :=
 Claim7.holds_tied_plain_at .later [] _ _ _ _ said (fun _ h => by cases h) (by kernel_rfl) (fun _ h => by cases h) maps_row_tie rfl ⟨rfl, rfl⟩ (by kernel_rfl) rfl plain (by kernel_rfl)
#print axioms maps_card_holds

end Go.Proofs.YtcklgafpgdhnaaaGreatDoor
