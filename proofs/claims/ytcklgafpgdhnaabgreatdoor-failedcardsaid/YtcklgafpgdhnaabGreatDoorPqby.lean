import Derived.Test.YtcklgafpgdhnaabGreatDoorPqbv
import Derived.ProofKit
import Derived.OpenShut
import Derived.ChangeSlices
import Derived.ChangeSame
import Derived.ChangeVars
import Derived.JoinedOf
import Derived.Deep.Slices
import Derived.Deep.Strs
import Derived.Deep.DeepHandedRow
import Derived.Carry
import Derived.Test.YtcklgafpgdhnaabGreatDoorPqad
import Derived.Shelf.Strconv.Itoa3
import Derived.Lib.ItoaLen
set_option maxRecDepth 100000
set_option maxHeartbeats 4000000
open Go.Proofs.Tryz
namespace Go.Proofs.YtcklgafpgdhnaabGreatDoor
open Go.ChangeShapes Go.WideShapes Go.ChangeAt Go.RowKit Go.Deep
theorem QcO {H : Type} {enc : TypeId × Value -> H} {P : Program} {w : World} {base : Nat} {spare : Nat -> Bool} {held : Bool} {t t' t'' t3 t4 : TypeId} {args : Array Value} {ds : List (DataW H)} {ps : List MemPlace} (h : DataW.TrodAll enc P w base spare held [t, t', t'', t3, t4] args.toList ds ps) :
  ∃ v v' v'' v3 v4 d d' d'' d3 d4 p p' p'' p3 p4, args = #[v, v', v'', v3, v4] /\ ds = [d, d', d'', d3, d4] /\ ps = p ++ p' ++ p'' ++ p3 ++ p4 /\ DataW.Trod enc P w base spare held t v d p /\ DataW.Trod enc P w base spare held t' v' d' p' /\ DataW.Trod enc P w base spare held t'' v'' d'' p'' /\ DataW.Trod enc P w base spare held t3 v3 d3 p3 /\ DataW.Trod enc P w base spare held t4 v4 d4 p4 := by
 obtain ⟨v, vs, d, ds', p, q, hargs, rfl, rfl, hd, hrest⟩ := trodAll_cons h
 cases args with
 | mk l =>
  obtain rfl : l = v :: vs := hargs
  obtain ⟨v', v'', v3, v4, d', d'', d3, d4, p', p'', p3, p4, e1, rfl, rfl, h1, h2, h3, h4⟩ := trodAll_four (args := ⟨vs⟩) hrest
  have e1 : vs = [v', v'', v3, v4] := by simpa using e1
  subst e1
  exact ⟨v, v', v'', v3, v4, d, d', d'', d3, d4, p, p', p'', p3, p4, rfl, rfl, by simp, hd, h1, h2, h3, h4⟩
theorem QcP {H : Type} {enc : TypeId × Value -> H} {P : Program} {w : World} {base : Nat} {spare : Nat -> Bool} {held : Bool} {t t' t'' t3 t4 : TypeId} {v v' v'' v3 v4 : Value} {d d' d'' d3 d4 : DataW H} {p p' p'' p3 p4 : List MemPlace} (h : DataW.Trod enc P w base spare held t v d p) (h' : DataW.Trod enc P w base spare held t' v' d' p')
  (h'' : DataW.Trod enc P w base spare held t'' v'' d'' p'') (h3 : DataW.Trod enc P w base spare held t3 v3 d3 p3) (h4 : DataW.Trod enc P w base spare held t4 v4 d4 p4) : DataW.TrodAll enc P w base spare held [t, t', t'', t3, t4] [v, v', v'', v3, v4] [d, d', d'', d3, d4] (p ++ (p' ++ (p'' ++ (p3 ++ p4)))) := ⟨p, p' ++ (p'' ++ (p3 ++ p4)), h, trodAll_mk4 h' h'' h3 h4, rfl⟩
theorem QcQ : prog.cellsOf 3 = 1 := by kernel_rfl
theorem QcR {H : Type} {enc : TypeId × Value -> H} {W : World} {base n i : Nat} {a : Addr} {spare : Nat -> Bool} {x : DataW H × List MemPlace} {cs : List Value} (hc : W.cells? base (a.add (i * 1)) 1 = some cs) (ht : DataW.trod enc prog W base spare true n 3 cs = some x) : ∃ z, W.cell? (a.add i) = some (.int .i64 z) := by
 obtain ⟨_, hl, hcell⟩ := World.cells?_some hc
 obtain ⟨K, e0, _, _⟩ := DataW.trod_int underlying3 ht
 refine ⟨K, ?_⟩
 have h0 := hcell 0 (by omega)
 subst e0
 rw [Nat.mul_one] at h0
 have e : (a.add i).add 0 = a.add i := by cases a; simp [Addr.add]
 rw [e] at h0
 simpa using h0
theorem QcS {H : Type} {enc : TypeId × Value -> H} {W : World} {base : Nat} {v : Value} {d : DataW H} {p : List MemPlace} (hval : Value.okWide prog W .any base 22 v) (h : DataW.Trod enc prog W 0 (fun _ => true) true 22 v d p) : IL W v := by
 obtain ⟨fuel, hf⟩ := h
 rcases open_slice underlying22 hf with ⟨hcs, _⟩ | ⟨a, len, cap, m, n, D, Pl, hcs, _, hl, _, hmm, _, hel⟩
 ·obtain ⟨a0, len, cap, rfl⟩ := okWide_slice underlying22 hval
  simp [Value.cells] at hcs
  obtain ⟨rfl, rfl, rfl⟩ := hcs
  exact ⟨none, 0, 0, rfl, Or.inl rfl⟩
 ·obtain ⟨a0, len', cap', rfl⟩ := okWide_slice underlying22 hval
  simp [Value.cells] at hcs
  obtain ⟨rfl, rfl, rfl⟩ := hcs
  simp only [if_true] at hmm
  subst hmm
  refine ⟨_, _, _, rfl, Or.inr ⟨a, rfl, fun i hi => ?_⟩⟩
  obtain ⟨cs, hc, ht⟩ := hel i (by omega)
  rw [QcQ] at hc
  exact QcR hc ht
end Go.Proofs.YtcklgafpgdhnaabGreatDoor
namespace Go.Proofs.YtcklgafpgdhnaabGreatDoor
open Go.Shelf Go.RowKit
def QcT : Go.Shelf.Ren := ⟨fun | 171 => 93 | 243 => 115 | 246 => 127 | 283 => 133 | 284 => 134 | 285 => 135 | 286 => 136 | 129 => 144 | 317 => 143 | 318 => 145 | 319 => 146 | 320 => 147 | 337 => 151 | 338 => 152 | n => n, fun | 3 => 3 | 9 => 9 | 2 => 2 | 4 => 4 | 171 => 213 | 0 => 0 | 53 => 69 | 37 => 83 | 5 => 5 | 173 => 215 | 212 => 225 | 51 => 209 | 20 => 20 | 213 => 226 | 46 => 207 | 232 => 157 | 233 => 231 | n => n, fun | 17 => 2 | 18 => 3 | 19 => 4 | n => n⟩
theorem QcU : Go.Proofs.LaysM.n171 prog QcT := {
 mixed := by kernel_rfl
 f129 := func144.trans (congrArg some (by kernel_rfl))
 f171 := func93.trans (congrArg some (by kernel_rfl))
 f243 := func115.trans (congrArg some (by kernel_rfl))
 f246 := func127.trans (congrArg some (by kernel_rfl))
 f283 := func133.trans (congrArg some (by kernel_rfl))
 f284 := func134.trans (congrArg some (by kernel_rfl))
 f285 := func135.trans (congrArg some (by kernel_rfl))
 f286 := func136.trans (congrArg some (by kernel_rfl))
 f317 := func143.trans (congrArg some (by kernel_rfl))
 f318 := func145.trans (congrArg some (by kernel_rfl))
 f319 := func146.trans (congrArg some (by kernel_rfl))
 f320 := func147.trans (congrArg some (by kernel_rfl))
 f337 := func151.trans (congrArg some (by kernel_rfl))
 f338 := func152.trans (congrArg some (by kernel_rfl))
 t0 := underlying0
 a0 := Tryz.isAgg0
 z0 := Tryz.sizeOf0
 v0 := Tryz.zeroValue0
 t2 := underlying2
 a2 := Tryz.isAgg2
 z2 := Tryz.sizeOf2
 v2 := Tryz.zeroValue2
 t3 := underlying3
 a3 := Tryz.isAgg3
 z3 := Tryz.sizeOf3
 v3 := Tryz.zeroValue3
 t4 := underlying4
 a4 := Tryz.isAgg4
 z4 := Tryz.sizeOf4
 v4 := Tryz.zeroValue4
 t5 := underlying5
 a5 := Tryz.isAgg5
 z5 := Tryz.sizeOf5
 v5 := Tryz.zeroValue5
 t9 := underlying9
 a9 := Tryz.isAgg9
 z9 := Tryz.sizeOf9
 v9 := Tryz.zeroValue9
 t20 := underlying20
 a20 := Tryz.isAgg20
 z20 := Tryz.sizeOf20
 v20 := Tryz.zeroValue20
 t37 := underlying83
 a37 := Tryz.isAgg83
 z37 := Tryz.sizeOf83
 v37 := Tryz.zeroValue83
 t46 := underlying207
 a46 := Tryz.isAgg207
 z46 := Tryz.sizeOf207
 v46 := Tryz.zeroValue207
 t51 := underlying209
 a51 := Tryz.isAgg209
 z51 := Tryz.sizeOf209
 v51 := Tryz.zeroValue209
 t53 := underlying69
 a53 := Tryz.isAgg69
 z53 := Tryz.sizeOf69
 v53 := Tryz.zeroValue69
 t171 := underlying213
 a171 := Tryz.isAgg213
 z171 := Tryz.sizeOf213
 v171 := Tryz.zeroValue213
 t173 := underlying215
 a173 := Tryz.isAgg215
 z173 := Tryz.sizeOf215
 v173 := Tryz.zeroValue215
 t212 := underlying225
 a212 := Tryz.isAgg225
 z212 := Tryz.sizeOf225
 v212 := Tryz.zeroValue225
 t213 := underlying226
 a213 := Tryz.isAgg226
 z213 := Tryz.sizeOf226
 t232 := underlying157
 a232 := Tryz.isAgg157
 z232 := Tryz.sizeOf157
 v232 := Tryz.zeroValue157
 t233 := underlying231
 a233 := Tryz.isAgg231
 z233 := Tryz.sizeOf231
 v233 := Tryz.zeroValue231
 g17 := by kernel_rfl
 g18 := by kernel_rfl
 g19 := by kernel_rfl
 i0 := by kernel_rfl
 i2 := by kernel_rfl
 i3 := by kernel_rfl
 i4 := by kernel_rfl
 i5 := by kernel_rfl
 i9 := by kernel_rfl
 i20 := by kernel_rfl
 i37 := by kernel_rfl
 i46 := by kernel_rfl
 i51 := by kernel_rfl
 i53 := by kernel_rfl
 i171 := by kernel_rfl
 i173 := by kernel_rfl
 i212 := by kernel_rfl
 i232 := by kernel_rfl
 i233 := by kernel_rfl
 m17 := by kernel_rfl
 m18 := by kernel_rfl
 m19 := by kernel_rfl }
theorem QcV (n : Int) (h0 : -9223372036854775808 <= n) (h1 : n <= 9223372036854775807) (w : World) (htab : Lib.TabIs prog w "internal/strconv.uint64pow10" .u64 Lib.pow10Tab) :
  Calls prog 93 #[.int .i64 n] w fun e w' => e = .returned (.string ⟨(Lib.itoa n).toArray⟩) /\ ∃ k os, w' = Sort.grow (w.drewN k) os := Any.strconv_Itoa QcU n h0 h1 w htab
theorem y5.grown (w : World) (k : Nat) (os : Array Obj) : y5 [] w (Sort.grow (w.drewN k) os) := by
 have h : y5 [] w (w.drewN k) := ⟨rfl, rfl, rfl, Nat.le_refl _, fun _ _ _ => rfl⟩
 refine ⟨h.os, h.tape, h.output, ?_, fun i hi hn => ?_⟩
 ·have := h.size
  simp [Sort.grow]
 ·rw [<- h.block i hi hn]
  have : i < (w.drewN k).heap.size := Nat.lt_of_lt_of_le hi h.size
  simp only [Sort.grow]
  rw [Array.getElem?_append_left this]
theorem gPow : prog.globalNamed "internal/strconv.uint64pow10" = some 2 := by kernel_rfl
theorem QcW {W : World} {cs : Array Value} {fr : Nat × Nat} (hr : W.heap[2]? = some (.cells cs 225 fr)) (ht : Lib.TabIs prog W "internal/strconv.uint64pow10" .u64 Lib.pow10Tab) : Tab W where
 row := ⟨cs, fr, hr⟩
 ito := by
  intro W' hW i hi
  have ht' : Lib.TabIs prog W' "internal/strconv.uint64pow10" .u64 Lib.pow10Tab := by
   unfold Lib.TabIs World.var? at ht ⊢
   rw [gPow] at ht ⊢
   simp only [Option.bind_some] at ht ⊢
   rw [hW]
   exact ht
  refine (QcV (i : Int) (by omega) (by omega) W' ht').mono ?_
  rintro e w' ⟨rfl, k, os, rfl⟩
  refine ⟨_, rfl, ?_, y5.grown W' k os⟩
  have := Lib.itoa_length_le (i : Int) (by omega) (by omega)
  show (Lib.itoa (i : Int)).toArray.size <= 1000
  simp
  omega
theorem QcX {W : World} (h : W.ShapedOpen prog) : ∃ cs, W.heap[2]? = some (.cells cs 225 (0, 0)) := by
 have hz : (((begin prog (fun _ _ => 0) default).world.heap[2]?).bind Obj.row?).map (·.2) = some 225 := by kernel_rfl
 obtain ⟨⟨z, t⟩, hz, rfl⟩ := Option.map_eq_some_iff.1 hz
 obtain ⟨cs, hcs, _⟩ := h.1 2 z _ (of_decide_eq_true (by kernel_rfl)) hz
 exact ⟨cs, hcs⟩
end Go.Proofs.YtcklgafpgdhnaabGreatDoor
