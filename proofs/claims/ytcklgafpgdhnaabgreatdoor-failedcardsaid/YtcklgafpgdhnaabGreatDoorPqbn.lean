import Derived.Test.YtcklgafpgdhnaabGreatDoorPqau
import Derived.RangeFuncNested
import Derived.RangeFuncBound
import Derived.RangeFuncCalls
import Derived.RangeFuncLeaves
import Derived.Shelf.Abstract
import Derived.OwnWalkIn
import Derived.TacticsInMore
import Derived.LoopNIn
import Derived.LoopIn
set_option maxRecDepth 100000
set_option maxHeartbeats 4000000
open Go.Proofs.Tryz
namespace Go.Proofs.YtcklgafpgdhnaabGreatDoor
open Go.RowKit Go.Shelf
attribute [local go_sem] Oper.semAt_some
section
variable {F : Fence} {n : Nat} {P : Program} {ops : Array Oper} {rest : List Oper} {o : Oper} {a : Act} {w : World} {Q : Exit -> Act -> World -> Prop}
theorem inV (hgd : o.guard = none) (hfn : ∀ f, F.fn f) (hro : o.semAt F.round a.eval = execOp a.eval o) (v : Value) (w' : World) (hrun : (execOp a.eval o).run P w = .ok (.value v) w') (h : wpListIn F n P ops Q rest (a.put o.dst v) w') : wpListIn F n P ops Q (o :: rest) a w :=
 wpListIn_plain hgd fun K hK => ⟨fun f _ => hfn f, by rw [hro, hrun]; exact hK _ _ h⟩
end
structure KC (M : List Nat) (w w' : World) : Prop where
 os : w'.os = w.os
 tape : w'.tape = w.tape
 output : w'.output = w.output
 size : w.heap.size <= w'.heap.size
 row : ∀ k cs t fr, w.heap[k]? = some (.cells cs t fr) -> k ∉ M -> t ≠ 52 -> w'.heap[k]? = some (.cells cs t fr)
theorem KC.refl (M : List Nat) (w : World) : KC M w w := ⟨rfl, rfl, rfl, Nat.le_refl _, fun _ _ _ _ h _ _ => h⟩
theorem KC.trans {M : List Nat} {a b c : World} (h : KC M a b) (k : KC M b c) : KC M a c := ⟨k.os.trans h.os, k.tape.trans h.tape, k.output.trans h.output, Nat.le_trans h.size k.size, fun i cs t fr hi hm ht => k.row i cs t fr (h.row i cs t fr hi hm ht) hm ht⟩
theorem KC.of {M S : List Nat} {a b : World} (h : y5 S a b) (hS : ∀ x ∈ S, x ∈ M) : KC M a b := ⟨h.os, h.tape, h.output, h.size, fun _ _ _ _ hi hm _ => h.get hi fun hx => hm (hS _ hx)⟩
theorem KC.of0 {M : List Nat} {a b : World} (h : y5 [] a b) : KC M a b := KC.of h (by simp)
theorem KC.put {M : List Nat} (W : World) (l : Nat) (o o' : Obj) (h : W.heap[l]? = some o) (hc : o.isCells = false) : KC M W (W.putObj l o') := by
 have g := grownBy_putObj' W l o'
 refine ⟨g.os, g.tape, g.output, g.size, fun k cs t fr hk _ _ => (g.block k (yt hk) ?_).trans hk⟩
 intro e
 cases e
 rw [hk] at h
 cases h
 cases hc
theorem SL.kc {M : List Nat} {w w' : World} {t : TypeId} {d : Nat} {v : Value} {es : List El} (h : SL w t d v es) (k : KC M w w') (hb : ∀ b, v.ownBlock = some b -> b ∉ M) (ht : t ≠ 52) : SL w' t d v es := by
 rcases h with h | ⟨g, off, cap, cur, rfl, hh, r⟩
 ·exact Or.inl h
 ·exact Or.inr ⟨g, off, cap, cur, rfl, k.row _ _ _ _ hh (hb g rfl) ht, r⟩
theorem ND.kc {M : List Nat} {w w' : World} (k : KC M w w') : ∀ {h : Nat} {n : Nd h} {x : Value}, ND w (· ∉ M) h n x -> ND w' (· ∉ M) h n x
 | 0, _, _, ⟨v, e, hl, hb⟩ => ⟨v, e, SL.kc hl k hb (by decide), hb⟩
 | _ + 1, _, _, ⟨v, es, e, hl, hb, hf⟩ => ⟨v, es, e, SL.kc hl k hb (by decide), hb, hf.mono fun _ _ _ hr => ⟨hr.1, ND.kc k hr.2⟩⟩
theorem SL.from_ {P : Program} {w : World} {T t : TypeId} {d : Nat} {v : Value} {es : List El} (h : SL w t d v es) (hu : P.underlying T = some (.slice t)) (hs : (P.info? t).map (·.size) = some d) (i : Nat) (hi : i <= es.length) :
  ∃ p c, (∀ W, (Instr.sliceAt T v (some (.int .i64 (i : Int))) none none).run P W = .ok (.slice p (es.length - i) c) W) /\ SL w t d (.slice p (es.length - i) c) (es.drop i) /\ ∀ b, (Value.slice p (es.length - i) c).ownBlock = some b -> v.ownBlock = some b := by
 rcases h with ⟨rfl, rfl⟩ | ⟨g, off, cap, cur, rfl, hh, h1, h2, h3, h4⟩
 ·obtain rfl : i = 0 := by simpa using hi
  refine ⟨none, 0, fun W => ?_, Or.inl ⟨rfl, rfl⟩, fun b hb => by cases hb⟩
  cases hq : P.info? t with
  | none => simp [hq] at hs
  | some ie => simp [Instr.sliceAt, Instr.slice, run_underlying hu, Instr.sliceBounds, Instr.sliceBound, asIntOf, sizeOf, typeInfo, hq]
 ·refine ⟨some (yS d g off cap i), cap - i, fun W => yi W T t d g off es.length cap hu hs i hi, Or.inr ?_, fun b hb => ?_⟩
  ·unfold yS
   have hm : (cap - i) * d = cap * d - i * d := Nat.sub_mul cap i d
   have hle : i * d <= cap * d := Nat.mul_le_mul_right d (by omega)
   by_cases hc : cap = i
   ·rw [if_pos hc]
    refine ⟨g, off, cap - i, cur, by rw [List.length_drop], hh, by rw [List.length_drop]; omega, by omega, by omega, ?_⟩
    intro j e he
    rw [List.getElem?_drop, List.getElem?_eq_none (by omega)] at he
    cases he
   ·rw [if_neg hc]
    refine ⟨g, off + i * d, cap - i, cur, by rw [List.length_drop], hh, by rw [List.length_drop]; omega, by omega, by omega, ?_⟩
    intro j e he
    rw [List.getElem?_drop] at he
    have := h4 (i + j) e he
    rw [show off + (i + j) * d = off + i * d + j * d by rw [Nat.add_mul]; omega] at this
    exact this
  ·have : (Value.slice (some (yS d g off cap i)) (es.length - i) (cap - i)).ownBlock = some (yS d g off cap i).block := rfl
   rw [this, jk] at hb
   exact hb
def QaX (l : Nat) (M : List Nat) (N : Nat) (J Jx : List Pr -> World -> Prop) : Prop := ∀ m pre (x : Pr) W, J pre W -> okp x -> pre.length < N -> YieldAt Fence.wide m prog l #[.agg #[.string x.1, .string x.2]] W fun e W' =>
 (e = .returned (.bool true) /\ J (pre ++ [x]) W' /\ KC M W W') \/ (e = .returned (.bool false) /\ Jx (pre ++ [x]) W')
def QaY (M : List Nat) (J Jx : List Pr -> World -> Prop) (hi : ByteArray) (pre flat fl : List Pr) (W : World) (e : Ending) (W' : World) : Prop :=
 (e = .returned (.bool true) /\ J (pre ++ fl) W' /\ KC M W W') \/ (e = .returned (.bool false) /\ ((J (pre ++ fl) W' /\ KC M W W' /\ ∃ p ∈ flat, bl p.1 hi = false) \/ ∃ q, q <+: fl /\ Jx (pre ++ q) W'))
def LfI (l : List Pr) (hi : ByteArray) (i0 : Nat) (M : List Nat) (J : List Pr -> World -> Prop) (pre : List Pr) (W : World) (i : Value) (wr : World) : Prop := ∃ j : Nat, j <= l.length - i0 /\ i = .int .i64 j /\ J (pre ++ (l.drop i0).take j) wr /\ KC M W wr /\ ∀ p ∈ (l.drop i0).take j, bl p.1 hi = true
theorem QaZ (ll : Nat) (M : List Nat) (N : Nat) (J Jx : List Pr -> World -> Prop) (hJ : ∀ pre W W', J pre W -> y5 [] W W' -> J pre W') (hY : QaX ll M N J Jx) (lo hi : ByteArray) (n : Nat) (v : Value) (l : List Pr) (pre : List Pr) (W : World)
  (hl : LF W v l) (hb : ∀ b, v.ownBlock = some b -> b ∉ M) (hs : Srt l) (hok : ∀ p ∈ l, okp p) (hlen : l.length <= 1000) (hJ0 : J pre W) (hN : pre.length + (flt lo hi l).length <= N) :
  CallsIn Fence.wide n prog 185 #[v, .string lo, .string hi, .func (.yield ll) #[] #[]] W (QaY M J Jx hi pre l (flt lo hi l) W) := by
 have hpos := Q4t (j6 hs) lo
 have hcall := (Zo v (l.map pe) (l.map (·.1)) lo W hl (Q55 l) (j6 hs) (by simp; omega)).mono fun _ _ h => Z9 h
 have hib := hpos.1
 rw [List.length_map] at hib
 have hl0 := hl
 obtain ⟨p, c, ev⟩ := SL.shape hl
 rw [List.length_map] at ev
 obtain ⟨ps, cs, hsl, hls, hos⟩ := SL.from_ (P := prog) (T := 135) hl underlying135 stp (pK (l.map (·.1)) lo) (by rw [List.length_map]; exact hib)
 rw [List.length_map, <- List.map_drop] at hls
 rw [List.length_map] at hsl hos
 subst ev
 generalize pK (l.map (·.1)) lo = i0 at *
 generalize bK (l.map (·.1)) lo = b0 at *
 have HF : Hid (CallsIn Fence.wide _ _ _ _ _ _) := callsIn_wide (n := n - 1) |>.2 hcall
 refine callsIn_of_wp func185 rfl trivial ?_ rfl
 simp only [ntmps185, List.size_toArray, List.length_cons, List.length_nil, Nat.reduceAdd, Nat.reduceSub, Array.replicate_succ, Array.replicate_zero, List.push_toArray, List.append_toArray, List.nil_append, List.cons_append]
 gi_wp2_with (first
  | (refine ⟨trivial, fun h => (by cases h), ?_⟩; gi_at_call 83; refine HF.out.mono ?_; rintro e w1 ⟨rfl, hk1⟩))
 have HY : Hid _ := hY
 have HFl : Hid (∀ j, (∀ p ∈ (l.drop i0).take j, bl p.1 hi = true) -> flt lo hi l = (l.drop i0).take j ++ flt lo hi (l.drop (i0 + j))) := fun j h => by
  have := Q4z (hi := hi) hpos (j := i0 + j) (by omega) (by rw [show i0 + j - i0 = j by omega]; exact h)
  rwa [show i0 + j - i0 = j by omega] at this
 have HJ : Hid _ := hJ
 have HJ0 : Hid (J pre w1) := hJ pre W w1 hJ0 hk1
 have hB1 : KC M W w1 := KC.of0 hk1
 clear hY hJ hJ0 hpos hcall
 gi_loopw [23] (fun i wr => LfI l hi i0 M J pre W i wr) (fun i _ => l.length - i0 - (intOf i).toNat)
 case atStart => exact ⟨0, Nat.zero_le _, rfl, by simpa using HJ0.out, hB1, by simp⟩
 case round =>
  obtain ⟨j, hj, rfl, hJj, hBj, hlt⟩ := hrel
  have HJj : Hid _ := hJj
  have HLt : Hid _ := hlt
  clear hJj hlt
  by_cases hjm : j < l.length - i0
  ·have hjm' : (j : Int) < ((l.length - i0 : Nat) : Int) := by omega
   obtain ⟨x, hx⟩ : ∃ x, l[i0 + j]? = some x := ⟨_, List.getElem?_eq_getElem (by omega)⟩
   have hx' : (l.drop i0)[j]? = some x := by rw [List.getElem?_drop]; exact hx
   have hlsr : SL wr 138 2 (.slice ps (l.length - i0) cs) ((l.drop i0).map pe) := SL.kc hls hBj (fun b hb' => hb b (hos b hb')) (by decide)
   obtain ⟨g, off, cap, cur, e, hg, hc1, hc2, hc3, hcur⟩ := hlsr.at_ (by rw [List.length_map, List.length_drop]; omega)
   rw [List.length_map, List.length_drop] at e
   cases e
   have hld := gG (P := prog) (ty := 138) _ hg (hcur j (pe x) (by rw [List.getElem?_map, hx']; rfl)) underlying138 stp
   simp only [pe] at hld
   have HX : Hid _ := hx
   have HX' : Hid _ := hx'
   cases hhi : bl x.1 hi with
   | false =>
    have hge : Op.bytesLess x.1.toList hi.toList = false := hhi
    clear hcur hx hx' hhi
    gi_wp2_with (first
     | (refine inV rfl (fun _ => trivial) rfl _ _ (ya 135 (.tmp 21) (.tmp 23) rfl g off (l.length - i0) cs j 2 rfl rfl 138 underlying135 stp hjm (off + j * 2) rfl) ?_)
     | (refine inV rfl (fun _ => trivial) rfl _ _ (y9 138 (.tmp 25) rfl ⟨g, off + j * 2, none⟩ rfl _ hld) ?_))
    refine ⟨fun _ h => (by cases h), ?_⟩
    gi_wp2
    go_ret
    have hx := HX.out
    have hbe : ∀ q ∈ l.drop (i0 + j), bl q.1 hi = false := Q4y hs hx hge
    have hfl := HFl.out j HLt.out
    rw [Q4w lo hi _ hbe, List.append_nil] at hfl
    refine Or.inr ⟨rfl, Or.inl ⟨?_, hBj.trans (KC.of0 ((y5.refl [] wr).alloc _)), x, List.mem_of_getElem? hx, hge⟩⟩
    rw [hfl]
    exact HJ.out _ _ _ HJj.out ((y5.refl [] wr).alloc _)
   | true =>
    have hge : Op.bytesLess x.1.toList hi.toList = true := hhi
    have k2 := (y5.refl [] wr).alloc (.cells #[.string x.1, .string x.2] 138)
    have hsnoc : (l.drop i0).take (j + 1) = (l.drop i0).take j ++ [x] := qr _ j x hx'
    have hltn : ∀ p ∈ (l.drop i0).take (j + 1), bl p.1 hi = true := by
     rw [hsnoc]
     intro p hp
     rcases List.mem_append.1 hp with hp | hp
     ·exact HLt.out p hp
     ·simp at hp; subst hp; exact hhi
    have hfl := HFl.out (j + 1) hltn
    have hlenf : (pre ++ (l.drop i0).take j).length < N := by
     have h1 := congrArg List.length hfl
     rw [hsnoc, List.length_append, List.length_append, List.length_cons, List.length_nil] at h1
     rw [List.length_append]
     omega
    obtain ⟨fn, tmps, assign, body, hy, hR⟩ := HY.out (n - 1) (pre ++ (l.drop i0).take j) x (wr.alloc (.cells #[.string x.1, .string x.2] 138)) (HJ.out _ _ _ HJj.out k2) (hok x (List.mem_of_getElem? hx)) hlenf
    have HSn : Hid _ := hsnoc
    have HLn : Hid _ := hltn
    have HFn : Hid _ := hfl
    have hBk := hBj.trans (KC.of0 (M := M) k2)
    clear hcur hx hx' hhi hsnoc hltn hfl hlenf
    gi_wp2_with (first
     | (refine inV rfl (fun _ => trivial) rfl _ _ (ya 135 (.tmp 21) (.tmp 23) rfl g off (l.length - i0) cs j 2 rfl rfl 138 underlying135 stp hjm (off + j * 2) rfl) ?_)
     | (refine inV rfl (fun _ => trivial) rfl _ _ (y9 138 (.tmp 25) rfl ⟨g, off + j * 2, none⟩ rfl _ hld) ?_)
     | ((try refine ⟨trivial, ?_⟩); (try refine ⟨fun h => (by cases h), ?_⟩); refine hR.mono ?_; clear hR; rintro e W2 (⟨rfl, hJ2, hB2⟩ | ⟨rfl, hx2⟩)))
    ·refine ⟨⟨j + 1, by omega, by simp, ?_, hBk.trans hB2, HLn.out⟩, by simp [intOf]; omega⟩
     rw [HSn.out, <- List.append_assoc]
     exact hJ2
    ·go_ret
     refine Or.inr ⟨rfl, Or.inr ⟨(l.drop i0).take (j + 1), ⟨_, HFn.out.symm⟩, ?_⟩⟩
     rw [HSn.out, <- List.append_assoc]
     exact hx2
  ·have hge : ¬ (j : Int) < ((l.length - i0 : Nat) : Int) := by omega
   have ej : j = l.length - i0 := by omega
   have hfl := HFl.out j HLt.out
   have hnil : l.drop (i0 + j) = [] := List.drop_of_length_le (by omega)
   rw [hnil, show flt lo hi [] = [] from rfl, List.append_nil] at hfl
   have FIN : Hid (J (pre ++ flt lo hi l) wr) := by show J _ _; rw [hfl]; exact HJj.out
   clear hfl ej hnil
   gi_wp2
   go_ret
   exact Or.inl ⟨rfl, FIN.out, hBj⟩
attribute [local go_sem] Oper.semAt_some
theorem Qb0 (p : Option Addr) (n c : Nat) : qY "store/tree.feed" (.iface 135 (.slice p n c)) 185 (.slice p n c) := ⟨_, rfl, fun _ => by kernel_rfl, fun _ _ => by kernel_rfl⟩
theorem Qb1 (p : Option Addr) (n c : Nat) : qY "store/tree.feed" (.iface 180 (.slice p n c)) 215 (.slice p n c) := ⟨_, rfl, fun _ => by kernel_rfl, fun _ _ => by kernel_rfl⟩
def Qb2 (ll : Nat) (M : List Nat) (N : Nat) (J Jx : List Pr -> World -> Prop) (lo hi : ByteArray) (h : Nat) : Prop := ∀ (n : Nat) (f : ByteArray) (nd : Nd h) (x : Value) (pre : List Pr) (W : World), ND W (· ∉ M) h nd x -> WFN h f nd -> q7 h nd -> yl h nd <= 1000 -> J pre W -> pre.length + (flt lo hi (yN h nd)).length <= N ->
  ∃ fn v, qY "store/tree.feed" x fn v /\ CallsIn Fence.wide n prog fn #[v, .string lo, .string hi, .func (.yield ll) #[] #[]] W (QaY M J Jx hi pre (yN h nd) (flt lo hi (yN h nd)) W)
def fk (lo hi : ByteArray) {h : Nat} (ks : List (Kid h)) (i0 j : Nat) : List Pr := flt lo hi (yA h ((ks.drop i0).take j))
theorem Qb3 (lo hi : ByteArray) {h : Nat} (ks : List (Kid h)) (i0 j : Nat) (q : Kid h) (hq : ks[i0 + j]? = some q) : fk lo hi ks i0 (j + 1) = fk lo hi ks i0 j ++ flt lo hi (yN h q.2) := by
 unfold fk
 rw [qr (ks.drop i0) j q (by rw [List.getElem?_drop]; exact hq), qg, Q4u]
 congr 2
 simp [yA]
theorem Qb4 (lo hi : ByteArray) {h : Nat} (ks : List (Kid h)) (i0 j : Nat) : flt lo hi (yA h (ks.drop i0)) = fk lo hi ks i0 j ++ flt lo hi (yA h (ks.drop (i0 + j))) := by
 unfold fk
 rw [<- Q4u, <- qg, <- List.drop_drop, List.take_append_drop]
def BfI (lo hi : ByteArray) {h : Nat} (ks : List (Kid h)) (i0 : Nat) (M : List Nat) (J : List Pr -> World -> Prop) (pre : List Pr) (W : World) (i : Value) (wr : World) : Prop := ∃ j : Nat, j <= ks.length - i0 /\ i = .int .i64 j /\ J (pre ++ fk lo hi ks i0 j) wr /\ KC M W wr
theorem Qb5 (ll : Nat) (M : List Nat) (N : Nat) (J Jx : List Pr -> World -> Prop) (hJ : ∀ pre W W', J pre W -> y5 [] W W' -> J pre W') (lo hi : ByteArray) (h : Nat) (IH : Qb2 ll M N J Jx lo hi h) (n : Nat) (f : ByteArray) (v : Value) (xs : List KE) (ks : List (Kid h)) (pre : List Pr) (W : World)
  (hl : SL W 75 3 v (xs.map ke)) (hb : ∀ b, v.ownBlock = some b -> b ∉ M) (hf : F2 (KR W (· ∉ M) h) ks xs) (hw : WFN (h + 1) f ks) (hfu : q7 (h + 1) ks) (hlen : ks.length <= 1000) (hJ0 : J pre W) (hN : pre.length + (flt lo hi (yA h ks)).length <= N) :
  CallsIn Fence.wide n prog 215 #[v, .string lo, .string hi, .func (.yield ll) #[] #[]] W (QaY M J Jx hi pre (yA h ks) (flt lo hi (yA h ks)) W) := by
 have hkw := ((yF h f ks).1 hw).2
 have hfull := (yM h ks).1 hfu
 have hlx : xs.length = ks.length := hf.1.symm
 have hcall := Q56 h (· ∉ M) v xs ks lo W hl hf hkw hlen
 have hway := Q57 lo hw
 have hfirst : flt lo hi (yA h ks) = flt lo hi (yA h (ks.drop (qs ks lo))) := by
  conv => lhs; rw [<- List.take_append_drop (qs ks lo) ks, qg, Q4u]
  rw [Q4v lo hi _ (Q4A hkw), List.nil_append]
 obtain ⟨p, c, ev⟩ := SL.shape hl
 rw [List.length_map, hlx] at ev
 obtain ⟨ps, cs, hsl, hls, hos⟩ := SL.from_ (P := prog) (T := 180) hl underlying180 jB (qs ks lo) (by rw [List.length_map]; omega)
 rw [List.length_map, <- List.map_drop, hlx] at hls
 rw [List.length_map, hlx] at hsl hos
 subst ev
 have HC : Hid (CallsIn Fence.wide _ _ _ _ _ _) := callsIn_wide (n := n - 1) |>.2 hcall
 have HFk : Hid (∀ j, flt lo hi (yA h ks) = fk lo hi ks (qs ks lo) j ++ flt lo hi (yA h (ks.drop (qs ks lo + j)))) := fun j => hfirst.trans (Qb4 lo hi ks (qs ks lo) j)
 generalize qs ks lo = i0 at *
 clear hcall hfirst
 refine callsIn_of_wp func215 rfl trivial ?_ rfl
 simp only [ntmps215, List.size_toArray, List.length_cons, List.length_nil, Nat.reduceAdd, Nat.reduceSub, Array.replicate_succ, Array.replicate_zero, List.push_toArray, List.append_toArray, List.nil_append, List.cons_append]
 gi_wp2_with (first
  | (refine ⟨trivial, fun h => (by cases h), ?_⟩; gi_at_call 225; refine HC.out.mono ?_; rintro e w1 ⟨rfl, hk1⟩))
 have HJ : Hid _ := hJ
 have HIH : Hid _ := IH
 have HJ0 : Hid (J pre w1) := hJ pre W w1 hJ0 hk1
 have hB1 : KC M W w1 := KC.of0 hk1
 clear hJ hJ0 IH
 gi_loopw [17] (fun i wr => BfI lo hi ks i0 M J pre W i wr) (fun i _ => ks.length - i0 - (intOf i).toNat)
 case atStart => exact ⟨0, Nat.zero_le _, rfl, by simpa [fk, yA, flt] using HJ0.out, hB1⟩
 case round =>
  obtain ⟨j, hj, rfl, hJj, hBj⟩ := hrel
  have HJj : Hid _ := hJj
  clear hJj
  by_cases hjm : j < ks.length - i0
  ·have hjm' : (j : Int) < ((ks.length - i0 : Nat) : Int) := by omega
   obtain ⟨q, hq⟩ : ∃ q, ks[i0 + j]? = some q := ⟨_, List.getElem?_eq_getElem (by omega)⟩
   have hqm := List.mem_of_getElem? hq
   obtain ⟨y, hy, hr⟩ := hf.get hq
   have hy' : (xs.drop i0)[j]? = some y := by rw [List.getElem?_drop]; exact hy
   have hlsr : SL wr 75 3 (.slice ps (ks.length - i0) cs) ((xs.drop i0).map ke) := SL.kc hls hBj (fun b hb' => hb b (hos b hb')) (by decide)
   obtain ⟨g, off, cap, cur, e, hg, hc1, hc2, hc3, hcur⟩ := hlsr.at_ (by rw [List.length_map, List.length_drop]; omega)
   rw [List.length_map, List.length_drop, hlx] at e
   cases e
   have hld := gG (P := prog) (ty := 75) _ hg (hcur j (ke y) (by rw [List.getElem?_map, hy']; rfl)) underlying75 jB
   simp only [ke] at hld
   have hqf := hfull q hqm
   have hnext := Qb3 lo hi ks i0 j q hq
   have hrest := HFk.out (j + 1)
   have hrest0 := HFk.out j
   have hflq : ∀ p ∈ yN h q.2, p ∈ yA h ks := fun p hp => yX.2 ⟨q, hqm, hp⟩
   cases hhi : bl q.1 hi with
   | false =>
    have hge : Op.bytesLess y.1.toList hi.toList = false := by rw [hr.1.1]; exact hhi
    obtain ⟨p0, hp0⟩ := List.exists_mem_of_ne_nil _ (Zl (by have := hqf.1.1; omega) hqf.2)
    have hp0h : bl p0.1 hi = false := gz (WFN.keys (hkw.all q hqm) p0 hp0).1 hhi
    have hz := Q4w lo hi _ (Q4B hkw hq hhi)
    rw [hz, List.append_nil] at hrest0
    have FIN : Hid (∀ W', y5 [] wr W' -> QaY M J Jx hi pre (yA h ks) (flt lo hi (yA h ks)) W (.returned (.bool false)) W') := fun W' kW => Or.inr ⟨rfl, Or.inl ⟨by rw [hrest0]; exact HJ.out _ _ _ HJj.out kW, hBj.trans (KC.of0 kW), p0, hflq p0 hp0, hp0h⟩⟩
    obtain ⟨ty, vy, ey⟩ := hr.2.iface
    rw [ey] at hld
    clear hcur hq hy hy' hhi hnext hrest hrest0 hz hflq hp0 hp0h
    gi_wp2_with (first
     | (refine inV rfl (fun _ => trivial) rfl _ _ (ya 180 (.tmp 15) (.tmp 17) rfl g off (ks.length - i0) cs j 3 rfl rfl 75 underlying180 jB hjm (off + j * 3) rfl) ?_)
     | (refine inV rfl (fun _ => trivial) rfl _ _ (y9 75 (.tmp 19) rfl ⟨g, off + j * 3, none⟩ rfl _ hld) ?_))
    all_goals
     refine ⟨fun _ _ => trivial, ?_⟩
     gi_wp2
     go_ret
     exact FIN.out _ ((y5.refl [] wr).alloc _)
   | true =>
    have hge : Op.bytesLess y.1.toList hi.toList = true := by rw [hr.1.1]; exact hhi
    have k2 := (y5.refl [] wr).alloc (.cells #[.string y.1, .int .i64 y.3, y.2] 75)
    have hBk : KC M W (wr.alloc (.cells #[.string y.1, .int .i64 y.3, y.2] 75)) := hBj.trans (KC.of0 k2)
    have hlenf : (pre ++ fk lo hi ks i0 j).length + (flt lo hi (yN h q.2)).length <= N := by
     have h1 := congrArg List.length hrest
     rw [hnext, List.length_append, List.length_append] at h1
     rw [List.length_append]
     omega
    obtain ⟨fn, vv, ⟨t, ex, hm, he⟩, hcall⟩ := HIH.out (n - 1) q.1 q.2 y.2 (pre ++ fk lo hi ks i0 j) (wr.alloc (.cells #[.string y.1, .int .i64 y.3, y.2] 75)) (ND.kc hBk hr.2) (hkw.all q hqm) hqf.2 (by have := hqf.1.2; omega) (HJ.out _ _ _ HJj.out k2) hlenf
    have hstop : (∃ p ∈ yN h q.2, bl p.1 hi = false) -> flt lo hi (yA h ks) = fk lo hi ks i0 (j + 1) := by
     rintro ⟨p0, hp0, hp0h⟩
     have hz := Q4w lo hi _ (Q4C hkw hq hp0 hp0h)
     rw [show i0 + (j + 1) = i0 + j + 1 by omega, hz, List.append_nil] at hrest
     exact hrest
    have HN : Hid _ := hnext
    have HR : Hid _ := hrest
    have HS : Hid _ := hstop
    have HQ : Hid _ := hflq
    rw [ex] at hcall hld hBk
    have HCall : Hid (CallsIn Fence.wide _ _ _ _ _ _) := hcall
    clear hcur hq hy hy' hhi hnext hrest hrest0 hstop hcall hflq hlenf k2
    gi_wp2_with (first
     | (refine inV rfl (fun _ => trivial) rfl _ _ (ya 180 (.tmp 15) (.tmp 17) rfl g off (ks.length - i0) cs j 3 rfl rfl 75 underlying180 jB hjm (off + j * 3) rfl) ?_)
     | (refine inV rfl (fun _ => trivial) rfl _ _ (y9 75 (.tmp 19) rfl ⟨g, off + j * 3, none⟩ rfl _ hld) ?_)
     | (refine ⟨trivial, fun h => (by cases h), ?_⟩; refine HCall.out.mono ?_; clear HCall; rintro e W2 (⟨rfl, hJ2, hB2⟩ | ⟨rfl, ⟨hJ2, hB2, hp2⟩ | ⟨q2, hq2, hx2⟩⟩)))
    ·refine ⟨⟨j + 1, by omega, by simp, ?_, hBk.trans hB2⟩, by simp [intOf]; omega⟩
     rw [HN.out, <- List.append_assoc]
     exact hJ2
    ·go_ret
     obtain ⟨p0, hp0, hp0h⟩ := hp2
     refine Or.inr ⟨rfl, Or.inl ⟨?_, hBk.trans hB2, p0, HQ.out p0 hp0, hp0h⟩⟩
     rw [HS.out ⟨p0, hp0, hp0h⟩, HN.out, <- List.append_assoc]
     exact hJ2
    ·go_ret
     refine Or.inr ⟨rfl, Or.inr ⟨fk lo hi ks i0 j ++ q2, ?_, by rw [<- List.append_assoc]; exact hx2⟩⟩
     rw [HR.out, HN.out]
     obtain ⟨r2, hr2⟩ := hq2
     exact ⟨r2 ++ flt lo hi (yA h (ks.drop (i0 + (j + 1)))), by rw [<- hr2]; simp [List.append_assoc]⟩
  ·have hge : ¬ (j : Int) < ((ks.length - i0 : Nat) : Int) := by omega
   have hnil : ks.drop (i0 + j) = [] := List.drop_of_length_le (by omega)
   have hfl := HFk.out j
   rw [hnil, show flt lo hi (yA h []) = [] from rfl, List.append_nil] at hfl
   have FIN : Hid (J (pre ++ flt lo hi (yA h ks)) wr) := by show J _ _; rw [hfl]; exact HJj.out
   clear hfl hnil
   gi_wp2
   go_ret
   exact Or.inl ⟨rfl, FIN.out, hBj⟩
theorem Qb6 (ll : Nat) (M : List Nat) (N : Nat) (J Jx : List Pr -> World -> Prop) (hJ : ∀ pre W W', J pre W -> y5 [] W W' -> J pre W') (hY : QaX ll M N J Jx) (lo hi : ByteArray) : ∀ h, Qb2 ll M N J Jx lo hi h
 | 0 => by
  intro n f nd x pre W hx hw _ hs hJ0 hN
  obtain ⟨v, rfl, hl, hb⟩ := hx
  have HC := QaZ ll M N J Jx hJ hY lo hi n v nd pre W hl hb hw.1 (fun p hp => (hw.2 p hp).2) (Sm.of hw hs).2 hJ0 hN
  obtain ⟨p, c, ev⟩ := SL.shape hl
  subst ev
  exact ⟨_, _, Qb0 _ _ _, HC⟩
 | h + 1 => by
  intro n f nd x pre W hx hw hfu hs hJ0 hN
  obtain ⟨v, xs, rfl, hl, hb, hf⟩ := qE.1 hx
  have HC := Qb5 ll M N J Jx hJ lo hi h (Qb6 ll M N J Jx hJ hY lo hi h) n f v xs nd pre W hl hb hf hw hfu (by have : 11 * List.length (α := Kid h) nd <= 1000 := hs; omega) hJ0 hN
  obtain ⟨p, c, ev⟩ := SL.shape hl
  subst ev
  exact ⟨_, _, Qb1 _ _ _, HC⟩
end Go.Proofs.YtcklgafpgdhnaabGreatDoor
