import Derived.Test.YtcklgafpgdhnaaaGreatDoorPtbg
import Derived.Test.YtcklgafpgdhnaaaGreatDoorPtbu
import Derived.Test.YtcklgafpgdhnaaaGreatDoorPtbo
import Derived.Test.YtcklgafpgdhnaaaGreatDoorPtad
import Derived.Test.YtcklgafpgdhnaaaGreatDoorPtah
import Derived.Test.YtcklgafpgdhnaaaGreatDoorPtat
import Derived.Test.YtcklgafpgdhnaaaGreatDoorPtbh
import Derived.Test.YtcklgafpgdhnaaaGreatDoorPtab
set_option maxRecDepth 100000
set_option maxHeartbeats 4000000
open Go.Proofs.Tryz
open Go.Act renaming put → zP
open List renaming getElem_toArray → zA, getElem_cons_succ → zB, getElem_cons_zero → zC, setIfInBounds_toArray → zD, set_cons_succ → zE, set_cons_zero → zF
namespace Go.Proofs.YtcklgafpgdhnaaaGreatDoor
open Go.RowKit
theorem StK.found {n : Nat} {D : Dv} {lt t : Tr} (h : StK n D.view lt t) (hh : (Qa9 D).1.2 = lt.pl) (hn : n <= 65536) : Qgh n D = some lt := by
 unfold Qgh
 rw [hh]
 exact h.read hn
theorem Qgq (a : Nat) (bv : Value) (n : Nat) (cv : Value) (D : Dv) (t : Tr) (w : World) (h : DQ w a bv n cv D) (hn8 : 8 <= n) (hn : n <= 400) (hq : D.q.length < 1000000) (hT : Tab w) (hg : Good D) (hh : (Qa9 D).2 = true) (ht : Qgh n D = some t) :
  Calls prog 34 #[.pointer (some ⟨a, 0, none⟩)] w fun e w' => ∃ x v r D', e = .returned (.tuple #[.pointer (some ⟨x, 0, none⟩), .nilIface]) /\ Rec x v a n ⟨1, (Qa9 D).1.1, (Qa9 D).1.2, t, r⟩ r t w' /\ w.heap.size <= x /\ DQ w' a bv n cv D' /\ Qt D D' /\ Kept [a] w w' := by
 refine QdE a w _ ((Qgi a bv n cv D w h hn8 hn hq hT).mono ?_)
 rintro e w' ⟨o, pv, err, D', rfl, hc, hd, hk, ⟨_, he, _⟩ | ⟨rfl, _, rfl, hno⟩ | ⟨rfl, hqt, _, t', r, x, v, ht', rfl, hr, hx⟩⟩
 ·exact absurd hg he.bad
 ·rcases hno with h1 | h1
  ·rw [hh] at h1; cases h1
  ·rw [ht] at h1; cases h1
 ·have he : err = .nilIface := hc
  subst he
  rw [ht] at ht'
  cases ht'
  exact ⟨_, _, rfl, x, v, r, D', rfl, hr, hx, hd, hqt, hk⟩
def FndR (a : Nat) (bv : Value) (n : Nat) (cv : Value) (D : Dv) (t : Tr) (w : World) (e : Ending) (w' : World) : Prop := ∃ vv D', e = .returned (.tuple #[vv, .bool true]) /\ PL w' 41 vv (Q5u t) /\ (∀ y, vv.ownBlock = some y -> w.heap.size <= y) /\ DQ w' a bv n cv D' /\ Qt D D' /\ Kept [a] w w'
theorem Qgr (a : Nat) (bv : Value) (n : Nat) (cv : Value) (D : Dv) (t : Tr) (w : World) (h : DQ w a bv n cv D) (hn8 : 8 <= n) (hn : n <= 400) (hq : D.q.length < 1000000) (hT : Tab w) (hg : Good D) (hh : (Qa9 D).2 = true) (ht : Qgh n D = some t) :
  Calls prog 25 #[.pointer (some ⟨a, 0, none⟩)] w (FndR a bv n cv D t w) := by
 have HO : Hid (Calls _ _ _ _ _) := Qgq a bv n cv D t w h hn8 hn hq hT hg hh ht
 have htw : TW t := (Qg7 ht).1
 have hlen : (Q5u t).length <= 20000 := by have := Qge (by omega) hn ht; omega
 clear h hT hg hh ht
 go_enter func25, ntmps25
 go_wp2_with fail
 refine HO.out.mono ?_
 rintro e w1 ⟨x, v, r, D', rfl, hr, hx, hd, hqt, hk⟩
 have HA : Hid (Calls _ _ _ _ _) := QeP x v a n _ r t htw hlen w1 hr
 have HD : Hid (DQ w1 a bv n cv D' /\ Qt D D' /\ Kept [a] w w1) := ⟨hd, hqt, hk⟩
 clear hr hd hqt hk
 go_wp2_with fail
 refine HA.out.mono ?_
 rintro e w2 ⟨vv, rfl, hpl, hfr, hk2⟩
 have FIN : Hid (FndR a bv n cv D t w (.returned (.tuple #[vv, .bool true])) w2) := ⟨vv, D', rfl, hpl, (fun y hy => by have h1 := hfr y hy; have h2 := HD.out.2.2.size; omega), HD.out.1.k0 hk2, HD.out.2.1, HD.out.2.2.trans (hk2.mono (by simp))⟩
 clear hpl hfr hk2
 go_wp2
 go_ret2
 exact FIN.out
def IL (W : World) (v : Value) : Prop := ∃ ao len cap, v = .slice ao len cap /\ (len = 0 \/ ∃ a, ao = some a /\ ∀ i, i < len -> ∃ z, W.cell? (a.add i) = some (.int .i64 z))
theorem Qgs : (prog.info? 3).map (fun i => (i.zero, i.size, i.bytes)) = some (some (.int .i64 0), 1, 8) := by kernel_rfl
theorem Qgt (w : World) (x : Int) : (Instr.buildSlice 24 1 #[(0, .int .i64 x)]).run prog w = .ok (.slice (some ⟨w.heap.size, 0, none⟩) 1 1) (w.alloc (.cells #[.int .i64 x] 3)) := by kernel_rfl
def FwI (w : World) (len : Nat) (o i : Value) (wr : World) : Prop := ∃ (ms : List Int) (j : Nat), i = .int .i64 (j : Nat) /\ j <= 64 /\ j <= len /\ ms.length = j /\ wr.ownsRow 0 3 1 o j (ints ms) /\ (∀ y, o.ownBlock = some y -> w.heap.size <= y) /\ Kept [] w wr
def FewR (w : World) (e : Ending) (w' : World) : Prop := ∃ vv ms, e = .returned vv /\ w'.ownsRow 0 3 1 vv ms.length (ints ms) /\ (∀ y, vv.ownBlock = some y -> w.heap.size <= y) /\ Kept [] w w'
theorem Qgu (v : Value) (w : World) (h : IL w v) : Calls prog 23 #[v] w (FewR w) := by
 obtain ⟨ao, len, cap, rfl, hl⟩ := h
 go_enter func23, ntmps23
 go_wp2
 go_loopw [3, 4] (fun o i wr => FwI w len o i wr) (fun _ i _ => len - (intOf i).toNat)
 case atStart => exact ⟨[], 0, rfl, by omega, by omega, rfl, World.ownsRow_nil _ _ _ _, (fun y hy => by cases hy), Kept.refl _ _⟩
 case round =>
  rename_i o _
  obtain ⟨ms, j, rfl, hj, hjl, hms, hown, hfr, hk⟩ := hrel
  obtain ⟨op, oc, rfl⟩ := Q0X hown
  by_cases hlt : j < len /\ j < 64
  ·obtain ⟨a, rfl, hc⟩ : ∃ a, ao = some a /\ ∀ i, i < len -> ∃ z, w.cell? (a.add i) = some (.int .i64 z) := by
    rcases hl with h0 | h0
    ·omega
    ·exact h0
   obtain ⟨z, hz⟩ := hc j hlt.1
   have h1 : (j : Int) < len := by omega
   have h2 : (j : Int) < 64 := by omega
   have hz' : wr.cell? (a.add j) = some (.int .i64 z) := by
    rw [World.cell?_of_block (w := w) (hk.block _ (block_lt_of_cell hz) (by simp))]; exact hz
   have hbs := Qgt wr z
   obtain ⟨ie, hie, hz1, hz2, hz3⟩ := info_parts Qgs
   have K1 : Kept [] wr (wr.alloc (.cells #[.int .i64 z] 3)) := (Kept.refl [] wr).alloc _
   obtain ⟨v', w8, hr8, hown8, k8, hwh⟩ := Q1C (P := prog) (wr.alloc (.cells #[.int .i64 z] 3)) 24 3 ie _ 1 8 underlying24 hie hz1 hz2 hz3 rfl (by omega) (.slice op j oc) j (ints ms) (Q0W hown K1 (by simp)) ⟨wr.heap.size, 0, none⟩ 1 1 [.int .i64 z] rfl (Q19 (heap_alloc_new wr (.cells #[.int .i64 z] 3))) (by simp [Value.oneCell']) (by unfold maxLen; omega) (by omega)
   have FIN : Hid (FwI w len v' (.int .i64 ((j + 1 : Nat) : Int)) w8) := ⟨ms ++ [z], j + 1, rfl, by omega, by omega, by simp [hms], by
    have e : ints (ms ++ [z]) = ints ms ++ [.int .i64 z] := by simp [ints]
    rw [e]
    exact hown8, (fun y hy => by
    rcases hwh y hy with h3 | h3
    ·exact hfr y h3
    ·have h4 := hk.size
     have h5 := K1.size
     omega), (hk.trans K1).trans2 k8 (fun y hy => Or.inr (hfr y (by simpa using hy)))⟩
   clear hl hc hown8 hwh k8 hown hfr
   go_wp2_with (first
    | (refine Q04 rfl _ _ (Q0o 24 1 (.tmp 19) rfl (.int .i64 z) (by rfl) _ (Qgt _ _)) ?_)
    | (at_builtin; refine Q04 rfl _ _ (Q0n (.tmp 15) (.tmp 20) 24 rfl (.slice op j oc) (.slice (some ⟨wr.heap.size, 0, none⟩) 1 1) (by rfl) (by rfl) _ hr8) ?_))
   go_roundw
   case rel => exact FIN.out
   case measure => simp [intOf]; omega
  ·have h1 : ¬ ((j : Int) < len /\ (j : Int) < 64) := by omega
   by_cases h2 : j < len
   ·have h3 : (j : Int) < len := by omega
    have h4 : ¬ (j : Int) < 64 := by omega
    go_wp2
    go_ret
    exact ⟨_, ms, rfl, by rw [hms]; exact hown, hfr, hk⟩
   ·have h3 : ¬ (j : Int) < len := by omega
    go_wp2
    go_ret
    exact ⟨_, ms, rfl, by rw [hms]; exact hown, hfr, hk⟩
theorem Qgv : ((prog.fieldsOf 41).toList.map fun f => (f.type, f.offset)) = [(9, 0), (9, 1)] := by kernel_rfl
theorem Qgw : ((prog.fieldsOf 41).toList.map fun f => decide (f.name = "_")) = [false, false] := by kernel_rfl
theorem undP : prog.underlying 41 = some (.struct (prog.fieldsOf 41)) := by kernel_rfl
theorem Qgx : prog.stoodInHeld 41 = false := by kernel_rfl
theorem neqP (p q : Pr) (w : World) : (binOp .neq 41 (.agg #[.string p.1, .string p.2]) (.agg #[.string q.1, .string q.2])).run prog w = .ok (.bool (!(be p.1 q.1 && be p.2 q.2))) w := by
 rw [run_neq_struct, run_equalIn_struct w 9999 41 _ _ undP Qgx]
 have h1 := Qgv
 have h2 := Qgw
 generalize (prog.fieldsOf 41).toList = fs at h1 h2
 have hl : fs.length = 2 := by have := congrArg List.length h1; simpa using this
 obtain ⟨f, g, rfl⟩ : ∃ f g, fs = [f, g] := by
  rcases fs with _ | ⟨f, _ | ⟨g, _ | ⟨x, r⟩⟩⟩
  ·simp at hl
  ·simp at hl
  ·exact ⟨f, g, rfl⟩
  ·simp at hl
 ·simp only [List.map_cons, List.map_nil, List.cons.injEq, Prod.mk.injEq, and_true, decide_eq_false_iff_not] at h1 h2
  obtain ⟨⟨a1, a2⟩, b1, b2⟩ := h1
  have e1 : ∀ (x y : Value), (part 9 #[x, y] 0).run prog w = .ok x w := fun x y => by simp [part, isAgg, run_underlying underlying9]
  have e2 : ∀ (x y : Value), (part 9 #[x, y] 1).run prog w = .ok y w := fun x y => by simp [part, isAgg, run_underlying underlying9]
  unfold be
  cases c1 : (p.1.toList == q.1.toList) <;> cases c2 : (p.2.toList == q.2.toList) <;>
   simp [Op.eqFields, h2.1, h2.2, a1, a2, b1, b2, e1, e2, run_equalIn_string (P := prog) w _ 9 _ _ underlying9, c1, c2]
def KsS (ga gb : Nat) (ca cb : Array Value) (W : World) : Prop := W.heap[ga]? = some (.cells ca 41 (0, 0)) /\ W.heap[gb]? = some (.cells cb 41 (0, 0))
theorem Qgy {o : Oper} {a : Act} {w : World} (x y : Operand) (ho : o.op = .binOp .neq 41 x y 41) (p q : Pr) (hx : a.eval x = .agg #[.string p.1, .string p.2]) (hy : a.eval y = .agg #[.string q.1, .string q.2]) (b : Bool) (hb : (!(be p.1 q.1 && be p.2 q.2)) = b) :
  (execOp a.eval o).run prog w = .ok (.value (.bool b)) w := by
 unfold execOp
 simp only [ho, hx, hy, Sem.run_bind, run_eqGuard_agg (P := prog) (w := w) .neq 41 x y _ _ (by kernel_rfl), neqP, Result.andThen_ok, Sem.run_pure, hb]
def KsI (w : World) (la lb : List Pr) (i : Value) (wr : World) : Prop := ∃ (j : Nat), j <= la.length /\ i = .int .i64 j /\ la.take j = lb.take j /\ Kept [] w wr
theorem Qgz (va vb : Value) (la lb : List Pr) (w : World) (ha : PL w 41 va la) (hb : PL w 41 vb lb) (hl : la.length <= 50000) :
  Calls prog 26 #[va, vb] w fun e w' => e = .returned (.bool (decide (la = lb))) /\ Kept [] w w' := by
 obtain ⟨pa, ca, rfl⟩ := ha.shape
 obtain ⟨pb, cb, rfl⟩ := hb.shape
 by_cases hlen : la.length = lb.length
 ·have dl : ((la.length : Int) == (lb.length : Int)) = true := by rw [hlen]; simp
  go_enter func26, ntmps26
  go_wp2
  go_loopw [5] (fun i wr => KsI w la lb i wr) (fun i _ => la.length - (intOf i).toNat)
  case atStart => exact ⟨0, Nat.zero_le _, rfl, rfl, Kept.refl _ _⟩
  case round =>
   obtain ⟨j, hj, rfl, heq, hkr⟩ := hrel
   have HQ : Hid _ := heq
   clear heq
   by_cases hlt : j < la.length
   ·have hA := ha.kept hkr (by simp)
    have hB := hb.kept hkr (by simp)
    obtain ⟨ga, _, cura, e, hga, hcura⟩ := hA.at_ (by omega)
    cases e
    obtain ⟨gb, _, curb, e, hgb, hcurb⟩ := hB.at_ (by omega)
    cases e
    obtain ⟨p, hp⟩ : ∃ p, la[j]? = some p := ⟨_, List.getElem?_eq_getElem hlt⟩
    obtain ⟨q, hq⟩ : ∃ q, lb[j]? = some q := ⟨_, List.getElem?_eq_getElem (by omega)⟩
    have hltb : j < lb.length := by omega
    have hS : KsS ga gb cura curb wr := ⟨hga, hgb⟩
    by_cases hpq : p = q
    ·have HN : Hid (la.take (j + 1) = lb.take (j + 1)) := by
      have heq := HQ.out
      show _ = _
      rw [Q1a la j p hp, Q1a lb j q hq, heq, hpq]
     have hbv : (!(be p.1 q.1 && be p.2 q.2)) = false := by rw [hpq, Q3D, Q3D]; rfl
     go_wp2_with fail
     refine Q1m (KsS ga gb cura curb) (by kernel_rfl) ?_
     refine hu 0 (.slice (some ⟨ga, 0, none⟩) la.length ca) rfl (fun W hW => by rfl) hS ?_
     simp only [zP, zA, zC, zD, zE, zF]
     refine hu 1 (.int .i64 j) rfl (fun W hW => by rfl) hS ?_
     simp only [zP, zA, zB, zC, zD, zE, zF]
     refine hu 2 (.pointer (some ⟨ga, j * 2, none⟩)) rfl (fun W hW => Q0v 28 (.tmp 17) (.tmp 18) rfl ga 0 la.length ca j 2 rfl rfl 41 underlying28 sap hlt (j * 2) (by omega)) hS ?_
     simp only [zP, zA, zB, zC, zD, zE, zF]
     refine hu 3 (.agg #[.string p.1, .string p.2]) rfl (fun W hW => Q0l 41 (.tmp 19) rfl ⟨ga, j * 2, none⟩ rfl _ (PL.load _ hW.1 (hcura j p hp) underlying41 sap)) hS ?_
     simp only [zP, zA, zB, zC, zD, zE, zF]
     refine hu 4 (.slice (some ⟨gb, 0, none⟩) lb.length cb) rfl (fun W hW => by rfl) hS ?_
     simp only [zP, zA, zB, zC, zD, zE, zF]
     refine hu 5 (.int .i64 j) rfl (fun W hW => by rfl) hS ?_
     simp only [zP, zA, zB, zC, zD, zE, zF]
     refine hu 6 (.pointer (some ⟨gb, j * 2, none⟩)) rfl (fun W hW => Q0v 28 (.tmp 21) (.tmp 22) rfl gb 0 lb.length cb j 2 rfl rfl 41 underlying28 sap hltb (j * 2) (by omega)) hS ?_
     simp only [zP, zA, zB, zC, zD, zE, zF]
     refine hu 7 (.agg #[.string q.1, .string q.2]) rfl (fun W hW => Q0l 41 (.tmp 23) rfl ⟨gb, j * 2, none⟩ rfl _ (PL.load _ hW.2 (hcurb j q hq) underlying41 sap)) hS ?_
     simp only [zP, zA, zB, zC, zD, zE, zF]
     refine hu 8 (.bool false) rfl (fun W hW => Qgy (.tmp 20) (.tmp 24) rfl p q rfl rfl _ hbv) hS ?_
     simp only [zP, zA, zB, zC, zD, zE, zF]
     refine wpAnyH_done (by kernel_rfl) ?_ _
     clear hcura hcurb hga hgb hS
     go_wp2
     go_roundw
     case rel => exact ⟨j + 1, by omega, by go_num, HN.out, by first | exact hkr | exact hkr.drew⟩
     case measure => simp [intOf]; omega
    ·have hne : ¬ la = lb := by
      intro e; subst e; rw [hp] at hq; cases hq; exact hpq rfl
     have hbv : (!(be p.1 q.1 && be p.2 q.2)) = true := by
      cases h1 : be p.1 q.1 <;> cases h2 : be p.2 q.2 <;> try rfl
      exact absurd (Prod.ext ((Q3B _ _).1 h1) ((Q3B _ _).1 h2)) hpq
     go_wp2_with fail
     refine Q1m (KsS ga gb cura curb) (by kernel_rfl) ?_
     refine hu 0 (.slice (some ⟨ga, 0, none⟩) la.length ca) rfl (fun W hW => by rfl) hS ?_
     simp only [zP, zA, zC, zD, zE, zF]
     refine hu 1 (.int .i64 j) rfl (fun W hW => by rfl) hS ?_
     simp only [zP, zA, zB, zC, zD, zE, zF]
     refine hu 2 (.pointer (some ⟨ga, j * 2, none⟩)) rfl (fun W hW => Q0v 28 (.tmp 17) (.tmp 18) rfl ga 0 la.length ca j 2 rfl rfl 41 underlying28 sap hlt (j * 2) (by omega)) hS ?_
     simp only [zP, zA, zB, zC, zD, zE, zF]
     refine hu 3 (.agg #[.string p.1, .string p.2]) rfl (fun W hW => Q0l 41 (.tmp 19) rfl ⟨ga, j * 2, none⟩ rfl _ (PL.load _ hW.1 (hcura j p hp) underlying41 sap)) hS ?_
     simp only [zP, zA, zB, zC, zD, zE, zF]
     refine hu 4 (.slice (some ⟨gb, 0, none⟩) lb.length cb) rfl (fun W hW => by rfl) hS ?_
     simp only [zP, zA, zB, zC, zD, zE, zF]
     refine hu 5 (.int .i64 j) rfl (fun W hW => by rfl) hS ?_
     simp only [zP, zA, zB, zC, zD, zE, zF]
     refine hu 6 (.pointer (some ⟨gb, j * 2, none⟩)) rfl (fun W hW => Q0v 28 (.tmp 21) (.tmp 22) rfl gb 0 lb.length cb j 2 rfl rfl 41 underlying28 sap hltb (j * 2) (by omega)) hS ?_
     simp only [zP, zA, zB, zC, zD, zE, zF]
     refine hu 7 (.agg #[.string q.1, .string q.2]) rfl (fun W hW => Q0l 41 (.tmp 23) rfl ⟨gb, j * 2, none⟩ rfl _ (PL.load _ hW.2 (hcurb j q hq) underlying41 sap)) hS ?_
     simp only [zP, zA, zB, zC, zD, zE, zF]
     refine hu 8 (.bool true) rfl (fun W hW => Qgy (.tmp 20) (.tmp 24) rfl p q rfl rfl _ hbv) hS ?_
     simp only [zP, zA, zB, zC, zD, zE, zF]
     refine wpAnyH_done (by kernel_rfl) ?_ _
     clear hcura hcurb hga hgb hS
     go_wp2
     go_ret
     exact ⟨by simp [hne], by first | exact hkr | exact hkr.drew⟩
   ·have hge : ¬ (j : Int) < (la.length : Int) := by omega
    have heq := HQ.out
    have hab : la = lb := by
     rw [List.take_of_length_le (by omega), List.take_of_length_le (by omega)] at heq; exact heq
    clear heq
    go_wp2
    go_ret
    exact ⟨by simp, hkr⟩
 ·have dl : ((la.length : Int) == (lb.length : Int)) = false := by rw [beq_eq_false_iff_ne]; omega
  have hne : ¬ la = lb := fun e => hlen (by rw [e])
  go_enter func26, ntmps26
  go_wp2
  go_ret
  exact ⟨by simp [hne], Kept.refl _ _⟩
theorem QgA {i : Nat} {A B : List UInt8} (h : A.take 32 = B.take 32) : rdH i A = rdH i B := by
 unfold rdH
 rw [Qdh A 8 8 32 (by omega), Qdh A 16 2 32 (by omega), Qdh B 8 8 32 (by omega), Qdh B 16 2 32 (by omega), h]
theorem QgB {c : Nat -> Bool} {L : List UInt8} {x : Wt} {n : Nat} (hL : L.length = n * 128) (hx : x.1 < n) (h2 : x.2.length = 128) {j : Nat} (hj : x.1 ≠ j) : ∀ s, s <= 4 -> Q13 (svN c L x s) j = Q13 L j
 | 0, _ => rfl
 | s + 1, hs => by
  have ih := QgB (c := c) hL hx h2 hj s (by omega)
  have hl := Q24 (c := c) hL hx h2 s (by omega)
  have hc : ((x.2.drop (s * 32)).take 32).length = 32 := by rw [List.length_take, List.length_drop]; omega
  rw [svN]
  split
  ·unfold Q13 put1 at *
   rw [Qdc (by rw [hc]; omega) (by rw [hc]; omega), ih]
  ·exact ih
theorem QgC (L : List UInt8) (i : Nat) : (Q13 L i).take 32 = (L.drop (i * 128)).take 32 := by unfold Q13; rw [List.take_take, Nat.min_eq_left (by omega)]
theorem QgD {c : Nat -> Bool} {L : List UInt8} {x : Wt} {n : Nat} (hL : L.length = n * 128) (hx : x.1 < n) (h2 : x.2.length = 128) : ∀ s, s <= 4 -> (Q13 (svN c L x s) x.1).take 32 = x.2.take 32 \/ (Q13 (svN c L x s) x.1).take 32 = (Q13 L x.1).take 32
 | 0, _ => Or.inr rfl
 | s + 1, hs => by
  have ih := QgD (c := c) hL hx h2 s (by omega)
  have hl := Q24 (c := c) hL hx h2 s (by omega)
  have hc : ((x.2.drop (s * 32)).take 32).length = 32 := by rw [List.length_take, List.length_drop]; omega
  rw [svN]
  split
  ·rw [QgC] at *
   unfold put1
   cases s with
   | zero =>
    left
    rw [Nat.zero_mul, Nat.add_zero, Qdb (by rw [Nat.zero_mul] at hc; rw [hc]; omega) _ (by rw [Nat.zero_mul] at hc; rw [hc])]
    rfl
   | succ s =>
    rw [Qdc (by rw [hc]; omega) (by rw [hc]; omega)]
    exact ih
  ·exact ih
theorem Sr.nil_eq {L L1 : List UInt8} (h : Sr L [] L1) : L1 = L := by
 generalize e : ([] : List Wt) = q at h
 cases h with
 | nil => rfl
 | snoc h x c => simp at e
theorem Sr.one {L L1 : List UInt8} {x : Wt} (h : Sr L [x] L1) : ∃ c, L1 = svN c L x 4 := by
 generalize e : [x] = q at h
 cases h with
 | nil => cases e
 | @snoc q' L2 h y c =>
  have e : ([] : List Wt) ++ [x] = q' ++ [y] := e
  obtain ⟨e1, e2⟩ := List.append_inj' e rfl
  cases e2
  subst e1
  rw [h.nil_eq]
  exact ⟨c, rfl⟩
theorem Sr.other {L L1 : List UInt8} {q : List Wt} {n : Nat} (h : Sr L q L1) (hL : L.length = n * 128) (hq : Fit n q) {j : Nat} (hj : ∀ x ∈ q, x.1 ≠ j) : Q13 L1 j = Q13 L j := by
 induction h with
 | nil => rfl
 | @snoc q' L2 h x c ih =>
  have hq' : Fit n q' := fun y hy => hq y (by simp [hy])
  rw [QgB (h.len hL hq') (hq x (by simp)).1 (hq x (by simp)).2 (hj x (by simp)) 4 (by omega)]
  exact ih hq' fun y hy => hj y (by simp [hy])
theorem Whl.agree {n : Nat} {lk lk' : Nat -> List UInt8} {t : Tr} (h : Whl n lk t) (ha : ∀ b ∈ preT t, lk' b = lk b) : Whl n lk' t := by
 rw [h.pre] at ha
 exact ⟨h.tw, h.nil, by rw [ha _ (by simp)]; exact h.at_, h.lies.agree fun b hb => ha b (by simp [hb]), h.nd, h.off, h.frs⟩
theorem StK.agree {n : Nat} {lk lk' : Nat -> List UInt8} {lt t : Tr} (h : StK n lk lt t) (ha : ∀ b ∈ preT lt, lk' b = lk b) : StK n lk' lt lt := by
 cases hn : nilN lt.h lt.n with
 | false => exact ((h.whl hn).agree ha).stk
 | true =>
  have hp := h.ltw.nil hn
  obtain ⟨hh, nn, pl⟩ := lt
  cases hh with
  | succ hh => cases hn
  | zero =>
   have : nn = ([] : List Pr) := List.isEmpty_iff.1 hn
   subst this
   have hp : pl = 0 := hp
   subst hp
   exact StK.none n lk'
theorem QgE (L : List UInt8) (i : Nat) : (Dv.new L).view i = Q13 L i := rfl
theorem QgF {D : Dv} (h : D.q = []) (i : Nat) : D.view i = Q13 D.L i := by unfold Dv.view; rw [h]; rfl
structure Fnd (n : Nat) (L : List UInt8) (tu ro : Nat) (T : Tr) : Prop where
 len : L.length = n * 128
 hd : Qa9 (.new L) = ((tu, ro), true)
 ro : ro = T.pl
 st : StK n (Dv.new L).view T T
 tu : tu < 18446744073709551616
theorem Fnd.tree {n : Nat} {L : List UInt8} {tu ro : Nat} {T : Tr} (h : Fnd n L tu ro T) (hn : n <= 65536) : Qgh n (.new L) = some T := h.st.found (by rw [h.hd]; exact h.ro) hn
structure Pre (n : Nat) (c : Hd) (t : Tr) (D : Dv) : Prop where
 st : StK n D.view c.lt t
 q : D.q = []
 hd : Qa9 D = ((c.tu, c.ro), true)
 ro : c.ro = c.lt.pl
 tu : c.tu < 18446744073709551616
 l : D.L.length = n * 128
 n8 : 8 <= n
 n4 : n <= 400
section
variable {n : Nat} {c : Hd} {t : Tr} {D D0 D' : Dv} {L1 : List UInt8}
theorem Pre.old (h : Pre n c t D) (hl : L1.length = n * 128) (hv : ∀ b ∈ preT c.lt, Q13 L1 b = D.view b) (h0 : (Q13 L1 0).take 32 = (D.view 0).take 32) (h1 : (Q13 L1 1).take 32 = (D.view 1).take 32) : Fnd n L1 c.tu c.ro c.lt := by
 refine ⟨hl, ?_, h.ro, h.st.agree fun b hb => ?_, h.tu⟩
 ·rw [<- h.hd]
  unfold Qa9
  rw [QgE, QgE, QgA h0, QgA h1]
 ·rw [QgE]; exact hv b hb
theorem Pre.self (h : Pre n c t D) : Fnd n D.L c.tu c.ro c.lt := h.old h.l (fun b _ => (QgF h.q b).symm) (by rw [QgF h.q]) (by rw [QgF h.q])
theorem Pre.d0 (h : Pre n c t D) (h0 : Sy0 c D D0) : D0.L = D.L /\ D0.q = [] /\ D0.wr = D.wr := by
 rcases h0 with ⟨_, hf⟩ | ⟨_, rfl⟩
 ·exact ⟨by rw [hf.L, h.q]; rfl, hf.q, hf.wr⟩
 ·exact ⟨rfl, h.q, rfl⟩
theorem Pre.ok (h : Pre n c t D) (hb : Bd n (sysL c t).2) {tu' ro' : Nat} (h0 : Sy0 c D D0) (hk : SyOk c t D0 tu' ro' D') (hfr : FrW c.lt n (sysL c t).2.ws) : D'.q = [] /\ Fnd n D'.L tu' ro' (sysL c t).1 /\ (tu' = c.tu \/ tu' = nxt c.tu) := by
 have hn2 : 2 <= n := by have := h.n8; omega
 have hqf : Fit n D.q := by rw [h.q]; exact fun x hx => by cases hx
 have hst := Qds h.st hn2 h.l hqf h0 hk hb hfr
 obtain ⟨a1, a2, a3⟩ := Qdz hn2 h.l hqf h0 hk hfr h.hd h.ro h.tu (hst.lpl (by have := h.n4; omega))
 obtain ⟨e1, e2, _⟩ := h.d0 h0
 have key : D'.q = [] /\ D'.L.length = n * 128 := by
  have hF : ∀ {D1 : Dv}, Wrs D0 (sysL c t).2.ws D1 -> D1.L.length = n * 128 /\ Fit n D1.q := fun hw => ⟨by rw [hw.L, e1]; exact h.l, by
   rw [hw.q, e2]
   exact fun x hx => (hfr x (by simpa using hx)).2⟩
  rcases hk with ⟨b1, _, _, hw⟩ | ⟨_, _, _, D1, D2, D3, hw, hf1, hwn, hf2⟩
  ·have b3 := QdO h.st b1
   refine ⟨by rw [hw.q, e2, b3]; rfl, (hF hw).1⟩
  ·refine ⟨hf2.q, ?_⟩
   rw [hf2.L]
   refine Q1J (by rw [hwn.L, hf1.L]; exact Q1J (hF hw).1 (hF hw).2) ?_
   rw [hwn.q, hf1.q]
   intro x hx
   simp at hx
   subst hx
   exact ⟨by show nxt c.tu % 2 < n; have := Nat.mod_lt (nxt c.tu) (show 0 < 2 by omega); omega, Qa4 _ _⟩
 refine ⟨key.1, ⟨key.2, ?_, a2, ?_, a3⟩, ?_⟩
 ·rw [<- a1]
  unfold Qa9
  rw [QgE, QgE, QgF key.1, QgF key.1]
 ·have : (Dv.new D'.L).view = D'.view := funext fun i => by rw [QgE, QgF key.1]
  rw [this]
  exact hst
 ·rcases hk with ⟨_, b2, _⟩ | ⟨_, b2, _⟩
  ·exact Or.inl b2
  ·exact Or.inr b2
theorem Pre.bad (h : Pre n c t D) (hb : Bd n (sysL c t).2) {o : Int} (h0 : Sy0 c D D0) (hk : Qcr c t n D0 o D') (hs : Sr D'.L D'.q L1) : Fnd n L1 c.tu c.ro c.lt \/ Fnd n L1 (nxt c.tu) (sysL c t).1.pl (sysL c t).1 := by
 obtain ⟨e1, e2, _⟩ := h.d0 h0
 have hn2 : 2 <= n := by have := h.n8; omega
 obtain ⟨hws1, hws2⟩ := Qdr c t
 have hus : ∀ b ∈ preT c.lt, b ∈ usL c.lt := fun b hb => Qd7 hb
 have h01 : 0 ∈ usL c.lt /\ 1 ∈ usL c.lt := ⟨List.mem_append_right _ (by simp), List.mem_append_right _ (by simp)⟩
 have hview : ∀ b, D.view b = Q13 D.L b := QgF h.q
 rcases hk with ⟨ws, D1, hfr, hw, ⟨_, he⟩ | ⟨_, _, hno⟩⟩ | ⟨_, hfr, D1, D2, hw, hf, hcase⟩
 ·left
  have hL : D'.L = D.L := by rw [he.L, hw.L, e1]
  have hq : D'.q = ws := by rw [he.q, hw.q, e2]; rfl
  rw [hL, hq] at hs
  have hfit : Fit n ws := fun x hx => (hfr x hx).2
  have hv : ∀ b ∈ usL c.lt, Q13 L1 b = D.view b := fun b hb1 => by
   rw [hview, hs.other h.l hfit fun x hx e => (hfr x hx).1 (by rw [e]; exact hb1)]
  exact h.old (hs.len h.l hfit) (fun b hb1 => hv b (hus b hb1)) (by rw [hv 0 h01.1]) (by rw [hv 1 h01.2])
 ·exact absurd hb hno
 ·have hL1 : D1.L.length = n * 128 := by rw [hw.L, e1]; exact h.l
  have hq1 : Fit n D1.q := by rw [hw.q, e2]; exact fun x hx => (hfr x (by simpa using hx)).2
  have hL2 : D2.L.length = n * 128 := by rw [hf.L]; exact Q1J hL1 hq1
  have hv0 : ∀ b ∈ usL c.lt, Q13 D2.L b = D.view b := fun b hb1 => by
   have a1 := hf.view hL1 hq1 b
   rw [QgF hf.q] at a1
   rw [a1, hw.other fun x hx e => hws2 x hx (by rw [e]; exact hb1), QgF e2, e1, hview]
  have hvw : ∀ x ∈ (sysL c t).2.ws, Q13 D2.L x.1 = x.2 := fun x hx => by
   have a1 := hf.view hL1 hq1 x.1
   rw [QgF hf.q] at a1
   rw [a1]
   exact hw.at hws1 hx
  rcases hcase with he | ⟨D3, hwn, he⟩
  ·left
   have hs : Sr D2.L [] L1 := by rw [<- he.L, <- hf.q, <- he.q]; exact hs
   obtain rfl := hs.nil_eq
   exact h.old hL2 (fun b hb1 => hv0 b (hus b hb1)) (by rw [hv0 0 h01.1]) (by rw [hv0 1 h01.2])
  ·have hs : Sr D2.L [(nxt c.tu % 2, blk (nxt c.tu) (sysL c t).1.pl)] L1 := by
    have e3 : D'.q = [(nxt c.tu % 2, blk (nxt c.tu) (sysL c t).1.pl)] := by rw [he.q, hwn.q, hf.q]; rfl
    rw [<- e3, <- hwn.L, <- he.L]
    exact hs
   obtain ⟨cc, rfl⟩ := hs.one
   have hi : nxt c.tu % 2 < n := by have := Nat.mod_lt (nxt c.tu) (show 0 < 2 by omega); omega
   have hlb : (blk (nxt c.tu) (sysL c t).1.pl).length = 128 := Qa4 _ _
   have hot : ∀ b, nxt c.tu % 2 ≠ b -> Q13 (svN cc D2.L (nxt c.tu % 2, blk (nxt c.tu) (sysL c t).1.pl) 4) b = Q13 D2.L b := fun b hb1 => QgB hL2 hi hlb hb1 4 (by omega)
   have hlen := Q24 (c := cc) (x := (nxt c.tu % 2, blk (nxt c.tu) (sysL c t).1.pl)) hL2 hi hlb 4 (by omega)
   have hhd := QgD (c := cc) (x := (nxt c.tu % 2, blk (nxt c.tu) (sysL c t).1.pl)) hL2 hi hlb 4 (by omega)
   generalize svN cc D2.L (nxt c.tu % 2, blk (nxt c.tu) (sysL c t).1.pl) 4 = L1 at *
   have hpar : nxt c.tu % 2 = 0 \/ nxt c.tu % 2 = 1 := by omega
   have hlo : ∀ b ∈ preT c.lt, nxt c.tu % 2 ≠ b := fun b hb1 => by have := Qd8 h.st.us hb1; omega
   have hvo : ∀ b ∈ preT c.lt, Q13 L1 b = D.view b := fun b hb1 => by rw [hot b (hlo b hb1), hv0 b (hus b hb1)]
   rcases hhd with hhd | hhd
   ·right
    have hst : StK n (Dv.new L1).view (sysL c t).1 (sysL c t).1 := h.st.sync hb (fun b hb1 => by rw [QgE]; exact hvo b hb1) fun x hx => by
     rw [QgE, hot x.1 (fun e => hws2 x hx (by rw [<- e]; rcases hpar with e2 | e2 <;> rw [e2]; exact h01.1; exact h01.2)), hvw x hx]
    have hnx : nxt c.tu < 18446744073709551616 := Nat.mod_lt _ (by omega)
    refine ⟨hlen, Qdy (r := c.ro) h.tu ?_ ?_, rfl, hst, hnx⟩
    ·rw [QgE, hot (c.tu % 2) (by rw [Qdw]; omega), hv0 (c.tu % 2) (by rcases Nat.mod_two_eq_zero_or_one c.tu with e2 | e2 <;> rw [e2]; exact h01.1; exact h01.2)]
     exact Qdx h.hd
    ·rw [QgE]
     have hnn : nxt c.tu % 2 % 2 = nxt c.tu % 2 := by omega
     refine Qdi ?_ hnx (hst.lpl (by have := h.n4; omega))
     rw [hhd]
     exact Qdg _ _
   ·left
    have hb01 : ∀ b, b = 0 \/ b = 1 -> (Q13 L1 b).take 32 = (D.view b).take 32 := fun b hb1 => by
     have hbu : b ∈ usL c.lt := by rcases hb1 with e2 | e2 <;> rw [e2]; exact h01.1; exact h01.2
     by_cases e : nxt c.tu % 2 = b
     ·subst e
      rw [hhd, hv0 _ hbu]
     ·rw [hot b e, hv0 b hbu]
    exact h.old hlen hvo (hb01 0 (Or.inl rfl)) (hb01 1 (Or.inr rfl))
end
end Go.Proofs.YtcklgafpgdhnaaaGreatDoor
