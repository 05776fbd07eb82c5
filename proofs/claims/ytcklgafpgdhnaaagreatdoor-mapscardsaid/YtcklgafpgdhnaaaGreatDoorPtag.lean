import Derived.Test.YtcklgafpgdhnaaaGreatDoorPtaf
import Derived.BigQuiet
import Derived.Deep.QuietTactic
import Derived.Test.YtcklgafpgdhnaaaGreatDoorPtac
import Derived.Maps.AppendAt
set_option maxRecDepth 100000
set_option maxHeartbeats 4000000
open List renaming getElem_toArray → zA, getElem_cons_succ → zB, getElem_cons_zero → zC, setIfInBounds_toArray → zD, set_cons_succ → zE, set_cons_zero → zF
namespace Go.Proofs.YtcklgafpgdhnaaaGreatDoor
open Go.RowKit

theorem Kept.drewN {S : List Nat} {a b : World} (h : Kept S a b) (n : Nat) : Kept S a (b.drewN n) := ⟨h.os, h.tape, h.output, h.size, h.block⟩

theorem w64 (n : Int) (h : -9223372036854775808 ≤ n ∧ n ≤ 9223372036854775807) : wrap64 n = n := by unfold wrap64; omega

theorem RKey_any (k : ByteArray) (w : World) : Calls Tryz.prog 141 #[.string k] w fun e w' => e = .returned (.bool (decide (1 ≤ k.size ∧ k.size ≤ 8))) ∧ w' = w := by
 by_cases h1 : 1 ≤ k.size
 ·by_cases h8 : k.size ≤ 8
  ·have g1 : (1 : Int) ≤ k.size := by omega
   have g8 : (k.size : Int) ≤ 8 := by omega
   go_enter Tryz.func141, Tryz.ntmps141
   go_wp2
   go_ret
   exact ⟨by simp [h1, h8], rfl⟩
  ·have g1 : (1 : Int) ≤ k.size := by omega
   have g8 : ¬ (k.size : Int) ≤ 8 := by omega
   go_enter Tryz.func141, Tryz.ntmps141
   go_wp2
   go_ret
   exact ⟨by simp, rfl⟩
 ·have g1 : ¬ (1 : Int) ≤ k.size := by omega
  have d1 : decide ((1 : Int) ≤ k.size) = false := by simpa using g1
  go_enter Tryz.func141, Tryz.ntmps141
  go_wp2
  go_ret
  exact ⟨by simp, rfl⟩

def scells (vl : Value) (f c : Bool) (mo ch : Int) : Array Value := #[vl, .bool f, .bool c, .int .i64 mo, .int .i64 ch]

theorem Room_any (vl : Value) (f c : Bool) (mo ch n k : Int) (w : World) (hmo : 0 ≤ mo ∧ mo ≤ 100000) (hk : 0 ≤ k ∧ k ≤ 100000) :
  Calls Tryz.prog 140 #[.agg (scells vl f c mo ch), .int .i64 n, .int .i64 k] w fun e w' => e = .returned (.bool (decide (3 * max mo k + 12 ≤ n))) ∧ Kept [] w w' := by
 unfold scells
 by_cases h : k < mo
 ·have e : max mo k = mo := by omega
  rw [e]
  have w1 : wrap64 (3 * mo) = 3 * mo := w64 _ (by omega)
  have w2 : wrap64 (3 * mo + 12) = 3 * mo + 12 := w64 _ (by omega)
  go_enter Tryz.func140, Tryz.ntmps140
  go_wp2
  go_ret
  exact ⟨by simp, (Kept.refl _ _).alloc _⟩
 ·have e : max mo k = k := by omega
  rw [e]
  have w1 : wrap64 (3 * k) = 3 * k := w64 _ (by omega)
  have w2 : wrap64 (3 * k + 12) = 3 * k + 12 := w64 _ (by omega)
  go_enter Tryz.func140, Tryz.ntmps140
  go_wp2
  go_ret
  exact ⟨by simp, (Kept.refl _ _).alloc _⟩

def chg (cl f : Bool) (k v : ByteArray) : Int := if cl then 5 else if f then 4 else if ¬ (1 ≤ k.size ∧ k.size ≤ 8) then 1 else if 12 < v.size then 2 else 0

theorem RChanged_any (vl : Value) (f c : Bool) (mo ch : Int) (k v : ByteArray) (w : World) :
  Calls Tryz.prog 137 #[.agg (scells vl f c mo ch), .string k, .string v] w fun e w' => e = .returned (.int .i64 (chg c f k v)) ∧ Kept [] w w' := by
 unfold scells
 cases c with
 | true =>
  go_enter Tryz.func137, Tryz.ntmps137
  go_wp2_with (go_at_call 141; refine (RKey_any _ _).mono ?_; rintro e w' ⟨rfl, rfl⟩)
  go_ret
  exact ⟨rfl, (Kept.refl _ _).alloc _⟩
 | false =>
  cases f with
  | true =>
   go_enter Tryz.func137, Tryz.ntmps137
   go_wp2_with (go_at_call 141; refine (RKey_any _ _).mono ?_; rintro e w' ⟨rfl, rfl⟩)
   go_ret
   exact ⟨rfl, (Kept.refl _ _).alloc _⟩
  | false =>
   by_cases hk : 1 ≤ k.size ∧ k.size ≤ 8
   ·have dk : decide (1 ≤ k.size ∧ k.size ≤ 8) = true := by simpa using hk
    by_cases hv : 12 < v.size
    ·have gv : (12 : Int) < v.size := by omega
     go_enter Tryz.func137, Tryz.ntmps137
     go_wp2_with (go_at_call 141; refine (RKey_any _ _).mono ?_; rintro e w' ⟨rfl, rfl⟩; rw [dk])
     go_ret
     exact ⟨by simp [chg, hk, hv], (Kept.refl _ _).alloc _⟩
    ·have gv : ¬ (12 : Int) < v.size := by omega
     go_enter Tryz.func137, Tryz.ntmps137
     go_wp2_with (go_at_call 141; refine (RKey_any _ _).mono ?_; rintro e w' ⟨rfl, rfl⟩; rw [dk])
     go_ret
     exact ⟨by simp [chg, hk, hv], (Kept.refl _ _).alloc _⟩
   ·have dk : decide (1 ≤ k.size ∧ k.size ≤ 8) = false := by simpa using hk
    go_enter Tryz.func137, Tryz.ntmps137
    go_wp2_with (go_at_call 141; refine (RKey_any _ _).mono ?_; rintro e w' ⟨rfl, rfl⟩; rw [dk])
    go_ret
    exact ⟨by rw [chg, if_neg (by simp), if_neg (by simp), if_pos hk]; rfl, (Kept.refl _ _).alloc _⟩

theorem run_index {P : Program} {w : World} (t : TypeId) (g off n cap i k : Nat) (e : TypeId) (hu : P.underlying t = some (.slice e)) (hs : (P.info? e).map (·.size) = some k) (hi : i < n) (p : Nat) (hp : p = off + i * k) :
  (Instr.indexAt t (.slice (some ⟨g, off, none⟩) n cap) (.int .i64 i)).run P w = .ok (.pointer (some ⟨g, p, none⟩)) w := by
 cases hq : P.info? e with
 | none => simp [hq] at hs
 | some ie =>
  have hsz : ie.size = k := by simpa [hq] using hs
  subst hp
  rw [← add_lit]
  simp [Instr.indexAt, asIntOf, run_underlying hu, sizeOf, typeInfo, hq, hsz, Result.andThen, hi]

def SameI (w : World) (la lb : List Pr) (i : Value) (wr : World) : Prop := ∃ (j : Nat), j ≤ la.length ∧ i = .int .i64 j ∧ la.take j = lb.take j ∧ Kept [] w wr

theorem Same_any (va vb : Value) (la lb : List Pr) (w : World) (ha : PL w 224 va la) (hb : PL w 224 vb lb) (hl : la.length ≤ 50000) :
  Calls Tryz.prog 145 #[va, vb] w fun e w' => e = .returned (.bool (decide (la = lb))) ∧ Kept [] w w' := by
 obtain ⟨pa, ca, rfl⟩ := ha.shape
 obtain ⟨pb, cb, rfl⟩ := hb.shape
 by_cases hlen : la.length = lb.length
 ·have dl : ((la.length : Int) == (lb.length : Int)) = true := by rw [hlen]; simp
  go_enter Tryz.func145, Tryz.ntmps145
  go_wp2
  go_loopw [5] (fun i wr => SameI w la lb i wr) (fun i _ => la.length - (intOf i).toNat)
  case atStart => exact ⟨0, Nat.zero_le _, rfl, rfl, Kept.refl _ _⟩
  case round =>
   obtain ⟨j, hj, rfl, heq, hkr⟩ := hrel
   have HQ : Hid _ := heq
   clear heq
   by_cases hlt : j < la.length
   ·have hA := ha.kept hkr (by simp)
    have hB := hb.kept hkr (by simp)
    obtain ⟨ga, _, cura, e, hga, hcura⟩ := hA.at_ (by omega)
    cases e
    obtain ⟨gb, _, curb, e, hgb, hcurb⟩ := hB.at_ (by omega)
    cases e
    obtain ⟨p, hp⟩ : ∃ p, la[j]? = some p := ⟨_, List.getElem?_eq_getElem hlt⟩
    obtain ⟨q, hq⟩ : ∃ q, lb[j]? = some q := ⟨_, List.getElem?_eq_getElem (by omega)⟩
    have a0 := cellAt (j := j * 2) hga (hcura j p hp).1
    have a1 := cellAt (j := j * 2 + 1) hga (hcura j p hp).2
    have q0 := cellAt (j := j * 2) hgb (hcurb j q hq).1
    have q1 := cellAt (j := j * 2 + 1) hgb (hcurb j q hq).2
    clear hA hB hcura hcurb
    have hltb : j < lb.length := by omega
    have hixa : (Instr.indexAt 187 (.slice (some ⟨ga, 0, none⟩) la.length ca) (.int .i64 j)).run Tryz.prog wr = .ok (.pointer (some ⟨ga, j * 2, none⟩)) wr := run_index 187 ga 0 la.length ca j 2 224 Tryz.underlying187 srp hlt _ (by omega)
    have hixb : (Instr.indexAt 187 (.slice (some ⟨gb, 0, none⟩) lb.length cb) (.int .i64 j)).run Tryz.prog wr = .ok (.pointer (some ⟨gb, j * 2, none⟩)) wr := run_index 187 gb 0 lb.length cb j 2 224 Tryz.underlying187 srp hltb _ (by omega)
    cases he : be p.1 q.1 with
    | false =>
     have hne : ¬ la = lb := by
      intro e; subst e; rw [hp] at hq; cases hq; rw [be_refl] at he; cases he
     unfold be at he
     go_wp2
     go_quiet (fail)
     go_wp2
     go_ret
     exact ⟨by simp [hne], hkr.drewN _⟩
    | true =>
     have e1 := (be_iff _ _).1 he
     cases hv : be p.2 q.2 with
     | false =>
      have hne : ¬ la = lb := by
       intro e; subst e; rw [hp] at hq; cases hq; rw [be_refl] at hv; cases hv
      unfold be at he hv
      go_wp2
      go_quiet (fail)
      go_wp2
      go_ret
      exact ⟨by simp [hne], hkr.drewN _⟩
     | true =>
      have e2 := (be_iff _ _).1 hv
      have hpq : p = q := Prod.ext e1 e2
      have HN : Hid (la.take (j + 1) = lb.take (j + 1)) := by
       have heq := HQ.out
       show _ = _
       rw [take_snoc la j p hp, take_snoc lb j q hq, heq, hpq]
      clear hpq e1 e2
      unfold be at he hv
      go_wp2
      go_quiet (fail)
      go_wp2
      go_roundw
      case rel => exact ⟨j + 1, by omega, by go_num, HN.out, hkr.drewN _⟩
      case measure => simp [intOf]; omega
   ·have hge : ¬ (j : Int) < (la.length : Int) := by omega
    have heq := HQ.out
    have hab : la = lb := by
     rw [List.take_of_length_le (by omega), List.take_of_length_le (by omega)] at heq; exact heq
    clear heq
    go_wp2
    go_ret
    exact ⟨by simp, hkr⟩
 ·have dl : ((la.length : Int) == (lb.length : Int)) = false := by rw [beq_eq_false_iff_ne]; omega
  have hne : ¬ la = lb := fun e => hlen (by rw [e])
  go_enter Tryz.func145, Tryz.ntmps145
  go_wp2
  go_ret
  exact ⟨by simp [hne], Kept.refl _ _⟩

end Go.Proofs.YtcklgafpgdhnaaaGreatDoor

namespace Go.Proofs.YtcklgafpgdhnaaaGreatDoor
open Go.RowKit

section
variable {P : Program} {ops : Array Oper} {Q : Exit → Act → World → Prop}
theorem wpOp_call {i : Nat} {o : Oper} {K : Act → World → Prop} {a : Act} {w : World} (ho : ops[i]? = some o) (hw : Region.wanted o (yielded ops a.tmps) = true) (f : FuncId) (args : Array Value)
  (hrun : (execOp a.eval o).run P w = .ok (.enter f args) w) (R : Ending → World → Prop) (hc : Calls P f args w R) (h : ∀ e w', R e w' → ∃ v, e = .returned v ∧ K (a.put o.dst v) w') : wpOp P ops Q i K a w :=
 wpOp_step ho fun K' hK => by
  rw [if_pos hw]; unfold Oper.wp; rw [hrun, Oper.upon_enter]
  refine hc.mono ?_
  intro e w' hR
  obtain ⟨v, rfl, hk⟩ := h e w' hR
  exact hK _ _ hk
end

theorem wpOp_callB {P : Program} {ops : Array Oper} {Q : Exit → Act → World → Prop} {i : Nat} {o : Oper} {K : Act → World → Prop} {a : Act} {w : World} (ho : ops[i]? = some o) (hw : Region.wanted o (yielded ops a.tmps) = true) (f : FuncId) (args : Array Value)
  (hrun : (execOp a.eval o).run P w = .ok (.enter f args) w) (R : Ending → World → Prop) (hc : Calls P f args w R) (h : ∀ e w', R e w' → (∃ v, e = .returned v ∧ K (a.put o.dst v) w') ∨ ∃ c, e = .panicked c ∧ Q (.panic c) a w') : wpOp P ops Q i K a w :=
 wpOp_step ho fun K' hK => by
  rw [if_pos hw]; unfold Oper.wp; rw [hrun, Oper.upon_enter]
  refine hc.mono ?_
  intro e w' hR
  rcases h e w' hR with ⟨v, rfl, hk⟩ | ⟨c, rfl, hk⟩
  ·exact hK _ _ hk
  ·exact hk
theorem enters {P : Program} {f : FuncId} {fn : Func} (hf : P.funcs[f]? = some fn) (hname : (fn.name == "runtime.NumGoroutine") = false) (hb : fn.body.isNone = false) (args : Array Value) (w : World) : (callFunc f args).run P w = .ok (.enter f args) w := by
 have h1 : ¬ fn.name = "runtime.NumGoroutine" := by simpa using hname
 have h2 : ¬ fn.body = none := by intro h; rw [h] at hb; cases hb
 simp [callFunc, hf, h1, h2]
theorem exec_call {P : Program} {o : Oper} {a : Act} {w : World} (f : FuncId) (xs : Array Operand) (ts : Array TypeId) (ho : o.op = .call { callee := .value (.func f), args := xs, argTypes := ts }) (vs : Array Value) (hv : xs.map a.eval = vs) (he : (callFunc f vs).run P w = .ok (.enter f vs) w) :
  (execOp a.eval o).run P w = .ok (.enter f vs) w := by
 subst hv
 simp [execOp, ho, resolve, Deferred.ofValue, invoke, Act.eval, he]

theorem exec_fieldL {P : Program} {o : Oper} {a : Act} {w : World} (t : TypeId) (x : Operand) (i : Nat) (ho : o.op = .fieldAddr t x i) (g b : Nat) (hx : a.eval x = .pointer (some ⟨g, b, none⟩)) (off : Nat) (hr : (Instr.fieldAt t (.pointer (some ⟨g, b, none⟩)) i).run P w = .ok (.pointer (some ⟨g, b + off, none⟩)) w) :
  (execOp a.eval o).run P w = .ok (.value (.pointer (some ⟨g, b + off, none⟩))) w := by
 simp [execOp, ho, hx, hr]


theorem exec_conv {P : Program} {o : Oper} {a : Act} {w : World} (t u : TypeId) (x : Operand) (ho : o.op = .convert t u x) (k k' : IntKind) (d : TypeDesc) (n : Int) (hx : a.eval x = .int k n) (ht : P.underlying t = some d) (hu : P.underlying u = some (.int k')) :
  (execOp a.eval o).run P w = .ok (.value (.int k' (k'.wrap n))) w := by
 simp [execOp, ho, hx, convert, run_underlying ht, run_underlying hu, Conv.intToInt]

end Go.Proofs.YtcklgafpgdhnaaaGreatDoor

namespace Go.Proofs.YtcklgafpgdhnaaaGreatDoor
open Go.RowKit






theorem run_build_rpair (w : World) (p : Pr) : (Instr.build 224 #[(0, .string p.1), (1, .string p.2)]).run Tryz.prog w = .ok (.agg #[.string p.1, .string p.2]) w := by
 simp [Instr.build, go_sem]

def PrS (g : Nat) (cur : Array Value) (W : World) : Prop := W.heap[g]? = some (.cells cur 41 (0, 0))

def PrI (w : World) (l : List Pr) (out i : Value) (wr : World) : Prop := ∃ (j : Nat), j ≤ l.length ∧ i = .int .i64 j ∧ wr.ownsRow w.heap.size 224 2 out j (flat2 (l.take j)) ∧ Kept [] w wr

theorem pairs_any (vl : Value) (l : List Pr) (w : World) (h : PL w 41 vl l) (hl : l.length ≤ 50000) :
  Calls Tryz.prog 144 #[vl] w (ListR 224 l w) := by
 obtain ⟨pv, cv, rfl⟩ := h.shape
 obtain ⟨ie, hie, hz1, hz2, hz3⟩ := info_parts irp
 go_enter Tryz.func144, Tryz.ntmps144
 go_wp2
 go_loopw [3, 4] (fun out i wr => PrI w l out i wr) (fun _ i _ => l.length - (intOf i).toNat)
 case atStart => exact ⟨0, Nat.zero_le _, rfl, World.ownsRow_nil _ _ _ _, Kept.refl _ _⟩
 case round =>
  obtain ⟨j, hj, rfl, hown, hkr⟩ := hrel
  by_cases hlt : j < l.length
  ·have hPL := h.kept hkr (by simp)
   obtain ⟨g, cap, cur, e, hg, hcur⟩ := hPL.at_ (by omega)
   cases e
   obtain ⟨p, hp⟩ : ∃ p, l[j]? = some p := ⟨_, List.getElem?_eq_getElem hlt⟩
   have hc := hcur j p hp
   have k1d : Kept [] wr (wr.drew.alloc (.cells (pcells p).toArray 224)) := (Kept.refl [] wr).drew.alloc _
   have hS : PrS g cur wr.drew := hg
   have hS2 : PrS g cur (wr.drew.alloc (.cells (pcells p).toArray 224)) := k1d.get hg (by simp)
   have own2 : (wr.drew.alloc (.cells (pcells p).toArray 224)).ownsRow w.heap.size 224 2 u3 j (flat2 (l.take j)) := owns_kept hown k1d (by simp)
   have HG : Hid (g ∉ u3.ownBlock.toList) := by
    intro hx
    simp at hx
    obtain ⟨_, ⟨rfl, _⟩ | ⟨g', cap', cur', rfl, _, hh, _⟩⟩ := hown
    ·cases hx
    ·cases hx; exact ne_tag hg hh (by decide) rfl
   have fin : ∀ (v' : Value) (w' : World), w'.ownsRow w.heap.size 224 2 v' (j + 1) (flat2 (l.take j) ++ pcells p) → Kept u3.ownBlock.toList wr w' → PrI w l v' (.int .i64 ((j : Int) + 1)) w' := by
    intro v' w' h1 h2
    refine ⟨j + 1, by omega, by simp, by rw [take_snoc l j p hp, ← flat2_snoc]; exact h1, hkr.trans2 h2 ?_⟩
    intro x hx; right; exact own_ge hown x hx
   have FIN : Hid _ := fin
   clear fin hPL hcur
   go_wp2
   refine wp_region_S (PrS g cur) (by kernel_rfl) ?_
   refine wpAnyH_take (i := 0) (v := u3) rfl (by kernel_rfl) (by kernel_rfl) (by kernel_rfl) (fun _ _ _ h => h) (Or.inl ⟨by rfl, fun W hW => by rfl⟩) hS ?_
   simp only [Act.put, zA, zC, zD, zE, zF]
   refine wpAnyH_take (i := 1) (v := .slice (some ⟨g, 0, none⟩) l.length cv) rfl (by kernel_rfl) (by kernel_rfl) (by kernel_rfl) (fun _ _ _ h => h) (Or.inl ⟨by rfl, fun W hW => by rfl⟩) hS ?_
   simp only [Act.put, zA, zB, zC, zD, zE, zF]
   refine wpAnyH_take (i := 2) (v := .int .i64 j) rfl (by kernel_rfl) (by kernel_rfl) (by kernel_rfl) (fun _ _ _ h => h) (Or.inl ⟨by rfl, fun W hW => by rfl⟩) hS ?_
   simp only [Act.put, zA, zB, zC, zD, zE, zF]
   refine wpAnyH_take (i := 3) (v := .pointer (some ⟨g, j * 2, none⟩)) rfl (by kernel_rfl) (by kernel_rfl) (by kernel_rfl) (fun _ _ _ h => h) (Or.inl ⟨by rfl, fun W hW => exec_index 28 (.tmp 12) (.tmp 13) rfl g 0 l.length cv j 2 rfl rfl 41 Tryz.underlying28 sap hlt (j * 2) (by omega)⟩) hS ?_
   simp only [Act.put, zA, zB, zC, zD, zE, zF]
   refine wpAnyH_take (i := 4) (v := .pointer (some ⟨g, j * 2 + 0, none⟩)) rfl (by kernel_rfl) (by kernel_rfl) (by kernel_rfl) (fun _ _ _ h => h) (Or.inl ⟨by rfl, fun W hW => exec_fieldL 41 (.tmp 14) 0 rfl g (j * 2) rfl 0 (by rfl)⟩) hS ?_
   simp only [Act.put, zA, zB, zC, zD, zE, zF]
   refine wpAnyH_take (i := 5) (v := .string p.1) rfl (by kernel_rfl) (by kernel_rfl) (by kernel_rfl) (fun _ _ _ h => h) (Or.inl ⟨by rfl, fun W hW => exec_load 9 (.tmp 15) rfl ⟨g, j * 2 + 0, none⟩ rfl _ (run_load1 Tryz.underlying9 rfl (cellAt hW hc.1))⟩) hS ?_
   simp only [Act.put, zA, zB, zC, zD, zE, zF]
   refine wpAnyH_take (i := 6) (v := .slice (some ⟨g, 0, none⟩) l.length cv) rfl (by kernel_rfl) (by kernel_rfl) (by kernel_rfl) (fun _ _ _ h => h) (Or.inl ⟨by rfl, fun W hW => by rfl⟩) hS ?_
   simp only [Act.put, zA, zB, zC, zD, zE, zF]
   refine wpAnyH_take (i := 7) (v := .int .i64 j) rfl (by kernel_rfl) (by kernel_rfl) (by kernel_rfl) (fun _ _ _ h => h) (Or.inl ⟨by rfl, fun W hW => by rfl⟩) hS ?_
   simp only [Act.put, zA, zB, zC, zD, zE, zF]
   refine wpAnyH_take (i := 8) (v := .pointer (some ⟨g, j * 2, none⟩)) rfl (by kernel_rfl) (by kernel_rfl) (by kernel_rfl) (fun _ _ _ h => h) (Or.inl ⟨by rfl, fun W hW => exec_index 28 (.tmp 17) (.tmp 18) rfl g 0 l.length cv j 2 rfl rfl 41 Tryz.underlying28 sap hlt (j * 2) (by omega)⟩) hS ?_
   simp only [Act.put, zA, zB, zC, zD, zE, zF]
   refine wpAnyH_take (i := 9) (v := .pointer (some ⟨g, j * 2 + 1, none⟩)) rfl (by kernel_rfl) (by kernel_rfl) (by kernel_rfl) (fun _ _ _ h => h) (Or.inl ⟨by rfl, fun W hW => exec_fieldL 41 (.tmp 19) 1 rfl g (j * 2) rfl 1 (by rfl)⟩) hS ?_
   simp only [Act.put, zA, zB, zC, zD, zE, zF]
   refine wpAnyH_take (i := 10) (v := .string p.2) rfl (by kernel_rfl) (by kernel_rfl) (by kernel_rfl) (fun _ _ _ h => h) (Or.inl ⟨by rfl, fun W hW => exec_load 9 (.tmp 20) rfl ⟨g, j * 2 + 1, none⟩ rfl _ (run_load1 Tryz.underlying9 rfl (cellAt hW hc.2))⟩) hS ?_
   simp only [Act.put, zA, zB, zC, zD, zE, zF]
   refine wpAnyH_take (i := 11) (v := .agg #[.string p.1, .string p.2]) rfl (by kernel_rfl) (by kernel_rfl) (by kernel_rfl) (fun _ _ _ h => h) (Or.inl ⟨by rfl, fun W hW => exec_build 224 (.tmp 16) (.tmp 21) 0 1 rfl _ _ _ rfl rfl (run_build_rpair W p)⟩) hS ?_
   simp only [Act.put, zA, zB, zC, zD, zE, zF]
   refine held_one (i := 12) (by kernel_rfl) (wpOp_val rfl rfl _ _ (exec_buildSlice 187 1 (.tmp 22) rfl (.agg #[.string p.1, .string p.2]) rfl _ (run_pair1 _ p)) ⟨hS2, ?_⟩)
   simp only [Act.put, zA, zB, zC, zD, zE, zF]
   obtain ⟨v8, w8, hr8, hown8, hgr8, -⟩ := run_append_own (P := Tryz.prog) (wr.drew.alloc (.cells (pcells p).toArray 224)) w.heap.size 187 187 224 ie _ 2 32 Tryz.underlying187 hie hz1 hz2 hz3 rfl (by decide) u3 j (flat2 (l.take j)) own2 ⟨wr.drew.heap.size, 0, none⟩ 1 1 (pcells p) rfl (row_src (heap_alloc_new _ _)) (one_pcells p) (by unfold maxLen; omega) (by omega) (by have := hkr.size; simp; omega)
   have k8 := grown_kept hgr8 u3.ownBlock.toList (by intro x hx; rw [hx]; simp)
   have hS8 : PrS g cur w8 := k8.get hS2 (HG.out)
   refine held_one (i := 13) (by kernel_rfl) (wpOp_val rfl rfl _ w8 (exec_append (.tmp 11) (.tmp 23) 187 rfl u3 (.slice (some ⟨wr.drew.heap.size, 0, none⟩) 1 1) rfl rfl _ hr8) ⟨hS8, ?_⟩)
   simp only [Act.put, zA, zB, zC, zD, zE, zF]
   refine held_one (i := 14) (by kernel_rfl) (wpOp_val rfl rfl v8 w8 rfl ⟨hS8, ?_⟩)
   simp only [Act.put, zA, zB, zC, zD, zE, zF]
   refine wpAnyH_done (by kernel_rfl) ?_ _
   have hP := FIN.out v8 w8 hown8 ((k1d.mono (by simp)).trans k8)
   clear hr8 hgr8 hown8 hS8 k8 hS2 hS own2
   go_wp2
   go_roundw
   case rel => exact hP
   case measure => simp [intOf]; omega
  ·have hge : ¬ (j : Int) < (l.length : Int) := by omega
   have ej : j = l.length := by omega
   subst ej
   rw [List.take_length] at hown
   go_wp2
   go_ret
   exact ⟨_, rfl, owns_mono hown (Nat.zero_le _), fun y hy => (hown.lt y hy).1, hkr⟩

end Go.Proofs.YtcklgafpgdhnaaaGreatDoor

namespace Go.Proofs.YtcklgafpgdhnaaaGreatDoor
open Go.RowKit

def opnc (px : Option Addr) (vl : Value) (f c : Bool) (mo ch : Int) (lv wv : Value) : Array Value := #[.pointer px, vl, .bool f, .bool c, .int .i64 mo, .int .i64 ch, lv, wv]
def OR (w : World) (b : Nat) (px : Option Addr) (vl : Value) (f c : Bool) (mo ch : Int) (lv wv : Value) : Prop := w.heap[b]? = some (.cells (opnc px vl f c mo ch lv wv) 195 (0, 0))

structure HLd where
 v : Value
 u : Value
 l : List Pr

structure HL (w : World) (lv wv : Value) (xs : List HLd) : Prop where
 lists : w.ownsRow 0 28 1 lv xs.length (xs.map HLd.v)
 want : w.ownsRow 0 28 1 wv xs.length (xs.map HLd.u)
 apart : ∀ g, lv.ownBlock = some g → wv.ownBlock ≠ some g
 all : ∀ x ∈ xs, PL w 41 x.v x.l ∧ PL w 41 x.u x.l ∧ x.l.length ≤ 50000

theorem row1_get {w : World} {base n : Nat} {t : TypeId} {v : Value} {vs : List Value} (h : w.ownsRow base t 1 v n vs) (hl : 0 < n) : ∃ g cap cur, v = .slice (some ⟨g, 0, none⟩) n cap ∧ w.heap[g]? = some (.cells cur t (0, 0)) ∧ ∀ (i : Nat) (x : Value), vs[i]? = some x → cur[i]? = some x := by
 obtain ⟨hl, ⟨_, h0⟩ | ⟨g, cap, cur, e, _, hh, _, _, _, htk⟩⟩ := h
 ·omega
 refine ⟨g, cap, cur, e, hh, ?_⟩
 intro i x hi
 have hil : i < vs.length := (List.getElem?_eq_some_iff.1 hi).1
 rw [← htk, List.getElem?_take, if_pos (by omega)] at hi
 simpa using hi

theorem spairs : (Tryz.prog.info? 28).map (·.size) = some 1 := by kernel_rfl

def LoI (n : Nat) (w : World) (i : Value) (wr : World) : Prop := ∃ (j : Nat), j ≤ n ∧ i = .int .i64 j ∧ Kept [] w wr

theorem looks_any (b : Nat) (px : Option Addr) (vl : Value) (f c : Bool) (mo ch : Int) (lv wv : Value) (xs : List HLd) (w : World) (hb : OR w b px vl f c mo ch lv wv) (h : HL w lv wv xs) (hn : xs.length ≤ 50000) :
  Calls Tryz.prog 105 #[.pointer (some ⟨b, 0, none⟩)] w fun e w' => e = .returned (.bool true) ∧ Kept [] w w' := by
 obtain ⟨pl, cl, rfl⟩ := owns_len2 h.lists
 obtain ⟨pw, cw, rfl⟩ := owns_len2 h.want
 go_enter Tryz.func105, Tryz.ntmps105
 go_wp2
 go_loopw [3] (fun i wr => LoI xs.length w i wr) (fun i _ => xs.length - (intOf i).toNat)
 case atStart => exact ⟨0, Nat.zero_le _, rfl, Kept.refl _ _⟩
 case round =>
  obtain ⟨j, hj, rfl, hkr⟩ := hrel
  have hb' : OR wr b px vl f c mo ch (.slice pl xs.length cl) (.slice pw xs.length cw) := hkr.get hb (by simp)
  have c6 : wr.cell? ⟨b, 6, none⟩ = some (.slice pl xs.length cl) := cellAt hb' rfl
  by_cases hlt : j < xs.length
  ·obtain ⟨x, hx⟩ : ∃ x, xs[j]? = some x := ⟨_, List.getElem?_eq_getElem hlt⟩
   obtain ⟨gl, _, curl, e, hgl, hcl⟩ := row1_get h.lists (by omega)
   cases e
   obtain ⟨gw, _, curw, e, hgw, hcw⟩ := row1_get h.want (by omega)
   cases e
   have hcl' := hcl j x.v (by simp [hx])
   have hcw' := hcw j x.u (by simp [hx])
   obtain ⟨hv, hu, hxl⟩ := h.all x (List.mem_of_getElem? hx)
   obtain ⟨pv, cv, ev⟩ := hv.shape
   obtain ⟨pu, cu, eu⟩ := hu.shape
   rw [ev] at hcl' hv
   rw [eu] at hcw' hu
   clear hcl hcw ev eu
   go_wp2
   go_loopw [4] (fun i wr => LoI x.l.length w i wr) (fun i _ => x.l.length - (intOf i).toNat)
   case atStart => exact ⟨0, Nat.zero_le _, rfl, hkr⟩
   case round =>
    obtain ⟨k, hk, rfl, hkr2⟩ := hrel
    have hb2 : OR wr b px vl f c mo ch (.slice (some ⟨gl, 0, none⟩) xs.length cl) (.slice (some ⟨gw, 0, none⟩) xs.length cw) := hkr2.get hb (by simp)
    have d6 : wr.cell? ⟨b, 6, none⟩ = some (.slice (some ⟨gl, 0, none⟩) xs.length cl) := cellAt hb2 rfl
    have d7 : wr.cell? ⟨b, 7, none⟩ = some (.slice (some ⟨gw, 0, none⟩) xs.length cw) := cellAt hb2 rfl
    have e1 : wr.cell? ⟨gl, j, none⟩ = some (.slice pv x.l.length cv) := cellAt (hkr2.get hgl (by simp)) hcl'
    have e2 : wr.cell? ⟨gw, j, none⟩ = some (.slice pu x.l.length cu) := cellAt (hkr2.get hgw (by simp)) hcw'
    by_cases hlk : k < x.l.length
    ·obtain ⟨ga, _, cura, e, hga, hcura⟩ := (hv.kept hkr2 (by simp)).at_ (by omega)
     cases e
     obtain ⟨gb, _, curb, e, hgb, hcurb⟩ := (hu.kept hkr2 (by simp)).at_ (by omega)
     cases e
     obtain ⟨p, hp⟩ : ∃ p, x.l[k]? = some p := ⟨_, List.getElem?_eq_getElem hlk⟩
     have l1 := PL.load (P := Tryz.prog) (ty := 41) _ hga (hcura k p hp) Tryz.underlying41 sap
     have l2 := PL.load (P := Tryz.prog) (ty := 41) _ hgb (hcurb k p hp) Tryz.underlying41 sap
     have i1 : (Instr.indexAt 28 (.slice (some ⟨ga, 0, none⟩) x.l.length cv) (.int .i64 k)).run Tryz.prog wr = .ok (.pointer (some ⟨ga, k * 2, none⟩)) wr := run_index 28 ga 0 x.l.length cv k 2 41 Tryz.underlying28 sap hlk _ (by omega)
     have i2 : (Instr.indexAt 28 (.slice (some ⟨gb, 0, none⟩) x.l.length cu) (.int .i64 k)).run Tryz.prog wr = .ok (.pointer (some ⟨gb, k * 2, none⟩)) wr := run_index 28 gb 0 x.l.length cu k 2 41 Tryz.underlying28 sap hlk _ (by omega)
     have a0 := cellAt (j := k * 2) hga (hcura k p hp).1
     have a1 := cellAt (j := k * 2 + 1) hga (hcura k p hp).2
     have q0 := cellAt (j := k * 2) hgb (hcurb k p hp).1
     have q1 := cellAt (j := k * 2 + 1) hgb (hcurb k p hp).2
     clear hcura hcurb
     go_wp2
     go_quiet (fail)
     go_wp2
     go_roundw
     case rel => exact ⟨k + 1, by omega, by go_num, hkr2.drewN _⟩
     case measure => simp [intOf]; omega
    ·have hge : ¬ (k : Int) < (x.l.length : Int) := by omega
     go_wp2
     go_roundw
     case rel => exact ⟨j + 1, by omega, by go_num, hkr2⟩
     case measure => simp [intOf]; omega
  ·have hge : ¬ (j : Int) < (xs.length : Int) := by omega
   go_wp2
   go_ret
   exact ⟨rfl, hkr⟩

end Go.Proofs.YtcklgafpgdhnaaaGreatDoor

namespace Go.Proofs.YtcklgafpgdhnaaaGreatDoor
open Go.RowKit

def StrR (w : World) (e : Ending) (w' : World) : Prop := (∃ s, e = .returned (.string s)) ∧ Kept [] w w'

theorem mark_any (n : Int) (w : World) : Calls Tryz.prog 167 #[.int .i64 n] w (StrR w) := by
 have n1 := heap_alloc_new w (.cells #[.int .u8 (n / 16777216 % 256), .int .u8 (n / 65536 % 256), .int .u8 (n / 256 % 256), .int .u8 (n % 256), .int .u8 33] 5)
 have hl := run_loadCells_list (P := Tryz.prog) _ ⟨w.heap.size, 0, none⟩ ([n / 16777216 % 256, n / 65536 % 256, n / 256 % 256, n % 256, 33].map (Value.int .u8)) (row_src n1)
 have hc := (run_convert_bytes_string (P := Tryz.prog) _ 60 9 5 (some ⟨w.heap.size, 0, none⟩) 5 5 Tryz.underlying60 Tryz.underlying5 Tryz.underlying9).trans (run_bytesToString _ ⟨w.heap.size, 0, none⟩ 5 5 _ hl)
 clear hl n1
 go_enter Tryz.func167, Tryz.ntmps167
 go_wp2
 go_ret
 exact ⟨⟨_, rfl⟩, (Kept.refl _ _).alloc _⟩

theorem run_copy_wide {P : Program} (w : World) (dT sT ty elem : TypeId) (g o dLen dCap k : Nat) (a : Addr) (sLen sCap : Nat) (cur : Array Value) (t : TypeId) (cs : List Value)
  (hu : P.underlying dT = some (.slice elem)) (hs : (P.info? elem).map (·.size) = some k)
  (hg : w.heap[g]? = some (.cells cur t (0, 0))) (hn : cs.length = Nat.min sLen dLen * k)
  (hsrc : ∀ j v, cs[j]? = some v → w.cell? (a.add j) = some v) (hfit : o + cs.length ≤ cur.size) (h1 : ∀ v ∈ cs, v.oneCell' = true) :
  (Builtin.copy_ #[dT, sT] ty #[.slice (some ⟨g, o, none⟩) dLen dCap, .slice (some a) sLen sCap]).run P w =
   .ok (goInt (Nat.min sLen dLen)) (w.setRow g (cur.toList.take o ++ cs ++ cur.toList.drop (o + cs.length)).toArray) := by
 have hl := run_loadCells_list (P := P) w a cs hsrc
 have hst := run_storeCells_at P g o t cs 0 cur w hg (by simpa using hfit) h1
 cases hq : P.info? elem with
 | none => simp [hq] at hs
 | some i =>
  have hi : i.size = k := by simpa [hq] using hs
  rw [hn] at hl
  simp [Builtin.copy_, run_underlying hu, Builtin.lenOf, Builtin.firstCells, sizeOf, typeInfo, hq, hi, hl, hst]

theorem mkpairs (m : Nat) (hm : m ≤ 100000) (w : World) : ∃ z : List Value, z.length = m * 2 ∧ (Instr.makeSlice 28 (.int .i64 m) (.int .i64 m)).run Tryz.prog w = .ok (.slice (some ⟨w.heap.size, 0, none⟩) m m) (w.alloc (.cells z.toArray 41)) := by
 obtain ⟨ie, hie, hz1, hz2, hz3⟩ := info_parts iap
 obtain ⟨z, hz⟩ : ∃ z : Value, ie.zero = some z := ⟨_, hz1⟩
 have := run_make (P := Tryz.prog) w 28 41 ie z Tryz.underlying28 hie hz .i64 .i64 m m (by omega) (by omega) (by rw [hz3]; omega) (by omega)
 refine ⟨(Array.map (fun x => z.cells[x % z.cells.size]!) (Array.range (m * ie.size))).toList, ?_, ?_⟩
 ·simp [hz2]
 ·rw [this]; rfl

theorem run_buildS {P : Program} (w : World) (t e : TypeId) (v : Value) (ie : TypeInfo) (z : Value) (hu : P.underlying t = some (.slice e)) (hi : P.info? e = some ie) (hz : ie.zero = some z) (hzc : z.cells = #[z]) (hs : ie.size = 1) (h1 : v.cells = #[v]) :
  (Instr.buildSlice t 1 #[(0, v)]).run P w = .ok (.slice (some ⟨w.heap.size, 0, none⟩) 1 1) (w.alloc (.cells #[v] e)) := by
 have hr : (Array.range 1).map (fun i => (z.cells)[i % z.cells.size]!) = #[z] := by
  rw [hzc]
  apply Array.ext
  ·simp
  ·intro i _ h2
   simp at h2
   subst h2
   simp
 have hf : Instr.fill (fun i => some (i, 1)) #[z] [(0, v)] = some #[v] := by
  simp [Instr.fill, h1]
 simp [Instr.buildSlice, run_underlying hu, sizeOf, typeInfo, hi, zeroValue, hz, newRow, hs, hr, hf]


theorem spairss : (Tryz.prog.info? 193).map (·.size) = some 1 := by kernel_rfl
theorem ipairs : (Tryz.prog.info? 28).map (fun i => (i.zero, i.size, i.bytes)) = some (some (.slice none 0 0), 1, 24) := by kernel_rfl

end Go.Proofs.YtcklgafpgdhnaaaGreatDoor

namespace Go.Proofs.YtcklgafpgdhnaaaGreatDoor
open Go.RowKit

theorem HL.kept {S : List Nat} {w w' : World} {lv wv : Value} {xs : List HLd} (h : HL w lv wv xs) (k : Kept S w w') (h1 : ∀ g, lv.ownBlock = some g → g ∉ S) (h2 : ∀ g, wv.ownBlock = some g → g ∉ S) (h3 : ∀ x ∈ xs, (∀ g, x.v.ownBlock = some g → g ∉ S) ∧ (∀ g, x.u.ownBlock = some g → g ∉ S)) : HL w' lv wv xs :=
 ⟨owns_kept h.lists k h1, owns_kept h.want k h2, h.apart, fun x hx => by
  obtain ⟨a, b, c⟩ := h.all x hx
  exact ⟨a.kept k (h3 x hx).1, b.kept k (h3 x hx).2, c⟩⟩

theorem HL.fresh {w w' : World} {lv wv : Value} {xs : List HLd} (h : HL w lv wv xs) (k : Kept [] w w') : HL w' lv wv xs := h.kept k (by simp) (by simp) (by simp)

theorem PL.tag {w : World} {t : TypeId} {v : Value} {l : List Pr} (h : PL w t v l) {g : Nat} (hg : v.ownBlock = some g) : ∃ cs fr, w.heap[g]? = some (.cells cs t fr) := by
 obtain ⟨_, ⟨rfl, _⟩ | ⟨g', cap, cur, rfl, _, hh, _⟩⟩ := h
 ·cases hg
 ·cases hg; exact ⟨_, _, hh⟩
theorem ne_rows {w : World} {a b : Nat} {t1 t2 : TypeId} (h1 : ∃ cs fr, w.heap[a]? = some (.cells cs t1 fr)) (h2 : ∃ cs fr, w.heap[b]? = some (.cells cs t2 fr)) (ht : t1 ≠ t2) : a ≠ b := by
 obtain ⟨_, _, h1⟩ := h1
 obtain ⟨_, _, h2⟩ := h2
 exact ne_tag h1 h2 ht

def Cop (w : World) (l : List Pr) (W : World) : Prop := W.heap[w.heap.size]? = some (.cells (flat2 l).toArray 41 (0, 0)) ∧ Kept [] w W

def HoldR (b : Nat) (px : Option Addr) (vl : Value) (f c : Bool) (mo ch : Int) (lv wv : Value) (xs : List HLd) (v : Value) (l : List Pr) (w : World) (e : Ending) (w' : World) : Prop :=
 e = .returned (.tuple #[]) ∧ ∃ lv' wv' u, OR w' b px vl f c mo ch lv' wv' ∧ HL w' lv' wv' (xs ++ [⟨v, u, l⟩]) ∧ Kept (b :: (lv.ownBlock.toList ++ wv.ownBlock.toList)) w w' ∧
  (∀ g, lv'.ownBlock = some g → lv.ownBlock = some g ∨ w.heap.size ≤ g) ∧ (∀ g, wv'.ownBlock = some g → wv.ownBlock = some g ∨ w.heap.size ≤ g) ∧ (∀ g, u.ownBlock = some g → w.heap.size ≤ g)

theorem hold_any (b : Nat) (px : Option Addr) (vl : Value) (f c : Bool) (mo ch : Int) (lv wv : Value) (xs : List HLd) (v : Value) (l : List Pr) (w : World) (hb : OR w b px vl f c mo ch lv wv) (h : HL w lv wv xs) (hn : xs.length ≤ 50000) (hv : PL w 41 v l) (hl : l.length ≤ 50000) :
  Calls Tryz.prog 168 #[.pointer (some ⟨b, 0, none⟩), v] w (HoldR b px vl f c mo ch lv wv xs v l w) := by
 obtain ⟨z, hzl, hmk⟩ := mkpairs l.length (by omega) w
 obtain ⟨ie, hie, hz1, hz2, hz3⟩ := info_parts ipairs
 obtain ⟨pv, cv, rfl⟩ := hv.shape
 have kA := (Kept.refl [] w).alloc (.cells z.toArray 41)
 have nA := heap_alloc_new w (.cells z.toArray 41)
 have hcopy : ∃ W, (∀ ty, (Builtin.copy_ #[28, 28] ty #[.slice (some ⟨w.heap.size, 0, none⟩) l.length l.length, .slice pv l.length cv]).run Tryz.prog (w.alloc (.cells z.toArray 41)) = .ok (goInt l.length) W) ∧ Cop w l W := by
  have hv' := hv
  obtain ⟨hlen, ⟨e, h0⟩ | ⟨g, cap, cur, e, _, hh, _, _, _, htk⟩⟩ := hv'
  ·have e0 : l = [] := List.eq_nil_of_length_eq_zero h0
   subst e0
   cases e
   have ez : z = [] := List.eq_nil_of_length_eq_zero (by simpa using hzl)
   subst ez
   exact ⟨_, fun ty => run_copy_nil (P := Tryz.prog) _ 28 28 ty 41 ⟨w.heap.size, 0, none⟩ 0 0 Tryz.underlying28 (by rw [sap]; rfl), nA, kA⟩
  ·cases e
   refine ⟨(w.alloc (.cells z.toArray 41)).setRow w.heap.size (flat2 l).toArray, fun ty => (run_copy_wide (P := Tryz.prog) _ 28 28 ty 41 w.heap.size 0 l.length l.length 2 ⟨g, 0, none⟩ l.length cv z.toArray 41 (flat2 l) Tryz.underlying28 sap nA (by rw [length_flat2]; simp) ?_ (by simp [length_flat2, hzl]) (by intro u hu; simp only [flat2, List.mem_flatMap] at hu; obtain ⟨p, _, hp⟩ := hu; exact one_pcells p u hp)).trans (by rw [show (z.toArray.toList.take 0 ++ flat2 l ++ z.toArray.toList.drop (0 + (flat2 l).length)).toArray = (flat2 l).toArray by simp [length_flat2, hzl]]; simp), ?_, ?_⟩
   ·intro j u hj
    have hjl : j < l.length * 2 := by have := (List.getElem?_eq_some_iff.1 hj).1; rwa [length_flat2] at this
    rw [add_lit, Nat.zero_add, cell_of_row _ _ _ _ _ _ (kA.get hh (by simp))]
    rw [← htk, List.getElem?_take, if_pos hjl] at hj
    simpa using hj
   ·exact setRow_heap (w.alloc (.cells z.toArray 41)) w.heap.size _ (flat2 l).toArray _ _ nA
   ·exact kA.setRow (Or.inr (Nat.le_refl _)) _
 obtain ⟨w2, hcp, nC, kC⟩ := hcopy
 have hb2 : OR w2 b px vl f c mo ch lv wv := kC.get hb (by simp)
 have h2 := h.fresh kC
 have c6 : w2.cell? ⟨b, 6, none⟩ = some lv := cellAt hb2 rfl
 have hlb := lt_heap hb2
 have hsz2 : w.heap.size + 1 ≤ w2.heap.size := by have := lt_heap nC; omega
 go_enter Tryz.func168, Tryz.ntmps168
 have hbs := fun W u (hu : Value.cells u = #[u]) => run_buildS (P := Tryz.prog) W 193 28 u ie (.slice none 0 0) Tryz.underlying193 hie hz1 rfl hz2 hu
 go_wp2_with (first
  | (refine wpList_new rfl _ _ (exec_buildSlice 193 1 (.tmp 17) rfl (.slice pv l.length cv) rfl _ (hbs _ _ rfl)) ?_; intro w3 n3 k3 _; have own3 := owns_kept h2.lists k3 (by simp); have ownw3 := owns_kept h2.want k3 (by simp); have hb3 : OR w3 b px vl f c mo ch lv wv := k3.get hb2 (by simp); have nb3 : b ∉ lv.ownBlock.toList := (by intro hx; simp at hx; exact ne_rows ⟨_, _, hb3⟩ (owns_tag own3 hx) (by decide) rfl); have nbw3 : b ∉ wv.ownBlock.toList := (by intro hx; simp at hx; exact ne_rows ⟨_, _, hb3⟩ (owns_tag ownw3 hx) (by decide) rfl))
  | (at_builtin; refine wpList_append_own_at _ rfl (.tmp 16) (.tmp 18) 193 rfl 0 28 ie _ 1 24 Tryz.underlying193 hie hz1 hz2 hz3 rfl (by decide) lv xs.length (xs.map HLd.v) rfl own3 ⟨w2.heap.size, 0, none⟩ 1 1 [.slice pv l.length cv] rfl rfl (row_src n3) (by simp [Value.oneCell']) (by unfold maxLen; omega) (by omega) (Nat.zero_le _) ?_; intro lv4 w4 own4 gr4 _ ob4; obtain ⟨p4, c4, rfl⟩ := owns_len2 own4; have k4 := grown_kept gr4 lv.ownBlock.toList (by intro x hx; rw [hx]; simp); have hb4 : OR w4 b px vl f c mo ch lv wv := k4.get hb3 nb3; have c64 : w4.cell? ⟨b, 6, none⟩ = some lv := cellAt hb4 rfl; have f64 : w4.frozen? ⟨b, 6, none⟩ = false := frozen_of_row _ _ _ _ _ hb4; have hb5 : OR (w4.setCell ⟨b, 6, none⟩ (.slice p4 (xs.length + 1) c4)) b px vl f c mo ch (.slice p4 (xs.length + 1) c4) wv := setCellAt (i := 6) (.slice p4 (xs.length + 1) c4) hb4; have k5 : Kept [b] w4 (w4.setCell ⟨b, 6, none⟩ (.slice p4 (xs.length + 1) c4)) := (Kept.refl _ _).setCell (Or.inl (by simp)) _; have c75 : (w4.setCell ⟨b, 6, none⟩ (.slice p4 (xs.length + 1) c4)).cell? ⟨b, 7, none⟩ = some wv := cellAt hb5 rfl; have ownw4 := owns_kept ownw3 k4 (fun g hg hx => by simp at hx; exact h.apart g hx hg); clear gr4)
  | (refine wpList_new rfl _ _ (exec_buildSlice 193 1 (.tmp 28) rfl (.slice (some ⟨w.heap.size, 0, none⟩) l.length l.length) rfl _ (hbs _ _ rfl)) ?_; intro w6 n6 k6 _; have ownw6 := owns_kept (owns_kept ownw4 k5 (fun g hg hx => by simp at hx; subst hx; exact nbw3 (by simp [hg]))) k6 (by simp); have hb6 : OR w6 b px vl f c mo ch (.slice p4 (xs.length + 1) c4) wv := k6.get hb5 (by simp))
  | (at_builtin; refine wpList_append_own_at _ rfl (.tmp 27) (.tmp 29) 193 rfl 0 28 ie _ 1 24 Tryz.underlying193 hie hz1 hz2 hz3 rfl (by decide) wv xs.length (xs.map HLd.u) rfl ownw6 ⟨_, 0, none⟩ 1 1 [.slice (some ⟨w.heap.size, 0, none⟩) l.length l.length] rfl rfl (row_src n6) (by simp [Value.oneCell']) (by unfold maxLen; omega) (by omega) (Nat.zero_le _) ?_; intro wv7 w7 own7 gr7 _ ob7; obtain ⟨p7, c7, rfl⟩ := owns_len2 own7; have k7 := grown_kept gr7 wv.ownBlock.toList (by intro x hx; rw [hx]; simp); have hb7 : OR w7 b px vl f c mo ch (.slice p4 (xs.length + 1) c4) wv := k7.get hb6 nbw3; have c77 : w7.cell? ⟨b, 7, none⟩ = some wv := cellAt hb7 rfl; have f77 : w7.frozen? ⟨b, 7, none⟩ = false := frozen_of_row _ _ _ _ _ hb7; clear gr7))
 go_end0
 have k8 : Kept [b] w7 (w7.setCell ⟨b, 7, none⟩ (.slice p7 (xs.length + 1) c7)) := (Kept.refl _ _).setCell (Or.inl (by simp)) _
 have hb8 : OR (w7.setCell ⟨b, 7, none⟩ (.slice p7 (xs.length + 1) c7)) b px vl f c mo ch (.slice p4 (xs.length + 1) c4) (.slice p7 (xs.length + 1) c7) := setCellAt (i := 7) _ hb7
 have mL : ∀ x ∈ lv.ownBlock.toList, x ∈ b :: (lv.ownBlock.toList ++ wv.ownBlock.toList) := fun x hx => List.mem_cons_of_mem _ (List.mem_append_left _ hx)
 have mW : ∀ x ∈ wv.ownBlock.toList, x ∈ b :: (lv.ownBlock.toList ++ wv.ownBlock.toList) := fun x hx => List.mem_cons_of_mem _ (List.mem_append_right _ hx)
 have mB : ∀ x ∈ [b], x ∈ b :: (lv.ownBlock.toList ++ wv.ownBlock.toList) := by intro x hx; simp at hx; subst hx; simp
 have k28 : Kept (b :: (lv.ownBlock.toList ++ wv.ownBlock.toList)) w2 (w7.setCell ⟨b, 7, none⟩ (.slice p7 (xs.length + 1) c7)) :=
  (((((k3.mono (by simp)).trans (k4.mono mL)).trans (k5.mono mB)).trans (k6.mono (by simp))).trans (k7.mono mW)).trans (k8.mono mB)
 have hz3 : w2.heap.size ≤ w3.heap.size := k3.size
 have hz4 : w3.heap.size ≤ w4.heap.size := k4.size
 have hz6 : w4.heap.size ≤ w6.heap.size := Nat.le_trans k5.size k6.size
 have lw2 := own_lt h2.want
 have ll2 := own_lt h2.lists
 have l4 := own_lt own4
 have tagP : ∀ {v : Value} {l : List Pr}, PL w2 41 v l → ∀ g, v.ownBlock = some g → g ∉ b :: (lv.ownBlock.toList ++ wv.ownBlock.toList) := by
  intro v l hp g hg hx
  rcases List.mem_cons.1 hx with rfl | hx
  ·exact ne_rows (hp.tag hg) ⟨_, _, hb2⟩ (by decide) rfl
  ·rcases List.mem_append.1 hx with hx | hx
   ·simp at hx; exact ne_rows (hp.tag hg) (owns_tag h2.lists hx) (by decide) rfl
   ·simp at hx; exact ne_rows (hp.tag hg) (owns_tag h2.want hx) (by decide) rfl
 have hu2 : PL w2 41 (.slice (some ⟨w.heap.size, 0, none⟩) l.length l.length) l :=
  ⟨length_flat2 l, Or.inr ⟨w.heap.size, l.length, _, rfl, Nat.zero_le _, nC, Nat.le_refl _, by unfold maxLen; omega, by simp [length_flat2], by rw [← length_flat2]; simp⟩⟩
 refine ⟨rfl, _, _, .slice (some ⟨w.heap.size, 0, none⟩) l.length l.length, hb8, ⟨?_, ?_, ?_, ?_⟩, (kC.mono (by simp)).trans k28, ?_, ?_, ?_⟩
 ·have o5 := owns_kept own4 k5 (fun g hg hx => by simp at hx; subst hx; exact ne_rows (owns_tag own4 hg) ⟨_, _, hb4⟩ (by decide) rfl)
  have o6 := owns_kept o5 k6 (by simp)
  have o7 := owns_kept o6 k7 (fun g hg hx => by
   simp at hx
   rcases ob4 with e | e
   ·rw [hg] at e; exact h.apart g e.symm hx
   ·rw [hg] at e; cases e; have := lw2 w3.heap.size (by simp [hx]); omega)
  have o8 := owns_kept o7 k8 (fun g hg hx => by simp at hx; subst hx; exact ne_rows (owns_tag o7 hg) ⟨_, _, hb7⟩ (by decide) rfl)
  simpa using o8
 ·have o8 := owns_kept own7 k8 (fun g hg hx => by simp at hx; subst hx; exact ne_rows (owns_tag own7 hg) ⟨_, _, hb7⟩ (by decide) rfl)
  simpa using o8
 ·intro g hg hg'
  have g4 := l4 g (by simp [hg])
  rcases ob7 with e | e
  ·rcases ob4 with e' | e'
   ·rw [hg'] at e; rw [hg] at e'; exact h.apart g e'.symm e.symm
   ·rw [hg] at e'; cases e'; rw [hg'] at e; have := lw2 w3.heap.size (by simp [← e]); omega
  ·rw [hg'] at e; cases e; omega
 ·intro x hx
  rcases List.mem_append.1 hx with hx | hx
  ·obtain ⟨a1, a2, a3⟩ := h2.all x hx
   exact ⟨a1.kept k28 (tagP a1), a2.kept k28 (tagP a2), a3⟩
  ·simp at hx; subst hx
   have a1 := hv.kept kC (by simp)
   exact ⟨a1.kept k28 (tagP a1), hu2.kept k28 (tagP hu2), hl⟩
 ·intro g hg
  rcases ob4 with e | e
  ·rw [hg] at e; exact Or.inl e.symm
  ·rw [hg] at e; cases e; right; have := kC.size; omega
 ·intro g hg
  rcases ob7 with e | e
  ·rw [hg] at e; exact Or.inl e.symm
  ·rw [hg] at e; cases e; right; have := kC.size; omega
 ·intro g hg; cases hg; exact Nat.le_refl _

end Go.Proofs.YtcklgafpgdhnaaaGreatDoor

namespace Go.Proofs.YtcklgafpgdhnaaaGreatDoor
open Go.RowKit

theorem wpList_store_seg {P : Program} {ops : Array Oper} {Q : Exit → Act → World → Prop} {rest : List Oper} {o : Oper} {a : Act} {w : World} (hgd : o.guard = none) (ty : TypeId) (x y : Operand) (ho : o.op = .store ty x y) (ad : Addr) (hx : a.eval x = .pointer (some ad)) (v : Value) (hy : a.eval y = v) (w' : World)
  (hrun : (storeVar ty ad v).run P w = .ok () w') (h : wpList P ops Q rest (a.put o.dst undef) w') : wpList P ops Q (o :: rest) a w :=
 wpList_skip hgd w' (exec_store ty x y ho ad hx v hy hrun) h

theorem take_splice0 {α : Type} (L cs : List α) (off n : Nat) (h : off + cs.length ≤ n) (h2 : n ≤ L.length) : (splice L off cs).take n = splice (L.take n) off cs := by
 have e1 : (L.take off).length = off := by rw [List.length_take]; omega
 simp only [splice]
 rw [List.take_append, List.take_append, List.take_take, e1, List.take_of_length_le (l := cs) (by omega), List.take_take, Nat.min_eq_right (by omega), Nat.min_eq_left (by omega), List.drop_take]
 rw [show n - off - cs.length = n - (off + cs.length) by omega]

theorem flat2_set (l : List Pr) (i : Nat) (p : Pr) (h : i < l.length) : splice (flat2 l) (i * 2) (pcells p) = flat2 (l.set i p) := by
 induction l generalizing i with
 | nil => simp at h
 | cons x r ih =>
  cases i with
  | zero => simp [splice, flat2, pcells]
  | succ i =>
   have hi : i < r.length := by simpa using h
   have := ih i hi
   have e1 : flat2 (x :: r) = pcells x ++ flat2 r := rfl
   have e2 : flat2 ((x :: r).set (i + 1) p) = pcells x ++ flat2 (r.set i p) := rfl
   rw [e1, e2, ← this]
   simp only [splice, length_pcells]
   rw [show (i + 1) * 2 = 2 + i * 2 by omega, show (2 + i * 2 + 2) = 2 + (i * 2 + 2) by omega]
   simp [pcells, List.take_succ_cons, show 2 + i * 2 = i * 2 + 1 + 1 by omega, show 2 + (i * 2 + 2) = (i * 2 + 2) + 1 + 1 by omega]

theorem PL.set {w : World} {t ty : TypeId} {g cap i : Nat} {l : List Pr} {P : Program} (h : PL w t (.slice (some ⟨g, 0, none⟩) l.length cap) l) (hi : i < l.length) (hs : (P.info? ty).map (·.size) = some 2) (p : Pr) :
  ∃ W, (storeVar ty ⟨g, i * 2, none⟩ (.agg #[.string p.1, .string p.2])).run P w = .ok () W ∧ PL W t (.slice (some ⟨g, 0, none⟩) l.length cap) (l.set i p) ∧ Kept [g] w W := by
 obtain ⟨hlen, ⟨e, _⟩ | ⟨g', cap', cur, e, hb, hh, hc, hm, hsz, htk⟩⟩ := h
 ·cases e
 cases e
 have hr := run_storeVar_seg (P := P) w g (i * 2) t ty cur.toList (pcells p) (by simpa using hh) hs (by rw [length_pcells]; simp; omega) (one_pcells p)
 refine ⟨_, hr, ⟨by rw [length_flat2, List.length_set], Or.inr ⟨g, cap, _, by rw [List.length_set], hb, setRow_heap w g _ _ t _ hh, by simpa using hc, hm, ?_, ?_⟩⟩, (Kept.refl _ _).setRow (Or.inl (by simp)) _⟩
 ·simp only [List.size_toArray]
  rw [length_splice _ _ _ (by rw [length_pcells]; simp; omega)]
  simpa using hsz
 ·rw [← flat2_set l i p hi, ← htk, List.length_set]
  exact take_splice0 _ _ _ _ (by rw [length_pcells]; omega) (by simp; have := Nat.mul_le_mul_right 2 hc; omega)

end Go.Proofs.YtcklgafpgdhnaaaGreatDoor
