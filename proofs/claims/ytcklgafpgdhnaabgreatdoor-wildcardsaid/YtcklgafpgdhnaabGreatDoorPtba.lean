import Derived.Test.YtcklgafpgdhnaabGreatDoorPtat
import Derived.LoopN
set_option maxRecDepth 100000
set_option maxHeartbeats 4000000
open List renaming getElem_toArray → zA, getElem_cons_succ → zB, getElem_cons_zero → zC, setIfInBounds_toArray → zD, set_cons_succ → zE, set_cons_zero → zF
namespace Go.Proofs.YtcklgafpgdhnaabGreatDoor
open Go.RowKit

def preN : (h : Nat) → Nd h → List Nat
 | 0, _ => []
 | h + 1, ks => List.flatMap (fun k : Kid h => k.3 :: preN h k.2) ks
def preK (h : Nat) (k : Kid h) : List Nat := k.3 :: preN h k.2
theorem preN_succ (h : Nat) (ks : List (Kid h)) : preN (h + 1) ks = ks.flatMap (preK h) := rfl
theorem pre_cnt : ∀ (h : Nat) (n : Nd h), (preN h n).length + 1 = cntN h n
 | 0, _ => rfl
 | h + 1, ks => by
  have : ∀ L : List (Kid h), (L.flatMap (preK h)).length = (L.map fun k => cntN h k.2).sum := by
   intro L
   induction L with
   | nil => rfl
   | cons a r ih =>
    have := pre_cnt h a.2
    rw [List.flatMap_cons, List.length_append, ih, List.map_cons, List.sum_cons, preK, List.length_cons]
    omega
  have e := this ks
  show (List.flatMap (preK h) ks).length + 1 = 1 + (List.map (fun k : Kid h => cntN h k.2) ks).sum
  omega

structure Vis (fid : FuncId) (c : Value) (S : List Nat) (I : List Nat → World → Prop) (Ok : List Nat → Prop) (A : Nat → Prop) (w : World) : Prop where
 en : ∀ (args : Array Value) (W : World), (callFunc fid args).run Tryz.prog W = .ok (.enter fid args) W
 call : ∀ (seen : List Nat) (W : World) (f : ByteArray) (p : Nat) (x : Value), Ok (seen ++ [p]) → I seen W → Calls Tryz.prog fid #[.agg #[.string f, .int .i64 p, x], c] W fun e W' => e = .returned (.tuple #[]) ∧ I (seen ++ [p]) W' ∧ Kept S W W'
 fresh : ∀ (seen : List Nat) (W W' : World), I seen W → Kept [] W W' → I seen W'
 k : ∀ (seen : List Nat) (W : World), I seen W → Kept S w W
 lt : ∀ y ∈ S, y < w.heap.size
 no : ∀ y ∈ S, ¬ A y
 pre : ∀ l m : List Nat, Ok (l ++ m) → Ok l

theorem dKidsL (p : Option Addr) (n c : Nat) : Disp "store/tree.kids" (.iface 135 (.slice p n c)) 189 (.slice p n c) := ⟨_, rfl, fun _ => by kernel_rfl, fun _ _ => by kernel_rfl⟩
theorem dKidsB (p : Option Addr) (n c : Nat) : Disp "store/tree.kids" (.iface 180 (.slice p n c)) 219 (.slice p n c) := ⟨_, rfl, fun _ => by kernel_rfl, fun _ _ => by kernel_rfl⟩
theorem leafKids_any (v : Value) (w : World) : Calls Tryz.prog 189 #[v] w fun e w' => e = .returned (.slice none 0 0) ∧ w' = w := by
 go_enter Tryz.func189, Tryz.ntmps189
 go_wp2
 go_ret
 exact ⟨rfl, rfl⟩
theorem brKids_any (p : Option Addr) (n c : Nat) (w : World) : Calls Tryz.prog 219 #[.slice p n c] w fun e w' => e = .returned (.slice p n c) ∧ w' = w := by
 go_enter Tryz.func219, Tryz.ntmps219
 go_wp2
 go_ret
 exact ⟨rfl, rfl⟩

def WalkR (S : List Nat) (I : List Nat → World → Prop) (l : List Nat) (W : World) (e : Ending) (W' : World) : Prop := e = .returned (.tuple #[]) ∧ I l W' ∧ Kept S W W'
def WalkOk (fid : FuncId) (c : Value) (S : List Nat) (I : List Nat → World → Prop) (Ok : List Nat → Prop) (A : Nat → Prop) (w : World) (h : Nat) : Prop :=
 ∀ (seen : List Nat) (f : ByteArray) (p : Nat) (n : Nd h) (x : Value) (W : World), ND w A h n x → (∀ z, A z → z < w.heap.size) → cntN h n ≤ 1000000 → Ok (seen ++ (p :: preN h n)) → I seen W → Calls Tryz.prog 109 #[.agg #[.string f, .int .i64 p, x], .func (.func fid) #[] #[c]] W (WalkR S I (seen ++ (p :: preN h n)) W)

theorem walk_leaf {fid : FuncId} {c : Value} {S : List Nat} {I : List Nat → World → Prop} {Ok : List Nat → Prop} {A : Nat → Prop} {w : World} (hv : Vis fid c S I Ok A w) : WalkOk fid c S I Ok A w 0 := by
 intro seen f p n x W hx _ _ hok hI
 obtain ⟨v, rfl, hl, _⟩ := hx
 obtain ⟨pp, cc, ev⟩ := SL.shape hl
 subst ev
 obtain ⟨t, ex, hm, he⟩ := dKidsL pp (List.map pe n).length cc
 cases ex
 have hen := hv.en
 have k1 := (Kept.refl [] W).alloc (.cells #[.string f, .int .i64 p, .iface 135 (.slice pp (List.map pe n).length cc)] 75)
 have n1 := heap_alloc_new W (.cells #[.string f, .int .i64 p, .iface 135 (.slice pp (List.map pe n).length cc)] 75)
 have HC : Hid (Calls _ _ _ _ _) := hv.call seen _ f p (.iface 135 (.slice pp (List.map pe n).length cc)) hok (hv.fresh _ _ _ hI k1)
 have hWs := (hv.k _ _ hI).size
 have hno : W.heap.size ∉ S := fun hm => by have := hv.lt _ hm; omega
 have HE : Hid (seen ++ (p :: preN 0 n) = seen ++ [p]) := rfl
 generalize (List.map pe n).length = m at *
 clear hv hI hl hok
 go_enter Tryz.func109, Tryz.ntmps109
 go_wp2_with (first
  | (go_at_fn fid; refine HC.out.mono ?_; rintro e w1 ⟨rfl, hI1, hk1⟩; have n1' := hk1.get n1 hno; have c1 : w1.cell? ⟨W.heap.size, 2, none⟩ = some (.iface 135 (.slice pp m cc)) := cellAt n1' rfl)
  | (go_at_call 189; refine (leafKids_any _ _).mono ?_; rintro e w' ⟨rfl, rfl⟩))
 refine wp_loop_rounds 1 ?_
 rw [rounds_succ]
 go_wp2
 go_end0
 exact ⟨rfl, by rw [HE.out]; exact hI1, (k1.mono (by simp)).trans hk1⟩

theorem le_sum_mem {a : Nat} : ∀ {l : List Nat}, a ∈ l → a ≤ l.sum
 | [], h => by cases h
 | b :: r, h => by
  rw [List.sum_cons]
  rcases List.mem_cons.1 h with rfl | h
  ·omega
  ·have := le_sum_mem h
   omega
def WlI (S : List Nat) (I : List Nat → World → Prop) (h : Nat) (seen : List Nat) (p : Nat) (ks : List (Kid h)) (W : World) (i : Value) (wr : World) : Prop :=
 ∃ j : Nat, j ≤ ks.length ∧ i = .int .i64 j ∧ I (seen ++ (p :: (ks.take j).flatMap (preK h))) wr ∧ Kept S W wr

theorem walk_branch {fid : FuncId} {c : Value} {S : List Nat} {I : List Nat → World → Prop} {Ok : List Nat → Prop} {A : Nat → Prop} {w : World} (hv : Vis fid c S I Ok A w) (h : Nat) (IH : WalkOk fid c S I Ok A w h) (seen : List Nat) (f : ByteArray) (p : Nat) (ks : List (Kid h)) (x : Value) (W : World) (hx : ND w A (h + 1) ks x) (hAb : ∀ z, A z → z < w.heap.size) (hcnt : 1 + (ks.map fun k => cntN h k.2).sum ≤ 1000000) (hok : Ok (seen ++ (p :: ks.flatMap (preK h)))) (hI : I seen W) :
  Calls Tryz.prog 109 #[.agg #[.string f, .int .i64 p, x], .func (.func fid) #[] #[c]] W (WalkR S I (seen ++ (p :: ks.flatMap (preK h))) W) := by
 obtain ⟨v, xs, rfl, hl, hA, hf⟩ := ND_succ.1 hx
 have hlen : (xs.map ke).length = ks.length := by rw [List.length_map, hf.1]
 obtain ⟨pp, cc, ev⟩ := hl.shape
 rw [hlen] at ev
 subst ev
 have hsum : ∀ (j : Nat) (q : Kid h), ks[j]? = some q → cntN h q.2 ≤ 1000000 := by
  intro j q hq
  have h2 : cntN h q.2 ∈ ks.map fun k => cntN h k.2 := List.mem_map.2 ⟨q, List.mem_of_getElem? hq, rfl⟩
  have h3 := le_sum_mem h2
  omega
 have hkl : ks.length ≤ 1000000 := by
  have h2 : ∀ L : List (Kid h), L.length ≤ (L.map fun k => cntN h k.2).sum := by
   intro L
   induction L with
   | nil => simp
   | cons a r ih =>
    have := pre_cnt h a.2
    rw [List.length_cons, List.map_cons, List.sum_cons]
    omega
  have := h2 ks
  omega
 obtain ⟨t, ex, hm, he⟩ := dKidsB pp (ks.length) cc
 cases ex
 have hen := hv.en
 have k1 := (Kept.refl [] W).alloc (.cells #[.string f, .int .i64 p, .iface 180 (.slice pp (ks.length) cc)] 75)
 have n1 := heap_alloc_new W (.cells #[.string f, .int .i64 p, .iface 180 (.slice pp (ks.length) cc)] 75)
 have HC : Hid (Calls _ _ _ _ _) := hv.call seen _ f p (.iface 180 (.slice pp (ks.length) cc)) (hv.pre _ (ks.flatMap (preK h)) (by rw [List.append_assoc]; exact hok)) (hv.fresh _ _ _ hI k1)
 have hWs := (hv.k _ _ hI).size
 have hno : W.heap.size ∉ S := fun hm => by have := hv.lt _ hm; omega
 have HKid : Hid (∀ wr j, j < ks.length → (∃ l, I l wr) → ∃ g off q y, pp = some ⟨g, off, none⟩ ∧ ks[j]? = some q ∧ ND w A h q.2 y ∧ (∃ ty vy, y = .iface ty vy) ∧ (loadVar 75 ⟨g, off + j * 3, none⟩).run Tryz.prog wr = .ok (.agg #[.string q.1, .int .i64 q.3, y]) wr) := by
  intro wr j hj hex
  obtain ⟨l, hIl⟩ := hex
  have hlr := SL.keptS hl (hv.k _ _ hIl) (fun b hb hm => hv.no b hm (hA b hb))
  obtain ⟨q, hq⟩ : ∃ q, ks[j]? = some q := ⟨_, List.getElem?_eq_getElem hj⟩
  obtain ⟨z, hz, hr⟩ := hf.get hq
  obtain ⟨g, off, cap, cur, e, hg, hc1, hc2, hc3, hcur⟩ := hlr.at_ (by rw [hlen]; omega)
  rw [hlen] at e
  cases e
  refine ⟨g, off, q, z.2, rfl, hq, hr.2, hr.2.iface, ?_⟩
  have hld := load2 (P := Tryz.prog) (ty := 75) _ hg (hcur j (ke z) (by rw [List.getElem?_map, hz]; rfl)) Tryz.underlying75 stk'
  rw [← hr.1.1, ← hr.1.2]
  exact hld
 have HFr := hv.fresh
 have HOk : Hid (∀ j, Ok (seen ++ (p :: (ks.take j).flatMap (preK h)))) := fun j => hv.pre _ ((ks.drop j).flatMap (preK h)) (by rw [List.append_assoc, List.cons_append, ← List.flatMap_append, List.take_append_drop]; exact hok)
 have HIH : Hid (WalkOk fid c S I Ok A w h) := IH
 have HE : Hid (∀ j, ks[j]? = none ∨ ∃ q, ks[j]? = some q ∧ seen ++ (p :: (ks.take (j + 1)).flatMap (preK h)) = (seen ++ (p :: (ks.take j).flatMap (preK h))) ++ (q.3 :: preN h q.2)) := by
  intro j
  cases hq : ks[j]? with
  | none => exact Or.inl rfl
  | some q =>
   refine Or.inr ⟨q, rfl, ?_⟩
   rw [take_snoc _ j q hq, List.flatMap_append]
   simp [preK]
 have HE0 : Hid (seen ++ (p :: (ks.take 0).flatMap (preK h)) = seen ++ [p]) := by show _ = _; simp
 have HE1 : Hid (seen ++ (p :: (ks.take (ks.length)).flatMap (preK h)) = seen ++ (p :: ks.flatMap (preK h))) := by show _ = _; rw [List.take_length]
 have HSum : Hid _ := hsum
 have HSn : Hid (∀ wr, Kept S W wr → wr.heap.size ∉ S) := fun wr hk hm => by have := hv.lt _ hm; have := hk.size; omega
 generalize hm0 : ks.length = m at *
 clear hv hI hl hf hA hx IH hsum hcnt hlen hok
 go_enter Tryz.func109, Tryz.ntmps109
 go_wp2_with (first
  | (go_at_fn fid; refine HC.out.mono ?_; rintro e w1 ⟨rfl, hI1, hk1⟩; have n1' := hk1.get n1 hno; have c1 : w1.cell? ⟨W.heap.size, 2, none⟩ = some (.iface 180 (.slice pp m cc)) := cellAt n1' rfl)
  | (go_at_call 219; refine (brKids_any _ _ _ _).mono ?_; rintro e w' ⟨rfl, rfl⟩))
 go_loopw [13] (fun i wr => WlI S I h seen p ks W i wr) (fun i _ => m - (intOf i).toNat)
 case atStart => exact ⟨0, Nat.zero_le _, rfl, by rw [HE0.out]; exact hI1, (k1.mono (by simp)).trans hk1⟩
 case round =>
  obtain ⟨j, hj, rfl, hIr, hkr⟩ := hrel
  rw [hm0] at hj
  by_cases hlt : j < m
  ·have hlt' : (j : Int) < (m : Int) := by omega
   obtain ⟨g, off, q, y, epp, hq, hnd, ⟨ty, vy, ey⟩, hld⟩ := HKid.out wr j hlt ⟨_, hIr⟩
   have hnx : seen ++ (p :: (ks.take (j + 1)).flatMap (preK h)) = (seen ++ (p :: (ks.take j).flatMap (preK h))) ++ (q.3 :: preN h q.2) := by
    rcases HE.out j with e | ⟨q', e, hh⟩
    ·rw [hq] at e; cases e
    ·rw [hq] at e; cases e; exact hh
   have hcq := HSum.out j q hq
   have k3 := (Kept.refl [] wr).alloc (.cells #[.string q.1, .int .i64 q.3, y] 75)
   have HW : Hid (Calls _ _ _ _ _) := HIH.out (seen ++ (p :: (ks.take j).flatMap (preK h))) q.1 q.3 q.2 y _ hnd hAb hcq (by rw [← hnx]; exact HOk.out (j + 1)) (HFr _ _ _ hIr k3)
   rw [← hnx] at HW
   have HIr : Hid _ := hIr
   subst epp
   subst ey
   obtain ⟨lx, hlx⟩ : ∃ lx, lx = seen ++ (p :: (ks.take (j + 1)).flatMap (preK h)) := ⟨_, rfl⟩
   rw [← hlx] at HW
   have HL : Hid (lx = seen ++ (p :: (ks.take (j + 1)).flatMap (preK h))) := hlx
   clear hIr hnd hcq hq hlx hnx
   go_wp2_with (first
    | (refine wpList_val rfl _ _ (exec_index 177 (.tmp 11) (.tmp 13) rfl g off m cc j 3 rfl rfl 75 Tryz.underlying177 stk' hlt (off + j * 3) rfl) ?_)
    | (refine wpList_load_seg rfl 75 (.tmp 15) rfl ⟨g, off + j * 3, none⟩ rfl _ hld ?_)
    | (go_at_call 109; refine HW.out.mono ?_; rintro e w3 ⟨rfl, hI3, hk3⟩))
   go_roundw
   case rel => exact ⟨j + 1, by rw [hm0]; omega, by go_num, by rw [← HL.out]; exact hI3, hkr.trans ((k3.mono (by simp)).trans hk3)⟩
   case measure => simp [intOf]; omega
  ·have hge : ¬ (j : Int) < (m : Int) := by omega
   have ej : j = m := by omega
   subst ej
   rw [HE1.out] at hIr
   have HI2 : Hid _ := hIr
   clear hIr
   go_wp2
   go_end0
   exact ⟨rfl, HI2.out, hkr⟩

theorem walk_any {fid : FuncId} {c : Value} {S : List Nat} {I : List Nat → World → Prop} {Ok : List Nat → Prop} {A : Nat → Prop} {w : World} (hv : Vis fid c S I Ok A w) : ∀ h, WalkOk fid c S I Ok A w h
 | 0 => walk_leaf hv
 | h + 1 => fun seen f p n x W hx hAb hcnt hok hI => walk_branch hv h (walk_any hv h) seen f p n x W hx hAb hcnt hok hI

end Go.Proofs.YtcklgafpgdhnaabGreatDoor

namespace Go.Proofs.YtcklgafpgdhnaabGreatDoor
open Go.RowKit

def TV (w : World) (A : Nat → Prop) (t : Tr) (r : Value) : Prop := (r = .nilIface ∧ t = ⟨0, ([] : List Pr), 0⟩) ∨ (ND w A t.h t.n r ∧ nilN t.h t.n = false)
theorem TV.kept {S : List Nat} {w w' : World} {A A' : Nat → Prop} {t : Tr} {r : Value} (h : TV w A t r) (k : Kept S w w') (hS : ∀ y ∈ S, ¬ A y) (hA : ∀ y, A y → A' y) : TV w' A' t r := h.imp id fun h => ⟨ND.kept k hS hA h.1, h.2⟩
theorem TV.k {w W : World} {A : Nat → Prop} {t : Tr} {r : Value} (hx : TV w A t r) (k : Kept [] w W) : TV W A t r := TV.kept hx k (by simp) (fun _ h => h)
theorem TV.shape {w : World} {A : Nat → Prop} {t : Tr} {r : Value} (h : TV w A t r) : r = .nilIface ∨ ∃ t v, r = .iface t v := by
 rcases h with ⟨rfl, _⟩ | h
 ·exact Or.inl rfl
 ·exact Or.inr h.1.iface
theorem TV.one {w : World} {A : Nat → Prop} {t : Tr} {r : Value} (h : TV w A t r) : r.oneCell' = true := by
 rcases h.shape with rfl | ⟨_, _, rfl⟩ <;> rfl

theorem top_any {w : World} {A : Nat → Prop} {t : Tr} {r : Value} (h : TV w A t r) : Calls Tryz.prog 82 #[.agg #[.string ⟨#[]⟩, .int .i64 t.pl, r]] w fun e w' => ∃ x, e = .returned x ∧ ND w' A t.h t.n x ∧ Kept [] w w' := by
 rcases h with ⟨rfl, rfl⟩ | ⟨h, _⟩
 ·go_enter Tryz.func82, Tryz.ntmps82
  go_wp2
  go_ret
  exact ⟨_, rfl, ⟨_, rfl, Or.inl ⟨rfl, rfl⟩, fun y hy => by cases hy⟩, (Kept.refl _ _).alloc _⟩
 ·obtain ⟨ty, v, rfl⟩ := h.iface
  have HN : Hid _ := h
  clear h
  go_enter Tryz.func82, Tryz.ntmps82
  go_wp2
  go_ret
  exact ⟨_, rfl, ND.k HN.out ((Kept.refl _ _).alloc _), (Kept.refl _ _).alloc _⟩

def preT (t : Tr) : List Nat := if nilN t.h t.n then [] else t.pl :: preN t.h t.n
theorem preT_cnt (t : Tr) : (preT t).length = cntT t := by
 unfold preT cntT
 split
 ·rfl
 ·rw [List.length_cons, pre_cnt]

theorem Twalk_any {fid : FuncId} {c : Value} {S : List Nat} {I : List Nat → World → Prop} {Ok : List Nat → Prop} {A : Nat → Prop} {w : World} (hv : Vis fid c S I Ok A w) {t : Tr} {r : Value} (h : TV w A t r) (hAb : ∀ z, A z → z < w.heap.size) (hcnt : cntT t ≤ 1000000) (seen : List Nat) (W : World) (hok : Ok (seen ++ preT t)) (hI : I seen W) :
  Calls Tryz.prog 80 #[.agg #[.string ⟨#[]⟩, .int .i64 t.pl, r], .func (.func fid) #[] #[c]] W (WalkR S I (seen ++ preT t) W) := by
 rcases h with ⟨rfl, rfl⟩ | ⟨h, hn⟩
 ·have HI : Hid (I (seen ++ preT ⟨0, ([] : List Pr), 0⟩) (W.alloc (.cells #[.string ⟨#[]⟩, .int .i64 0, .nilIface] 77))) := by
   show I _ _
   have : seen ++ preT ⟨0, ([] : List Pr), 0⟩ = seen := by simp [preT, nilN]
   rw [this]
   exact hv.fresh _ _ _ hI ((Kept.refl _ _).alloc _)
  clear hI hv hok
  go_enter Tryz.func80, Tryz.ntmps80
  go_wp2
  go_end0
  exact ⟨rfl, HI.out, (Kept.refl S W).alloc _⟩
 ·obtain ⟨ty, v, rfl⟩ := h.iface
  have k1 := (Kept.refl [] W).alloc (.cells #[.string ⟨#[]⟩, .int .i64 (t.pl : Int), .iface ty v] 77)
  have hc : cntN t.h t.n ≤ 1000000 := by unfold cntT at hcnt; rw [hn] at hcnt; simpa using hcnt
  have he : seen ++ (t.pl :: preN t.h t.n) = seen ++ preT t := by simp [preT, hn]
  have HW : Hid (Calls _ _ _ _ _) := walk_any hv t.h seen ⟨#[]⟩ t.pl t.n (.iface ty v) _ h hAb hc (by rw [he]; exact hok) (hv.fresh _ _ _ hI k1)
  rw [he] at HW
  clear hI hv h hc he hcnt hn hok
  go_enter Tryz.func80, Tryz.ntmps80
  go_wp2_with (go_at_call 109; refine HW.out.mono ?_; rintro e w3 ⟨rfl, hI3, hk3⟩)
  go_end0
  exact ⟨rfl, hI3, (k1.mono (by simp)).trans hk3⟩

def NdI (w : World) (b : Nat) (seen : List Nat) (W : World) : Prop := W.heap[b]? = some (.cells #[.int .i64 (wrap64 (seen.length : Int))] 3 (0, 0)) ∧ Kept [b] w W

theorem Nodes1_any (w : World) (b : Nat) (seen : List Nat) (W : World) (f : ByteArray) (p : Nat) (x : Value) (h : NdI w b seen W) : Calls Tryz.prog 81 #[.agg #[.string f, .int .i64 p, x], .pointer (some ⟨b, 0, none⟩)] W fun e W' => e = .returned (.tuple #[]) ∧ NdI w b (seen ++ [p]) W' ∧ Kept [b] W W' := by
 have k1 := (Kept.refl [] W).alloc (.cells #[.string f, .int .i64 p, x] 75)
 have n1 := k1.get h.1 (by simp)
 have hlt := lt_heap h.1
 have hw64 : wrap64 (wrap64 (seen.length : Int) + 1) = wrap64 ((seen ++ [p]).length : Int) := by
  rw [List.length_append]
  simp only [wrap64, List.length_cons, List.length_nil]
  omega
 obtain ⟨m, hm⟩ : ∃ m, m = wrap64 (seen.length : Int) := ⟨_, rfl⟩
 rw [← hm] at n1 hw64
 have h1 := h.1
 rw [← hm] at h1
 have c0 : (W.alloc (.cells #[.string f, .int .i64 p, x] 75)).cell? ⟨b, 0, none⟩ = some (.int .i64 m) := cellAt n1 rfl
 have f0 : (W.alloc (.cells #[.string f, .int .i64 p, x] 75)).frozen? ⟨b, 0, none⟩ = false := frozen_of_row _ _ _ _ _ n1
 have k2 : Kept [b] W ((W.setCell ⟨b, 0, none⟩ (.int .i64 (wrap64 (m + 1)))).alloc (.cells #[.string f, .int .i64 p, x] 75)) := ((Kept.refl [b] W).setCell (p := ⟨b, 0, none⟩) (Or.inl (by simp)) _).alloc _
 have n2 : ((W.setCell ⟨b, 0, none⟩ (.int .i64 (wrap64 (m + 1)))).alloc (.cells #[.string f, .int .i64 p, x] 75)).heap[b]? = some (.cells #[.int .i64 (wrap64 (m + 1))] 3 (0, 0)) := ((Kept.refl [] _).alloc _).get (setCellAt (i := 0) (.int .i64 (wrap64 (m + 1))) h1) (by simp)
 have HR : Hid (NdI w b (seen ++ [p]) ((W.setCell ⟨b, 0, none⟩ (.int .i64 (wrap64 (m + 1)))).alloc (.cells #[.string f, .int .i64 p, x] 75)) ∧ Kept [b] W ((W.setCell ⟨b, 0, none⟩ (.int .i64 (wrap64 (m + 1)))).alloc (.cells #[.string f, .int .i64 p, x] 75))) :=
  ⟨⟨by rw [n2, hw64], h.2.trans k2⟩, k2⟩
 clear h n1 k1 k2 n2 hm h1 hw64
 go_enter Tryz.func81, Tryz.ntmps81
 go_wp2
 go_end0
 exact ⟨rfl, HR.out.1, HR.out.2⟩

theorem makes0' (fn : Fn) (first cap : Array Value) (w : World) : (Instr.makeFunc fn first cap).run Tryz.prog w = .ok (.func fn first cap) w := rfl

theorem Nodes_any {w : World} {A : Nat → Prop} {t : Tr} {r : Value} (h : TV w A t r) (hAb : ∀ z, A z → z < w.heap.size) (hc : cntT t ≤ 1000000) : Calls Tryz.prog 44 #[.agg #[.string ⟨#[]⟩, .int .i64 t.pl, r]] w fun e w' => e = .returned (.int .i64 (cntT t : Nat)) ∧ Kept [] w w' := by
 have hmf := makes0'
 have k1 := ((Kept.refl [] w).alloc (.cells #[.string ⟨#[]⟩, .int .i64 (t.pl : Int), r] 77)).alloc (.cells #[.int .i64 0] 3)
 have n1 : ((w.alloc (.cells #[.string ⟨#[]⟩, .int .i64 (t.pl : Int), r] 77)).alloc (.cells #[.int .i64 0] 3)).heap[w.heap.size + 1]? = some (.cells #[.int .i64 0] 3 (0, 0)) := by
  have := heap_alloc_new (w.alloc (.cells #[.string ⟨#[]⟩, .int .i64 (t.pl : Int), r] 77)) (.cells #[.int .i64 0] 3)
  rwa [World.size_alloc] at this
 have n0 := ((Kept.refl [] (w.alloc (.cells #[.string ⟨#[]⟩, .int .i64 (t.pl : Int), r] 77))).alloc (.cells #[.int .i64 0] 3)).get (heap_alloc_new w (.cells #[.string ⟨#[]⟩, .int .i64 (t.pl : Int), r] 77)) (by simp)
 have hsz : ((w.alloc (.cells #[.string ⟨#[]⟩, .int .i64 (t.pl : Int), r] 77)).alloc (.cells #[.int .i64 0] 3)).heap.size = w.heap.size + 2 := by simp
 generalize hW1 : (w.alloc (.cells #[.string ⟨#[]⟩, .int .i64 (t.pl : Int), r] 77)).alloc (.cells #[.int .i64 0] 3) = w1 at *
 have HW1 : Hid _ := hW1
 clear hW1
 have hv : Vis 81 (.pointer (some ⟨w.heap.size + 1, 0, none⟩)) [w.heap.size + 1] (NdI w1 (w.heap.size + 1)) (fun _ => True) A w1 :=
  ⟨fun _ _ => by kernel_rfl, fun seen W f p x _ hI => Nodes1_any w1 _ seen W f p x hI, fun seen W W' hI k => ⟨k.get hI.1 (by simp), hI.2.trans2 k (by simp)⟩, fun _ _ hI => hI.2, by intro y hy; simp at hy; omega, by intro y hy hA; simp at hy; have := hAb y hA; omega, fun _ _ _ => trivial⟩
 have HW : Hid (Calls _ _ _ _ _) := Twalk_any hv (h.k k1) (fun z hz => by have := hAb z hz; omega) hc [] w1 trivial ⟨by rw [n1]; simp [wrap64], Kept.refl _ _⟩
 have HL : Hid (wrap64 ((([] : List Nat) ++ preT t).length : Int) = ((cntT t : Nat) : Int)) := by
  show _ = _
  rw [List.nil_append, preT_cnt]
  simp only [wrap64]
  omega
 obtain ⟨ls, hls⟩ : ∃ ls, ls = ([] : List Nat) ++ preT t := ⟨_, rfl⟩
 rw [← hls] at HW HL
 have hr := h.one
 have c00 : w1.cell? ⟨w.heap.size, 0, none⟩ = some (.string ⟨#[]⟩) := cellAt n0 rfl
 have c01 : w1.cell? ⟨w.heap.size, 1, none⟩ = some (.int .i64 t.pl) := cellAt n0 rfl
 have c02 : w1.cell? ⟨w.heap.size, 2, none⟩ = some r := cellAt n0 rfl
 clear h hv hls
 go_enter Tryz.func44, Tryz.ntmps44
 go_wp2_with fail
 rw [HW1.out]
 refine HW.out.mono ?_
 rintro e w2 ⟨rfl, hI2, hk2⟩
 have n2 := hI2.1
 rw [HL.out] at n2
 have c2 : w2.cell? ⟨w.heap.size + 1, 0, none⟩ = some (.int .i64 (cntT t : Nat)) := cellAt n2 rfl
 clear n2 hI2
 go_wp2
 go_ret
 exact ⟨rfl, k1.trans2 hk2 (by intro x hx; simp at hx; subst hx; exact Or.inr (by omega))⟩

theorem leaf_len_step (k : ByteArray) (h : Nat) (IH : ∀ (f : ByteArray) (n : Nd h), WFN h f n → FullN h n → sizeN h n ≤ 1000 → (leafN k h n).length ≤ 1000) (ks : List (Kid h)) (hk : KW h ks) (hf : ∀ a ∈ ks, Rt h a.2 ∧ FullN h a.2) (hlt : wayK ks k < ks.length) : (leafN k (h + 1) ks).length ≤ 1000 := by
 obtain ⟨q, hq⟩ : ∃ q, ks[wayK ks k]? = some q := ⟨_, List.getElem?_eq_getElem hlt⟩
 have hm := List.mem_of_getElem? hq
 rw [leafN_succ k h ks q hq]
 exact IH q.1 q.2 (hk.all q hm) (hf q hm).2 (by have := (hf q hm).1.2; omega)
theorem leaf_len (k : ByteArray) : ∀ (h : Nat) (f : ByteArray) (n : Nd h), WFN h f n → FullN h n → sizeN h n ≤ 1000 → (leafN k h n).length ≤ 1000
 | 0, _, _, hw, _, hs => (Sm.of hw hs).2
 | h + 1, f, ks, hw, hf, _ => by
  have hlt := way_lt_len k hw
  exact leaf_len_step k h (leaf_len k h) ks ((WFN_succ h f ks).1 hw).2 ((FullN_succ h ks).1 hf) hlt

theorem TGet_any {w : World} {A : Nat → Prop} {t : Tr} {r : Value} (h : TV w A t r) (ht : TW t) (k : ByteArray) : Calls Tryz.prog 49 #[.agg #[.string ⟨#[]⟩, .int .i64 t.pl, r], .string k] w fun e w' => e = .returned (.tuple #[.string ((getL k (flatT t)).getD ⟨#[]⟩), .bool (getL k (flatT t)).isSome]) ∧ Kept [] w w' := by
 have HT : Hid (∀ W, Kept [] w W → Calls Tryz.prog 82 #[.agg #[.string ⟨#[]⟩, .int .i64 t.pl, r]] W _) := fun W kW => top_any (h.k kW)
 have HC : Hid (∀ W x, ND W A t.h t.n x → _) := fun W x hx => leaf_nd k t.h W A nil8 t.n x hx ht.wf ht.full (by have := ht.hi; omega)
 obtain ⟨hsrt, hget⟩ := leaf_ok k t.h nil8 t.n ht.wf (ge_nil k)
 have hget' : getL k (leafN k t.h t.n) = getL k (flatT t) := hget
 rw [← hget']
 have hlen : (leafN k t.h t.n).length ≤ 1000 := leaf_len k t.h nil8 t.n ht.wf ht.full (by have := ht.hi; omega)
 generalize leafN k t.h t.n = l at *
 have hpos := pos_pK (srt_rise hsrt) k
 have hres := get_pos hsrt hpos (bK_iff (l.map (·.1)) k)
 have hbi := bK_iff (l.map (·.1)) k
 have HF : Hid (∀ W v, LF W v l → Calls Tryz.prog 83 #[v, .string k] W _) := fun W v hl => (findP_any v (l.map pe) (l.map (·.1)) k W hl (pe_keys l) (srt_rise hsrt) (by simp; omega)).mono fun _ _ h => find_det h
 have hib := hpos.1
 rw [List.length_map] at hib
 generalize pK (l.map (·.1)) k = i at *
 generalize bK (l.map (·.1)) k = b at *
 clear hpos hget hget' hsrt h ht
 cases b with
 | false =>
  have HR : Hid (getL k l = none) := hres
  clear hres hbi
  go_enter Tryz.func49, Tryz.ntmps49
  go_wp2_with (first
   | (go_at_call 82; refine (HT.out _ ((Kept.refl _ _).alloc _)).mono ?_; rintro e w1 ⟨x, rfl, hx, hk1⟩; obtain ⟨f, v, ⟨ty, ex, hm, he⟩, hcall⟩ := HC.out w1 x hx; have HCall : Hid (∀ W, Kept [] w1 W → _) := hcall; clear hcall hx; subst ex)
   | (go_at_fn f; refine (HCall.out _ (Kept.refl _ _)).mono ?_; rintro e w2 ⟨v2, rfl, hl2, hk2⟩; have HL2 : Hid _ := HF.out w2 v2 hl2; obtain ⟨p2, c2, ev2⟩ := SL.shape hl2; rw [List.length_map] at ev2; subst ev2)
   | (go_at_call 83; refine (HF.out _ _ hl2).mono ?_; rintro e w3 ⟨rfl, hk3⟩))
  go_ret2
  exact ⟨by rw [HR.out]; rfl, (((((Kept.refl _ _).alloc _).trans hk1).trans hk2).trans hk3)⟩
 | true =>
  have hil : i < l.length := by
   have := (List.getElem?_eq_some_iff.1 (hbi.1 rfl)).1
   rwa [List.length_map] at this
  obtain ⟨q, hq⟩ : ∃ q, l[i]? = some q := ⟨_, List.getElem?_eq_getElem hil⟩
  rw [hq] at hres
  have HR : Hid (getL k l = some q.2) := hres
  have HCell : Hid (∀ W v, LF W v l → ∃ g off cap, v = .slice (some ⟨g, off, none⟩) l.length cap ∧ ∀ W', Kept [] W W' → W'.cell? ⟨g, off + i * 2 + 1, none⟩ = some (.string q.2)) := by
   intro W v hl
   obtain ⟨g, off, cap, cur, ev, hg, hc1, hc2, hc3, hcur⟩ := SL.at_ hl (by simp; omega)
   rw [List.length_map] at ev
   refine ⟨g, off, cap, ev, fun W' kW => ?_⟩
   have := (hcur i (pe q) (by rw [List.getElem?_map, hq]; rfl)).2
   rw [cell_of_row _ _ _ _ _ _ (kW.get hg (by simp))]
   exact this 1 _ rfl
  clear hres hbi hq
  go_enter Tryz.func49, Tryz.ntmps49
  go_wp2_with (first
   | (go_at_call 82; refine (HT.out _ ((Kept.refl _ _).alloc _)).mono ?_; rintro e w1 ⟨x, rfl, hx, hk1⟩; obtain ⟨f, v, ⟨ty, ex, hm, he⟩, hcall⟩ := HC.out w1 x hx; have HCall : Hid (∀ W, Kept [] w1 W → _) := hcall; clear hcall hx; subst ex)
   | (go_at_fn f; refine (HCall.out _ (Kept.refl _ _)).mono ?_; rintro e w2 ⟨v2, rfl, hl2, hk2⟩; obtain ⟨g, off, cp, ev2, hcell⟩ := HCell.out w2 v2 hl2; have HC2 : Hid _ := hcell; clear hcell; subst ev2)
   | (go_at_call 83; refine (HF.out _ _ hl2).mono ?_; rintro e w3 ⟨rfl, hk3⟩; have c3 := HC2.out w3 hk3)
   | (refine wpList_val rfl _ _ (exec_index 135 (.tmp 20) (.tmp 21) rfl g off l.length cp i 2 rfl rfl 138 Tryz.underlying135 stp hil (off + i * 2) rfl) ?_))
  go_ret2
  exact ⟨by rw [HR.out]; rfl, (((((Kept.refl _ _).alloc _).trans hk1).trans hk2).trans hk3)⟩

end Go.Proofs.YtcklgafpgdhnaabGreatDoor
