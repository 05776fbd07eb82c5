import Derived.Test.YtcklgafpgdhnaabGreatDoorPtag
import Derived.Test.YtcklgafpgdhnaabGreatDoorPtao
import Derived.Test.YtcklgafpgdhnaabGreatDoorPtap
set_option maxRecDepth 100000
set_option maxHeartbeats 4000000
open List renaming getElem_toArray → zA, getElem_cons_succ → zB, getElem_cons_zero → zC, setIfInBounds_toArray → zD, set_cons_succ → zE, set_cons_zero → zF
namespace Go.Proofs.YtcklgafpgdhnaabGreatDoor
open Go.RowKit

theorem mPPacked (k v : Value) (w : World) : (Go.method 391 138 (.agg #[k, v]) "store/tree.packed").run Tryz.prog w = .ok (199, .agg #[k, v]) w := by kernel_rfl
theorem mKPacked (k v x : Value) (w : World) : (Go.method 391 75 (.agg #[k, v, x]) "store/tree.packed").run Tryz.prog w = .ok (245, .agg #[k, v, x]) w := by kernel_rfl
theorem build2_u8 (w : World) (x y : Int) : (Instr.buildSlice 83 2 #[(0, .int .u8 x), (1, .int .u8 y)]).run Tryz.prog w = .ok (.slice (some ⟨w.heap.size, 0, none⟩) 2 2) (w.alloc (.cells #[.int .u8 x, .int .u8 y] 5)) := by kernel_rfl
theorem exec_buildSliceE {P : Program} {o : Oper} {a : Act} {w w' : World} (t : TypeId) (n : Nat) (x y : Operand) (ho : o.op = .buildSlice t n #[(0, x), (1, y)]) (vx vy : Value) (hx : a.eval x = vx) (hy : a.eval y = vy) (v : Value)
  (hrun : (Instr.buildSlice t n #[(0, vx), (1, vy)]).run P w = .ok v w') : (execOp a.eval o).run P w = .ok (.value v) w' := by
 simp [execOp, ho, hx, hy, hrun, Result.andThen]
theorem seal_pad (out : List UInt8) (h : out.length ≤ 124) : sealL (splice (List.replicate 128 0) 0 out) = sealed (padTo 124 out) := by
 have e : splice (List.replicate 128 (0 : UInt8)) 0 out = out ++ List.replicate (128 - out.length) 0 := by unfold splice; rw [List.take_zero, List.nil_append, Nat.zero_add, List.drop_replicate]
 have hl : (out ++ List.replicate (128 - out.length) (0 : UInt8)).length = 128 := by rw [List.length_append, List.length_replicate]; omega
 have e2 : (out ++ List.replicate (128 - out.length) (0 : UInt8)).take 124 = padTo 124 out := by
  rw [List.take_append, List.take_of_length_le h, List.take_replicate]
  unfold padTo
  congr 2
  omega
 have e3 : (out ++ List.replicate (128 - out.length) (0 : UInt8)).drop 128 = [] := List.drop_of_length_le (by omega)
 rw [e, sealL, hl, show 128 - 4 = 124 from rfl, e2]
 unfold sealed splice
 rw [e2, length_bytesOf, e3, List.append_nil]
def BkI (w w1 : World) (pre : List UInt8) (m : Nat) (part : Nat → List UInt8) (out i : Value) (wr : World) : Prop :=
 ∃ j : Nat, j ≤ m ∧ i = .int .i64 j ∧ Bf w.heap.size wr out (pre ++ part j) ∧ Kt w.heap.size w1 wr

theorem blockP_any (kind : UInt8) (vl : Value) (l : List Pr) (w : World) (h : SL w 138 2 vl (l.map pe)) (hl : l.length ≤ 200) (hk : ∀ p ∈ l, p.1.size ≤ 8 ∧ p.2.size ≤ 12) (hsum : (l.flatMap pkP).length ≤ 122) :
  Calls Tryz.prog 194 #[.int .u8 kind.toNat, vl] w fun e w' => e = .returned (.agg (u8s (encI kind l.length (l.flatMap pkP))).toArray) ∧ Kept [] w w' := by
 obtain ⟨pv, cv, ev⟩ := h.shape
 rw [List.length_map] at ev
 subst ev
 have hm := mPPacked
 have hlen := byte_conv l.length
 obtain ⟨pre, epre⟩ : ∃ pre, pre = [kind, UInt8.ofNat l.length] := ⟨_, rfl⟩
 have hpre : pre.length = 2 := by rw [epre]; rfl
 have hpart : ∀ j, ((l.take j).flatMap pkP).length ≤ 122 := by
  intro j
  have e : l.flatMap pkP = (l.take j).flatMap pkP ++ (l.drop j).flatMap pkP := by
   rw [← List.flatMap_append, List.take_append_drop]
  rw [e, List.length_append] at hsum
  omega
 have hfin : pre ++ (l.take l.length).flatMap pkP = kind :: UInt8.ofNat l.length :: l.flatMap pkP := by rw [epre, List.take_length]; rfl
 have HFin : Hid _ := hfin
 have HLen : Hid _ := hlen
 have HPre : Hid _ := epre
 clear hfin hlen epre
 go_enter Tryz.func194, Tryz.ntmps194
 go_wp2_with (first
  | (refine wpList_alloc_d rfl 4 rfl 80 rfl _ (zblk _) ?_; intro w1 n1 k1 hs1)
  | (refine wpList_new rfl _ _ (exec_buildSliceE 83 2 (.tmp 9) (.tmp 12) rfl (.int .u8 kind.toNat) (.int .u8 (l.length : Int)) (by rfl) (by rfl) _ (build2_u8 _ _ _)) ?_; intro w2 n2 k2 hs2))
 have B2 : Bf w.heap.size w2 (.slice (some ⟨w.heap.size + 1, 0, none⟩) 2 2) (pre ++ (l.take 0).flatMap pkP) := by
  have e : u8s (pre ++ (l.take 0).flatMap pkP) = [.int .u8 kind.toNat, .int .u8 (l.length : Int)] := by
   rw [HPre.out, show (l.length : Int) = ((UInt8.ofNat l.length).toNat : Int) by have := HLen.out; omega]
   simp [u8s]
  have el : (pre ++ (l.take 0).flatMap pkP).length = 2 := by simp [hpre]
  unfold Bf
  rw [e, el]
  exact ⟨rfl, Or.inr ⟨w.heap.size + 1, 2, _, rfl, by omega, by rw [← hs1]; exact n2, Nat.le_refl _, by unfold maxLen; omega, rfl, rfl⟩⟩
 have K2 : Kt w.heap.size w1 w2 := Kt.of k2 (by omega)
 have HS1 : Hid _ := hs1
 have HN1 : Hid (w1.heap[w.heap.size]? = _) := n1
 have HK1 : Hid (Kept [] w w1) := k1
 clear n2 k2 hs2 hs1 n1 k1
 go_loopw [5, 16] (fun o i wr => BkI w w1 pre l.length (fun j => (l.take j).flatMap pkP) o i wr) (fun _ i _ => l.length - (intOf i).toNat)
 case atStart => exact ⟨0, Nat.zero_le _, rfl, B2, K2⟩
 case round =>
  obtain ⟨j, hj, rfl, hB, hK⟩ := hrel
  have hKr : Kept [] w wr := Kept.of_below (HK1.out.below.trans hK.bl)
  clear B2 K2
  by_cases hlt : j < l.length
  ·have hlt' : (j : Int) < (l.length : Int) := by omega
   obtain ⟨x, hx⟩ : ∃ x, l[j]? = some x := ⟨_, List.getElem?_eq_getElem hlt⟩
   have hx1 := (hk x (List.mem_of_getElem? hx)).1
   have hx2 := (hk x (List.mem_of_getElem? hx)).2
   have hnext : (l.take (j + 1)).flatMap pkP = (l.take j).flatMap pkP ++ pkP x := by
    rw [take_snoc l j x hx]; simp
   have hpj := hpart j
   obtain ⟨g, off, cap, cur, e, hg, hc1, hc2, hc3, hcur⟩ := (SL.kept h hKr).at_ (by simp; omega)
   rw [List.length_map] at e
   cases e
   have hld := load2 (P := Tryz.prog) (ty := 138) _ hg (hcur j _ (by rw [List.getElem?_map, hx]; rfl)) Tryz.underlying138 stp
   have HP : Hid (∀ o W, Bf w.heap.size W o (pre ++ (l.take j).flatMap pkP) → w.heap.size ≤ W.heap.size → Calls Tryz.prog 199 #[.agg #[.string x.1, .string x.2], o] W (BfR w.heap.size (pre ++ (l.take j).flatMap pkP ++ pkP x) W)) := fun o W hB hs => pairPacked_any w.heap.size o (pre ++ (l.take j).flatMap pkP) x W hB hs (by rw [List.length_append, hpre]; omega) (by omega) (by omega)
   simp only [pe] at hld
   have HN : Hid _ := hnext
   have HB : Hid (Bf w.heap.size wr _ _) := hB
   have hwr := hKr.size
   clear hcur hnext hB
   go_wp2_with (first
    | (refine wpList_val rfl _ _ (exec_index 134 (.tmp 14) (.tmp 16) rfl g off l.length cv j 2 rfl rfl 138 Tryz.underlying134 stp hlt (off + j * 2) rfl) ?_)
    | (refine wpList_load_seg rfl 138 (.tmp 18) rfl ⟨g, off + j * 2, none⟩ rfl _ hld ?_)
    | (go_at_call 199; refine (HP.out _ _ (HB.out.keep ((Kept.refl [] wr).alloc (.cells #[.string x.1, .string x.2] 138))) (by rw [World.size_alloc]; omega)).mono ?_; rintro e w3 ⟨v3, rfl, hB3, hK3⟩))
   have HB3 : Hid _ := hB3
   clear hB3
   go_roundw
   case rel => exact ⟨j + 1, by omega, by go_num, by show Bf w.heap.size w3 v3 (pre ++ (l.take (j + 1)).flatMap pkP); rw [HN.out, ← List.append_assoc]; exact HB3.out, (hK.trans (Kt.of ((Kept.refl [] wr).alloc _) (by omega))).trans hK3⟩
   case measure => simp [intOf]; omega
  ·have hge : ¬ (j : Int) < (l.length : Int) := by omega
   have ej : j = l.length := by omega
   subst ej
   rw [HFin.out] at hB
   obtain ⟨OUT, eout⟩ : ∃ OUT, OUT = kind :: UInt8.ofNat l.length :: l.flatMap pkP := ⟨_, rfl⟩
   have hol : OUT.length ≤ 124 := by rw [eout]; simp only [List.length_cons]; omega
   have ho2 : 0 < OUT.length := by rw [eout]; simp
   have henc : sealL (splice (List.replicate 128 0) 0 OUT) = encI kind l.length (l.flatMap pkP) := by rw [seal_pad OUT hol, eout]; rfl
   have hel : (encI kind l.length (l.flatMap pkP)).length = 128 := length_encI _ _ _ hsum
   have HE : Hid _ := henc
   rw [← eout] at hB
   obtain ⟨g, cap, cur, ev, hbg, hb0, hb1, hb2, hb3, hb4⟩ := owns_open hB ho2
   have hn1 := hK.row _ _ _ _ (by decide) HN1.out
   have hwr := hKr.size
   have hspl : (splice (List.replicate 128 (0 : UInt8)) 0 OUT).length = 128 := by rw [length_splice _ _ _ (by simp; omega)]; simp
   have HSL : Hid (∀ s W, W.heap[s]? = some (.cells (u8s (splice (List.replicate 128 0) 0 OUT)).toArray 80 (0, 0)) → Calls Tryz.prog 118 #[.slice (some ⟨s, 0, none⟩) 128 128] W fun e w' => e = .returned (.tuple #[]) ∧ w'.heap[s]? = some (.cells (u8s (encI kind l.length (l.flatMap pkP))).toArray 80 (0, 0)) ∧ Kept [s] W w') := by
    intro s W hW
    have := Seal_any s (splice (List.replicate 128 0) 0 OUT) 80 W hW (by omega) (by omega)
    rw [hspl, HE.out] at this
    exact this
   subst ev
   obtain ⟨ENC, eENC⟩ : ∃ ENC, ENC = encI kind l.length (l.flatMap pkP) := ⟨_, rfl⟩
   rw [← eENC] at hel HSL
   have HEN : Hid (ENC = _) := eENC
   clear eENC HE
   clear hB eout henc hspl
   go_wp2_with (first
    | (refine wpList_alloc_d rfl 8 rfl 80 rfl _ (zblk _) ?_; intro w3 n3 k3 hs3; have hbg3 := k3.get hbg (by simp))
    | (refine upon_copy_k 83 83 5 Tryz.underlying83 su8 wr.heap.size 0 124 128 ⟨g, 0, none⟩ OUT.length cap (u8s (List.replicate 128 0)) 80 n3 (u8s OUT) (by rw [length_u8s]; exact (Nat.min_eq_left hol).symm) (row_srcAt hbg3 (by intro q u hq; rw [Nat.zero_add]; exact take_get hb4 hq)) (by rw [length_u8s, length_u8s, List.length_replicate]; omega) (one_u8s _) ?_; intro w4 n4 k4; rw [u8s_splice] at n4)
    | (go_at_call 118; refine (HSL.out wr.heap.size _ n4).mono ?_; rintro e w5 ⟨rfl, n5, k5⟩; have n15 := k5.get (k4.get (k3.get hn1 (by simp)) (by have := HS1.out; have := hK.bl.size; simp; omega)) (by have := HS1.out; have := hK.bl.size; simp; omega))
    | (refine wpList_load_row rfl 80 (.tmp 8) rfl wr.heap.size rfl 80 (u8s ENC).toArray (0, 0) _ n5 Tryz.underlying80 rfl (by rw [sblk]; simp [length_u8s, hel]) ?_)
    | (refine wpList_store_k rfl 80 (.tmp 4) (.tmp 30) rfl w.heap.size (u8s ENC).toArray rfl rfl 80 _ n15 (by rw [sblk]; simp [length_u8s, hel]) (by simp [length_u8s, hel]) (all_of (one_u8s _)) ?_; intro w6 n6 k6))
   refine bodyPost_ret (results_cell_row rfl _ w6 w.heap.size 80 _ (0, 0) _ rfl n6 Tryz.underlying80 rfl (by rw [sblk]; simp [length_u8s, hel])) rfl ?_
   have hz := hKr.size
   exact ⟨by rw [HEN.out], (((hKr.trans k3).trans2 k4 (by intro y hy; simp at hy; subst hy; exact Or.inr hz)).trans2 k5 (by intro y hy; simp at hy; subst hy; exact Or.inr hz)).trans2 k6 (by intro y hy; simp at hy; subst hy; exact Or.inr (Nat.le_refl _))⟩

def kp (e : KE) : ByteArray × Nat := (e.1, e.3)
theorem blockK_any (kind : UInt8) (vl : Value) (l : List KE) (w : World) (h : SL w 75 3 vl (l.map ke)) (hl : l.length ≤ 200) (hk : ∀ p ∈ l, p.1.size ≤ 8 ∧ p.3 < 65536) (hsum : ((l.map kp).flatMap pkK).length ≤ 122) (ho : ∀ x ∈ l, x.2 = .nilIface ∨ ∃ t v, x.2 = .iface t v) :
  Calls Tryz.prog 224 #[.int .u8 kind.toNat, vl] w fun e w' => e = .returned (.agg (u8s (encI kind l.length ((l.map kp).flatMap pkK))).toArray) ∧ Kept [] w w' := by
 obtain ⟨pv, cv, ev⟩ := h.shape
 rw [List.length_map] at ev
 subst ev
 have hm := mKPacked
 have hlen := byte_conv l.length
 obtain ⟨pre, epre⟩ : ∃ pre, pre = [kind, UInt8.ofNat l.length] := ⟨_, rfl⟩
 have hpre : pre.length = 2 := by rw [epre]; rfl
 have hpart : ∀ j, (((l.take j).map kp).flatMap pkK).length ≤ 122 := by
  intro j
  have e : (l.map kp).flatMap pkK = ((l.take j).map kp).flatMap pkK ++ ((l.drop j).map kp).flatMap pkK := by
   rw [← List.flatMap_append, ← List.map_append, List.take_append_drop]
  rw [e, List.length_append] at hsum
  omega
 have hfin : pre ++ ((l.take l.length).map kp).flatMap pkK = kind :: UInt8.ofNat l.length :: (l.map kp).flatMap pkK := by rw [epre, List.take_length]; rfl
 have HFin : Hid _ := hfin
 have HLen : Hid _ := hlen
 have HPre : Hid _ := epre
 clear hfin hlen epre
 go_enter Tryz.func224, Tryz.ntmps224
 go_wp2_with (first
  | (refine wpList_alloc_d rfl 4 rfl 80 rfl _ (zblk _) ?_; intro w1 n1 k1 hs1)
  | (refine wpList_new rfl _ _ (exec_buildSliceE 83 2 (.tmp 9) (.tmp 12) rfl (.int .u8 kind.toNat) (.int .u8 (l.length : Int)) (by rfl) (by rfl) _ (build2_u8 _ _ _)) ?_; intro w2 n2 k2 hs2))
 have B2 : Bf w.heap.size w2 (.slice (some ⟨w.heap.size + 1, 0, none⟩) 2 2) (pre ++ ((l.take 0).map kp).flatMap pkK) := by
  have e : u8s (pre ++ ((l.take 0).map kp).flatMap pkK) = [.int .u8 kind.toNat, .int .u8 (l.length : Int)] := by
   rw [HPre.out, show (l.length : Int) = ((UInt8.ofNat l.length).toNat : Int) by have := HLen.out; omega]
   simp [u8s]
  have el : (pre ++ ((l.take 0).map kp).flatMap pkK).length = 2 := by simp [hpre]
  unfold Bf
  rw [e, el]
  exact ⟨rfl, Or.inr ⟨w.heap.size + 1, 2, _, rfl, by omega, by rw [← hs1]; exact n2, Nat.le_refl _, by unfold maxLen; omega, rfl, rfl⟩⟩
 have K2 : Kt w.heap.size w1 w2 := Kt.of k2 (by omega)
 have HS1 : Hid _ := hs1
 have HN1 : Hid (w1.heap[w.heap.size]? = _) := n1
 have HK1 : Hid (Kept [] w w1) := k1
 clear n2 k2 hs2 hs1 n1 k1
 go_loopw [5, 16] (fun o i wr => BkI w w1 pre l.length (fun j => ((l.take j).map kp).flatMap pkK) o i wr) (fun _ i _ => l.length - (intOf i).toNat)
 case atStart => exact ⟨0, Nat.zero_le _, rfl, B2, K2⟩
 case round =>
  obtain ⟨j, hj, rfl, hB, hK⟩ := hrel
  have hKr : Kept [] w wr := Kept.of_below (HK1.out.below.trans hK.bl)
  clear B2 K2
  by_cases hlt : j < l.length
  ·have hlt' : (j : Int) < (l.length : Int) := by omega
   obtain ⟨x, hx⟩ : ∃ x, l[j]? = some x := ⟨_, List.getElem?_eq_getElem hlt⟩
   have hx1 := (hk x (List.mem_of_getElem? hx)).1
   have hx2 := (hk x (List.mem_of_getElem? hx)).2
   have hnext : ((l.take (j + 1)).map kp).flatMap pkK = ((l.take j).map kp).flatMap pkK ++ pkK (x.1, x.3) := by
    rw [take_snoc l j x hx]; simp [kp]
   have hpj := hpart j
   obtain ⟨g, off, cap, cur, e, hg, hc1, hc2, hc3, hcur⟩ := (SL.kept h hKr).at_ (by simp; omega)
   rw [List.length_map] at e
   cases e
   have hld := load2 (P := Tryz.prog) (ty := 75) _ hg (hcur j _ (by rw [List.getElem?_map, hx]; rfl)) Tryz.underlying75 stk
   rcases ho x (List.mem_of_getElem? hx) with ei | ⟨ti, vi, ei⟩
   ·have HP : Hid (∀ o W, Bf w.heap.size W o (pre ++ ((l.take j).map kp).flatMap pkK) → w.heap.size ≤ W.heap.size → Calls Tryz.prog 245 #[.agg #[.string x.1, .int .i64 x.3, .nilIface], o] W (BfR w.heap.size (pre ++ ((l.take j).map kp).flatMap pkK ++ pkK (x.1, x.3)) W)) := fun o W hB hs => kidPacked_any w.heap.size o (pre ++ ((l.take j).map kp).flatMap pkK) x.1 x.3 .nilIface W hB hs (by rw [List.length_append, hpre]; omega) (by omega) (by omega)
    simp only [ke, ei] at hld
    have HN : Hid _ := hnext
    have HB : Hid (Bf w.heap.size wr _ _) := hB
    have hwr := hKr.size
    clear hcur hnext hB
    go_wp2_with (first
     | (refine wpList_val rfl _ _ (exec_index 177 (.tmp 14) (.tmp 16) rfl g off l.length cv j 3 rfl rfl 75 Tryz.underlying177 stk hlt (off + j * 3) rfl) ?_)
     | (refine wpList_load_seg rfl 75 (.tmp 18) rfl ⟨g, off + j * 3, none⟩ rfl _ hld ?_)
     | (go_at_call 245; refine (HP.out _ _ (HB.out.keep ((Kept.refl [] wr).alloc (.cells #[.string x.1, .int .i64 x.3, .nilIface] 75))) (by rw [World.size_alloc]; omega)).mono ?_; rintro e w3 ⟨v3, rfl, hB3, hK3⟩))
    have HB3 : Hid _ := hB3
    clear hB3
    go_roundw
    case rel => exact ⟨j + 1, by omega, by go_num, by show Bf w.heap.size w3 v3 (pre ++ ((l.take (j + 1)).map kp).flatMap pkK); rw [HN.out, ← List.append_assoc]; exact HB3.out, (hK.trans (Kt.of ((Kept.refl [] wr).alloc _) (by omega))).trans hK3⟩
    case measure => simp [intOf]; omega
   ·have HP : Hid (∀ o W, Bf w.heap.size W o (pre ++ ((l.take j).map kp).flatMap pkK) → w.heap.size ≤ W.heap.size → Calls Tryz.prog 245 #[.agg #[.string x.1, .int .i64 x.3, (.iface ti vi)], o] W (BfR w.heap.size (pre ++ ((l.take j).map kp).flatMap pkK ++ pkK (x.1, x.3)) W)) := fun o W hB hs => kidPacked_any w.heap.size o (pre ++ ((l.take j).map kp).flatMap pkK) x.1 x.3 (.iface ti vi) W hB hs (by rw [List.length_append, hpre]; omega) (by omega) (by omega)
    simp only [ke, ei] at hld
    have HN : Hid _ := hnext
    have HB : Hid (Bf w.heap.size wr _ _) := hB
    have hwr := hKr.size
    clear hcur hnext hB
    go_wp2_with (first
     | (refine wpList_val rfl _ _ (exec_index 177 (.tmp 14) (.tmp 16) rfl g off l.length cv j 3 rfl rfl 75 Tryz.underlying177 stk hlt (off + j * 3) rfl) ?_)
     | (refine wpList_load_seg rfl 75 (.tmp 18) rfl ⟨g, off + j * 3, none⟩ rfl _ hld ?_)
     | (go_at_call 245; refine (HP.out _ _ (HB.out.keep ((Kept.refl [] wr).alloc (.cells #[.string x.1, .int .i64 x.3, (.iface ti vi)] 75))) (by rw [World.size_alloc]; omega)).mono ?_; rintro e w3 ⟨v3, rfl, hB3, hK3⟩))
    have HB3 : Hid _ := hB3
    clear hB3
    go_roundw
    case rel => exact ⟨j + 1, by omega, by go_num, by show Bf w.heap.size w3 v3 (pre ++ ((l.take (j + 1)).map kp).flatMap pkK); rw [HN.out, ← List.append_assoc]; exact HB3.out, (hK.trans (Kt.of ((Kept.refl [] wr).alloc _) (by omega))).trans hK3⟩
    case measure => simp [intOf]; omega
  ·have hge : ¬ (j : Int) < (l.length : Int) := by omega
   have ej : j = l.length := by omega
   subst ej
   rw [HFin.out] at hB
   obtain ⟨OUT, eout⟩ : ∃ OUT, OUT = kind :: UInt8.ofNat l.length :: (l.map kp).flatMap pkK := ⟨_, rfl⟩
   have hol : OUT.length ≤ 124 := by rw [eout]; simp only [List.length_cons]; omega
   have ho2 : 0 < OUT.length := by rw [eout]; simp
   have henc : sealL (splice (List.replicate 128 0) 0 OUT) = encI kind l.length ((l.map kp).flatMap pkK) := by rw [seal_pad OUT hol, eout]; rfl
   have hel : (encI kind l.length ((l.map kp).flatMap pkK)).length = 128 := length_encI _ _ _ hsum
   have HE : Hid _ := henc
   rw [← eout] at hB
   obtain ⟨g, cap, cur, ev, hbg, hb0, hb1, hb2, hb3, hb4⟩ := owns_open hB ho2
   have hn1 := hK.row _ _ _ _ (by decide) HN1.out
   have hwr := hKr.size
   have hspl : (splice (List.replicate 128 (0 : UInt8)) 0 OUT).length = 128 := by rw [length_splice _ _ _ (by simp; omega)]; simp
   have HSL : Hid (∀ s W, W.heap[s]? = some (.cells (u8s (splice (List.replicate 128 0) 0 OUT)).toArray 80 (0, 0)) → Calls Tryz.prog 118 #[.slice (some ⟨s, 0, none⟩) 128 128] W fun e w' => e = .returned (.tuple #[]) ∧ w'.heap[s]? = some (.cells (u8s (encI kind l.length ((l.map kp).flatMap pkK))).toArray 80 (0, 0)) ∧ Kept [s] W w') := by
    intro s W hW
    have := Seal_any s (splice (List.replicate 128 0) 0 OUT) 80 W hW (by omega) (by omega)
    rw [hspl, HE.out] at this
    exact this
   subst ev
   obtain ⟨ENC, eENC⟩ : ∃ ENC, ENC = encI kind l.length ((l.map kp).flatMap pkK) := ⟨_, rfl⟩
   rw [← eENC] at hel HSL
   have HEN : Hid (ENC = _) := eENC
   clear eENC HE
   clear hB eout henc hspl
   go_wp2_with (first
    | (refine wpList_alloc_d rfl 8 rfl 80 rfl _ (zblk _) ?_; intro w3 n3 k3 hs3; have hbg3 := k3.get hbg (by simp))
    | (refine upon_copy_k 83 83 5 Tryz.underlying83 su8 wr.heap.size 0 124 128 ⟨g, 0, none⟩ OUT.length cap (u8s (List.replicate 128 0)) 80 n3 (u8s OUT) (by rw [length_u8s]; exact (Nat.min_eq_left hol).symm) (row_srcAt hbg3 (by intro q u hq; rw [Nat.zero_add]; exact take_get hb4 hq)) (by rw [length_u8s, length_u8s, List.length_replicate]; omega) (one_u8s _) ?_; intro w4 n4 k4; rw [u8s_splice] at n4)
    | (go_at_call 118; refine (HSL.out wr.heap.size _ n4).mono ?_; rintro e w5 ⟨rfl, n5, k5⟩; have n15 := k5.get (k4.get (k3.get hn1 (by simp)) (by have := HS1.out; have := hK.bl.size; simp; omega)) (by have := HS1.out; have := hK.bl.size; simp; omega))
    | (refine wpList_load_row rfl 80 (.tmp 8) rfl wr.heap.size rfl 80 (u8s ENC).toArray (0, 0) _ n5 Tryz.underlying80 rfl (by rw [sblk]; simp [length_u8s, hel]) ?_)
    | (refine wpList_store_k rfl 80 (.tmp 4) (.tmp 30) rfl w.heap.size (u8s ENC).toArray rfl rfl 80 _ n15 (by rw [sblk]; simp [length_u8s, hel]) (by simp [length_u8s, hel]) (all_of (one_u8s _)) ?_; intro w6 n6 k6))
   refine bodyPost_ret (results_cell_row rfl _ w6 w.heap.size 80 _ (0, 0) _ rfl n6 Tryz.underlying80 rfl (by rw [sblk]; simp [length_u8s, hel])) rfl ?_
   have hz := hKr.size
   exact ⟨by rw [HEN.out], (((hKr.trans k3).trans2 k4 (by intro y hy; simp at hy; subst hy; exact Or.inr hz)).trans2 k5 (by intro y hy; simp at hy; subst hy; exact Or.inr hz)).trans2 k6 (by intro y hy; simp at hy; subst hy; exact Or.inr (Nat.le_refl _))⟩

end Go.Proofs.YtcklgafpgdhnaabGreatDoor
