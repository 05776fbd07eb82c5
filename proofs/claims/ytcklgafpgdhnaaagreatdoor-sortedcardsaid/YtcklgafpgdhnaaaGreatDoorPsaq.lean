import Derived.Test.YtcklgafpgdhnaaaGreatDoorPsap
import Derived.Test.YtcklgafpgdhnaaaGreatDoorPsal
import Derived.Test.YtcklgafpgdhnaaaGreatDoorPsad
import Derived.Test.YtcklgafpgdhnaaaGreatDoorPsaa
import Derived.Lib.Strings
import Derived.Lib.BufferWrite
import Derived.Lib.UnsafeStr
import Derived.Laws.MakeOwn
set_option maxRecDepth 100000
set_option maxHeartbeats 4000000
open Go.Proofs.Tryz
namespace Go.Proofs.YtcklgafpgdhnaaaGreatDoor
open Go.RowKit
theorem Q8T (k v : Value) (w : World) : (Go.method 433 122 (.agg #[k, v]) "store/tree.packed").run prog w = .ok (247, .agg #[k, v]) w := by kernel_rfl
theorem Q8U (k v x : Value) (w : World) : (Go.method 433 80 (.agg #[k, v, x]) "store/tree.packed").run prog w = .ok (296, .agg #[k, v, x]) w := by kernel_rfl
theorem Q8V (w : World) (x y : Int) : (Instr.buildSlice 60 2 #[(0, .int .u8 x), (1, .int .u8 y)]).run prog w = .ok (.slice (some ⟨w.heap.size, 0, none⟩) 2 2) (w.alloc (.cells #[.int .u8 x, .int .u8 y] 5)) := by kernel_rfl
theorem Q8W {P : Program} {o : Oper} {a : Act} {w w' : World} (t : TypeId) (n : Nat) (x y : Operand) (ho : o.op = .buildSlice t n #[(0, x), (1, y)]) (vx vy : Value) (hx : a.eval x = vx) (hy : a.eval y = vy) (v : Value)
  (hrun : (Instr.buildSlice t n #[(0, vx), (1, vy)]).run P w = .ok v w') : (execOp a.eval o).run P w = .ok (.value v) w' := by
 simp [execOp, ho, hx, hy, hrun, Result.andThen]
theorem Q8X (out : List UInt8) (h : out.length <= 124) : Q2i (splice (List.replicate 128 0) 0 out) = Q3u (Q3v 124 out) := by
 have e : splice (List.replicate 128 (0 : UInt8)) 0 out = out ++ List.replicate (128 - out.length) 0 := by unfold splice; rw [List.take_zero, List.nil_append, Nat.zero_add, List.drop_replicate]
 have hl : (out ++ List.replicate (128 - out.length) (0 : UInt8)).length = 128 := by rw [List.length_append, List.length_replicate]; omega
 have e2 : (out ++ List.replicate (128 - out.length) (0 : UInt8)).take 124 = Q3v 124 out := by
  rw [List.take_append, List.take_of_length_le h, List.take_replicate]
  unfold Q3v
  congr 2
  omega
 have e3 : (out ++ List.replicate (128 - out.length) (0 : UInt8)).drop 128 = [] := List.drop_of_length_le (by omega)
 rw [e, Q2i, hl, show 128 - 4 = 124 from rfl, e2]
 unfold Q3u splice
 rw [e2, Q2j, e3, List.append_nil]
def BkI (w w1 : World) (pre : List UInt8) (m : Nat) (part : Nat -> List UInt8) (out i : Value) (wr : World) : Prop :=
 ∃ j : Nat, j <= m /\ i = .int .i64 j /\ Bf w.heap.size wr out (pre ++ part j) /\ Kt w.heap.size w1 wr
theorem Q8Y (kind : UInt8) (vl : Value) (l : List Pr) (w : World) (h : SL w 122 2 vl (l.map pe)) (hl : l.length <= 200) (hk : ∀ p ∈ l, p.1.size <= 8 /\ p.2.size <= 12) (hsum : (l.flatMap pkP).length <= 122) :
  Calls prog 242 #[.int .u8 kind.toNat, vl] w fun e w' => e = .returned (.agg (u8s (encI kind l.length (l.flatMap pkP))).toArray) /\ Kept [] w w' := by
 obtain ⟨pv, cv, ev⟩ := h.shape
 rw [List.length_map] at ev
 subst ev
 have hm := Q8T
 have hlen := Q8L l.length
 obtain ⟨pre, epre⟩ : ∃ pre, pre = [kind, UInt8.ofNat l.length] := ⟨_, rfl⟩
 have hpre : pre.length = 2 := by rw [epre]; rfl
 have hpart : ∀ j, ((l.take j).flatMap pkP).length <= 122 := by
  intro j
  have e : l.flatMap pkP = (l.take j).flatMap pkP ++ (l.drop j).flatMap pkP := by
   rw [<- List.flatMap_append, List.take_append_drop]
  rw [e, List.length_append] at hsum
  omega
 have hfin : pre ++ (l.take l.length).flatMap pkP = kind :: UInt8.ofNat l.length :: l.flatMap pkP := by rw [epre, List.take_length]; rfl
 have HFin : Hid _ := hfin
 have HLen : Hid _ := hlen
 have HPre : Hid _ := epre
 clear hfin hlen epre
 go_enter func242, ntmps242
 go_wp2_with (first
  | (refine Q2f rfl 4 rfl 92 rfl _ (zblk _) ?_; intro w1 n1 k1 hs1)
  | (refine Q06 rfl _ _ (Q8W 60 2 (.tmp 9) (.tmp 12) rfl (.int .u8 kind.toNat) (.int .u8 (l.length : Int)) (by rfl) (by rfl) _ (Q8V _ _ _)) ?_; intro w2 n2 k2 hs2))
 have B2 : Bf w.heap.size w2 (.slice (some ⟨w.heap.size + 1, 0, none⟩) 2 2) (pre ++ (l.take 0).flatMap pkP) := by
  have e : u8s (pre ++ (l.take 0).flatMap pkP) = [.int .u8 kind.toNat, .int .u8 (l.length : Int)] := by
   rw [HPre.out, show (l.length : Int) = ((UInt8.ofNat l.length).toNat : Int) by have := HLen.out; omega]
   simp [u8s]
  have el : (pre ++ (l.take 0).flatMap pkP).length = 2 := by simp [hpre]
  unfold Bf
  rw [e, el]
  exact ⟨rfl, Or.inr ⟨w.heap.size + 1, 2, _, rfl, by omega, by rw [<- hs1]; exact n2, Nat.le_refl _, by unfold maxLen; omega, rfl, rfl⟩⟩
 have K2 : Kt w.heap.size w1 w2 := Kt.of k2 (by omega)
 have HS1 : Hid _ := hs1
 have HN1 : Hid (w1.heap[w.heap.size]? = _) := n1
 have HK1 : Hid (Kept [] w w1) := k1
 clear n2 k2 hs2 hs1 n1 k1
 go_loopw [5, 16] (fun o i wr => BkI w w1 pre l.length (fun j => (l.take j).flatMap pkP) o i wr) (fun _ i _ => l.length - (intOf i).toNat)
 case atStart => exact ⟨0, Nat.zero_le _, rfl, B2, K2⟩
 case round =>
  obtain ⟨j, hj, rfl, hB, hK⟩ := hrel
  have hKr : Kept [] w wr := Kept.of_below (HK1.out.below.trans hK.bl)
  clear B2 K2
  by_cases hlt : j < l.length
  ·have hlt' : (j : Int) < (l.length : Int) := by omega
   obtain ⟨x, hx⟩ : ∃ x, l[j]? = some x := ⟨_, List.getElem?_eq_getElem hlt⟩
   have hx1 := (hk x (List.mem_of_getElem? hx)).1
   have hx2 := (hk x (List.mem_of_getElem? hx)).2
   have hnext : (l.take (j + 1)).flatMap pkP = (l.take j).flatMap pkP ++ pkP x := by
    rw [Q17 l j x hx]; simp
   have hpj := hpart j
   obtain ⟨g, off, cap, cur, e, hg, hc1, hc2, hc3, hcur⟩ := (SL.kept h hKr).at_ (by simp; omega)
   rw [List.length_map] at e
   cases e
   have hld := Q56 (P := prog) (ty := 122) _ hg (hcur j _ (by rw [List.getElem?_map, hx]; rfl)) underlying122 stp
   have HP : Hid (∀ o W, Bf w.heap.size W o (pre ++ (l.take j).flatMap pkP) -> w.heap.size <= W.heap.size -> Calls prog 247 #[.agg #[.string x.1, .string x.2], o] W (BfR w.heap.size (pre ++ (l.take j).flatMap pkP ++ pkP x) W)) := fun o W hB hs => Q8O w.heap.size o (pre ++ (l.take j).flatMap pkP) x W hB hs (by rw [List.length_append, hpre]; omega) (by omega) (by omega)
   simp only [pe] at hld
   have HN : Hid _ := hnext
   have HB : Hid (Bf w.heap.size wr _ _) := hB
   have hwr := hKr.size
   clear hcur hnext hB
   go_wp2_with (first
    | (refine Q04 rfl _ _ (Q0v 115 (.tmp 14) (.tmp 16) rfl g off l.length cv j 2 rfl rfl 122 underlying115 stp hlt (off + j * 2) rfl) ?_)
    | (refine Q0t rfl 122 (.tmp 18) rfl ⟨g, off + j * 2, none⟩ rfl _ hld ?_)
    | (go_at_call 247; refine (HP.out _ _ (HB.out.keep ((Kept.refl [] wr).alloc (.cells #[.string x.1, .string x.2] 122))) (by rw [World.size_alloc]; omega)).mono ?_; rintro e w3 ⟨v3, rfl, hB3, hK3⟩))
   have HB3 : Hid _ := hB3
   clear hB3
   go_roundw
   case rel => exact ⟨j + 1, by omega, by go_num, by show Bf w.heap.size w3 v3 (pre ++ (l.take (j + 1)).flatMap pkP); rw [HN.out, <- List.append_assoc]; exact HB3.out, (hK.trans (Kt.of ((Kept.refl [] wr).alloc _) (by omega))).trans hK3⟩
   case measure => simp [intOf]; omega
  ·have hge : ¬ (j : Int) < (l.length : Int) := by omega
   have ej : j = l.length := by omega
   subst ej
   rw [HFin.out] at hB
   obtain ⟨OUT, eout⟩ : ∃ OUT, OUT = kind :: UInt8.ofNat l.length :: l.flatMap pkP := ⟨_, rfl⟩
   have hol : OUT.length <= 124 := by rw [eout]; simp only [List.length_cons]; omega
   have ho2 : 0 < OUT.length := by rw [eout]; simp
   have henc : Q2i (splice (List.replicate 128 0) 0 OUT) = encI kind l.length (l.flatMap pkP) := by rw [Q8X OUT hol, eout]; rfl
   have hel : (encI kind l.length (l.flatMap pkP)).length = 128 := Q3F _ _ _ hsum
   have HE : Hid _ := henc
   rw [<- eout] at hB
   obtain ⟨g, cap, cur, ev, hbg, hb0, hb1, hb2, hb3, hb4⟩ := Q0V hB ho2
   have hn1 := hK.row _ _ _ _ (by decide) HN1.out
   have hwr := hKr.size
   have hspl : (splice (List.replicate 128 (0 : UInt8)) 0 OUT).length = 128 := by rw [length_splice _ _ _ (by simp; omega)]; simp
   have HSL : Hid (∀ s W, W.heap[s]? = some (.cells (u8s (splice (List.replicate 128 0) 0 OUT)).toArray 92 (0, 0)) -> Calls prog 152 #[.slice (some ⟨s, 0, none⟩) 128 128] W fun e w' => e = .returned (.tuple #[]) /\ w'.heap[s]? = some (.cells (u8s (encI kind l.length (l.flatMap pkP))).toArray 92 (0, 0)) /\ Kept [s] W w') := by
    intro s W hW
    have := Q2s s (splice (List.replicate 128 0) 0 OUT) 92 W hW (by omega) (by omega)
    rw [hspl, HE.out] at this
    exact this
   subst ev
   obtain ⟨ENC, eENC⟩ : ∃ ENC, ENC = encI kind l.length (l.flatMap pkP) := ⟨_, rfl⟩
   rw [<- eENC] at hel HSL
   have HEN : Hid (ENC = _) := eENC
   clear eENC HE
   clear hB eout henc hspl
   go_wp2_with (first
    | (refine Q2f rfl 8 rfl 92 rfl _ (zblk _) ?_; intro w3 n3 k3 hs3; have hbg3 := k3.get hbg (by simp))
    | (refine Q0d 60 60 5 underlying60 su8 wr.heap.size 0 124 128 ⟨g, 0, none⟩ OUT.length cap (u8s (List.replicate 128 0)) 92 n3 (u8s OUT) (by rw [Q08]; exact (Nat.min_eq_left hol).symm) (Q15 hbg3 (by intro q u hq; rw [Nat.zero_add]; exact Q0X hb4 hq)) (by rw [Q08, Q08, List.length_replicate]; omega) (Q09 _) ?_; intro w4 n4 k4; rw [Q1D] at n4)
    | (go_at_call 152; refine (HSL.out wr.heap.size _ n4).mono ?_; rintro e w5 ⟨rfl, n5, k5⟩; have n15 := k5.get (k4.get (k3.get hn1 (by simp)) (by have := HS1.out; have := hK.bl.size; simp; omega)) (by have := HS1.out; have := hK.bl.size; simp; omega))
    | (refine wpList_load_row rfl 92 (.tmp 8) rfl wr.heap.size rfl 92 (u8s ENC).toArray (0, 0) _ n5 underlying92 rfl (by rw [sblk]; simp [Q08, hel]) ?_)
    | (refine Q0c rfl 92 (.tmp 4) (.tmp 30) rfl w.heap.size (u8s ENC).toArray rfl rfl 92 _ n15 (by rw [sblk]; simp [Q08, hel]) (by simp [Q08, hel]) (Q0M (Q09 _)) ?_; intro w6 n6 k6))
   refine bodyPost_ret (results_cell_row rfl _ w6 w.heap.size 92 _ (0, 0) _ rfl n6 underlying92 rfl (by rw [sblk]; simp [Q08, hel])) rfl ?_
   have hz := hKr.size
   exact ⟨by rw [HEN.out], (((hKr.trans k3).trans2 k4 (by intro y hy; simp at hy; subst hy; exact Or.inr hz)).trans2 k5 (by intro y hy; simp at hy; subst hy; exact Or.inr hz)).trans2 k6 (by intro y hy; simp at hy; subst hy; exact Or.inr (Nat.le_refl _))⟩
def kp (e : KE) : ByteArray × Nat := (e.1, e.3)
theorem Q8Z (kind : UInt8) (vl : Value) (l : List KE) (w : World) (h : SL w 80 3 vl (l.map ke)) (hl : l.length <= 200) (hk : ∀ p ∈ l, p.1.size <= 8 /\ p.3 < 65536) (hsum : ((l.map kp).flatMap pkK).length <= 122) (ho : ∀ x ∈ l, x.2 = .nilIface \/ ∃ t v, x.2 = .iface t v) :
  Calls prog 261 #[.int .u8 kind.toNat, vl] w fun e w' => e = .returned (.agg (u8s (encI kind l.length ((l.map kp).flatMap pkK))).toArray) /\ Kept [] w w' := by
 obtain ⟨pv, cv, ev⟩ := h.shape
 rw [List.length_map] at ev
 subst ev
 have hm := Q8U
 have hlen := Q8L l.length
 obtain ⟨pre, epre⟩ : ∃ pre, pre = [kind, UInt8.ofNat l.length] := ⟨_, rfl⟩
 have hpre : pre.length = 2 := by rw [epre]; rfl
 have hpart : ∀ j, (((l.take j).map kp).flatMap pkK).length <= 122 := by
  intro j
  have e : (l.map kp).flatMap pkK = ((l.take j).map kp).flatMap pkK ++ ((l.drop j).map kp).flatMap pkK := by
   rw [<- List.flatMap_append, <- List.map_append, List.take_append_drop]
  rw [e, List.length_append] at hsum
  omega
 have hfin : pre ++ ((l.take l.length).map kp).flatMap pkK = kind :: UInt8.ofNat l.length :: (l.map kp).flatMap pkK := by rw [epre, List.take_length]; rfl
 have HFin : Hid _ := hfin
 have HLen : Hid _ := hlen
 have HPre : Hid _ := epre
 clear hfin hlen epre
 go_enter func261, ntmps261
 go_wp2_with (first
  | (refine Q2f rfl 4 rfl 92 rfl _ (zblk _) ?_; intro w1 n1 k1 hs1)
  | (refine Q06 rfl _ _ (Q8W 60 2 (.tmp 9) (.tmp 12) rfl (.int .u8 kind.toNat) (.int .u8 (l.length : Int)) (by rfl) (by rfl) _ (Q8V _ _ _)) ?_; intro w2 n2 k2 hs2))
 have B2 : Bf w.heap.size w2 (.slice (some ⟨w.heap.size + 1, 0, none⟩) 2 2) (pre ++ ((l.take 0).map kp).flatMap pkK) := by
  have e : u8s (pre ++ ((l.take 0).map kp).flatMap pkK) = [.int .u8 kind.toNat, .int .u8 (l.length : Int)] := by
   rw [HPre.out, show (l.length : Int) = ((UInt8.ofNat l.length).toNat : Int) by have := HLen.out; omega]
   simp [u8s]
  have el : (pre ++ ((l.take 0).map kp).flatMap pkK).length = 2 := by simp [hpre]
  unfold Bf
  rw [e, el]
  exact ⟨rfl, Or.inr ⟨w.heap.size + 1, 2, _, rfl, by omega, by rw [<- hs1]; exact n2, Nat.le_refl _, by unfold maxLen; omega, rfl, rfl⟩⟩
 have K2 : Kt w.heap.size w1 w2 := Kt.of k2 (by omega)
 have HS1 : Hid _ := hs1
 have HN1 : Hid (w1.heap[w.heap.size]? = _) := n1
 have HK1 : Hid (Kept [] w w1) := k1
 clear n2 k2 hs2 hs1 n1 k1
 go_loopw [5, 16] (fun o i wr => BkI w w1 pre l.length (fun j => ((l.take j).map kp).flatMap pkK) o i wr) (fun _ i _ => l.length - (intOf i).toNat)
 case atStart => exact ⟨0, Nat.zero_le _, rfl, B2, K2⟩
 case round =>
  obtain ⟨j, hj, rfl, hB, hK⟩ := hrel
  have hKr : Kept [] w wr := Kept.of_below (HK1.out.below.trans hK.bl)
  clear B2 K2
  by_cases hlt : j < l.length
  ·have hlt' : (j : Int) < (l.length : Int) := by omega
   obtain ⟨x, hx⟩ : ∃ x, l[j]? = some x := ⟨_, List.getElem?_eq_getElem hlt⟩
   have hx1 := (hk x (List.mem_of_getElem? hx)).1
   have hx2 := (hk x (List.mem_of_getElem? hx)).2
   have hnext : ((l.take (j + 1)).map kp).flatMap pkK = ((l.take j).map kp).flatMap pkK ++ pkK (x.1, x.3) := by
    rw [Q17 l j x hx]; simp [kp]
   have hpj := hpart j
   obtain ⟨g, off, cap, cur, e, hg, hc1, hc2, hc3, hcur⟩ := (SL.kept h hKr).at_ (by simp; omega)
   rw [List.length_map] at e
   cases e
   have hld := Q56 (P := prog) (ty := 80) _ hg (hcur j _ (by rw [List.getElem?_map, hx]; rfl)) underlying80 stk
   rcases ho x (List.mem_of_getElem? hx) with ei | ⟨ti, vi, ei⟩
   ·have HP : Hid (∀ o W, Bf w.heap.size W o (pre ++ ((l.take j).map kp).flatMap pkK) -> w.heap.size <= W.heap.size -> Calls prog 296 #[.agg #[.string x.1, .int .i64 x.3, .nilIface], o] W (BfR w.heap.size (pre ++ ((l.take j).map kp).flatMap pkK ++ pkK (x.1, x.3)) W)) := fun o W hB hs => Q8S w.heap.size o (pre ++ ((l.take j).map kp).flatMap pkK) x.1 x.3 .nilIface W hB hs (by rw [List.length_append, hpre]; omega) (by omega) (by omega)
    simp only [ke, ei] at hld
    have HN : Hid _ := hnext
    have HB : Hid (Bf w.heap.size wr _ _) := hB
    have hwr := hKr.size
    clear hcur hnext hB
    go_wp2_with (first
     | (refine Q04 rfl _ _ (Q0v 165 (.tmp 14) (.tmp 16) rfl g off l.length cv j 3 rfl rfl 80 underlying165 stk hlt (off + j * 3) rfl) ?_)
     | (refine Q0t rfl 80 (.tmp 18) rfl ⟨g, off + j * 3, none⟩ rfl _ hld ?_)
     | (go_at_call 296; refine (HP.out _ _ (HB.out.keep ((Kept.refl [] wr).alloc (.cells #[.string x.1, .int .i64 x.3, .nilIface] 80))) (by rw [World.size_alloc]; omega)).mono ?_; rintro e w3 ⟨v3, rfl, hB3, hK3⟩))
    have HB3 : Hid _ := hB3
    clear hB3
    go_roundw
    case rel => exact ⟨j + 1, by omega, by go_num, by show Bf w.heap.size w3 v3 (pre ++ ((l.take (j + 1)).map kp).flatMap pkK); rw [HN.out, <- List.append_assoc]; exact HB3.out, (hK.trans (Kt.of ((Kept.refl [] wr).alloc _) (by omega))).trans hK3⟩
    case measure => simp [intOf]; omega
   ·have HP : Hid (∀ o W, Bf w.heap.size W o (pre ++ ((l.take j).map kp).flatMap pkK) -> w.heap.size <= W.heap.size -> Calls prog 296 #[.agg #[.string x.1, .int .i64 x.3, (.iface ti vi)], o] W (BfR w.heap.size (pre ++ ((l.take j).map kp).flatMap pkK ++ pkK (x.1, x.3)) W)) := fun o W hB hs => Q8S w.heap.size o (pre ++ ((l.take j).map kp).flatMap pkK) x.1 x.3 (.iface ti vi) W hB hs (by rw [List.length_append, hpre]; omega) (by omega) (by omega)
    simp only [ke, ei] at hld
    have HN : Hid _ := hnext
    have HB : Hid (Bf w.heap.size wr _ _) := hB
    have hwr := hKr.size
    clear hcur hnext hB
    go_wp2_with (first
     | (refine Q04 rfl _ _ (Q0v 165 (.tmp 14) (.tmp 16) rfl g off l.length cv j 3 rfl rfl 80 underlying165 stk hlt (off + j * 3) rfl) ?_)
     | (refine Q0t rfl 80 (.tmp 18) rfl ⟨g, off + j * 3, none⟩ rfl _ hld ?_)
     | (go_at_call 296; refine (HP.out _ _ (HB.out.keep ((Kept.refl [] wr).alloc (.cells #[.string x.1, .int .i64 x.3, (.iface ti vi)] 80))) (by rw [World.size_alloc]; omega)).mono ?_; rintro e w3 ⟨v3, rfl, hB3, hK3⟩))
    have HB3 : Hid _ := hB3
    clear hB3
    go_roundw
    case rel => exact ⟨j + 1, by omega, by go_num, by show Bf w.heap.size w3 v3 (pre ++ ((l.take (j + 1)).map kp).flatMap pkK); rw [HN.out, <- List.append_assoc]; exact HB3.out, (hK.trans (Kt.of ((Kept.refl [] wr).alloc _) (by omega))).trans hK3⟩
    case measure => simp [intOf]; omega
  ·have hge : ¬ (j : Int) < (l.length : Int) := by omega
   have ej : j = l.length := by omega
   subst ej
   rw [HFin.out] at hB
   obtain ⟨OUT, eout⟩ : ∃ OUT, OUT = kind :: UInt8.ofNat l.length :: (l.map kp).flatMap pkK := ⟨_, rfl⟩
   have hol : OUT.length <= 124 := by rw [eout]; simp only [List.length_cons]; omega
   have ho2 : 0 < OUT.length := by rw [eout]; simp
   have henc : Q2i (splice (List.replicate 128 0) 0 OUT) = encI kind l.length ((l.map kp).flatMap pkK) := by rw [Q8X OUT hol, eout]; rfl
   have hel : (encI kind l.length ((l.map kp).flatMap pkK)).length = 128 := Q3F _ _ _ hsum
   have HE : Hid _ := henc
   rw [<- eout] at hB
   obtain ⟨g, cap, cur, ev, hbg, hb0, hb1, hb2, hb3, hb4⟩ := Q0V hB ho2
   have hn1 := hK.row _ _ _ _ (by decide) HN1.out
   have hwr := hKr.size
   have hspl : (splice (List.replicate 128 (0 : UInt8)) 0 OUT).length = 128 := by rw [length_splice _ _ _ (by simp; omega)]; simp
   have HSL : Hid (∀ s W, W.heap[s]? = some (.cells (u8s (splice (List.replicate 128 0) 0 OUT)).toArray 92 (0, 0)) -> Calls prog 152 #[.slice (some ⟨s, 0, none⟩) 128 128] W fun e w' => e = .returned (.tuple #[]) /\ w'.heap[s]? = some (.cells (u8s (encI kind l.length ((l.map kp).flatMap pkK))).toArray 92 (0, 0)) /\ Kept [s] W w') := by
    intro s W hW
    have := Q2s s (splice (List.replicate 128 0) 0 OUT) 92 W hW (by omega) (by omega)
    rw [hspl, HE.out] at this
    exact this
   subst ev
   obtain ⟨ENC, eENC⟩ : ∃ ENC, ENC = encI kind l.length ((l.map kp).flatMap pkK) := ⟨_, rfl⟩
   rw [<- eENC] at hel HSL
   have HEN : Hid (ENC = _) := eENC
   clear eENC HE
   clear hB eout henc hspl
   go_wp2_with (first
    | (refine Q2f rfl 8 rfl 92 rfl _ (zblk _) ?_; intro w3 n3 k3 hs3; have hbg3 := k3.get hbg (by simp))
    | (refine Q0d 60 60 5 underlying60 su8 wr.heap.size 0 124 128 ⟨g, 0, none⟩ OUT.length cap (u8s (List.replicate 128 0)) 92 n3 (u8s OUT) (by rw [Q08]; exact (Nat.min_eq_left hol).symm) (Q15 hbg3 (by intro q u hq; rw [Nat.zero_add]; exact Q0X hb4 hq)) (by rw [Q08, Q08, List.length_replicate]; omega) (Q09 _) ?_; intro w4 n4 k4; rw [Q1D] at n4)
    | (go_at_call 152; refine (HSL.out wr.heap.size _ n4).mono ?_; rintro e w5 ⟨rfl, n5, k5⟩; have n15 := k5.get (k4.get (k3.get hn1 (by simp)) (by have := HS1.out; have := hK.bl.size; simp; omega)) (by have := HS1.out; have := hK.bl.size; simp; omega))
    | (refine wpList_load_row rfl 92 (.tmp 8) rfl wr.heap.size rfl 92 (u8s ENC).toArray (0, 0) _ n5 underlying92 rfl (by rw [sblk]; simp [Q08, hel]) ?_)
    | (refine Q0c rfl 92 (.tmp 4) (.tmp 30) rfl w.heap.size (u8s ENC).toArray rfl rfl 92 _ n15 (by rw [sblk]; simp [Q08, hel]) (by simp [Q08, hel]) (Q0M (Q09 _)) ?_; intro w6 n6 k6))
   refine bodyPost_ret (results_cell_row rfl _ w6 w.heap.size 92 _ (0, 0) _ rfl n6 underlying92 rfl (by rw [sblk]; simp [Q08, hel])) rfl ?_
   have hz := hKr.size
   exact ⟨by rw [HEN.out], (((hKr.trans k3).trans2 k4 (by intro y hy; simp at hy; subst hy; exact Or.inr hz)).trans2 k5 (by intro y hy; simp at hy; subst hy; exact Or.inr hz)).trans2 k6 (by intro y hy; simp at hy; subst hy; exact Or.inr (Nat.le_refl _))⟩
theorem Q90 (p : Option Addr) (n c : Nat) : Disp "store/tree.block" (.iface 116 (.slice p n c)) 231 (.slice p n c) := ⟨_, rfl, fun _ => by kernel_rfl, fun _ _ => by kernel_rfl⟩
theorem Q91 (p : Option Addr) (n c : Nat) : Disp "store/tree.block" (.iface 168 (.slice p n c)) 250 (.slice p n c) := ⟨_, rfl, fun _ => by kernel_rfl, fun _ _ => by kernel_rfl⟩
theorem Q92 (v : Value) (l : List Pr) (w : World) (h : LF w v l) (hk : Q3A (.leaf l)) :
  Calls prog 231 #[v] w fun e w' => e = .returned (.agg (u8s (encL l)).toArray) /\ Kept [] w w' := by
 have hsum : (l.flatMap pkP).length <= 122 := by rw [Q3B]; exact hk.2
 have hln : l.length <= 200 := by have := Q3G l; have := hk.2; omega
 have hel : (encL l).length = 128 := Q3F _ _ _ hsum
 have HB : Hid (∀ W, Kept [] w W -> Calls prog 242 #[.int .u8 76, v] W fun e w' => e = .returned (.agg (u8s (encL l)).toArray) /\ Kept [] W w') := fun W kW => Q8Y 76 v l W (SL.kept h kW) hln hk.1 hsum
 generalize encL l = E at *
 go_enter func231, ntmps231
 go_wp2_with (first
  | (refine Q2f rfl 2 rfl 92 rfl _ (zblk _) ?_; intro w1 n1 k1 hs1)
  | (go_at_call 242; refine (HB.out w1 k1).mono ?_; rintro e w2 ⟨rfl, k2⟩)
  | (refine Q0c rfl 92 (.tmp 2) (.tmp 4) rfl w.heap.size (u8s E).toArray rfl rfl 92 _ (k2.get n1 (by simp)) (by rw [sblk]; simp [Q08, hel]) (by simp [Q08, hel]) (Q0M (Q09 _)) ?_; intro w3 n3 k3))
 refine bodyPost_ret (results_cell_row rfl _ w3 w.heap.size 92 _ (0, 0) _ rfl n3 underlying92 rfl (by rw [sblk]; simp [Q08, hel])) rfl ?_
 exact ⟨rfl, (k1.trans k2).trans2 k3 (by intro y hy; simp at hy; subst hy; exact Or.inr (Nat.le_refl _))⟩
theorem Q93 (v : Value) (l : List KE) (w : World) (h : SL w 80 3 v (l.map ke)) (hk : Q3A (.branch (l.map kp))) (ho : ∀ x ∈ l, x.2 = .nilIface \/ ∃ t v, x.2 = .iface t v) :
  Calls prog 250 #[v] w fun e w' => e = .returned (.agg (u8s (encB (l.map kp))).toArray) /\ Kept [] w w' := by
 have hk1 : ∀ x ∈ l, x.1.size <= 8 /\ x.3 < 65536 := fun x hx => hk.1 (kp x) (List.mem_map.2 ⟨x, hx, rfl⟩)
 have hln := hk.2
 rw [List.length_map] at hln
 have hsum : ((l.map kp).flatMap pkK).length <= 122 := by rw [Q3C _ fun k hm => (hk.1 k hm).1, List.length_map]; exact hln
 have hel : (encB (l.map kp)).length = 128 := Q3F _ _ _ hsum
 have HB : Hid (∀ W, Kept [] w W -> Calls prog 261 #[.int .u8 66, v] W fun e w' => e = .returned (.agg (u8s (encB (l.map kp))).toArray) /\ Kept [] W w') := fun W kW => by
  have := Q8Z 66 v l W (SL.kept h kW) (by omega) hk1 hsum ho
  unfold encB
  rw [List.length_map]
  exact this
 generalize encB (l.map kp) = E at *
 go_enter func250, ntmps250
 go_wp2_with (first
  | (refine Q2f rfl 2 rfl 92 rfl _ (zblk _) ?_; intro w1 n1 k1 hs1)
  | (go_at_call 261; refine (HB.out w1 k1).mono ?_; rintro e w2 ⟨rfl, k2⟩)
  | (refine Q0c rfl 92 (.tmp 2) (.tmp 4) rfl w.heap.size (u8s E).toArray rfl rfl 92 _ (k2.get n1 (by simp)) (by rw [sblk]; simp [Q08, hel]) (by simp [Q08, hel]) (Q0M (Q09 _)) ?_; intro w3 n3 k3))
 refine bodyPost_ret (results_cell_row rfl _ w3 w.heap.size 92 _ (0, 0) _ rfl n3 underlying92 rfl (by rw [sblk]; simp [Q08, hel])) rfl ?_
 exact ⟨rfl, (k1.trans k2).trans2 k3 (by intro y hy; simp at hy; subst hy; exact Or.inr (Nat.le_refl _))⟩
theorem F2.kps {w : World} {A : Nat -> Prop} {h : Nat} {ks : List (Kid h)} {xs : List KE} (hf : F2 (KR w A h) ks xs) : xs.map kp = ks.map fun k => (k.1, k.3) := by
 apply List.ext_getElem?
 intro i
 rw [List.getElem?_map, List.getElem?_map]
 rcases Nat.lt_or_ge i ks.length with hi | hi
 ·obtain ⟨b, hb, hr⟩ := hf.get (List.getElem?_eq_getElem hi)
  rw [hb, List.getElem?_eq_getElem hi]
  simp [kp, hr.1.1, hr.1.2]
 ·rw [List.getElem?_eq_none (by rw [<- hf.1]; exact hi), List.getElem?_eq_none hi]
  rfl
theorem Q94 {w : World} {A : Nat -> Prop} : ∀ {h : Nat} {n : Nd h} {x : Value}, ND w A h n x -> Q3A (nbN h n) -> ∃ fn v, Disp "store/tree.block" x fn v /\ Calls prog fn #[v] w fun e w' => e = .returned (.agg (u8s (encN (nbN h n))).toArray) /\ Kept [] w w'
 | 0, n, x, hx, hk => by
  obtain ⟨v, rfl, hl, _⟩ := hx
  have HC := Q92 v n w hl hk
  obtain ⟨p, c, ev⟩ := SL.shape hl
  subst ev
  exact ⟨_, _, Q90 _ _ _, HC⟩
 | h + 1, n, x, hx, hk => by
  obtain ⟨v, xs, rfl, hl, _, hf⟩ := Q6u.1 hx
  have e := hf.kps
  have HC := Q93 v xs w hl (by rw [e]; exact hk) fun x hx => Or.inr (Q6w hf x hx)
  rw [e] at HC
  obtain ⟨p, c, ev⟩ := SL.shape hl
  subst ev
  exact ⟨_, _, Q91 _ _ _, HC⟩
theorem itu8 : (prog.info? 5).map (fun i => (i.zero, i.size, i.bytes)) = some (some (Value.int .u8 0), 1, 1) := by kernel_rfl
theorem Q95 (s : ByteArray) (w : World) (hs : s.size <= 1000000) : Calls prog 71 #[.string s] w fun e w' => e = .returned (.string s) /\ Kept [] w w' := by
 by_cases h0 : s.size = 0
 ·obtain rfl : s = ⟨#[]⟩ := ByteArray.ext (Array.eq_empty_of_size_eq_zero h0)
  go_enter func71, ntmps71
  go_wp2
  go_ret
  exact ⟨rfl, Kept.refl _ _⟩
 ·obtain ⟨iu, hiu, hz0, hz1, hz2⟩ := info_parts itu8
  have h1 : (prog.info? 5).map (·.size) = some 1 := by rw [hiu]; simp [hz1]
  have hcells : prog.cellsOf 5 = 1 := by simp [Program.cellsOf, hiu, hz1]
  obtain ⟨new, hnew⟩ : ∃ new, new = madeCells (Value.int .u8 0).cells (((s.size : Nat) : Int).toNat * iu.size) := ⟨_, rfl⟩
  have hns : new.size = s.size := by rw [hnew, size_madeCells, hz1]; simp
  have hmake : ∀ W : World, (Instr.makeSlice 60 (.int .i64 (s.size : Int)) (.int .i64 (s.size : Int))).run prog W = .ok (.slice (some ⟨W.heap.size, 0, none⟩) s.size s.size) (W.alloc (.cells new 5)) := by
   intro W
   have := run_make (P := prog) W 60 5 iu (.int .u8 0) underlying60 hiu hz0 .i64 .i64 (s.size : Int) (s.size : Int) (by omega) (by omega) (by rw [hz2]; omega) (by omega)
   rw [<- hnew] at this
   simpa using this
  clear hnew
  obtain ⟨w1, ew1⟩ : ∃ w1, w1 = w.alloc (.cells new 5) := ⟨_, rfl⟩
  have hrow1 : w1.heap[w.heap.size]? = some (.cells new 5 (0, 0)) := by rw [ew1]; exact heap_alloc_new w _
  have hcopy := Lib.run_copy_row_string (P := prog) w1 60 9 3 5 w.heap.size 0 s.size s.size s new 5 underlying60 h1 hrow1 (Nat.le_refl _) (by omega)
  obtain ⟨full, hfull⟩ : ∃ full, full = (new.toList.take 0 ++ Lib.byteCells s.data.toList ++ new.toList.drop (0 + s.size)).toArray := ⟨_, rfl⟩
  rw [<- hfull] at hcopy
  have hfl : full.toList = Lib.byteCells s.data.toList := by
   rw [hfull, List.toList_toArray, List.take_zero, List.nil_append, List.drop_of_length_le (by rw [Array.length_toList]; omega), List.append_nil]
  have hfs : full.size = s.size := by rw [<- Array.length_toList, hfl, Lib.byteCells_length, <- Lib.size_eq]
  have hrow2 : (w1.setRow w.heap.size full).heap[w.heap.size]? = some (.cells full 5 (0, 0)) := setRow_heap _ _ new _ 5 (0, 0) hrow1
  have hne : s.data.toList ≠ [] := fun e => h0 (by rw [Lib.size_eq, e]; rfl)
  have hstr := Lib.run_unsafeString_row (P := prog) (w1.setRow w.heap.size full) 164 3 9 5 underlying164 hcells w.heap.size full.size (by unfold World.shape?; rw [hrow2]) s.data.toList hne (by rw [<- Lib.size_eq]; omega) (by rw [<- Lib.size_eq]; omega)
   (fun j x hx => Lib.cells_of_row hrow2 full.size j _ (by rw [List.take_of_length_le (by rw [Array.length_toList]; exact Nat.le_refl _), hfl]; simp [Lib.byteCells, hx]))
  rw [<- Lib.size_eq] at hstr
  have k1 : Kept [] w (w1.setRow w.heap.size full) := by rw [ew1]; exact ((Kept.refl [] w).alloc _).setRow (Or.inr (Nat.le_refl _)) _
  have K1 : Hid _ := k1.below
  subst ew1
  clear hfull k1
  go_enter func71, ntmps71
  go_wp2
  go_ret
  exact ⟨rfl, Kept.of_below (Lib.below_freeze K1.out (p := ⟨w.heap.size, 0, none⟩) (Nat.le_refl _) _)⟩
theorem Q96 (s : ByteArray) (w : World) (hs : s.size <= 1000000) : Calls prog 47 #[.string s] w fun e w' => e = .returned (.string s) /\ Kept [] w w' := by
 have HC : Hid (Calls _ _ _ _ _) := Q95 s w hs
 go_enter func47, ntmps47
 go_wp2_with (first | (go_at_call 71; refine HC.out.mono ?_; rintro e w1 ⟨rfl, hk1⟩))
 go_ret
 exact ⟨rfl, hk1⟩
end Go.Proofs.YtcklgafpgdhnaaaGreatDoor
