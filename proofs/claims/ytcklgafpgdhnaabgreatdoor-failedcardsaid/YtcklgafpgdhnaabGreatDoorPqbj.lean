import Derived.Test.YtcklgafpgdhnaabGreatDoorPqbh
set_option maxRecDepth 100000
set_option maxHeartbeats 4000000
open Go.Proofs.Tryz
namespace Go.Proofs.YtcklgafpgdhnaabGreatDoor
open Go.RowKit
theorem Qat (b : Bool) (k : ByteArray) (r : List ByteArray) (f t : ByteArray) : qp b (k :: r) f t = if bl k f || (b && be k f) then false else qp true r k t := rfl
def RiI (keys : List ByteArray) (f t : ByteArray) (w : World) (fv i : Value) (wr : World) : Prop :=
 ∃ (j : Nat) (fj : ByteArray), j <= keys.length /\ fv = .string fj /\ i = .int .i64 (j : Nat) /\ qp (decide (0 < j)) (keys.drop j) fj t = qp false keys f t /\ y5 [] w wr
theorem Qau (t : ByteArray) : be t yp = t.toList.isEmpty := by
 unfold be
 rw [gT, gT]
 cases t.data.toList <;> rfl
theorem Qav (vl : Value) (l : List Pr) (f t : ByteArray) (w : World) (h : SL w 138 2 vl (l.map pe)) (hl : l.length <= 200) :
  Calls prog 197 #[vl, .string f, .string t] w fun e w' => e = .returned (.bool (qp false (l.map fun x => x.1) f t)) /\ y5 [] w w' := by
 obtain ⟨pv, cv, ev⟩ := h.shape
 rw [List.length_map] at ev
 subst ev
 have hm := Q3k
 have hlen : (l.map fun x => x.1).length = l.length := List.length_map ..
 go_enter func197, ntmps197
 go_wp2
 go_loopw [1, 11] (fun fv i wr => RiI (l.map fun x => x.1) f t w fv i wr) (fun _ i _ => l.length - (intOf i).toNat)
 case atStart => exact ⟨0, f, Nat.zero_le _, rfl, rfl, rfl, y5.refl _ _⟩
 case round =>
  obtain ⟨j, fj, hj, rfl, rfl, hri, hkr⟩ := hrel
  rw [hlen] at hj
  by_cases hlt : j < l.length
  ·have hlt' : (j : Int) < (l.length : Int) := by omega
   obtain ⟨x, hx⟩ : ∃ x, l[j]? = some x := ⟨_, List.getElem?_eq_getElem hlt⟩
   have hdr : (l.map fun x => x.1).drop j = x.1 :: (l.map fun x => x.1).drop (j + 1) := by
    rw [List.drop_eq_getElem_cons (by rw [hlen]; exact hlt)]
    congr 1
    have := (List.getElem?_eq_some_iff.1 hx).2
    simp [this]
   rw [hdr, Qat] at hri
   obtain ⟨g, off, cap, cur, e, hg, hc1, hc2, hc3, hcur⟩ := (SL.kept h hkr).at_ (by simp; omega)
   rw [List.length_map] at e
   cases e
   have hld := gG (P := prog) (ty := 138) _ hg (hcur j _ (by rw [List.getElem?_map, hx]; rfl)) underlying138 stp
   simp only [pe] at hld
   have hone : (#[.string x.1, .string x.2] : Array Value).all (·.oneCell') = true := yU (Q9T x)
   clear hcur hdr
   cases hb1 : bl x.1 fj with
   | true =>
    rw [hb1] at hri
    have HF : Hid (qp false (l.map fun x => x.1) f t = false) := hri.symm
    have hb1' : Op.bytesLess x.1.toList fj.toList = true := hb1
    clear hri hb1
    go_wp2_with (first
     | (refine y8 rfl _ _ (ya 134 (.tmp 9) (.tmp 11) rfl g off l.length cv j 2 rfl rfl 138 underlying134 stp hlt (off + j * 2) rfl) ?_)
     | (refine ye rfl 138 (.tmp 14) rfl ⟨g, off + j * 2, none⟩ rfl _ hld ?_)
     | (refine yc rfl 8 rfl 138 rfl _ (Q9S _) ?_; intro wa na ka hsa; clear hsa)
     | (refine yb rfl 138 (.tmp 8) (.tmp 15) rfl wr.heap.size #[.string x.1, .string x.2] rfl rfl 138 _ na stp rfl (hone) ?_; intro wb nx kb; have kx : y5 [] wr wb := ka.trans2 kb (by intro y hy; simp at hy; subst hy; exact Or.inr (Nat.le_refl _)))
     | (refine wpList_load_row rfl 138 (.tmp 8) rfl wr.heap.size rfl 138 #[.string x.1, .string x.2] (0, 0) _ nx underlying138 rfl stp ?_)
     | (go_at_call 198; refine (jA _ _ _ rfl _).mono ?_; rintro e wc ⟨rfl, kc⟩; replace nx := kc.get nx (by simp); replace kx := kx.trans kc; clear kc; have d0 : wc.cell? ⟨wr.heap.size, 0, none⟩ = some (.string x.1) := y6 nx rfl; have d1 : wc.cell? ⟨wr.heap.size, 1, none⟩ = some (.string x.2) := y6 nx rfl))
    go_ret
    refine ⟨by rw [HF.out]; rfl, hkr.trans kx⟩
   | false =>
    have hb1' : Op.bytesLess x.1.toList fj.toList = false := hb1
    rw [hb1] at hri
    clear hb1
    by_cases hz : j = 0
    ·have HF : Hid (qp true ((l.map fun x => x.1).drop (j + 1)) x.1 t = qp false (l.map fun x => x.1) f t) := by
      subst hz
      exact hri
     have hj0 : ¬ (0 : Int) < (j : Int) := by omega
     clear hri hz
     go_wp2_with (first
      | (refine y8 rfl _ _ (ya 134 (.tmp 9) (.tmp 11) rfl g off l.length cv j 2 rfl rfl 138 underlying134 stp hlt (off + j * 2) rfl) ?_)
      | (refine ye rfl 138 (.tmp 14) rfl ⟨g, off + j * 2, none⟩ rfl _ hld ?_)
      | (refine yc rfl 8 rfl 138 rfl _ (Q9S _) ?_; intro wa na ka hsa; clear hsa)
      | (refine yb rfl 138 (.tmp 8) (.tmp 15) rfl wr.heap.size #[.string x.1, .string x.2] rfl rfl 138 _ na stp rfl (hone) ?_; intro wb nx kb; have kx : y5 [] wr wb := ka.trans2 kb (by intro y hy; simp at hy; subst hy; exact Or.inr (Nat.le_refl _)))
      | (refine wpList_load_row rfl 138 (.tmp 8) rfl wr.heap.size rfl 138 #[.string x.1, .string x.2] (0, 0) _ nx underlying138 rfl stp ?_)
      | (go_at_call 198; refine (jA _ _ _ rfl _).mono ?_; rintro e wc ⟨rfl, kc⟩; replace nx := kc.get nx (by simp); replace kx := kx.trans kc; clear kc; have d0 : wc.cell? ⟨wr.heap.size, 0, none⟩ = some (.string x.1) := y6 nx rfl; have d1 : wc.cell? ⟨wr.heap.size, 1, none⟩ = some (.string x.2) := y6 nx rfl))
     go_roundw
     case rel => exact ⟨j + 1, x.1, by rw [hlen]; omega, rfl, by go_num, by rw [decide_eq_true (by omega)]; exact HF.out, hkr.trans kx⟩
     case measure => simp [intOf]; omega
    ·have hj0 : (0 : Int) < (j : Int) := by omega
     rw [decide_eq_true (by omega : 0 < j), Bool.false_or, Bool.true_and] at hri
     cases hb2 : be x.1 fj with
     | true =>
      rw [hb2] at hri
      have HF : Hid (qp false (l.map fun x => x.1) f t = false) := hri.symm
      have hb2' : (x.1.toList == fj.toList) = true := hb2
      clear hri hb2 hz
      go_wp2_with (first
       | (refine y8 rfl _ _ (ya 134 (.tmp 9) (.tmp 11) rfl g off l.length cv j 2 rfl rfl 138 underlying134 stp hlt (off + j * 2) rfl) ?_)
       | (refine ye rfl 138 (.tmp 14) rfl ⟨g, off + j * 2, none⟩ rfl _ hld ?_)
       | (refine yc rfl 8 rfl 138 rfl _ (Q9S _) ?_; intro wa na ka hsa; clear hsa)
       | (refine yb rfl 138 (.tmp 8) (.tmp 15) rfl wr.heap.size #[.string x.1, .string x.2] rfl rfl 138 _ na stp rfl (hone) ?_; intro wb nx kb; have kx : y5 [] wr wb := ka.trans2 kb (by intro y hy; simp at hy; subst hy; exact Or.inr (Nat.le_refl _)))
       | (refine wpList_load_row rfl 138 (.tmp 8) rfl wr.heap.size rfl 138 #[.string x.1, .string x.2] (0, 0) _ nx underlying138 rfl stp ?_)
       | (go_at_call 198; refine (jA _ _ _ rfl _).mono ?_; rintro e wc ⟨rfl, kc⟩; replace nx := kc.get nx (by simp); replace kx := kx.trans kc; clear kc; have d0 : wc.cell? ⟨wr.heap.size, 0, none⟩ = some (.string x.1) := y6 nx rfl; have d1 : wc.cell? ⟨wr.heap.size, 1, none⟩ = some (.string x.2) := y6 nx rfl))
      go_ret
      refine ⟨by rw [HF.out]; rfl, hkr.trans kx⟩
     | false =>
      rw [hb2] at hri
      have HF : Hid (qp true ((l.map fun x => x.1).drop (j + 1)) x.1 t = qp false (l.map fun x => x.1) f t) := hri
      have hb2' : (x.1.toList == fj.toList) = false := hb2
      clear hri hb2 hz
      go_wp2_with (first
       | (refine y8 rfl _ _ (ya 134 (.tmp 9) (.tmp 11) rfl g off l.length cv j 2 rfl rfl 138 underlying134 stp hlt (off + j * 2) rfl) ?_)
       | (refine ye rfl 138 (.tmp 14) rfl ⟨g, off + j * 2, none⟩ rfl _ hld ?_)
       | (refine yc rfl 8 rfl 138 rfl _ (Q9S _) ?_; intro wa na ka hsa; clear hsa)
       | (refine yb rfl 138 (.tmp 8) (.tmp 15) rfl wr.heap.size #[.string x.1, .string x.2] rfl rfl 138 _ na stp rfl (hone) ?_; intro wb nx kb; have kx : y5 [] wr wb := ka.trans2 kb (by intro y hy; simp at hy; subst hy; exact Or.inr (Nat.le_refl _)))
       | (refine wpList_load_row rfl 138 (.tmp 8) rfl wr.heap.size rfl 138 #[.string x.1, .string x.2] (0, 0) _ nx underlying138 rfl stp ?_)
       | (go_at_call 198; refine (jA _ _ _ rfl _).mono ?_; rintro e wc ⟨rfl, kc⟩; replace nx := kc.get nx (by simp); replace kx := kx.trans kc; clear kc; have d0 : wc.cell? ⟨wr.heap.size, 0, none⟩ = some (.string x.1) := y6 nx rfl; have d1 : wc.cell? ⟨wr.heap.size, 1, none⟩ = some (.string x.2) := y6 nx rfl))
      go_roundw
      case rel => exact ⟨j + 1, x.1, by rw [hlen]; omega, rfl, by go_num, by rw [decide_eq_true (by omega)]; exact HF.out, hkr.trans kx⟩
      case measure => simp [intOf]; omega
  ·have hge : ¬ (j : Int) < (l.length : Int) := by omega
   have ej : j = l.length := by omega
   subst ej
   rw [List.drop_of_length_le (by rw [hlen]; exact Nat.le_refl _)] at hri
   simp only [qp] at hri
   cases hb1 : be t yp with
   | true =>
    rw [hb1] at hri
    have HF : Hid (qp false (l.map fun x => x.1) f t = true) := hri.symm
    have hb1' : t.toList.isEmpty = true := by rw [<- Qau]; exact hb1
    clear hri hb1
    go_wp2
    go_ret
    exact ⟨by rw [HF.out]; rfl, hkr⟩
   | false =>
    rw [hb1, Bool.false_or] at hri
    have HF : Hid (qp false (l.map fun x => x.1) f t = bl fj t) := hri.symm
    have hb1' : t.toList.isEmpty = false := by rw [<- Qau]; exact hb1
    clear hri hb1
    cases hb2 : bl fj t with
    | true =>
     rw [hb2] at HF
     have hb2' : Op.bytesLess fj.toList t.toList = true := hb2
     clear hb2
     go_wp2
     go_ret
     exact ⟨by rw [HF.out]; rfl, hkr⟩
    | false =>
     rw [hb2] at HF
     have hb2' : Op.bytesLess fj.toList t.toList = false := hb2
     clear hb2
     go_wp2
     go_ret
     exact ⟨by rw [HF.out]; rfl, hkr⟩
theorem Qaw (vl : Value) (l : List KE) (f t : ByteArray) (w : World) (h : SL w 75 3 vl (l.map ke)) (hl : l.length <= 200) (ho : ∀ x ∈ l, x.2.oneCell' = true) :
  Calls prog 230 #[vl, .string f, .string t] w fun e w' => e = .returned (.bool (qp false (l.map fun x => x.1) f t)) /\ y5 [] w w' := by
 obtain ⟨pv, cv, ev⟩ := h.shape
 rw [List.length_map] at ev
 subst ev
 have hm := Q3n
 have hlen : (l.map fun x => x.1).length = l.length := List.length_map ..
 go_enter func230, ntmps230
 go_wp2
 go_loopw [1, 11] (fun fv i wr => RiI (l.map fun x => x.1) f t w fv i wr) (fun _ i _ => l.length - (intOf i).toNat)
 case atStart => exact ⟨0, f, Nat.zero_le _, rfl, rfl, rfl, y5.refl _ _⟩
 case round =>
  obtain ⟨j, fj, hj, rfl, rfl, hri, hkr⟩ := hrel
  rw [hlen] at hj
  by_cases hlt : j < l.length
  ·have hlt' : (j : Int) < (l.length : Int) := by omega
   obtain ⟨x, hx⟩ : ∃ x, l[j]? = some x := ⟨_, List.getElem?_eq_getElem hlt⟩
   have hdr : (l.map fun x => x.1).drop j = x.1 :: (l.map fun x => x.1).drop (j + 1) := by
    rw [List.drop_eq_getElem_cons (by rw [hlen]; exact hlt)]
    congr 1
    have := (List.getElem?_eq_some_iff.1 hx).2
    simp [this]
   rw [hdr, Qat] at hri
   obtain ⟨g, off, cap, cur, e, hg, hc1, hc2, hc3, hcur⟩ := (SL.kept h hkr).at_ (by simp; omega)
   rw [List.length_map] at e
   cases e
   have hld := gG (P := prog) (ty := 75) _ hg (hcur j _ (by rw [List.getElem?_map, hx]; rfl)) underlying75 stk
   simp only [ke] at hld
   have hone : (#[.string x.1, .int .i64 (x.3 : Nat), x.2] : Array Value).all (·.oneCell') = true := yU (qQ _ _ (ho x (List.mem_of_getElem? hx)))
   clear hcur hdr
   cases hb1 : bl x.1 fj with
   | true =>
    rw [hb1] at hri
    have HF : Hid (qp false (l.map fun x => x.1) f t = false) := hri.symm
    have hb1' : Op.bytesLess x.1.toList fj.toList = true := hb1
    clear hri hb1
    go_wp2_with (first
     | (refine y8 rfl _ _ (ya 177 (.tmp 9) (.tmp 11) rfl g off l.length cv j 3 rfl rfl 75 underlying177 stk hlt (off + j * 3) rfl) ?_)
     | (refine ye rfl 75 (.tmp 14) rfl ⟨g, off + j * 3, none⟩ rfl _ hld ?_)
     | (refine yc rfl 8 rfl 75 rfl _ (jP _) ?_; intro wa na ka hsa; clear hsa)
     | (refine yb rfl 75 (.tmp 8) (.tmp 15) rfl wr.heap.size #[.string x.1, .int .i64 (x.3 : Nat), x.2] rfl rfl 75 _ na stk rfl (hone) ?_; intro wb nx kb; have kx : y5 [] wr wb := ka.trans2 kb (by intro y hy; simp at hy; subst hy; exact Or.inr (Nat.le_refl _)))
     | (refine wpList_load_row rfl 75 (.tmp 8) rfl wr.heap.size rfl 75 #[.string x.1, .int .i64 (x.3 : Nat), x.2] (0, 0) _ nx underlying75 rfl stk ?_)
     | (go_at_call 176; refine (Q0 _ _ _ x.1 rfl _).mono ?_; rintro e wc ⟨rfl, kc⟩; replace nx := kc.get nx (by simp); replace kx := kx.trans kc; clear kc; have d0 : wc.cell? ⟨wr.heap.size, 0, none⟩ = some (.string x.1) := y6 nx rfl; have d1 : wc.cell? ⟨wr.heap.size, 1, none⟩ = some (.int .i64 (x.3 : Nat)) := y6 nx rfl; have d2 : wc.cell? ⟨wr.heap.size, 2, none⟩ = some x.2 := y6 nx rfl))
    go_ret
    refine ⟨by rw [HF.out]; rfl, hkr.trans kx⟩
   | false =>
    have hb1' : Op.bytesLess x.1.toList fj.toList = false := hb1
    rw [hb1] at hri
    clear hb1
    by_cases hz : j = 0
    ·have HF : Hid (qp true ((l.map fun x => x.1).drop (j + 1)) x.1 t = qp false (l.map fun x => x.1) f t) := by
      subst hz
      exact hri
     have hj0 : ¬ (0 : Int) < (j : Int) := by omega
     clear hri hz
     go_wp2_with (first
      | (refine y8 rfl _ _ (ya 177 (.tmp 9) (.tmp 11) rfl g off l.length cv j 3 rfl rfl 75 underlying177 stk hlt (off + j * 3) rfl) ?_)
      | (refine ye rfl 75 (.tmp 14) rfl ⟨g, off + j * 3, none⟩ rfl _ hld ?_)
      | (refine yc rfl 8 rfl 75 rfl _ (jP _) ?_; intro wa na ka hsa; clear hsa)
      | (refine yb rfl 75 (.tmp 8) (.tmp 15) rfl wr.heap.size #[.string x.1, .int .i64 (x.3 : Nat), x.2] rfl rfl 75 _ na stk rfl (hone) ?_; intro wb nx kb; have kx : y5 [] wr wb := ka.trans2 kb (by intro y hy; simp at hy; subst hy; exact Or.inr (Nat.le_refl _)))
      | (refine wpList_load_row rfl 75 (.tmp 8) rfl wr.heap.size rfl 75 #[.string x.1, .int .i64 (x.3 : Nat), x.2] (0, 0) _ nx underlying75 rfl stk ?_)
      | (go_at_call 176; refine (Q0 _ _ _ x.1 rfl _).mono ?_; rintro e wc ⟨rfl, kc⟩; replace nx := kc.get nx (by simp); replace kx := kx.trans kc; clear kc; have d0 : wc.cell? ⟨wr.heap.size, 0, none⟩ = some (.string x.1) := y6 nx rfl; have d1 : wc.cell? ⟨wr.heap.size, 1, none⟩ = some (.int .i64 (x.3 : Nat)) := y6 nx rfl; have d2 : wc.cell? ⟨wr.heap.size, 2, none⟩ = some x.2 := y6 nx rfl))
     go_roundw
     case rel => exact ⟨j + 1, x.1, by rw [hlen]; omega, rfl, by go_num, by rw [decide_eq_true (by omega)]; exact HF.out, hkr.trans kx⟩
     case measure => simp [intOf]; omega
    ·have hj0 : (0 : Int) < (j : Int) := by omega
     rw [decide_eq_true (by omega : 0 < j), Bool.false_or, Bool.true_and] at hri
     cases hb2 : be x.1 fj with
     | true =>
      rw [hb2] at hri
      have HF : Hid (qp false (l.map fun x => x.1) f t = false) := hri.symm
      have hb2' : (x.1.toList == fj.toList) = true := hb2
      clear hri hb2 hz
      go_wp2_with (first
       | (refine y8 rfl _ _ (ya 177 (.tmp 9) (.tmp 11) rfl g off l.length cv j 3 rfl rfl 75 underlying177 stk hlt (off + j * 3) rfl) ?_)
       | (refine ye rfl 75 (.tmp 14) rfl ⟨g, off + j * 3, none⟩ rfl _ hld ?_)
       | (refine yc rfl 8 rfl 75 rfl _ (jP _) ?_; intro wa na ka hsa; clear hsa)
       | (refine yb rfl 75 (.tmp 8) (.tmp 15) rfl wr.heap.size #[.string x.1, .int .i64 (x.3 : Nat), x.2] rfl rfl 75 _ na stk rfl (hone) ?_; intro wb nx kb; have kx : y5 [] wr wb := ka.trans2 kb (by intro y hy; simp at hy; subst hy; exact Or.inr (Nat.le_refl _)))
       | (refine wpList_load_row rfl 75 (.tmp 8) rfl wr.heap.size rfl 75 #[.string x.1, .int .i64 (x.3 : Nat), x.2] (0, 0) _ nx underlying75 rfl stk ?_)
       | (go_at_call 176; refine (Q0 _ _ _ x.1 rfl _).mono ?_; rintro e wc ⟨rfl, kc⟩; replace nx := kc.get nx (by simp); replace kx := kx.trans kc; clear kc; have d0 : wc.cell? ⟨wr.heap.size, 0, none⟩ = some (.string x.1) := y6 nx rfl; have d1 : wc.cell? ⟨wr.heap.size, 1, none⟩ = some (.int .i64 (x.3 : Nat)) := y6 nx rfl; have d2 : wc.cell? ⟨wr.heap.size, 2, none⟩ = some x.2 := y6 nx rfl))
      go_ret
      refine ⟨by rw [HF.out]; rfl, hkr.trans kx⟩
     | false =>
      rw [hb2] at hri
      have HF : Hid (qp true ((l.map fun x => x.1).drop (j + 1)) x.1 t = qp false (l.map fun x => x.1) f t) := hri
      have hb2' : (x.1.toList == fj.toList) = false := hb2
      clear hri hb2 hz
      go_wp2_with (first
       | (refine y8 rfl _ _ (ya 177 (.tmp 9) (.tmp 11) rfl g off l.length cv j 3 rfl rfl 75 underlying177 stk hlt (off + j * 3) rfl) ?_)
       | (refine ye rfl 75 (.tmp 14) rfl ⟨g, off + j * 3, none⟩ rfl _ hld ?_)
       | (refine yc rfl 8 rfl 75 rfl _ (jP _) ?_; intro wa na ka hsa; clear hsa)
       | (refine yb rfl 75 (.tmp 8) (.tmp 15) rfl wr.heap.size #[.string x.1, .int .i64 (x.3 : Nat), x.2] rfl rfl 75 _ na stk rfl (hone) ?_; intro wb nx kb; have kx : y5 [] wr wb := ka.trans2 kb (by intro y hy; simp at hy; subst hy; exact Or.inr (Nat.le_refl _)))
       | (refine wpList_load_row rfl 75 (.tmp 8) rfl wr.heap.size rfl 75 #[.string x.1, .int .i64 (x.3 : Nat), x.2] (0, 0) _ nx underlying75 rfl stk ?_)
       | (go_at_call 176; refine (Q0 _ _ _ x.1 rfl _).mono ?_; rintro e wc ⟨rfl, kc⟩; replace nx := kc.get nx (by simp); replace kx := kx.trans kc; clear kc; have d0 : wc.cell? ⟨wr.heap.size, 0, none⟩ = some (.string x.1) := y6 nx rfl; have d1 : wc.cell? ⟨wr.heap.size, 1, none⟩ = some (.int .i64 (x.3 : Nat)) := y6 nx rfl; have d2 : wc.cell? ⟨wr.heap.size, 2, none⟩ = some x.2 := y6 nx rfl))
      go_roundw
      case rel => exact ⟨j + 1, x.1, by rw [hlen]; omega, rfl, by go_num, by rw [decide_eq_true (by omega)]; exact HF.out, hkr.trans kx⟩
      case measure => simp [intOf]; omega
  ·have hge : ¬ (j : Int) < (l.length : Int) := by omega
   have ej : j = l.length := by omega
   subst ej
   rw [List.drop_of_length_le (by rw [hlen]; exact Nat.le_refl _)] at hri
   simp only [qp] at hri
   cases hb1 : be t yp with
   | true =>
    rw [hb1] at hri
    have HF : Hid (qp false (l.map fun x => x.1) f t = true) := hri.symm
    have hb1' : t.toList.isEmpty = true := by rw [<- Qau]; exact hb1
    clear hri hb1
    go_wp2
    go_ret
    exact ⟨by rw [HF.out]; rfl, hkr⟩
   | false =>
    rw [hb1, Bool.false_or] at hri
    have HF : Hid (qp false (l.map fun x => x.1) f t = bl fj t) := hri.symm
    have hb1' : t.toList.isEmpty = false := by rw [<- Qau]; exact hb1
    clear hri hb1
    cases hb2 : bl fj t with
    | true =>
     rw [hb2] at HF
     have hb2' : Op.bytesLess fj.toList t.toList = true := hb2
     clear hb2
     go_wp2
     go_ret
     exact ⟨by rw [HF.out]; rfl, hkr⟩
    | false =>
     rw [hb2] at HF
     have hb2' : Op.bytesLess fj.toList t.toList = false := hb2
     clear hb2
     go_wp2
     go_ret
     exact ⟨by rw [HF.out]; rfl, hkr⟩
end Go.Proofs.YtcklgafpgdhnaabGreatDoor
