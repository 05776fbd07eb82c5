import Derived.Test.YtcklgafpgdhnaaaGreatDoorPsam
import Derived.Test.YtcklgafpgdhnaaaGreatDoorPsab
set_option maxRecDepth 100000
set_option maxHeartbeats 4000000
open Go.Proofs.Tryz
open Go.Act renaming put → zP
open List renaming getElem_toArray → zA, getElem_cons_succ → zB, getElem_cons_zero → zC, setIfInBounds_toArray → zD, set_cons_succ → zE, set_cons_zero → zF
namespace Go.Proofs.YtcklgafpgdhnaaaGreatDoor
open Go.RowKit
def KdS (g : Nat) (cur : Array Value) (W : World) : Prop := W.heap[g]? = some (.cells cur 80 (0, 0))
theorem Q7S : 333 + Made.depth = 433 := by kernel_rfl
theorem Q7T {o : Oper} {a : Act} {w : World} (x : Operand) (nm : String) (y : Operand) (ts : Array TypeId) (ho : o.op = .call { callee := .invoke x nm, args := #[y], argTypes := ts }) (t : TypeId) (v : Value) (hx : a.eval x = .iface t v) (vy : Value) (hy : a.eval y = vy) (f : FuncId)
  (hm : (Go.method 433 t v nm).run prog w = .ok (f, v) w) (he : (callFunc f #[v, vy]).run prog w = .ok (.enter f #[v, vy]) w) : (execOp a.eval o).run prog w = .ok (.enter f #[v, vy]) w := by
 have hp : (program : Sem Program).run prog w = .ok prog w := rfl
 simp [execOp, ho, resolve, invoke, callMethod, hx, hy, hp, Q7S, hm, he]
theorem Q7U {h : Nat} {B : Nat} {A : Nat -> Prop} {v : Value} {xs : List KE} {ks : List (Kid h)} {w : World} (ho : OW w B 80 3 v (xs.map ke)) (hB : B <= w.heap.size) (hf : F2 (KR w A h) ks xs) (hA : ∀ y, A y -> v.ownBlock ≠ some y) (hkl : ks.length <= 1000)
  (hl : Q4L h ks (0)) {a : Kid h} (ha : ks[0]? = some a) (hs : Q4a h a.2 < 40) :
  Calls prog 264 #[v, .int .i64 ((0 : Nat) : Int)] w (Q7N B (fun y => A y \/ w.heap.size <= y) v (Q4I h ks (0)) w) := by
 obtain ⟨x, y, hx, hy, hwj, hsj, hres⟩ := Q7P hl ha hs
 have hxa : x = a := by rw [show (0 : Nat) - 1 = 0 from rfl, ha] at hx; cases hx; rfl
 subst hxa
 simp only [Nat.zero_sub, Nat.zero_add] at hx hy hres
 have hlt := hl.lt
 have htwo := hl.two
 have hwx := hl.kw.all x (List.mem_of_getElem? hx)
 have hwy := hl.kw.all y (List.mem_of_getElem? hy)
 have hsxy := Q4F h x.2 y.2
 obtain ⟨X, hX, hrX⟩ := hf.get hx
 obtain ⟨Y, hY, hrY⟩ := hf.get hy
 obtain ⟨f2, v2, ⟨t2, e2, hm2, he2⟩, hc2⟩ := Q7u hrX.2 hrY.2 (Sm.of hwx (by omega)) (Sm.of hwy (by omega))
 obtain ⟨ty, vy, eY⟩ := hrY.2.iface
 obtain ⟨f1, v1, ⟨t1, e1, hm1, he1⟩, hc1⟩ := Q7a hrX.2 (Sm.of hwx (by omega))
 rw [e2] at e1
 cases e1
 have hln : (xs.map ke).length = ks.length := by rw [List.length_map, hf.1]
 obtain ⟨g, off, cap, cur, ev, hg, hc3, hc4, hc5, hcur⟩ := ho.sl.at_ (by omega)
 rw [hln] at ev
 have cellK : ∀ (W : World), W.heap[g]? = some (.cells cur 80 (0, 0)) -> ∀ (j : Nat) (Z : KE), xs[j]? = some Z -> ∀ p, p = off + j * 3 -> W.cell? ⟨g, p, none⟩ = some (.string Z.1) /\ W.cell? ⟨g, p + 2, none⟩ = some Z.2 := by
  intro W hW j Z hZ p hp
  have := hcur j (ke Z) (by rw [List.getElem?_map, hZ]; rfl)
  subst hp
  exact ⟨by rw [cell_of_row _ _ _ _ _ _ hW]; exact this.2 0 _ rfl, by rw [cell_of_row _ _ _ _ _ _ hW]; exact this.2 2 _ rfl⟩
 have HX : Hid (∀ W : World, W.heap[g]? = some (.cells cur 80 (0, 0)) -> W.cell? ⟨g, off + 2, none⟩ = some (.iface t2 v2)) := fun W hW => by rw [<- e2]; exact (cellK W hW _ X hX (off) (by omega)).2
 have HX0 : Hid (∀ W : World, W.heap[g]? = some (.cells cur 80 (0, 0)) -> W.cell? ⟨g, off, none⟩ = some (.string x.1)) := fun W hW => by rw [<- hrX.1.1]; exact (cellK W hW _ X hX (off) (by omega)).1
 have HY : Hid (∀ W : World, W.heap[g]? = some (.cells cur 80 (0, 0)) -> W.cell? ⟨g, off + 3 + 2, none⟩ = some (.iface ty vy)) := fun W hW => by rw [<- eY]; exact (cellK W hW _ Y hY (off + 3) (by omega)).2
 have c0 := HX.out w hg
 rw [eY] at hc2
 have HFit : Hid (∀ W W' a', Kept [] w W' -> Kept [] W' W -> ND W (fun y => A y \/ w.heap.size <= y) h (Q4u h x.2 y.2) a' -> _) := fun W W' a' _ _ hn => Q7M (f := x.1) hn hwj hsj
 have HRp : Hid (∀ W gv cv xs1, Kept [] w W -> SL W 80 3 (.slice (some ⟨gv, 0, none⟩) xs1.length cv) (xs1.map ke) -> F2 (KR W (fun y => A y \/ w.heap.size <= y) h) (fitN h x.1 (Q4u h x.2 y.2)) xs1 -> w.heap.size <= gv -> _) := fun W gv cv xs1 hW hv hf1 hgv => Q7O ho hB hf hA hkl hW (i := 0) (j := 0 + 2) (by omega) (by omega) hv hf1 hgv (Q7Q h x.1 _) (0) (0 + 2) (by omega) (by omega)
 rw [hres]
 have HC1 : Hid (∀ W, Kept [] w W -> _) := hc1
 have HC2 : Hid (∀ W, Kept [] w W -> _) := hc2
 have hge : ((Q4a h x.2 : Nat) : Int) < 40 := by omega
 have hib : 0 <= 1000 := by omega
 have hlt0 : 0 < ks.length := by omega
 have hlt1 : 0 + 1 < ks.length := by omega
 subst ev
 generalize hSz : Q4a h x.2 = S at *
 generalize ks.length = m at *
 clear hcur hc1 hc2 hwx hwy hl hX hY hrX hrY hf ho hA hres ha hx hy hsxy hwj hsj hs hSz cellK e2 eY
 go_enter func264, ntmps264
 go_wp2_with (first
  | (refine Q04 rfl _ _ (Q0v 168 (.tmp 7) (.tmp 8) rfl g off m cap (0) 3 rfl rfl 80 underlying168 stk' hlt (off) (by omega)) ?_)
  | (go_at_fn f1; refine (HC1.out _ (Kept.refl _ _)).mono ?_; rintro e w1 ⟨rfl, hk1⟩))
 have hS : KdS g cur w1.drew := hk1.get hg (by simp)
 refine Q1j (KdS g cur) (by kernel_rfl) ?_
 refine hu 0 (.slice (some ⟨g, off, none⟩) m cap) rfl (fun W hW => by rfl) hS ?_
 simp only [zP, zA, zC, zD, zE, zF]
 refine hu 1 (.int .i64 (0)) rfl (fun W hW => by rfl) hS ?_
 simp only [zP, zA, zB, zC, zD, zE, zF]
 refine hu 2 (.pointer (some ⟨g, off, none⟩)) rfl (fun W hW => Q0v 168 (.tmp 22) (.tmp 23) rfl g off m cap (0) 3 rfl rfl 80 underlying168 stk' hlt0 (off) (by omega)) hS ?_
 simp only [zP, zA, zB, zC, zD, zE, zF]
 refine hu 3 (.pointer (some ⟨g, off + 2, none⟩)) rfl (fun W hW => Q33 80 (.tmp 24) 2 rfl g (off) rfl 2 (by rfl)) hS ?_
 simp only [zP, zA, zB, zC, zD, zE, zF]
 refine hu 4 (.iface t2 v2) rfl (fun W hW => Q0l 78 (.tmp 25) rfl ⟨g, off + 2, none⟩ rfl _ (Q0p underlying78 rfl (HX.out W hW))) hS ?_
 simp only [zP, zA, zB, zC, zD, zE, zF]
 refine hu 5 (.slice (some ⟨g, off, none⟩) m cap) rfl (fun W hW => by rfl) hS ?_
 simp only [zP, zA, zB, zC, zD, zE, zF]
 refine hu 6 (.int .i64 (0)) rfl (fun W hW => by rfl) hS ?_
 simp only [zP, zA, zB, zC, zD, zE, zF]
 refine hu 7 (.int .i64 ((0 + 1 : Nat) : Int)) rfl (fun W hW => Q62 (.tmp 28) (.const (.int .i64 1)) rfl (0) 1 rfl rfl (by omega)) hS ?_
 simp only [zP, zA, zB, zC, zD, zE, zF]
 refine hu 8 (.pointer (some ⟨g, off + 3, none⟩)) rfl (fun W hW => Q0v 168 (.tmp 27) (.tmp 29) rfl g off m cap (0 + 1) 3 rfl rfl 80 underlying168 stk' hlt1 (off + 3) (by omega)) hS ?_
 simp only [zP, zA, zB, zC, zD, zE, zF]
 refine hu 9 (.pointer (some ⟨g, off + 3 + 2, none⟩)) rfl (fun W hW => Q33 80 (.tmp 30) 2 rfl g (off + 3) rfl 2 (by rfl)) hS ?_
 simp only [zP, zA, zB, zC, zD, zE, zF]
 refine hu 10 (.iface ty vy) rfl (fun W hW => Q0l 78 (.tmp 31) rfl ⟨g, off + 3 + 2, none⟩ rfl _ (Q0p underlying78 rfl (HY.out W hW))) hS ?_
 simp only [zP, zA, zB, zC, zD, zE, zF]
 refine hu 11 (.iface t2 v2) rfl (fun W hW => by rfl) hS ?_
 simp only [zP, zA, zB, zC, zD, zE, zF]
 refine hu 12 (.iface t2 v2) rfl (fun W hW => by rfl) hS ?_
 simp only [zP, zA, zB, zC, zD, zE, zF]
 refine Q0j (i := 13) (by kernel_rfl) (Q2Z rfl (by rfl) f2 #[v2, .iface ty vy] (Q7T (.tmp 34) _ (.tmp 32) _ rfl t2 v2 rfl _ rfl f2 (hm2 _) (he2 _ _)) _ (HC2.out _ hk1.drew) ?_)
 rintro e w2 ⟨a', rfl, hn2, hk2⟩
 obtain ⟨tj, vj, ej⟩ := hn2.iface
 have hS2 : KdS g cur w2 := hk2.get hS (by simp)
 refine ⟨a', rfl, hS2, ?_⟩
 simp only [zP, zA, zB, zC, zD, zE, zF]
 refine Q0j (i := 14) (by kernel_rfl) (Q1r rfl (by rfl) a' w2 rfl ⟨hS2, ?_⟩)
 simp only [zP, zA, zB, zC, zD, zE, zF]
 refine wpAnyH_done (by kernel_rfl) ?_ _
 have c2 := HX0.out w2 hS2
 have hK2 : Kept [] w w2 := hk1.drew.trans hk2
 have HF2 : Hid (Calls _ _ _ _ _) := HFit.out w2 w a' (Kept.refl _ _) hK2 hn2
 clear hS hS2 hn2
 subst ej
 go_wp2_with (first
  | (refine Q04 rfl _ _ (Q0v 168 (.tmp 39) (.tmp 40) rfl g off m cap (0) 3 rfl rfl 80 underlying168 stk' hlt0 (off) (by omega)) ?_)
  | (go_at_call 110; refine HF2.out.mono ?_; rintro e w3 ⟨gv, cv, xs1, rfl, hv1, hf1, hgv, hk3⟩)
  | (go_at_call 269; refine (HRp.out _ gv cv xs1 (hK2.trans hk3) hv1 hf1 (Nat.le_trans hK2.size hgv)).mono ?_; rintro e w4 ⟨v4, xs4, rfl, ho4, hf4, hk4⟩))
 go_ret
 exact ⟨_, _, rfl, ho4, hf4, hk4⟩
theorem Q7V {h : Nat} {B : Nat} {A : Nat -> Prop} {v : Value} {xs : List KE} {ks : List (Kid h)} {w : World} (ho : OW w B 80 3 v (xs.map ke)) (hB : B <= w.heap.size) (hf : F2 (KR w A h) ks xs) (hA : ∀ y, A y -> v.ownBlock ≠ some y) (hkl : ks.length <= 1000)
  {ip : Nat} (hl : Q4L h ks (ip + 1)) {a : Kid h} (ha : ks[ip + 1]? = some a) (hs : Q4a h a.2 < 40) :
  Calls prog 264 #[v, .int .i64 ((ip + 1 : Nat) : Int)] w (Q7N B (fun y => A y \/ w.heap.size <= y) v (Q4I h ks (ip + 1)) w) := by
 obtain ⟨x, y, hx, hy, hwj, hsj, hres⟩ := Q7P hl ha hs
 simp only [Nat.add_sub_cancel] at hx hy hres
 have hya : y = a := by rw [ha] at hy; cases hy; rfl
 subst hya
 have hlt := hl.lt
 have htwo := hl.two
 have hwx := hl.kw.all x (List.mem_of_getElem? hx)
 have hwy := hl.kw.all y (List.mem_of_getElem? hy)
 have hsxy := Q4F h x.2 y.2
 obtain ⟨X, hX, hrX⟩ := hf.get hx
 obtain ⟨Y, hY, hrY⟩ := hf.get hy
 obtain ⟨f2, v2, ⟨t2, e2, hm2, he2⟩, hc2⟩ := Q7u hrX.2 hrY.2 (Sm.of hwx (by omega)) (Sm.of hwy (by omega))
 obtain ⟨ty, vy, eY⟩ := hrY.2.iface
 obtain ⟨f1, v1, ⟨t1, e1, hm1, he1⟩, hc1⟩ := Q7a hrY.2 (Sm.of hwy (by omega))
 rw [eY] at e1
 cases e1
 have hln : (xs.map ke).length = ks.length := by rw [List.length_map, hf.1]
 obtain ⟨g, off, cap, cur, ev, hg, hc3, hc4, hc5, hcur⟩ := ho.sl.at_ (by omega)
 rw [hln] at ev
 have cellK : ∀ (W : World), W.heap[g]? = some (.cells cur 80 (0, 0)) -> ∀ (j : Nat) (Z : KE), xs[j]? = some Z -> ∀ p, p = off + j * 3 -> W.cell? ⟨g, p, none⟩ = some (.string Z.1) /\ W.cell? ⟨g, p + 2, none⟩ = some Z.2 := by
  intro W hW j Z hZ p hp
  have := hcur j (ke Z) (by rw [List.getElem?_map, hZ]; rfl)
  subst hp
  exact ⟨by rw [cell_of_row _ _ _ _ _ _ hW]; exact this.2 0 _ rfl, by rw [cell_of_row _ _ _ _ _ _ hW]; exact this.2 2 _ rfl⟩
 have HX : Hid (∀ W : World, W.heap[g]? = some (.cells cur 80 (0, 0)) -> W.cell? ⟨g, off + ip * 3 + 2, none⟩ = some (.iface t2 v2)) := fun W hW => by rw [<- e2]; exact (cellK W hW _ X hX (off + ip * 3) (by omega)).2
 have HX0 : Hid (∀ W : World, W.heap[g]? = some (.cells cur 80 (0, 0)) -> W.cell? ⟨g, off + ip * 3, none⟩ = some (.string x.1)) := fun W hW => by rw [<- hrX.1.1]; exact (cellK W hW _ X hX (off + ip * 3) (by omega)).1
 have HY : Hid (∀ W : World, W.heap[g]? = some (.cells cur 80 (0, 0)) -> W.cell? ⟨g, off + (ip + 1) * 3 + 2, none⟩ = some (.iface ty vy)) := fun W hW => by rw [<- eY]; exact (cellK W hW _ Y hY (off + (ip + 1) * 3) (by omega)).2
 have c0 := HY.out w hg
 rw [eY] at hc2
 have HFit : Hid (∀ W W' a', Kept [] w W' -> Kept [] W' W -> ND W (fun y => A y \/ w.heap.size <= y) h (Q4u h x.2 y.2) a' -> _) := fun W W' a' _ _ hn => Q7M (f := x.1) hn hwj hsj
 have HRp : Hid (∀ W gv cv xs1, Kept [] w W -> SL W 80 3 (.slice (some ⟨gv, 0, none⟩) xs1.length cv) (xs1.map ke) -> F2 (KR W (fun y => A y \/ w.heap.size <= y) h) (fitN h x.1 (Q4u h x.2 y.2)) xs1 -> w.heap.size <= gv -> _) := fun W gv cv xs1 hW hv hf1 hgv => Q7O ho hB hf hA hkl hW (i := ip) (j := ip + 2) (by omega) (by omega) hv hf1 hgv (Q7Q h x.1 _) ((ip : Int)) ((ip : Int) + 2) (by omega) (by omega)
 rw [hres]
 have HC1 : Hid (∀ W, Kept [] w W -> _) := hc1
 have HC2 : Hid (∀ W, Kept [] w W -> _) := hc2
 have hge : ((Q4a h y.2 : Nat) : Int) < 40 := by omega
 have hib : ip <= 1000 := by omega
 have hlt0 : ip < ks.length := by omega
 have hlt1 : ip + 1 < ks.length := by omega
 subst ev
 generalize hSz : Q4a h y.2 = S at *
 generalize ks.length = m at *
 clear hcur hc1 hc2 hwx hwy hl hX hY hrX hrY hf ho hA hres ha hx hy hsxy hwj hsj hs hSz cellK e2 eY
 go_enter func264, ntmps264
 go_wp2_with (first
  | (refine Q04 rfl _ _ (Q0v 168 (.tmp 7) (.tmp 8) rfl g off m cap (ip + 1) 3 rfl rfl 80 underlying168 stk' hlt (off + (ip + 1) * 3) (by omega)) ?_)
  | (go_at_fn f1; refine (HC1.out _ (Kept.refl _ _)).mono ?_; rintro e w1 ⟨rfl, hk1⟩))
 have hS : KdS g cur w1.drew := hk1.get hg (by simp)
 refine Q1j (KdS g cur) (by kernel_rfl) ?_
 refine hu 0 (.slice (some ⟨g, off, none⟩) m cap) rfl (fun W hW => by rfl) hS ?_
 simp only [zP, zA, zC, zD, zE, zF]
 refine hu 1 (.int .i64 ((ip : Int))) rfl (fun W hW => by rfl) hS ?_
 simp only [zP, zA, zB, zC, zD, zE, zF]
 refine hu 2 (.pointer (some ⟨g, off + ip * 3, none⟩)) rfl (fun W hW => Q0v 168 (.tmp 22) (.tmp 23) rfl g off m cap (ip) 3 rfl rfl 80 underlying168 stk' hlt0 (off + ip * 3) (by omega)) hS ?_
 simp only [zP, zA, zB, zC, zD, zE, zF]
 refine hu 3 (.pointer (some ⟨g, off + ip * 3 + 2, none⟩)) rfl (fun W hW => Q33 80 (.tmp 24) 2 rfl g (off + ip * 3) rfl 2 (by rfl)) hS ?_
 simp only [zP, zA, zB, zC, zD, zE, zF]
 refine hu 4 (.iface t2 v2) rfl (fun W hW => Q0l 78 (.tmp 25) rfl ⟨g, off + ip * 3 + 2, none⟩ rfl _ (Q0p underlying78 rfl (HX.out W hW))) hS ?_
 simp only [zP, zA, zB, zC, zD, zE, zF]
 refine hu 5 (.slice (some ⟨g, off, none⟩) m cap) rfl (fun W hW => by rfl) hS ?_
 simp only [zP, zA, zB, zC, zD, zE, zF]
 refine hu 6 (.int .i64 ((ip : Int))) rfl (fun W hW => by rfl) hS ?_
 simp only [zP, zA, zB, zC, zD, zE, zF]
 refine hu 7 (.int .i64 ((ip + 1 : Nat) : Int)) rfl (fun W hW => Q62 (.tmp 28) (.const (.int .i64 1)) rfl (ip) 1 rfl rfl (by omega)) hS ?_
 simp only [zP, zA, zB, zC, zD, zE, zF]
 refine hu 8 (.pointer (some ⟨g, off + (ip + 1) * 3, none⟩)) rfl (fun W hW => Q0v 168 (.tmp 27) (.tmp 29) rfl g off m cap (ip + 1) 3 rfl rfl 80 underlying168 stk' hlt1 (off + (ip + 1) * 3) (by omega)) hS ?_
 simp only [zP, zA, zB, zC, zD, zE, zF]
 refine hu 9 (.pointer (some ⟨g, off + (ip + 1) * 3 + 2, none⟩)) rfl (fun W hW => Q33 80 (.tmp 30) 2 rfl g (off + (ip + 1) * 3) rfl 2 (by rfl)) hS ?_
 simp only [zP, zA, zB, zC, zD, zE, zF]
 refine hu 10 (.iface ty vy) rfl (fun W hW => Q0l 78 (.tmp 31) rfl ⟨g, off + (ip + 1) * 3 + 2, none⟩ rfl _ (Q0p underlying78 rfl (HY.out W hW))) hS ?_
 simp only [zP, zA, zB, zC, zD, zE, zF]
 refine hu 11 (.iface t2 v2) rfl (fun W hW => by rfl) hS ?_
 simp only [zP, zA, zB, zC, zD, zE, zF]
 refine hu 12 (.iface t2 v2) rfl (fun W hW => by rfl) hS ?_
 simp only [zP, zA, zB, zC, zD, zE, zF]
 refine Q0j (i := 13) (by kernel_rfl) (Q2Z rfl (by rfl) f2 #[v2, .iface ty vy] (Q7T (.tmp 34) _ (.tmp 32) _ rfl t2 v2 rfl _ rfl f2 (hm2 _) (he2 _ _)) _ (HC2.out _ hk1.drew) ?_)
 rintro e w2 ⟨a', rfl, hn2, hk2⟩
 obtain ⟨tj, vj, ej⟩ := hn2.iface
 have hS2 : KdS g cur w2 := hk2.get hS (by simp)
 refine ⟨a', rfl, hS2, ?_⟩
 simp only [zP, zA, zB, zC, zD, zE, zF]
 refine Q0j (i := 14) (by kernel_rfl) (Q1r rfl (by rfl) a' w2 rfl ⟨hS2, ?_⟩)
 simp only [zP, zA, zB, zC, zD, zE, zF]
 refine wpAnyH_done (by kernel_rfl) ?_ _
 have c2 := HX0.out w2 hS2
 have hK2 : Kept [] w w2 := hk1.drew.trans hk2
 have HF2 : Hid (Calls _ _ _ _ _) := HFit.out w2 w a' (Kept.refl _ _) hK2 hn2
 clear hS hS2 hn2
 subst ej
 go_wp2_with (first
  | (refine Q04 rfl _ _ (Q0v 168 (.tmp 39) (.tmp 40) rfl g off m cap (ip) 3 rfl rfl 80 underlying168 stk' hlt0 (off + ip * 3) (by omega)) ?_)
  | (go_at_call 110; refine HF2.out.mono ?_; rintro e w3 ⟨gv, cv, xs1, rfl, hv1, hf1, hgv, hk3⟩)
  | (go_at_call 269; refine (HRp.out _ gv cv xs1 (hK2.trans hk3) hv1 hf1 (Nat.le_trans hK2.size hgv)).mono ?_; rintro e w4 ⟨v4, xs4, rfl, ho4, hf4, hk4⟩))
 go_ret
 exact ⟨_, _, rfl, ho4, hf4, hk4⟩
theorem Q7W {h : Nat} {B : Nat} {A : Nat -> Prop} {v : Value} {xs : List KE} {ks : List (Kid h)} {w : World} (ho : OW w B 80 3 v (xs.map ke)) (hB : B <= w.heap.size) (hf : F2 (KR w A h) ks xs) (hA : ∀ y, A y -> v.ownBlock ≠ some y) (hkl : ks.length <= 1000)
  (i : Nat) (hl : Q4L h ks i) : Calls prog 264 #[v, .int .i64 i] w (Q7N B (fun y => A y \/ w.heap.size <= y) v (Q4I h ks i) w) := by
 obtain ⟨a, ha⟩ : ∃ a, ks[i]? = some a := ⟨_, List.getElem?_eq_getElem hl.lt⟩
 by_cases hs : Q4a h a.2 < 40
 ·cases i with
  | zero => exact Q7U ho hB hf hA hkl hl ha hs
  | succ ip => exact Q7V ho hB hf hA hkl hl ha hs
 ·exact Q7R ho hB hf hA hkl hl ha hs
theorem Q7X (args : Array Value) (w : World) : (callFunc 112 args).run prog w = .ok (.enter 112 args) w := Q31 func112 (by kernel_rfl) (by kernel_rfl) args w
theorem Q7Y (args : Array Value) (w : World) : (callFunc 125 args).run prog w = .ok (.enter 125 args) w := Q31 func125 (by kernel_rfl) (by kernel_rfl) args w
def WiS (w : World) (k x : ByteArray) (W : World) : Prop := W.heap[w.heap.size]? = some (.cells #[.string k, .string x] 122 (0, 0))
theorem Q7Z (w : World) (k x : ByteArray) : (Instr.buildSlice 115 1 #[(0, .agg #[.string k, .string x])]).run prog w = .ok (.slice (some ⟨w.heap.size, 0, none⟩) 1 1) (w.alloc (.cells #[.string k, .string x] 122)) := by
 obtain ⟨ie, hie, hz1, hz2, hz3⟩ := info_parts itp
 exact Q0g w 115 122 _ ie _ underlying115 hie hz1 hz2 (by simp) (by simp)
theorem Q80 (k x : ByteArray) : ∀ (j : Nat) (u : Value), (pe (k, x))[j]? = some u -> (#[.string k, .string x] : Array Value)[0 + j]? = some u := by
 intro j u hj
 match j, hj with
 | 0, hj => simpa [pe] using hj
 | 1, hj => simpa [pe] using hj
 | j + 2, hj => simp [pe] at hj
theorem Q81 (W : World) (k x : ByteArray) : SL (W.alloc (.cells #[.string k, .string x] 122)) 122 2 (.slice (some ⟨W.heap.size, 0, none⟩) 1 1) [pe (k, x)] := by
 refine Or.inr ⟨W.heap.size, 0, 1, #[.string k, .string x], rfl, heap_alloc_new _ _, Nat.le_refl _, by unfold maxLen; omega, by simp, ?_⟩
 intro i e he
 cases i with
 | zero => simp at he; subst he; refine ⟨rfl, ?_⟩; intro j u hj; match j, hj with
  | 0, hj => simpa [pe] using hj
  | 1, hj => simpa [pe] using hj
  | j + 2, hj => simp [pe] at hj
 | succ i => simp at he
theorem Q82 (v : Value) (l : List Pr) (k x : ByteArray) (w : World) (h : LF w v l) (hs : Srt l) (hl : l.length <= 1000) : Calls prog 93 #[v, .agg #[.string k, .string x]] w (Q7F v (Q3r k x l) w) := by
 have hpos := Q6T (Q6D hs) k
 have hres := Q6J (v := x) hs hpos (Q6S (l.map (·.1)) k)
 have hbi := Q6S (l.map (·.1)) k
 have k0 := (Kept.refl [] w).alloc (.cells #[.string k, .string x] 122)
 have hcall := fun W (kW : Kept [] w W) => (Q5i v (l.map pe) (l.map (·.1)) k W (SL.kept h kW) (Q7y l) (Q6D hs) (by simp; omega)).mono fun _ _ h => Q6U h
 have hib := hpos.1
 rw [List.length_map] at hib
 have hlen : (l.map pe).length = l.length := List.length_map _
 have h' := h
 obtain ⟨p, c, ev⟩ := SL.shape h'
 rw [hlen] at ev
 subst ev
 have hone : One 2 [pe (k, x)] := by intro e he; simp at he; subst he; exact ⟨rfl, by intro u hu; simp [pe] at hu; rcases hu with rfl | rfl <;> rfl⟩
 have HCl : Hid (∀ W, Kept [] w W -> _) := fun W kW => Q5B _ (l.map pe) W (SL.kept h kW) (Q6v l) (by simp; omega)
 generalize pK (l.map (·.1)) k = i at *
 generalize bK (l.map (·.1)) k = b at *
 have HF : Hid (∀ W, Kept [] w W -> _) := hcall
 have mid : ∀ (j : Nat) (e : Q3r k x l = l.take i ++ [(k, x)] ++ l.drop j), (l.map pe).take i ++ [pe (k, x)] ++ (l.map pe).drop j = (Q3r k x l).map pe := by
  intro j e; rw [e]; simp [pe]
 clear hcall hpos
 cases b with
 | false =>
  have hmid := mid (i) hres
  have HRp : Hid (∀ W B v2 gv, OW W B 122 2 v2 (l.map pe) -> B <= W.heap.size -> SL W 122 2 (.slice (some ⟨gv, 0, none⟩) 1 1) [pe (k, x)] -> v2.ownBlock ≠ some gv -> Calls prog 125 #[v2, .int .i64 (i : Int), .int .i64 ((i : Int)), .slice (some ⟨gv, 0, none⟩) 1 1] W (OwnR B 122 2 v2 ((Q3r k x l).map pe) W)) := by
   intro W B v2 gv ho hB hv hap
   have := Q7H B v2 (l.map pe) i W ho (Q6v l) (by omega) (by omega) hB gv 0 1 [pe (k, x)] hv hone (by simp) (by simp) hap
   rw [hmid] at this
   exact this
  clear hbi hres hmid mid
  go_enter func93, ntmps93
  go_wp2_with (first | (go_at_call 70; refine (HF.out _ k0).mono ?_; rintro e w1 ⟨rfl, hk1⟩))
  have hS : WiS w k x w1.drew := hk1.get (by exact heap_alloc_new w _) (by simp)
  have hK1 : Kept [] w w1 := k0.trans hk1
  have hsz1 : w.heap.size + 1 <= w1.heap.size := by have := hk1.size; rwa [World.size_alloc] at this
  refine Q1j (WiS w k x) (by kernel_rfl) ?_
  refine hu 0 (.slice p l.length c) rfl (fun W hW => by rfl) hS ?_
  simp only [zP, zA, zC, zD, zE, zF]
  refine hu 2 (.int .i64 (i : Int)) rfl (fun W hW => by rfl) hS ?_
  simp only [zP, zA, zB, zC, zD, zE, zF]
  refine hu 3 (.int .i64 ((i : Int))) rfl (fun W hW => by rfl) hS ?_
  simp only [zP, zA, zB, zC, zD, zE, zF]
  refine hu 4 (.agg #[.string k, .string x]) rfl (fun W hW => Q0l 122 (.tmp 3) rfl ⟨w.heap.size, 0, none⟩ rfl _ (Q56 (e := pe (k, x)) _ hW ⟨rfl, Q80 k x⟩ underlying122 stp)) hS ?_
  simp only [zP, zA, zB, zC, zD, zE, zF]
  refine Q0k (i := 1) (j := 5) (by kernel_rfl) ?_ ?_
  ·refine Q2Z rfl (by rfl) 112 #[.slice p l.length c] (Q32 _ _ _ rfl _ (by simp [Act.eval]) (Q7X _ _)) _ (HCl.out _ hK1.drew) ?_
   rintro e w2 ⟨v2, rfl, ho2, hk2⟩
   have hS2 : WiS w k x w2 := hk2.get hS (by simp)
   refine ⟨_, rfl, hS2, ?_⟩
   simp only [zP, zA, zB, zC, zD, zE, zF]
   have hsz2 : w.heap.size + 1 <= w1.drew.heap.size := hsz1
   have hk2s := hk2.size
   have k3 := (Kept.refl [] w2).alloc (.cells #[.string k, .string x] 122)
   have hS3 : WiS w k x (w2.alloc (.cells #[.string k, .string x] 122)) := k3.get hS2 (by simp)
   have ho3 : OW (w2.alloc (.cells #[.string k, .string x] 122)) w1.drew.heap.size 122 2 v2 (l.map pe) := ⟨Q0T ho2.1 k3 (by simp), ho2.2⟩
   have hv3 := Q81 w2 k x
   have hap3 : v2.ownBlock ≠ some w2.heap.size := by intro e; have := Q3J ho2.1 w2.heap.size (by rw [e]; simp); omega
   have hb3 : w1.drew.heap.size <= (w2.alloc (.cells #[.string k, .string x] 122)).heap.size := by rw [World.size_alloc]; omega
   refine Q0j (i := 5) (by kernel_rfl) (Q1r rfl (by rfl) _ _ (Q0o 115 1 (.tmp 24) rfl (.agg #[.string k, .string x]) rfl _ (Q7Z _ k x)) ⟨hS3, ?_⟩)
   simp only [zP, zA, zB, zC, zD, zE, zF]
   refine Q0j (i := 6) (by kernel_rfl) (Q2Z rfl (by rfl) 125 #[v2, .int .i64 (i : Int), .int .i64 ((i : Int)), .slice (some ⟨w2.heap.size, 0, none⟩) 1 1] (Q32 _ _ _ rfl _ (by simp [Act.eval]) (Q7Y _ _)) _ (HRp.out _ _ v2 w2.heap.size ho3 hb3 hv3 hap3) ?_)
   rintro e w4 ⟨v4, rfl, ho4, hk4⟩
   have hS4 : WiS w k x w4 := hk4.get hS3 (by intro hm; have := Q3I ho3.1 _ hm; omega)
   refine ⟨v4, rfl, hS4, ?_⟩
   simp only [zP, zA, zB, zC, zD, zE, zF]
   refine Q0j (i := 7) (by kernel_rfl) (Q1r rfl (by rfl) v4 w4 rfl ⟨hS4, ?_⟩)
   simp only [zP, zA, zB, zC, zD, zE, zF]
   refine wpAnyH_done (by kernel_rfl) ?_ _
   have K4 : Kept [] w w4 := (hK1.drew.trans (hk2.trans k3)).trans2 hk4 fun y hy => Or.inr (by have := Q3I ho3.1 y hy; omega)
   have FIN : Hid (Q7F (.slice p l.length c) (Q3r k x l) w (.returned v4) w4) := ⟨v4, rfl, ho4.sl, fun y hy => Or.inr (by have := Q3I ho4.1 y (by rw [hy]; simp); omega), K4⟩
   clear hS hS2 hS3 hS4 ho4 hk4 K4 ho3 hv3 hap3 hb3 ho2 hk2
   go_wp2
   go_ret
   exact FIN.out
  ·have k2 := (Kept.refl [] w1.drew).alloc (.cells #[.string k, .string x] 122)
   have hS2 : WiS w k x (w1.drew.alloc (.cells #[.string k, .string x] 122)) := k2.get hS (by simp)
   refine Q1r rfl (by rfl) _ _ (Q0o 115 1 (.tmp 24) rfl (.agg #[.string k, .string x]) rfl _ (Q7Z _ k x)) ⟨hS2, ?_⟩
   simp only [zP, zA, zB, zC, zD, zE, zF]
   refine Q0j (i := 1) (by kernel_rfl) (Q2Z rfl (by rfl) 112 #[.slice p l.length c] (Q32 _ _ _ rfl _ (by simp [Act.eval]) (Q7X _ _)) _ (HCl.out _ (hK1.drew.alloc _)) ?_)
   rintro e w2 ⟨v2, rfl, ho2, hk2⟩
   have hS3 : WiS w k x w2 := hk2.get hS2 (by simp)
   refine ⟨_, rfl, hS3, ?_⟩
   simp only [zP, zA, zB, zC, zD, zE, zF]
   have hsz2 : w.heap.size + 1 <= w1.drew.heap.size := hsz1
   have hk2s := hk2.size
   rw [World.size_alloc] at hk2s
   have ho3 : OW w2 (w1.drew.heap.size + 1) 122 2 v2 (l.map pe) := by have := ho2; rw [World.size_alloc] at this; exact this
   have hv3 := (Q81 w1.drew k x).kept hk2
   have hap3 : v2.ownBlock ≠ some w1.drew.heap.size := by intro e; have := Q3I ho3.1 w1.drew.heap.size (by rw [e]; simp); omega
   have hb3 : w1.drew.heap.size + 1 <= w2.heap.size := hk2s
   refine Q0j (i := 6) (by kernel_rfl) (Q2Z rfl (by rfl) 125 #[v2, .int .i64 (i : Int), .int .i64 ((i : Int)), .slice (some ⟨w1.drew.heap.size, 0, none⟩) 1 1] (Q32 _ _ _ rfl _ (by simp [Act.eval]) (Q7Y _ _)) _ (HRp.out _ _ v2 w1.drew.heap.size ho3 hb3 hv3 hap3) ?_)
   rintro e w4 ⟨v4, rfl, ho4, hk4⟩
   have hS4 : WiS w k x w4 := hk4.get hS3 (by intro hm; have := Q3I ho3.1 _ hm; omega)
   refine ⟨v4, rfl, hS4, ?_⟩
   simp only [zP, zA, zB, zC, zD, zE, zF]
   refine Q0j (i := 7) (by kernel_rfl) (Q1r rfl (by rfl) v4 w4 rfl ⟨hS4, ?_⟩)
   simp only [zP, zA, zB, zC, zD, zE, zF]
   refine wpAnyH_done (by kernel_rfl) ?_ _
   have K4 : Kept [] w w4 := (hK1.drew.trans (k2.trans hk2)).trans2 hk4 fun y hy => Or.inr (by have := Q3I ho3.1 y hy; omega)
   have FIN : Hid (Q7F (.slice p l.length c) (Q3r k x l) w (.returned v4) w4) := ⟨v4, rfl, ho4.sl, fun y hy => Or.inr (by have := Q3I ho4.1 y (by rw [hy]; simp); omega), K4⟩
   clear hS hS2 hS3 hS4 ho4 hk4 K4 ho3 hv3 hap3 hb3 ho2 hk2
   go_wp2
   go_ret
   exact FIN.out
 | true =>
  have hil : i < l.length := by
   have := (List.getElem?_eq_some_iff.1 (hbi.1 rfl)).1
   rwa [List.length_map] at this
  have hmid := mid (i + 1) hres
  have HRp : Hid (∀ W B v2 gv, OW W B 122 2 v2 (l.map pe) -> B <= W.heap.size -> SL W 122 2 (.slice (some ⟨gv, 0, none⟩) 1 1) [pe (k, x)] -> v2.ownBlock ≠ some gv -> Calls prog 125 #[v2, .int .i64 (i : Int), .int .i64 ((i : Int) + 1), .slice (some ⟨gv, 0, none⟩) 1 1] W (OwnR B 122 2 v2 ((Q3r k x l).map pe) W)) := by
   intro W B v2 gv ho hB hv hap
   have := Q6e B v2 (l.map pe) i (i + 1) W ho (Q6v l) (by omega) (by omega) (by omega) hB gv 0 1 [pe (k, x)] hv hone (by simp) (by simp) hap
   rw [hmid] at this
   exact this
  clear hbi hres hmid mid
  go_enter func93, ntmps93
  go_wp2_with (first | (go_at_call 70; refine (HF.out _ k0).mono ?_; rintro e w1 ⟨rfl, hk1⟩))
  have hS : WiS w k x w1.drew := hk1.get (by exact heap_alloc_new w _) (by simp)
  have hK1 : Kept [] w w1 := k0.trans hk1
  have hsz1 : w.heap.size + 1 <= w1.heap.size := by have := hk1.size; rwa [World.size_alloc] at this
  refine Q1j (WiS w k x) (by kernel_rfl) ?_
  refine hu 0 (.slice p l.length c) rfl (fun W hW => by rfl) hS ?_
  simp only [zP, zA, zC, zD, zE, zF]
  refine hu 2 (.int .i64 (i : Int)) rfl (fun W hW => by rfl) hS ?_
  simp only [zP, zA, zB, zC, zD, zE, zF]
  refine hu 3 (.int .i64 ((i : Int) + 1)) rfl (fun W hW => by rfl) hS ?_
  simp only [zP, zA, zB, zC, zD, zE, zF]
  refine hu 4 (.agg #[.string k, .string x]) rfl (fun W hW => Q0l 122 (.tmp 3) rfl ⟨w.heap.size, 0, none⟩ rfl _ (Q56 (e := pe (k, x)) _ hW ⟨rfl, Q80 k x⟩ underlying122 stp)) hS ?_
  simp only [zP, zA, zB, zC, zD, zE, zF]
  refine Q0k (i := 1) (j := 5) (by kernel_rfl) ?_ ?_
  ·refine Q2Z rfl (by rfl) 112 #[.slice p l.length c] (Q32 _ _ _ rfl _ (by simp [Act.eval]) (Q7X _ _)) _ (HCl.out _ hK1.drew) ?_
   rintro e w2 ⟨v2, rfl, ho2, hk2⟩
   have hS2 : WiS w k x w2 := hk2.get hS (by simp)
   refine ⟨_, rfl, hS2, ?_⟩
   simp only [zP, zA, zB, zC, zD, zE, zF]
   have hsz2 : w.heap.size + 1 <= w1.drew.heap.size := hsz1
   have hk2s := hk2.size
   have k3 := (Kept.refl [] w2).alloc (.cells #[.string k, .string x] 122)
   have hS3 : WiS w k x (w2.alloc (.cells #[.string k, .string x] 122)) := k3.get hS2 (by simp)
   have ho3 : OW (w2.alloc (.cells #[.string k, .string x] 122)) w1.drew.heap.size 122 2 v2 (l.map pe) := ⟨Q0T ho2.1 k3 (by simp), ho2.2⟩
   have hv3 := Q81 w2 k x
   have hap3 : v2.ownBlock ≠ some w2.heap.size := by intro e; have := Q3J ho2.1 w2.heap.size (by rw [e]; simp); omega
   have hb3 : w1.drew.heap.size <= (w2.alloc (.cells #[.string k, .string x] 122)).heap.size := by rw [World.size_alloc]; omega
   refine Q0j (i := 5) (by kernel_rfl) (Q1r rfl (by rfl) _ _ (Q0o 115 1 (.tmp 24) rfl (.agg #[.string k, .string x]) rfl _ (Q7Z _ k x)) ⟨hS3, ?_⟩)
   simp only [zP, zA, zB, zC, zD, zE, zF]
   refine Q0j (i := 6) (by kernel_rfl) (Q2Z rfl (by rfl) 125 #[v2, .int .i64 (i : Int), .int .i64 ((i : Int) + 1), .slice (some ⟨w2.heap.size, 0, none⟩) 1 1] (Q32 _ _ _ rfl _ (by simp [Act.eval]) (Q7Y _ _)) _ (HRp.out _ _ v2 w2.heap.size ho3 hb3 hv3 hap3) ?_)
   rintro e w4 ⟨v4, rfl, ho4, hk4⟩
   have hS4 : WiS w k x w4 := hk4.get hS3 (by intro hm; have := Q3I ho3.1 _ hm; omega)
   refine ⟨v4, rfl, hS4, ?_⟩
   simp only [zP, zA, zB, zC, zD, zE, zF]
   refine Q0j (i := 7) (by kernel_rfl) (Q1r rfl (by rfl) v4 w4 rfl ⟨hS4, ?_⟩)
   simp only [zP, zA, zB, zC, zD, zE, zF]
   refine wpAnyH_done (by kernel_rfl) ?_ _
   have K4 : Kept [] w w4 := (hK1.drew.trans (hk2.trans k3)).trans2 hk4 fun y hy => Or.inr (by have := Q3I ho3.1 y hy; omega)
   have FIN : Hid (Q7F (.slice p l.length c) (Q3r k x l) w (.returned v4) w4) := ⟨v4, rfl, ho4.sl, fun y hy => Or.inr (by have := Q3I ho4.1 y (by rw [hy]; simp); omega), K4⟩
   clear hS hS2 hS3 hS4 ho4 hk4 K4 ho3 hv3 hap3 hb3 ho2 hk2
   go_wp2
   go_ret
   exact FIN.out
  ·have k2 := (Kept.refl [] w1.drew).alloc (.cells #[.string k, .string x] 122)
   have hS2 : WiS w k x (w1.drew.alloc (.cells #[.string k, .string x] 122)) := k2.get hS (by simp)
   refine Q1r rfl (by rfl) _ _ (Q0o 115 1 (.tmp 24) rfl (.agg #[.string k, .string x]) rfl _ (Q7Z _ k x)) ⟨hS2, ?_⟩
   simp only [zP, zA, zB, zC, zD, zE, zF]
   refine Q0j (i := 1) (by kernel_rfl) (Q2Z rfl (by rfl) 112 #[.slice p l.length c] (Q32 _ _ _ rfl _ (by simp [Act.eval]) (Q7X _ _)) _ (HCl.out _ (hK1.drew.alloc _)) ?_)
   rintro e w2 ⟨v2, rfl, ho2, hk2⟩
   have hS3 : WiS w k x w2 := hk2.get hS2 (by simp)
   refine ⟨_, rfl, hS3, ?_⟩
   simp only [zP, zA, zB, zC, zD, zE, zF]
   have hsz2 : w.heap.size + 1 <= w1.drew.heap.size := hsz1
   have hk2s := hk2.size
   rw [World.size_alloc] at hk2s
   have ho3 : OW w2 (w1.drew.heap.size + 1) 122 2 v2 (l.map pe) := by have := ho2; rw [World.size_alloc] at this; exact this
   have hv3 := (Q81 w1.drew k x).kept hk2
   have hap3 : v2.ownBlock ≠ some w1.drew.heap.size := by intro e; have := Q3I ho3.1 w1.drew.heap.size (by rw [e]; simp); omega
   have hb3 : w1.drew.heap.size + 1 <= w2.heap.size := hk2s
   refine Q0j (i := 6) (by kernel_rfl) (Q2Z rfl (by rfl) 125 #[v2, .int .i64 (i : Int), .int .i64 ((i : Int) + 1), .slice (some ⟨w1.drew.heap.size, 0, none⟩) 1 1] (Q32 _ _ _ rfl _ (by simp [Act.eval]) (Q7Y _ _)) _ (HRp.out _ _ v2 w1.drew.heap.size ho3 hb3 hv3 hap3) ?_)
   rintro e w4 ⟨v4, rfl, ho4, hk4⟩
   have hS4 : WiS w k x w4 := hk4.get hS3 (by intro hm; have := Q3I ho3.1 _ hm; omega)
   refine ⟨v4, rfl, hS4, ?_⟩
   simp only [zP, zA, zB, zC, zD, zE, zF]
   refine Q0j (i := 7) (by kernel_rfl) (Q1r rfl (by rfl) v4 w4 rfl ⟨hS4, ?_⟩)
   simp only [zP, zA, zB, zC, zD, zE, zF]
   refine wpAnyH_done (by kernel_rfl) ?_ _
   have K4 : Kept [] w w4 := (hK1.drew.trans (k2.trans hk2)).trans2 hk4 fun y hy => Or.inr (by have := Q3I ho3.1 y hy; omega)
   have FIN : Hid (Q7F (.slice p l.length c) (Q3r k x l) w (.returned v4) w4) := ⟨v4, rfl, ho4.sl, fun y hy => Or.inr (by have := Q3I ho4.1 y (by rw [hy]; simp); omega), K4⟩
   clear hS hS2 hS3 hS4 ho4 hk4 K4 ho3 hv3 hap3 hb3 ho2 hk2
   go_wp2
   go_ret
   exact FIN.out
theorem Q83 {F : List Pr -> List Pr} {k : ByteArray} (hF : OpAt F k) (h : Nat) (f : ByteArray) (ks : List (Kid h)) (hw : WFN (h + 1) f ks) (hf : Q4j (h + 1) ks) (hk : ge k f) (h22 : 0 < h + 1 -> 22 <= Q4a (h + 1) ks) :
  ∃ a, ks[wayK ks k]? = some a /\ a ∈ ks /\ ge k a.1 /\ Q4L h (ks.set (wayK ks k) ⟨a.1, chgN F k h a.2, a.3⟩) (wayK ks k) /\ chgN F k (h + 1) ks = Q4I h (ks.set (wayK ks k) ⟨a.1, chgN F k h a.2, a.3⟩) (wayK ks k) := by
 obtain ⟨⟨n0, x0, r0, e0⟩, hkw⟩ := (Q4i h f ks).1 hw
 have hfull := (Q4k h ks).1 hf
 obtain ⟨A, a, B, esp, hlen, hga, hB⟩ := Q4Q f n0 x0 r0 k (by rw [<- e0]; exact hkw) hk
 rw [<- e0] at esp hlen
 have hamem : a ∈ ks := by rw [esp]; simp
 have hget : ks[wayK ks k]? = some a := by
  rw [<- hlen, esp]; simp
 have haR := hfull a hamem
 have ih := Q4S hF h a.1 a.2 (hkw.all a hamem) haR.2 hga (fun _ => by have := haR.1.1; omega)
 have hset : ks.set (wayK ks k) ⟨a.1, chgN F k h a.2, a.3⟩ = A ++ (([⟨a.1, chgN F k h a.2, a.3⟩] : List (Kid h)) ++ B) := by
  rw [<- hlen]
  conv => lhs; rw [esp]
  simp
 have hord := hkw.ord
 rw [esp] at hord
 obtain ⟨pA, pMB, pAMB⟩ := List.pairwise_append.1 hord
 obtain ⟨_, pB, pMB'⟩ := List.pairwise_append.1 pMB
 have hAlt : ∀ p ∈ Q4b h A, bl p.1 k = true := by
  intro p hp
  obtain ⟨c, hc, hp⟩ := Q4f.1 hp
  exact Q3R ((pAMB c hc a (by simp)).2 p hp) hga
 have hBgt : ∀ p ∈ Q4b h B, bl k p.1 = true := by
  intro p hp
  obtain ⟨c, hc, hp⟩ := Q4f.1 hp
  exact Q3R (hB c hc) (WFN.keys (hkw.all c (by rw [esp]; simp [hc])) p hp).1
 have hmemF : ∀ p ∈ Q49 h (chgN F k h a.2), p ∈ Q49 h a.2 \/ p.1 = k := by
  intro p hp
  rw [ih.flat] at hp
  rcases hF.mem _ p hp with e | e
  ·exact Or.inl e
  ·exact Or.inr e.1
 have kw' : KW h (A ++ (([⟨a.1, chgN F k h a.2, a.3⟩] : List (Kid h)) ++ B)) := by
  refine ⟨List.pairwise_append.2 ⟨pA, List.pairwise_append.2 ⟨by simp, pB, ?_⟩, ?_⟩, ?_⟩
  ·intro x hx b hb
   simp at hx; subst hx
   have h1 := pMB' a (by simp) b hb
   refine ⟨h1.1, fun p hp => ?_⟩
   rcases hmemF p hp with e | e
   ·exact h1.2 p e
   ·rw [e]; exact hB b hb
  ·intro x hx b hb
   rcases List.mem_append.1 hb with hb | hb
   ·simp at hb; subst hb
    exact pAMB x hx a (by simp)
   ·exact pAMB x hx b (List.mem_append_right _ hb)
  ·intro x hx
   rcases List.mem_append.1 hx with hx | hx
   ·exact hkw.all x (by rw [esp]; simp [hx])
   rcases List.mem_append.1 hx with hx | hx
   ·simp at hx; subst hx; exact ih.wf
   ·exact hkw.all x (by rw [esp]; simp [hx])
 have hsz : Q4a (h + 1) ks = 11 * ks.length := rfl
 have hlk : ks.length = A.length + (1 + B.length) := by rw [esp]; simp; omega
 have h22' := h22 (by omega)
 have loose : Q4L h (A ++ (([⟨a.1, chgN F k h a.2, a.3⟩] : List (Kid h)) ++ B)) (wayK ks k) := by
  rw [<- hlen]
  refine ⟨kw', ?_, by simp, ?_, ?_, ?_⟩
  ·simp only [List.length_append, List.length_cons, List.length_nil]; omega
  ·intro x hx
   rcases List.mem_append.1 hx with hx | hx
   ·exact (hfull x (by rw [esp]; simp [hx])).2
   rcases List.mem_append.1 hx with hx | hx
   ·simp at hx; subst hx; exact ih.full
   ·exact (hfull x (by rw [esp]; simp [hx])).2
  ·intro j x hj hne
   have : x ∈ A \/ x ∈ B := by
    rcases Nat.lt_or_ge j A.length with hj' | hj'
    ·rw [List.getElem?_append_left hj'] at hj; exact Or.inl (List.mem_of_getElem? hj)
    ·rw [List.getElem?_append_right hj', List.getElem?_append_right (by simp; omega)] at hj
     exact Or.inr (List.mem_of_getElem? hj)
   rcases this with hx | hx
   ·exact (hfull x (by rw [esp]; simp [hx])).1
   ·exact (hfull x (by rw [esp]; simp [hx])).1
  ·intro x hx
   simp at hx; subst hx
   have := ih.hi; have := ih.lo; have := haR.1.1; have := haR.1.2
   exact ⟨by show 18 <= Q4a h (chgN F k h a.2); omega, by show Q4a h (chgN F k h a.2) <= 144; omega⟩
 refine ⟨a, hget, hamem, hga, by rw [hset]; exact loose, ?_⟩
 show chgK h (chgN F k h) k ks = _
 unfold chgK
 rw [hget]
theorem Q84 (p : Option Addr) (n c : Nat) : Disp "store/tree.changed" (.iface 116 (.slice p n c)) 232 (.slice p n c) := ⟨_, rfl, fun _ => by kernel_rfl, fun _ _ => by kernel_rfl⟩
theorem Q85 (p : Option Addr) (n c : Nat) : Disp "store/tree.changed" (.iface 168 (.slice p n c)) 251 (.slice p n c) := ⟨_, rfl, fun _ => by kernel_rfl, fun _ _ => by kernel_rfl⟩
structure Cl (F : List Pr -> List Pr) (Q : List Pr -> Prop) (fid : FuncId) (cap : Value) (w : World) : Prop where
 en : ∀ (args : Array Value) (W : World), (callFunc fid args).run prog W = .ok (.enter fid args) W
 call : ∀ W v l, Kept [] w W -> LF W v l -> Srt l -> l.length <= 1000 -> Q l -> Calls prog fid #[v, cap] W (Q7F v (F l) W)
theorem Cl.k {F : List Pr -> List Pr} {Q : List Pr -> Prop} {fid : FuncId} {cap : Value} {w W : World} (h : Cl F Q fid cap w) (k : Kept [] w W) : Cl F Q fid cap W := ⟨h.en, fun W' v l kW => h.call W' v l (k.trans kW)⟩
theorem Q86 {F : List Pr -> List Pr} {Q : List Pr -> Prop} {fid : FuncId} {cap : Value} {w : World} (hc : Cl F Q fid cap w) (v : Value) (l : List Pr) (k : ByteArray) (h : LF w v l) (hs : Srt l) (hl : l.length <= 1000) (hq : Q l) :
  Calls prog 232 #[v, .string k, .func (.func fid) #[] #[cap]] w fun e w' => ∃ v', e = .returned (.iface 116 v') /\ LF w' v' (F l) /\ (∀ y, v'.ownBlock = some y -> v.ownBlock = some y \/ w.heap.size <= y) /\ Kept [] w w' := by
 have HC : Hid (Calls _ _ _ _ _) := hc.call w v l (Kept.refl _ _) h hs hl hq
 have he := hc.en
 obtain ⟨p, c, ev⟩ := SL.shape h
 rw [List.length_map] at ev
 subst ev
 clear hc h hs hl hq
 go_enter func232, ntmps232
 go_wp2_with (first | (go_at_fn fid; refine HC.out.mono ?_; rintro e w1 ⟨v1, rfl, hl1, ho1, hk1⟩; obtain ⟨p1, c1, ev1⟩ := SL.shape hl1; rw [List.length_map] at ev1; subst ev1))
 go_ret
 exact ⟨_, rfl, hl1, ho1, hk1⟩
end Go.Proofs.YtcklgafpgdhnaaaGreatDoor
