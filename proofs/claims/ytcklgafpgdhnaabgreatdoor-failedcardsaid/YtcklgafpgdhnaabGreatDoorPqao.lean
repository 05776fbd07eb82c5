import Derived.Test.YtcklgafpgdhnaabGreatDoorPqan
import Derived.Test.YtcklgafpgdhnaabGreatDoorPqab
set_option maxRecDepth 100000
set_option maxHeartbeats 4000000
open Go.Proofs.Tryz
open Go.Act renaming put → zP
open List renaming getElem_toArray → zA, getElem_cons_succ → zB, getElem_cons_zero → zC, setIfInBounds_toArray → zD, set_cons_succ → zE, set_cons_zero → zF
namespace Go.Proofs.YtcklgafpgdhnaabGreatDoor
open Go.RowKit
def KdS (g : Nat) (cur : Array Value) (W : World) : Prop := W.heap[g]? = some (.cells cur 75 (0, 0))
theorem Q5p : 291 + Made.depth = 391 := by kernel_rfl
theorem Q5q {o : Oper} {a : Act} {w : World} (x : Operand) (nm : String) (y : Operand) (ts : Array TypeId) (ho : o.op = .call { callee := .invoke x nm, args := #[y], argTypes := ts }) (t : TypeId) (v : Value) (hx : a.eval x = .iface t v) (vy : Value) (hy : a.eval y = vy) (f : FuncId)
  (hm : (Go.method 391 t v nm).run prog w = .ok (f, v) w) (he : (callFunc f #[v, vy]).run prog w = .ok (.enter f #[v, vy]) w) : (execOp a.eval o).run prog w = .ok (.enter f #[v, vy]) w := by
 have hp : (program : Sem Program).run prog w = .ok prog w := rfl
 simp [execOp, ho, resolve, invoke, callMethod, hx, hy, hp, Q5p, hm, he]
theorem Q5r {h : Nat} {B : Nat} {A : Nat -> Prop} {v : Value} {xs : List KE} {ks : List (Kid h)} {w : World} (ho : OW w B 75 3 v (xs.map ke)) (hB : B <= w.heap.size) (hf : F2 (KR w A h) ks xs) (hA : ∀ y, A y -> v.ownBlock ≠ some y) (hkl : ks.length <= 1000)
  (hl : ZC h ks (0)) {a : Kid h} (ha : ks[0]? = some a) (hs : yl h a.2 < 40) :
  Calls prog 227 #[v, .int .i64 ((0 : Nat) : Int)] w (Q5k B (fun y => A y \/ w.heap.size <= y) v (qw h ks (0)) w) := by
 obtain ⟨x, y, hx, hy, hwj, hsj, hres⟩ := Q5m hl ha hs
 have hxa : x = a := by rw [show (0 : Nat) - 1 = 0 from rfl, ha] at hx; cases hx; rfl
 subst hxa
 simp only [Nat.zero_sub, Nat.zero_add] at hx hy hres
 have hlt := hl.lt
 have htwo := hl.two
 have hwx := hl.kw.all x (List.mem_of_getElem? hx)
 have hwy := hl.kw.all y (List.mem_of_getElem? hy)
 have hsxy := Zm h x.2 y.2
 obtain ⟨X, hX, hrX⟩ := hf.get hx
 obtain ⟨Y, hY, hrY⟩ := hf.get hy
 obtain ⟨f2, v2, ⟨t2, e2, hm2, he2⟩, hc2⟩ := Q51 hrX.2 hrY.2 (Sm.of hwx (by omega)) (Sm.of hwy (by omega))
 obtain ⟨ty, vy, eY⟩ := hrY.2.iface
 obtain ⟨f1, v1, ⟨t1, e1, hm1, he1⟩, hc1⟩ := Qb hrX.2 (Sm.of hwx (by omega))
 rw [e2] at e1
 cases e1
 have hln : (xs.map ke).length = ks.length := by rw [List.length_map, hf.1]
 obtain ⟨g, off, cap, cur, ev, hg, hc3, hc4, hc5, hcur⟩ := ho.sl.at_ (by omega)
 rw [hln] at ev
 have cellK : ∀ (W : World), W.heap[g]? = some (.cells cur 75 (0, 0)) -> ∀ (j : Nat) (Z : KE), xs[j]? = some Z -> ∀ p, p = off + j * 3 -> W.cell? ⟨g, p, none⟩ = some (.string Z.1) /\ W.cell? ⟨g, p + 2, none⟩ = some Z.2 := by
  intro W hW j Z hZ p hp
  have := hcur j (ke Z) (by rw [List.getElem?_map, hZ]; rfl)
  subst hp
  exact ⟨by rw [cell_of_row _ _ _ _ _ _ hW]; exact this.2 0 _ rfl, by rw [cell_of_row _ _ _ _ _ _ hW]; exact this.2 2 _ rfl⟩
 have HX : Hid (∀ W : World, W.heap[g]? = some (.cells cur 75 (0, 0)) -> W.cell? ⟨g, off + 2, none⟩ = some (.iface t2 v2)) := fun W hW => by rw [<- e2]; exact (cellK W hW _ X hX (off) (by omega)).2
 have HX0 : Hid (∀ W : World, W.heap[g]? = some (.cells cur 75 (0, 0)) -> W.cell? ⟨g, off, none⟩ = some (.string x.1)) := fun W hW => by rw [<- hrX.1.1]; exact (cellK W hW _ X hX (off) (by omega)).1
 have HY : Hid (∀ W : World, W.heap[g]? = some (.cells cur 75 (0, 0)) -> W.cell? ⟨g, off + 3 + 2, none⟩ = some (.iface ty vy)) := fun W hW => by rw [<- eY]; exact (cellK W hW _ Y hY (off + 3) (by omega)).2
 have c0 := HX.out w hg
 rw [eY] at hc2
 have HFit : Hid (∀ W W' a', y5 [] w W' -> y5 [] W' W -> ND W (fun y => A y \/ w.heap.size <= y) h (jK h x.2 y.2) a' -> _) := fun W W' a' _ _ hn => Q5j (f := x.1) hn hwj hsj
 have HRp : Hid (∀ W gv cv xs1, y5 [] w W -> SL W 75 3 (.slice (some ⟨gv, 0, none⟩) xs1.length cv) (xs1.map ke) -> F2 (KR W (fun y => A y \/ w.heap.size <= y) h) (qB h x.1 (jK h x.2 y.2)) xs1 -> w.heap.size <= gv -> _) := fun W gv cv xs1 hW hv hf1 hgv => Q5l ho hB hf hA hkl hW (i := 0) (j := 0 + 2) (by omega) (by omega) hv hf1 hgv (Q5n h x.1 _) (0) (0 + 2) (by omega) (by omega)
 rw [hres]
 have HC1 : Hid (∀ W, y5 [] w W -> _) := hc1
 have HC2 : Hid (∀ W, y5 [] w W -> _) := hc2
 have hge : ((yl h x.2 : Nat) : Int) < 40 := by omega
 have hib : 0 <= 1000 := by omega
 have hlt0 : 0 < ks.length := by omega
 have hlt1 : 0 + 1 < ks.length := by omega
 subst ev
 generalize hSz : yl h x.2 = S at *
 generalize ks.length = m at *
 clear hcur hc1 hc2 hwx hwy hl hX hY hrX hrY hf ho hA hres ha hx hy hsxy hwj hsj hs hSz cellK e2 eY
 go_enter func227, ntmps227
 go_wp2_with (first
  | (refine y8 rfl _ _ (ya 180 (.tmp 7) (.tmp 8) rfl g off m cap (0) 3 rfl rfl 75 underlying180 jB hlt (off) (by omega)) ?_)
  | (go_at_fn f1; refine (HC1.out _ (y5.refl _ _)).mono ?_; rintro e w1 ⟨rfl, hk1⟩))
 have hS : KdS g cur w1.drew := hk1.get hg (by simp)
 refine yj (KdS g cur) (by kernel_rfl) ?_
 refine hu 0 (.slice (some ⟨g, off, none⟩) m cap) rfl (fun W hW => by rfl) hS ?_
 simp only [zP, zA, zC, zD, zE, zF]
 refine hu 1 (.int .i64 (0)) rfl (fun W hW => by rfl) hS ?_
 simp only [zP, zA, zB, zC, zD, zE, zF]
 refine hu 2 (.pointer (some ⟨g, off, none⟩)) rfl (fun W hW => ya 180 (.tmp 22) (.tmp 23) rfl g off m cap (0) 3 rfl rfl 75 underlying180 jB hlt0 (off) (by omega)) hS ?_
 simp only [zP, zA, zB, zC, zD, zE, zF]
 refine hu 3 (.pointer (some ⟨g, off + 2, none⟩)) rfl (fun W hW => yv 75 (.tmp 24) 2 rfl g (off) rfl 2 (by rfl)) hS ?_
 simp only [zP, zA, zB, zC, zD, zE, zF]
 refine hu 4 (.iface t2 v2) rfl (fun W hW => y9 73 (.tmp 25) rfl ⟨g, off + 2, none⟩ rfl _ (yh underlying73 rfl (HX.out W hW))) hS ?_
 simp only [zP, zA, zB, zC, zD, zE, zF]
 refine hu 5 (.slice (some ⟨g, off, none⟩) m cap) rfl (fun W hW => by rfl) hS ?_
 simp only [zP, zA, zB, zC, zD, zE, zF]
 refine hu 6 (.int .i64 (0)) rfl (fun W hW => by rfl) hS ?_
 simp only [zP, zA, zB, zC, zD, zE, zF]
 refine hu 7 (.int .i64 ((0 + 1 : Nat) : Int)) rfl (fun W hW => yY (.tmp 28) (.const (.int .i64 1)) rfl (0) 1 rfl rfl (by omega)) hS ?_
 simp only [zP, zA, zB, zC, zD, zE, zF]
 refine hu 8 (.pointer (some ⟨g, off + 3, none⟩)) rfl (fun W hW => ya 180 (.tmp 27) (.tmp 29) rfl g off m cap (0 + 1) 3 rfl rfl 75 underlying180 jB hlt1 (off + 3) (by omega)) hS ?_
 simp only [zP, zA, zB, zC, zD, zE, zF]
 refine hu 9 (.pointer (some ⟨g, off + 3 + 2, none⟩)) rfl (fun W hW => yv 75 (.tmp 30) 2 rfl g (off + 3) rfl 2 (by rfl)) hS ?_
 simp only [zP, zA, zB, zC, zD, zE, zF]
 refine hu 10 (.iface ty vy) rfl (fun W hW => y9 73 (.tmp 31) rfl ⟨g, off + 3 + 2, none⟩ rfl _ (yh underlying73 rfl (HY.out W hW))) hS ?_
 simp only [zP, zA, zB, zC, zD, zE, zF]
 refine hu 11 (.iface t2 v2) rfl (fun W hW => by rfl) hS ?_
 simp only [zP, zA, zB, zC, zD, zE, zF]
 refine hu 12 (.iface t2 v2) rfl (fun W hW => by rfl) hS ?_
 simp only [zP, zA, zB, zC, zD, zE, zF]
 refine yf (i := 13) (by kernel_rfl) (yo rfl (by rfl) f2 #[v2, .iface ty vy] (Q5q (.tmp 34) _ (.tmp 32) _ rfl t2 v2 rfl _ rfl f2 (hm2 _) (he2 _ _)) _ (HC2.out _ hk1.drew) ?_)
 rintro e w2 ⟨a', rfl, hn2, hk2⟩
 obtain ⟨tj, vj, ej⟩ := hn2.iface
 have hS2 : KdS g cur w2 := hk2.get hS (by simp)
 refine ⟨a', rfl, hS2, ?_⟩
 simp only [zP, zA, zB, zC, zD, zE, zF]
 refine yf (i := 14) (by kernel_rfl) (yy rfl (by rfl) a' w2 rfl ⟨hS2, ?_⟩)
 simp only [zP, zA, zB, zC, zD, zE, zF]
 refine wpAnyH_done (by kernel_rfl) ?_ _
 have c2 := HX0.out w2 hS2
 have hK2 : y5 [] w w2 := hk1.drew.trans hk2
 have HF2 : Hid (Calls _ _ _ _ _) := HFit.out w2 w a' (y5.refl _ _) hK2 hn2
 clear hS hS2 hn2
 subst ej
 go_wp2_with (first
  | (refine y8 rfl _ _ (ya 180 (.tmp 39) (.tmp 40) rfl g off m cap (0) 3 rfl rfl 75 underlying180 jB hlt0 (off) (by omega)) ?_)
  | (go_at_call 106; refine HF2.out.mono ?_; rintro e w3 ⟨gv, cv, xs1, rfl, hv1, hf1, hgv, hk3⟩)
  | (go_at_call 232; refine (HRp.out _ gv cv xs1 (hK2.trans hk3) hv1 hf1 (Nat.le_trans hK2.size hgv)).mono ?_; rintro e w4 ⟨v4, xs4, rfl, ho4, hf4, hk4⟩))
 go_ret
 exact ⟨_, _, rfl, ho4, hf4, hk4⟩
theorem Q5s {h : Nat} {B : Nat} {A : Nat -> Prop} {v : Value} {xs : List KE} {ks : List (Kid h)} {w : World} (ho : OW w B 75 3 v (xs.map ke)) (hB : B <= w.heap.size) (hf : F2 (KR w A h) ks xs) (hA : ∀ y, A y -> v.ownBlock ≠ some y) (hkl : ks.length <= 1000)
  {ip : Nat} (hl : ZC h ks (ip + 1)) {a : Kid h} (ha : ks[ip + 1]? = some a) (hs : yl h a.2 < 40) :
  Calls prog 227 #[v, .int .i64 ((ip + 1 : Nat) : Int)] w (Q5k B (fun y => A y \/ w.heap.size <= y) v (qw h ks (ip + 1)) w) := by
 obtain ⟨x, y, hx, hy, hwj, hsj, hres⟩ := Q5m hl ha hs
 simp only [Nat.add_sub_cancel] at hx hy hres
 have hya : y = a := by rw [ha] at hy; cases hy; rfl
 subst hya
 have hlt := hl.lt
 have htwo := hl.two
 have hwx := hl.kw.all x (List.mem_of_getElem? hx)
 have hwy := hl.kw.all y (List.mem_of_getElem? hy)
 have hsxy := Zm h x.2 y.2
 obtain ⟨X, hX, hrX⟩ := hf.get hx
 obtain ⟨Y, hY, hrY⟩ := hf.get hy
 obtain ⟨f2, v2, ⟨t2, e2, hm2, he2⟩, hc2⟩ := Q51 hrX.2 hrY.2 (Sm.of hwx (by omega)) (Sm.of hwy (by omega))
 obtain ⟨ty, vy, eY⟩ := hrY.2.iface
 obtain ⟨f1, v1, ⟨t1, e1, hm1, he1⟩, hc1⟩ := Qb hrY.2 (Sm.of hwy (by omega))
 rw [eY] at e1
 cases e1
 have hln : (xs.map ke).length = ks.length := by rw [List.length_map, hf.1]
 obtain ⟨g, off, cap, cur, ev, hg, hc3, hc4, hc5, hcur⟩ := ho.sl.at_ (by omega)
 rw [hln] at ev
 have cellK : ∀ (W : World), W.heap[g]? = some (.cells cur 75 (0, 0)) -> ∀ (j : Nat) (Z : KE), xs[j]? = some Z -> ∀ p, p = off + j * 3 -> W.cell? ⟨g, p, none⟩ = some (.string Z.1) /\ W.cell? ⟨g, p + 2, none⟩ = some Z.2 := by
  intro W hW j Z hZ p hp
  have := hcur j (ke Z) (by rw [List.getElem?_map, hZ]; rfl)
  subst hp
  exact ⟨by rw [cell_of_row _ _ _ _ _ _ hW]; exact this.2 0 _ rfl, by rw [cell_of_row _ _ _ _ _ _ hW]; exact this.2 2 _ rfl⟩
 have HX : Hid (∀ W : World, W.heap[g]? = some (.cells cur 75 (0, 0)) -> W.cell? ⟨g, off + ip * 3 + 2, none⟩ = some (.iface t2 v2)) := fun W hW => by rw [<- e2]; exact (cellK W hW _ X hX (off + ip * 3) (by omega)).2
 have HX0 : Hid (∀ W : World, W.heap[g]? = some (.cells cur 75 (0, 0)) -> W.cell? ⟨g, off + ip * 3, none⟩ = some (.string x.1)) := fun W hW => by rw [<- hrX.1.1]; exact (cellK W hW _ X hX (off + ip * 3) (by omega)).1
 have HY : Hid (∀ W : World, W.heap[g]? = some (.cells cur 75 (0, 0)) -> W.cell? ⟨g, off + (ip + 1) * 3 + 2, none⟩ = some (.iface ty vy)) := fun W hW => by rw [<- eY]; exact (cellK W hW _ Y hY (off + (ip + 1) * 3) (by omega)).2
 have c0 := HY.out w hg
 rw [eY] at hc2
 have HFit : Hid (∀ W W' a', y5 [] w W' -> y5 [] W' W -> ND W (fun y => A y \/ w.heap.size <= y) h (jK h x.2 y.2) a' -> _) := fun W W' a' _ _ hn => Q5j (f := x.1) hn hwj hsj
 have HRp : Hid (∀ W gv cv xs1, y5 [] w W -> SL W 75 3 (.slice (some ⟨gv, 0, none⟩) xs1.length cv) (xs1.map ke) -> F2 (KR W (fun y => A y \/ w.heap.size <= y) h) (qB h x.1 (jK h x.2 y.2)) xs1 -> w.heap.size <= gv -> _) := fun W gv cv xs1 hW hv hf1 hgv => Q5l ho hB hf hA hkl hW (i := ip) (j := ip + 2) (by omega) (by omega) hv hf1 hgv (Q5n h x.1 _) ((ip : Int)) ((ip : Int) + 2) (by omega) (by omega)
 rw [hres]
 have HC1 : Hid (∀ W, y5 [] w W -> _) := hc1
 have HC2 : Hid (∀ W, y5 [] w W -> _) := hc2
 have hge : ((yl h y.2 : Nat) : Int) < 40 := by omega
 have hib : ip <= 1000 := by omega
 have hlt0 : ip < ks.length := by omega
 have hlt1 : ip + 1 < ks.length := by omega
 subst ev
 generalize hSz : yl h y.2 = S at *
 generalize ks.length = m at *
 clear hcur hc1 hc2 hwx hwy hl hX hY hrX hrY hf ho hA hres ha hx hy hsxy hwj hsj hs hSz cellK e2 eY
 go_enter func227, ntmps227
 go_wp2_with (first
  | (refine y8 rfl _ _ (ya 180 (.tmp 7) (.tmp 8) rfl g off m cap (ip + 1) 3 rfl rfl 75 underlying180 jB hlt (off + (ip + 1) * 3) (by omega)) ?_)
  | (go_at_fn f1; refine (HC1.out _ (y5.refl _ _)).mono ?_; rintro e w1 ⟨rfl, hk1⟩))
 have hS : KdS g cur w1.drew := hk1.get hg (by simp)
 refine yj (KdS g cur) (by kernel_rfl) ?_
 refine hu 0 (.slice (some ⟨g, off, none⟩) m cap) rfl (fun W hW => by rfl) hS ?_
 simp only [zP, zA, zC, zD, zE, zF]
 refine hu 1 (.int .i64 ((ip : Int))) rfl (fun W hW => by rfl) hS ?_
 simp only [zP, zA, zB, zC, zD, zE, zF]
 refine hu 2 (.pointer (some ⟨g, off + ip * 3, none⟩)) rfl (fun W hW => ya 180 (.tmp 22) (.tmp 23) rfl g off m cap (ip) 3 rfl rfl 75 underlying180 jB hlt0 (off + ip * 3) (by omega)) hS ?_
 simp only [zP, zA, zB, zC, zD, zE, zF]
 refine hu 3 (.pointer (some ⟨g, off + ip * 3 + 2, none⟩)) rfl (fun W hW => yv 75 (.tmp 24) 2 rfl g (off + ip * 3) rfl 2 (by rfl)) hS ?_
 simp only [zP, zA, zB, zC, zD, zE, zF]
 refine hu 4 (.iface t2 v2) rfl (fun W hW => y9 73 (.tmp 25) rfl ⟨g, off + ip * 3 + 2, none⟩ rfl _ (yh underlying73 rfl (HX.out W hW))) hS ?_
 simp only [zP, zA, zB, zC, zD, zE, zF]
 refine hu 5 (.slice (some ⟨g, off, none⟩) m cap) rfl (fun W hW => by rfl) hS ?_
 simp only [zP, zA, zB, zC, zD, zE, zF]
 refine hu 6 (.int .i64 ((ip : Int))) rfl (fun W hW => by rfl) hS ?_
 simp only [zP, zA, zB, zC, zD, zE, zF]
 refine hu 7 (.int .i64 ((ip + 1 : Nat) : Int)) rfl (fun W hW => yY (.tmp 28) (.const (.int .i64 1)) rfl (ip) 1 rfl rfl (by omega)) hS ?_
 simp only [zP, zA, zB, zC, zD, zE, zF]
 refine hu 8 (.pointer (some ⟨g, off + (ip + 1) * 3, none⟩)) rfl (fun W hW => ya 180 (.tmp 27) (.tmp 29) rfl g off m cap (ip + 1) 3 rfl rfl 75 underlying180 jB hlt1 (off + (ip + 1) * 3) (by omega)) hS ?_
 simp only [zP, zA, zB, zC, zD, zE, zF]
 refine hu 9 (.pointer (some ⟨g, off + (ip + 1) * 3 + 2, none⟩)) rfl (fun W hW => yv 75 (.tmp 30) 2 rfl g (off + (ip + 1) * 3) rfl 2 (by rfl)) hS ?_
 simp only [zP, zA, zB, zC, zD, zE, zF]
 refine hu 10 (.iface ty vy) rfl (fun W hW => y9 73 (.tmp 31) rfl ⟨g, off + (ip + 1) * 3 + 2, none⟩ rfl _ (yh underlying73 rfl (HY.out W hW))) hS ?_
 simp only [zP, zA, zB, zC, zD, zE, zF]
 refine hu 11 (.iface t2 v2) rfl (fun W hW => by rfl) hS ?_
 simp only [zP, zA, zB, zC, zD, zE, zF]
 refine hu 12 (.iface t2 v2) rfl (fun W hW => by rfl) hS ?_
 simp only [zP, zA, zB, zC, zD, zE, zF]
 refine yf (i := 13) (by kernel_rfl) (yo rfl (by rfl) f2 #[v2, .iface ty vy] (Q5q (.tmp 34) _ (.tmp 32) _ rfl t2 v2 rfl _ rfl f2 (hm2 _) (he2 _ _)) _ (HC2.out _ hk1.drew) ?_)
 rintro e w2 ⟨a', rfl, hn2, hk2⟩
 obtain ⟨tj, vj, ej⟩ := hn2.iface
 have hS2 : KdS g cur w2 := hk2.get hS (by simp)
 refine ⟨a', rfl, hS2, ?_⟩
 simp only [zP, zA, zB, zC, zD, zE, zF]
 refine yf (i := 14) (by kernel_rfl) (yy rfl (by rfl) a' w2 rfl ⟨hS2, ?_⟩)
 simp only [zP, zA, zB, zC, zD, zE, zF]
 refine wpAnyH_done (by kernel_rfl) ?_ _
 have c2 := HX0.out w2 hS2
 have hK2 : y5 [] w w2 := hk1.drew.trans hk2
 have HF2 : Hid (Calls _ _ _ _ _) := HFit.out w2 w a' (y5.refl _ _) hK2 hn2
 clear hS hS2 hn2
 subst ej
 go_wp2_with (first
  | (refine y8 rfl _ _ (ya 180 (.tmp 39) (.tmp 40) rfl g off m cap (ip) 3 rfl rfl 75 underlying180 jB hlt0 (off + ip * 3) (by omega)) ?_)
  | (go_at_call 106; refine HF2.out.mono ?_; rintro e w3 ⟨gv, cv, xs1, rfl, hv1, hf1, hgv, hk3⟩)
  | (go_at_call 232; refine (HRp.out _ gv cv xs1 (hK2.trans hk3) hv1 hf1 (Nat.le_trans hK2.size hgv)).mono ?_; rintro e w4 ⟨v4, xs4, rfl, ho4, hf4, hk4⟩))
 go_ret
 exact ⟨_, _, rfl, ho4, hf4, hk4⟩
theorem Q5t {h : Nat} {B : Nat} {A : Nat -> Prop} {v : Value} {xs : List KE} {ks : List (Kid h)} {w : World} (ho : OW w B 75 3 v (xs.map ke)) (hB : B <= w.heap.size) (hf : F2 (KR w A h) ks xs) (hA : ∀ y, A y -> v.ownBlock ≠ some y) (hkl : ks.length <= 1000)
  (i : Nat) (hl : ZC h ks i) : Calls prog 227 #[v, .int .i64 i] w (Q5k B (fun y => A y \/ w.heap.size <= y) v (qw h ks i) w) := by
 obtain ⟨a, ha⟩ : ∃ a, ks[i]? = some a := ⟨_, List.getElem?_eq_getElem hl.lt⟩
 by_cases hs : yl h a.2 < 40
 ·cases i with
  | zero => exact Q5r ho hB hf hA hkl hl ha hs
  | succ ip => exact Q5s ho hB hf hA hkl hl ha hs
 ·exact Q5o ho hB hf hA hkl hl ha hs
theorem ju (args : Array Value) (w : World) : (callFunc 108 args).run prog w = .ok (.enter 108 args) w := qA func108 (by kernel_rfl) (by kernel_rfl) args w
theorem jN (args : Array Value) (w : World) : (callFunc 107 args).run prog w = .ok (.enter 107 args) w := qA func107 (by kernel_rfl) (by kernel_rfl) args w
def WiS (w : World) (k x : ByteArray) (W : World) : Prop := W.heap[w.heap.size]? = some (.cells #[.string k, .string x] 138 (0, 0))
theorem QK (w : World) (k x : ByteArray) : (Instr.buildSlice 134 1 #[(0, .agg #[.string k, .string x])]).run prog w = .ok (.slice (some ⟨w.heap.size, 0, none⟩) 1 1) (w.alloc (.cells #[.string k, .string x] 138)) := by
 obtain ⟨ie, hie, hz1, hz2, hz3⟩ := info_parts itp
 exact ZL w 134 138 _ ie _ underlying134 hie hz1 hz2 (by simp) (by simp)
theorem Q5u (k x : ByteArray) : ∀ (j : Nat) (u : Value), (pe (k, x))[j]? = some u -> (#[.string k, .string x] : Array Value)[0 + j]? = some u := by
 intro j u hj
 match j, hj with
 | 0, hj => simpa [pe] using hj
 | 1, hj => simpa [pe] using hj
 | j + 2, hj => simp [pe] at hj
theorem Q5v (W : World) (k x : ByteArray) : SL (W.alloc (.cells #[.string k, .string x] 138)) 138 2 (.slice (some ⟨W.heap.size, 0, none⟩) 1 1) [pe (k, x)] := by
 refine Or.inr ⟨W.heap.size, 0, 1, #[.string k, .string x], rfl, heap_alloc_new _ _, Nat.le_refl _, by unfold maxLen; omega, by simp, ?_⟩
 intro i e he
 cases i with
 | zero => simp at he; subst he; refine ⟨rfl, ?_⟩; intro j u hj; match j, hj with
  | 0, hj => simpa [pe] using hj
  | 1, hj => simpa [pe] using hj
  | j + 2, hj => simp [pe] at hj
 | succ i => simp at he
theorem Q5w (v : Value) (l : List Pr) (k x : ByteArray) (w : World) (h : LF w v l) (hs : Srt l) (hl : l.length <= 1000) : Calls prog 79 #[v, .agg #[.string k, .string x]] w (Q5c v (yL k x l) w) := by
 have hpos := Q4t (j6 hs) k
 have hres := Q4l (v := x) hs hpos (Q4s (l.map (·.1)) k)
 have hbi := Q4s (l.map (·.1)) k
 have k0 := (y5.refl [] w).alloc (.cells #[.string k, .string x] 138)
 have hcall := fun W (kW : y5 [] w W) => (Zo v (l.map pe) (l.map (·.1)) k W (SL.kept h kW) (Q55 l) (j6 hs) (by simp; omega)).mono fun _ _ h => Z9 h
 have hib := hpos.1
 rw [List.length_map] at hib
 have hlen : (l.map pe).length = l.length := List.length_map _
 have h' := h
 obtain ⟨p, c, ev⟩ := SL.shape h'
 rw [hlen] at ev
 subst ev
 have hone : One 2 [pe (k, x)] := by intro e he; simp at he; subst he; exact ⟨rfl, by intro u hu; simp [pe] at hu; rcases hu with rfl | rfl <;> rfl⟩
 have HCl : Hid (∀ W, y5 [] w W -> _) := fun W kW => Q3D _ (l.map pe) W (SL.kept h kW) (ZY l) (by simp; omega)
 generalize pK (l.map (·.1)) k = i at *
 generalize bK (l.map (·.1)) k = b at *
 have HF : Hid (∀ W, y5 [] w W -> _) := hcall
 have mid : ∀ (j : Nat) (e : yL k x l = l.take i ++ [(k, x)] ++ l.drop j), (l.map pe).take i ++ [pe (k, x)] ++ (l.map pe).drop j = (yL k x l).map pe := by
  intro j e; rw [e]; simp [pe]
 clear hcall hpos
 cases b with
 | false =>
  have hmid := mid (i) hres
  have HRp : Hid (∀ W B v2 gv, OW W B 138 2 v2 (l.map pe) -> B <= W.heap.size -> SL W 138 2 (.slice (some ⟨gv, 0, none⟩) 1 1) [pe (k, x)] -> v2.ownBlock ≠ some gv -> Calls prog 107 #[v2, .int .i64 (i : Int), .int .i64 ((i : Int)), .slice (some ⟨gv, 0, none⟩) 1 1] W (gj B 138 2 v2 ((yL k x l).map pe) W)) := by
   intro W B v2 gv ho hB hv hap
   have := Q5e B v2 (l.map pe) i W ho (ZY l) (by omega) (by omega) hB gv 0 1 [pe (k, x)] hv hone (by simp) (by simp) hap
   rw [hmid] at this
   exact this
  clear hbi hres hmid mid
  go_enter func79, ntmps79
  go_wp2_with (first | (go_at_call 83; refine (HF.out _ k0).mono ?_; rintro e w1 ⟨rfl, hk1⟩))
  have hS : WiS w k x w1.drew := hk1.get (by exact heap_alloc_new w _) (by simp)
  have hK1 : y5 [] w w1 := k0.trans hk1
  have hsz1 : w.heap.size + 1 <= w1.heap.size := by have := hk1.size; rwa [World.size_alloc] at this
  refine yj (WiS w k x) (by kernel_rfl) ?_
  refine hu 0 (.slice p l.length c) rfl (fun W hW => by rfl) hS ?_
  simp only [zP, zA, zC, zD, zE, zF]
  refine hu 2 (.int .i64 (i : Int)) rfl (fun W hW => by rfl) hS ?_
  simp only [zP, zA, zB, zC, zD, zE, zF]
  refine hu 3 (.int .i64 ((i : Int))) rfl (fun W hW => by rfl) hS ?_
  simp only [zP, zA, zB, zC, zD, zE, zF]
  refine hu 4 (.agg #[.string k, .string x]) rfl (fun W hW => y9 138 (.tmp 3) rfl ⟨w.heap.size, 0, none⟩ rfl _ (gG (e := pe (k, x)) _ hW ⟨rfl, Q5u k x⟩ underlying138 stp)) hS ?_
  simp only [zP, zA, zB, zC, zD, zE, zF]
  refine Q01 (i := 1) (j := 5) (by kernel_rfl) ?_ ?_
  ·refine yo rfl (by rfl) 108 #[.slice p l.length c] (yk _ _ _ rfl _ (by simp [Act.eval]) (ju _ _)) _ (HCl.out _ hK1.drew) ?_
   rintro e w2 ⟨v2, rfl, ho2, hk2⟩
   have hS2 : WiS w k x w2 := hk2.get hS (by simp)
   refine ⟨_, rfl, hS2, ?_⟩
   simp only [zP, zA, zB, zC, zD, zE, zF]
   have hsz2 : w.heap.size + 1 <= w1.drew.heap.size := hsz1
   have hk2s := hk2.size
   have k3 := (y5.refl [] w2).alloc (.cells #[.string k, .string x] 138)
   have hS3 : WiS w k x (w2.alloc (.cells #[.string k, .string x] 138)) := k3.get hS2 (by simp)
   have ho3 : OW (w2.alloc (.cells #[.string k, .string x] 138)) w1.drew.heap.size 138 2 v2 (l.map pe) := ⟨yQ ho2.1 k3 (by simp), ho2.2⟩
   have hv3 := Q5v w2 k x
   have hap3 : v2.ownBlock ≠ some w2.heap.size := by intro e; have := Q2B ho2.1 w2.heap.size (by rw [e]; simp); omega
   have hb3 : w1.drew.heap.size <= (w2.alloc (.cells #[.string k, .string x] 138)).heap.size := by rw [World.size_alloc]; omega
   refine yf (i := 5) (by kernel_rfl) (yy rfl (by rfl) _ _ (qf 134 1 (.tmp 24) rfl (.agg #[.string k, .string x]) rfl _ (QK _ k x)) ⟨hS3, ?_⟩)
   simp only [zP, zA, zB, zC, zD, zE, zF]
   refine yf (i := 6) (by kernel_rfl) (yo rfl (by rfl) 107 #[v2, .int .i64 (i : Int), .int .i64 ((i : Int)), .slice (some ⟨w2.heap.size, 0, none⟩) 1 1] (yk _ _ _ rfl _ (by simp [Act.eval]) (jN _ _)) _ (HRp.out _ _ v2 w2.heap.size ho3 hb3 hv3 hap3) ?_)
   rintro e w4 ⟨v4, rfl, ho4, hk4⟩
   have hS4 : WiS w k x w4 := hk4.get hS3 (by intro hm; have := qm ho3.1 _ hm; omega)
   refine ⟨v4, rfl, hS4, ?_⟩
   simp only [zP, zA, zB, zC, zD, zE, zF]
   refine yf (i := 7) (by kernel_rfl) (yy rfl (by rfl) v4 w4 rfl ⟨hS4, ?_⟩)
   simp only [zP, zA, zB, zC, zD, zE, zF]
   refine wpAnyH_done (by kernel_rfl) ?_ _
   have K4 : y5 [] w w4 := (hK1.drew.trans (hk2.trans k3)).trans2 hk4 fun y hy => Or.inr (by have := qm ho3.1 y hy; omega)
   have FIN : Hid (Q5c (.slice p l.length c) (yL k x l) w (.returned v4) w4) := ⟨v4, rfl, ho4.sl, fun y hy => Or.inr (by have := qm ho4.1 y (by rw [hy]; simp); omega), K4⟩
   clear hS hS2 hS3 hS4 ho4 hk4 K4 ho3 hv3 hap3 hb3 ho2 hk2
   go_wp2
   go_ret
   exact FIN.out
  ·have k2 := (y5.refl [] w1.drew).alloc (.cells #[.string k, .string x] 138)
   have hS2 : WiS w k x (w1.drew.alloc (.cells #[.string k, .string x] 138)) := k2.get hS (by simp)
   refine yy rfl (by rfl) _ _ (qf 134 1 (.tmp 24) rfl (.agg #[.string k, .string x]) rfl _ (QK _ k x)) ⟨hS2, ?_⟩
   simp only [zP, zA, zB, zC, zD, zE, zF]
   refine yf (i := 1) (by kernel_rfl) (yo rfl (by rfl) 108 #[.slice p l.length c] (yk _ _ _ rfl _ (by simp [Act.eval]) (ju _ _)) _ (HCl.out _ (hK1.drew.alloc _)) ?_)
   rintro e w2 ⟨v2, rfl, ho2, hk2⟩
   have hS3 : WiS w k x w2 := hk2.get hS2 (by simp)
   refine ⟨_, rfl, hS3, ?_⟩
   simp only [zP, zA, zB, zC, zD, zE, zF]
   have hsz2 : w.heap.size + 1 <= w1.drew.heap.size := hsz1
   have hk2s := hk2.size
   rw [World.size_alloc] at hk2s
   have ho3 : OW w2 (w1.drew.heap.size + 1) 138 2 v2 (l.map pe) := by have := ho2; rw [World.size_alloc] at this; exact this
   have hv3 := (Q5v w1.drew k x).kept hk2
   have hap3 : v2.ownBlock ≠ some w1.drew.heap.size := by intro e; have := qm ho3.1 w1.drew.heap.size (by rw [e]; simp); omega
   have hb3 : w1.drew.heap.size + 1 <= w2.heap.size := hk2s
   refine yf (i := 6) (by kernel_rfl) (yo rfl (by rfl) 107 #[v2, .int .i64 (i : Int), .int .i64 ((i : Int)), .slice (some ⟨w1.drew.heap.size, 0, none⟩) 1 1] (yk _ _ _ rfl _ (by simp [Act.eval]) (jN _ _)) _ (HRp.out _ _ v2 w1.drew.heap.size ho3 hb3 hv3 hap3) ?_)
   rintro e w4 ⟨v4, rfl, ho4, hk4⟩
   have hS4 : WiS w k x w4 := hk4.get hS3 (by intro hm; have := qm ho3.1 _ hm; omega)
   refine ⟨v4, rfl, hS4, ?_⟩
   simp only [zP, zA, zB, zC, zD, zE, zF]
   refine yf (i := 7) (by kernel_rfl) (yy rfl (by rfl) v4 w4 rfl ⟨hS4, ?_⟩)
   simp only [zP, zA, zB, zC, zD, zE, zF]
   refine wpAnyH_done (by kernel_rfl) ?_ _
   have K4 : y5 [] w w4 := (hK1.drew.trans (k2.trans hk2)).trans2 hk4 fun y hy => Or.inr (by have := qm ho3.1 y hy; omega)
   have FIN : Hid (Q5c (.slice p l.length c) (yL k x l) w (.returned v4) w4) := ⟨v4, rfl, ho4.sl, fun y hy => Or.inr (by have := qm ho4.1 y (by rw [hy]; simp); omega), K4⟩
   clear hS hS2 hS3 hS4 ho4 hk4 K4 ho3 hv3 hap3 hb3 ho2 hk2
   go_wp2
   go_ret
   exact FIN.out
 | true =>
  have hil : i < l.length := by
   have := (List.getElem?_eq_some_iff.1 (hbi.1 rfl)).1
   rwa [List.length_map] at this
  have hmid := mid (i + 1) hres
  have HRp : Hid (∀ W B v2 gv, OW W B 138 2 v2 (l.map pe) -> B <= W.heap.size -> SL W 138 2 (.slice (some ⟨gv, 0, none⟩) 1 1) [pe (k, x)] -> v2.ownBlock ≠ some gv -> Calls prog 107 #[v2, .int .i64 (i : Int), .int .i64 ((i : Int) + 1), .slice (some ⟨gv, 0, none⟩) 1 1] W (gj B 138 2 v2 ((yL k x l).map pe) W)) := by
   intro W B v2 gv ho hB hv hap
   have := Q3Y B v2 (l.map pe) i (i + 1) W ho (ZY l) (by omega) (by omega) (by omega) hB gv 0 1 [pe (k, x)] hv hone (by simp) (by simp) hap
   rw [hmid] at this
   exact this
  clear hbi hres hmid mid
  go_enter func79, ntmps79
  go_wp2_with (first | (go_at_call 83; refine (HF.out _ k0).mono ?_; rintro e w1 ⟨rfl, hk1⟩))
  have hS : WiS w k x w1.drew := hk1.get (by exact heap_alloc_new w _) (by simp)
  have hK1 : y5 [] w w1 := k0.trans hk1
  have hsz1 : w.heap.size + 1 <= w1.heap.size := by have := hk1.size; rwa [World.size_alloc] at this
  refine yj (WiS w k x) (by kernel_rfl) ?_
  refine hu 0 (.slice p l.length c) rfl (fun W hW => by rfl) hS ?_
  simp only [zP, zA, zC, zD, zE, zF]
  refine hu 2 (.int .i64 (i : Int)) rfl (fun W hW => by rfl) hS ?_
  simp only [zP, zA, zB, zC, zD, zE, zF]
  refine hu 3 (.int .i64 ((i : Int) + 1)) rfl (fun W hW => by rfl) hS ?_
  simp only [zP, zA, zB, zC, zD, zE, zF]
  refine hu 4 (.agg #[.string k, .string x]) rfl (fun W hW => y9 138 (.tmp 3) rfl ⟨w.heap.size, 0, none⟩ rfl _ (gG (e := pe (k, x)) _ hW ⟨rfl, Q5u k x⟩ underlying138 stp)) hS ?_
  simp only [zP, zA, zB, zC, zD, zE, zF]
  refine Q01 (i := 1) (j := 5) (by kernel_rfl) ?_ ?_
  ·refine yo rfl (by rfl) 108 #[.slice p l.length c] (yk _ _ _ rfl _ (by simp [Act.eval]) (ju _ _)) _ (HCl.out _ hK1.drew) ?_
   rintro e w2 ⟨v2, rfl, ho2, hk2⟩
   have hS2 : WiS w k x w2 := hk2.get hS (by simp)
   refine ⟨_, rfl, hS2, ?_⟩
   simp only [zP, zA, zB, zC, zD, zE, zF]
   have hsz2 : w.heap.size + 1 <= w1.drew.heap.size := hsz1
   have hk2s := hk2.size
   have k3 := (y5.refl [] w2).alloc (.cells #[.string k, .string x] 138)
   have hS3 : WiS w k x (w2.alloc (.cells #[.string k, .string x] 138)) := k3.get hS2 (by simp)
   have ho3 : OW (w2.alloc (.cells #[.string k, .string x] 138)) w1.drew.heap.size 138 2 v2 (l.map pe) := ⟨yQ ho2.1 k3 (by simp), ho2.2⟩
   have hv3 := Q5v w2 k x
   have hap3 : v2.ownBlock ≠ some w2.heap.size := by intro e; have := Q2B ho2.1 w2.heap.size (by rw [e]; simp); omega
   have hb3 : w1.drew.heap.size <= (w2.alloc (.cells #[.string k, .string x] 138)).heap.size := by rw [World.size_alloc]; omega
   refine yf (i := 5) (by kernel_rfl) (yy rfl (by rfl) _ _ (qf 134 1 (.tmp 24) rfl (.agg #[.string k, .string x]) rfl _ (QK _ k x)) ⟨hS3, ?_⟩)
   simp only [zP, zA, zB, zC, zD, zE, zF]
   refine yf (i := 6) (by kernel_rfl) (yo rfl (by rfl) 107 #[v2, .int .i64 (i : Int), .int .i64 ((i : Int) + 1), .slice (some ⟨w2.heap.size, 0, none⟩) 1 1] (yk _ _ _ rfl _ (by simp [Act.eval]) (jN _ _)) _ (HRp.out _ _ v2 w2.heap.size ho3 hb3 hv3 hap3) ?_)
   rintro e w4 ⟨v4, rfl, ho4, hk4⟩
   have hS4 : WiS w k x w4 := hk4.get hS3 (by intro hm; have := qm ho3.1 _ hm; omega)
   refine ⟨v4, rfl, hS4, ?_⟩
   simp only [zP, zA, zB, zC, zD, zE, zF]
   refine yf (i := 7) (by kernel_rfl) (yy rfl (by rfl) v4 w4 rfl ⟨hS4, ?_⟩)
   simp only [zP, zA, zB, zC, zD, zE, zF]
   refine wpAnyH_done (by kernel_rfl) ?_ _
   have K4 : y5 [] w w4 := (hK1.drew.trans (hk2.trans k3)).trans2 hk4 fun y hy => Or.inr (by have := qm ho3.1 y hy; omega)
   have FIN : Hid (Q5c (.slice p l.length c) (yL k x l) w (.returned v4) w4) := ⟨v4, rfl, ho4.sl, fun y hy => Or.inr (by have := qm ho4.1 y (by rw [hy]; simp); omega), K4⟩
   clear hS hS2 hS3 hS4 ho4 hk4 K4 ho3 hv3 hap3 hb3 ho2 hk2
   go_wp2
   go_ret
   exact FIN.out
  ·have k2 := (y5.refl [] w1.drew).alloc (.cells #[.string k, .string x] 138)
   have hS2 : WiS w k x (w1.drew.alloc (.cells #[.string k, .string x] 138)) := k2.get hS (by simp)
   refine yy rfl (by rfl) _ _ (qf 134 1 (.tmp 24) rfl (.agg #[.string k, .string x]) rfl _ (QK _ k x)) ⟨hS2, ?_⟩
   simp only [zP, zA, zB, zC, zD, zE, zF]
   refine yf (i := 1) (by kernel_rfl) (yo rfl (by rfl) 108 #[.slice p l.length c] (yk _ _ _ rfl _ (by simp [Act.eval]) (ju _ _)) _ (HCl.out _ (hK1.drew.alloc _)) ?_)
   rintro e w2 ⟨v2, rfl, ho2, hk2⟩
   have hS3 : WiS w k x w2 := hk2.get hS2 (by simp)
   refine ⟨_, rfl, hS3, ?_⟩
   simp only [zP, zA, zB, zC, zD, zE, zF]
   have hsz2 : w.heap.size + 1 <= w1.drew.heap.size := hsz1
   have hk2s := hk2.size
   rw [World.size_alloc] at hk2s
   have ho3 : OW w2 (w1.drew.heap.size + 1) 138 2 v2 (l.map pe) := by have := ho2; rw [World.size_alloc] at this; exact this
   have hv3 := (Q5v w1.drew k x).kept hk2
   have hap3 : v2.ownBlock ≠ some w1.drew.heap.size := by intro e; have := qm ho3.1 w1.drew.heap.size (by rw [e]; simp); omega
   have hb3 : w1.drew.heap.size + 1 <= w2.heap.size := hk2s
   refine yf (i := 6) (by kernel_rfl) (yo rfl (by rfl) 107 #[v2, .int .i64 (i : Int), .int .i64 ((i : Int) + 1), .slice (some ⟨w1.drew.heap.size, 0, none⟩) 1 1] (yk _ _ _ rfl _ (by simp [Act.eval]) (jN _ _)) _ (HRp.out _ _ v2 w1.drew.heap.size ho3 hb3 hv3 hap3) ?_)
   rintro e w4 ⟨v4, rfl, ho4, hk4⟩
   have hS4 : WiS w k x w4 := hk4.get hS3 (by intro hm; have := qm ho3.1 _ hm; omega)
   refine ⟨v4, rfl, hS4, ?_⟩
   simp only [zP, zA, zB, zC, zD, zE, zF]
   refine yf (i := 7) (by kernel_rfl) (yy rfl (by rfl) v4 w4 rfl ⟨hS4, ?_⟩)
   simp only [zP, zA, zB, zC, zD, zE, zF]
   refine wpAnyH_done (by kernel_rfl) ?_ _
   have K4 : y5 [] w w4 := (hK1.drew.trans (k2.trans hk2)).trans2 hk4 fun y hy => Or.inr (by have := qm ho3.1 y hy; omega)
   have FIN : Hid (Q5c (.slice p l.length c) (yL k x l) w (.returned v4) w4) := ⟨v4, rfl, ho4.sl, fun y hy => Or.inr (by have := qm ho4.1 y (by rw [hy]; simp); omega), K4⟩
   clear hS hS2 hS3 hS4 ho4 hk4 K4 ho3 hv3 hap3 hb3 ho2 hk2
   go_wp2
   go_ret
   exact FIN.out
theorem Q5x {F : List Pr -> List Pr} {k : ByteArray} (hF : Qf F k) (h : Nat) (f : ByteArray) (ks : List (Kid h)) (hw : WFN (h + 1) f ks) (hf : q7 (h + 1) ks) (hk : ge k f) (h22 : 0 < h + 1 -> 22 <= yl (h + 1) ks) :
  ∃ a, ks[qs ks k]? = some a /\ a ∈ ks /\ ge k a.1 /\ ZC h (ks.set (qs ks k) ⟨a.1, yD F k h a.2, a.3⟩) (qs ks k) /\ yD F k (h + 1) ks = qw h (ks.set (qs ks k) ⟨a.1, yD F k h a.2, a.3⟩) (qs ks k) := by
 obtain ⟨⟨n0, x0, r0, e0⟩, hkw⟩ := (yF h f ks).1 hw
 have hfull := (yM h ks).1 hf
 obtain ⟨A, a, B, esp, hlen, hga, hB⟩ := Qr f n0 x0 r0 k (by rw [<- e0]; exact hkw) hk
 rw [<- e0] at esp hlen
 have hamem : a ∈ ks := by rw [esp]; simp
 have hget : ks[qs ks k]? = some a := by
  rw [<- hlen, esp]; simp
 have haR := hfull a hamem
 have ih := jZ hF h a.1 a.2 (hkw.all a hamem) haR.2 hga (fun _ => by have := haR.1.1; omega)
 have hset : ks.set (qs ks k) ⟨a.1, yD F k h a.2, a.3⟩ = A ++ (([⟨a.1, yD F k h a.2, a.3⟩] : List (Kid h)) ++ B) := by
  rw [<- hlen]
  conv => lhs; rw [esp]
  simp
 have hord := hkw.ord
 rw [esp] at hord
 obtain ⟨pA, pMB, pAMB⟩ := List.pairwise_append.1 hord
 obtain ⟨_, pB, pMB'⟩ := List.pairwise_append.1 pMB
 have hAlt : ∀ p ∈ yA h A, bl p.1 k = true := by
  intro p hp
  obtain ⟨c, hc, hp⟩ := yX.1 hp
  exact qj ((pAMB c hc a (by simp)).2 p hp) hga
 have hBgt : ∀ p ∈ yA h B, bl k p.1 = true := by
  intro p hp
  obtain ⟨c, hc, hp⟩ := yX.1 hp
  exact qj (hB c hc) (WFN.keys (hkw.all c (by rw [esp]; simp [hc])) p hp).1
 have hmemF : ∀ p ∈ yN h (yD F k h a.2), p ∈ yN h a.2 \/ p.1 = k := by
  intro p hp
  rw [ih.flat] at hp
  rcases hF.mem _ p hp with e | e
  ·exact Or.inl e
  ·exact Or.inr e.1
 have kw' : KW h (A ++ (([⟨a.1, yD F k h a.2, a.3⟩] : List (Kid h)) ++ B)) := by
  refine ⟨List.pairwise_append.2 ⟨pA, List.pairwise_append.2 ⟨by simp, pB, ?_⟩, ?_⟩, ?_⟩
  ·intro x hx b hb
   simp at hx; subst hx
   have h1 := pMB' a (by simp) b hb
   refine ⟨h1.1, fun p hp => ?_⟩
   rcases hmemF p hp with e | e
   ·exact h1.2 p e
   ·rw [e]; exact hB b hb
  ·intro x hx b hb
   rcases List.mem_append.1 hb with hb | hb
   ·simp at hb; subst hb
    exact pAMB x hx a (by simp)
   ·exact pAMB x hx b (List.mem_append_right _ hb)
  ·intro x hx
   rcases List.mem_append.1 hx with hx | hx
   ·exact hkw.all x (by rw [esp]; simp [hx])
   rcases List.mem_append.1 hx with hx | hx
   ·simp at hx; subst hx; exact ih.wf
   ·exact hkw.all x (by rw [esp]; simp [hx])
 have hsz : yl (h + 1) ks = 11 * ks.length := rfl
 have hlk : ks.length = A.length + (1 + B.length) := by rw [esp]; simp; omega
 have h22' := h22 (by omega)
 have loose : ZC h (A ++ (([⟨a.1, yD F k h a.2, a.3⟩] : List (Kid h)) ++ B)) (qs ks k) := by
  rw [<- hlen]
  refine ⟨kw', ?_, by simp, ?_, ?_, ?_⟩
  ·simp only [List.length_append, List.length_cons, List.length_nil]; omega
  ·intro x hx
   rcases List.mem_append.1 hx with hx | hx
   ·exact (hfull x (by rw [esp]; simp [hx])).2
   rcases List.mem_append.1 hx with hx | hx
   ·simp at hx; subst hx; exact ih.full
   ·exact (hfull x (by rw [esp]; simp [hx])).2
  ·intro j x hj hne
   have : x ∈ A \/ x ∈ B := by
    rcases Nat.lt_or_ge j A.length with hj' | hj'
    ·rw [List.getElem?_append_left hj'] at hj; exact Or.inl (List.mem_of_getElem? hj)
    ·rw [List.getElem?_append_right hj', List.getElem?_append_right (by simp; omega)] at hj
     exact Or.inr (List.mem_of_getElem? hj)
   rcases this with hx | hx
   ·exact (hfull x (by rw [esp]; simp [hx])).1
   ·exact (hfull x (by rw [esp]; simp [hx])).1
  ·intro x hx
   simp at hx; subst hx
   have := ih.hi; have := ih.lo; have := haR.1.1; have := haR.1.2
   exact ⟨by show 18 <= yl h (yD F k h a.2); omega, by show yl h (yD F k h a.2) <= 144; omega⟩
 refine ⟨a, hget, hamem, hga, by rw [hset]; exact loose, ?_⟩
 show chgK h (yD F k h) k ks = _
 unfold chgK
 rw [hget]
theorem Q5y (p : Option Addr) (n c : Nat) : qY "store/tree.changed" (.iface 135 (.slice p n c)) 184 (.slice p n c) := ⟨_, rfl, fun _ => by kernel_rfl, fun _ _ => by kernel_rfl⟩
theorem Q5z (p : Option Addr) (n c : Nat) : qY "store/tree.changed" (.iface 180 (.slice p n c)) 214 (.slice p n c) := ⟨_, rfl, fun _ => by kernel_rfl, fun _ _ => by kernel_rfl⟩
structure Cl (F : List Pr -> List Pr) (Q : List Pr -> Prop) (fid : FuncId) (cap : Value) (w : World) : Prop where
 en : ∀ (args : Array Value) (W : World), (callFunc fid args).run prog W = .ok (.enter fid args) W
 call : ∀ W v l, y5 [] w W -> LF W v l -> Srt l -> l.length <= 1000 -> Q l -> Calls prog fid #[v, cap] W (Q5c v (F l) W)
theorem Cl.k {F : List Pr -> List Pr} {Q : List Pr -> Prop} {fid : FuncId} {cap : Value} {w W : World} (h : Cl F Q fid cap w) (k : y5 [] w W) : Cl F Q fid cap W := ⟨h.en, fun W' v l kW => h.call W' v l (k.trans kW)⟩
theorem Q5A {F : List Pr -> List Pr} {Q : List Pr -> Prop} {fid : FuncId} {cap : Value} {w : World} (hc : Cl F Q fid cap w) (v : Value) (l : List Pr) (k : ByteArray) (h : LF w v l) (hs : Srt l) (hl : l.length <= 1000) (hq : Q l) :
  Calls prog 184 #[v, .string k, .func (.func fid) #[] #[cap]] w fun e w' => ∃ v', e = .returned (.iface 135 v') /\ LF w' v' (F l) /\ (∀ y, v'.ownBlock = some y -> v.ownBlock = some y \/ w.heap.size <= y) /\ y5 [] w w' := by
 have HC : Hid (Calls _ _ _ _ _) := hc.call w v l (y5.refl _ _) h hs hl hq
 have he := hc.en
 obtain ⟨p, c, ev⟩ := SL.shape h
 rw [List.length_map] at ev
 subst ev
 clear hc h hs hl hq
 go_enter func184, ntmps184
 go_wp2_with (first | (go_at_fn fid; refine HC.out.mono ?_; rintro e w1 ⟨v1, rfl, hl1, ho1, hk1⟩; obtain ⟨p1, c1, ev1⟩ := SL.shape hl1; rw [List.length_map] at ev1; subst ev1))
 go_ret
 exact ⟨_, rfl, hl1, ho1, hk1⟩
theorem Q5B (es : List El) (hw : Wd 3 es) (i : Nat) (e : El) (u : Value) (h : es[i]? = some e) : fl (es.set i (e.set 2 u)) = (fl es).set (i * 3 + 2) u := by
 induction es generalizing i with
 | nil => simp at h
 | cons x r ih =>
  have hx : x.length = 3 := hw x (by simp)
  cases i with
  | zero =>
   simp at h; subst h
   rw [zF, jq, jq, List.set_append_left _ _ (by omega)]
  | succ i =>
   rw [zE, jq, jq, ih hw.tl i (by simpa using h), List.set_append_right _ _ (by omega), show (i + 1) * 3 + 2 - x.length = i * 3 + 2 by omega]
theorem OW.set2 {w : World} {B : Nat} {t : TypeId} {es : List El} (hw : Wd 3 es) {g n cap : Nat} {cur : List Value} (hB : B <= g) (hg : Rw w g t cur) (hn : n = es.length) (h1 : n <= cap) (h2 : cap <= maxLen) (h3 : cur.length = cap * 3) (htk : cur.take (n * 3) = fl es) (i : Nat) (e : El) (he : es[i]? = some e) (u : Value) :
  OW (w.setCell ⟨g, i * 3 + 2, none⟩ u) B t 3 (.slice (some ⟨g, 0, none⟩) n cap) (es.set i (e.set 2 u)) /\ y5 [g] w (w.setCell ⟨g, i * 3 + 2, none⟩ u) := by
 have hs := yg (i := i * 3 + 2) u hg
 have hw' : Wd 3 (es.set i (e.set 2 u)) := by
  intro x hx
  rcases List.mem_or_eq_of_mem_set hx with hx | hx
  ·exact hw x hx
  ·rw [hx, List.length_set]
   exact hw e (List.mem_of_getElem? he)
 refine ⟨OW.close (cur := cur.set (i * 3 + 2) u) hw' hB ?_ (by simp [hn]) h1 h2 (by simp [h3]) ?_, (y5.refl _ _).setCell (Or.inl (by simp)) _⟩
 ·unfold Rw
  rw [hs]
  simp
 ·rw [List.take_set, htk, Q5B es hw i e u he]
theorem Q5C {h : Nat} {A : Nat -> Prop} {v2 : Value} {xs : List KE} {ks : List (Kid h)} {i : Nat} {q : Kid h} {n' : Nd h} {y : KE} {w w1 w2 w3 : World} {a : Value} {g2 cap2 : Nat} {cur : List Value}
  (hf : F2 (KR w A h) ks xs) (hAb : ∀ z, A z -> z < w.heap.size) (hq : ks[i]? = some q) (hy : xs[i]? = some y) (hkl : ks.length <= 1000) (hloose : ZC h (ks.set i ⟨q.1, n', q.3⟩) i)
  (k1 : y5 [] w w1) (k2 : y5 [] w1 w2) (k3 : y5 [] w2 w3) (hB : w1.heap.size <= g2) (hg : Rw w2 g2 75 cur) (hc1 : ks.length <= cap2) (hc2 : cap2 <= maxLen) (hc3 : cur.length = cap2 * 3) (htk : cur.take (ks.length * 3) = fl (xs.map ke))
  (hn3 : ND w3 (fun z => A z \/ w2.heap.size <= z) h n' a) (hv2 : v2 = .slice (some ⟨g2, 0, none⟩) ks.length cap2) :
  Calls prog 227 #[v2, .int .i64 i] (w3.setCell ⟨g2, i * 3 + 2, none⟩ a) fun e w5 => ∃ v5 xs5, e = .returned v5 /\ SL w5 75 3 v5 (xs5.map ke) /\ (∀ z, v5.ownBlock = some z -> w.heap.size <= z) /\ F2 (KR w5 (fun z => A z \/ w.heap.size <= z) h) (qw h (ks.set i ⟨q.1, n', q.3⟩) i) xs5 /\ y5 [] w w5 := by
 subst hv2
 have hlen : (xs.map ke).length = ks.length := by rw [List.length_map, hf.1]
 have hg2 : g2 < w2.heap.size := (Array.getElem?_eq_some_iff.1 hg).1
 have hg3 : Rw w3 g2 75 cur := hg.kept k3 (by simp)
 have hye := (hf.2 i q y hq hy).1
 obtain ⟨ho4, k4⟩ := OW.set2 (B := w1.heap.size) (ZZ (qS hf)).wd hB hg3 hlen.symm hc1 hc2 hc3 htk i (ke y) (by rw [List.getElem?_map, hy]; rfl) a
 have es4 : (xs.map ke).set i ((ke y).set 2 a) = (xs.set i ⟨y.1, a, y.3⟩).map ke := by rw [List.map_set]; rfl
 rw [es4] at ho4
 have s1 := k1.size
 have s2 := k2.size
 have s3 := k3.size
 have s4 := k4.size
 have hnA : ∀ z ∈ [g2], ¬ (A z \/ w2.heap.size <= z) := by
  intro z hz
  simp at hz
  subst hz
  rintro (h1 | h1)
  ·have := hAb _ h1; omega
  ·omega
 have up : F2 (KR (w3.setCell ⟨g2, i * 3 + 2, none⟩ a) (fun z => A z \/ w2.heap.size <= z) h) ks xs := hf.mono fun _ _ _ hr => KR.kept (KR.kept hr ((k1.trans k2).trans k3) (by simp) fun _ h => Or.inl h) k4 hnA fun _ h => h
 have hnew : KR (w3.setCell ⟨g2, i * 3 + 2, none⟩ a) (fun z => A z \/ w2.heap.size <= z) h ⟨q.1, n', q.3⟩ ⟨y.1, a, y.3⟩ := ⟨hye, ND.kept k4 hnA (fun _ h => h) hn3⟩
 refine (Q5t ho4 (by omega) (up.set i hnew) (fun z hz e => hnA g2 (by simp) (by cases e; exact hz)) (by simpa using hkl) i hloose).mono ?_
 rintro e w5 ⟨v5, xs5, rfl, ho5, hf5, hk5⟩
 refine ⟨v5, xs5, rfl, ho5.sl, fun z hz => ?_, ?_, ?_⟩
 ·have := qm ho5.1 z (by rw [hz]; simp)
  omega
 ·refine hf5.mono fun _ _ _ hr => KR.kept hr (y5.refl [] _) (by simp) ?_
  rintro z ((h1 | h1) | h1)
  ·exact Or.inl h1
  ·exact Or.inr (by omega)
  ·exact Or.inr (by omega)
 ·have k45 : y5 [g2] w3 w5 := k4.trans hk5
  exact ((k1.trans k2).trans k3).trans2 k45 fun z hz => Or.inr (by simp at hz; subst hz; omega)
def Q5D (F : List Pr -> List Pr) (Q : List Pr -> Prop) (k : ByteArray) (fid : FuncId) (cap : Value) (h : Nat) : Prop := ∀ (w : World) (A : Nat -> Prop) (f : ByteArray) (n : Nd h) (x : Value), ND w A h n x -> (∀ y, A y -> y < w.heap.size) -> WFN h f n -> q7 h n -> ge k f -> (0 < h -> 22 <= yl h n) -> yl h n <= 122 -> Cl F Q fid cap w -> Q (qV k h n) ->
  ∃ fn v, qY "store/tree.changed" x fn v /\ Calls prog fn #[v, .string k, .func (.func fid) #[] #[cap]] w fun e w' => ∃ a, e = .returned a /\ ND w' (fun y => A y \/ w.heap.size <= y) h (yD F k h n) a /\ y5 [] w w'
theorem Q5E {F : List Pr -> List Pr} {Q : List Pr -> Prop} {k : ByteArray} {fid : FuncId} {cap : Value} (hF : Qf F k) (h : Nat) (IH : Q5D F Q k fid cap h) {A : Nat -> Prop} {v : Value} {xs : List KE} {f : ByteArray} {ks : List (Kid h)} {w : World} (hl : SL w 75 3 v (xs.map ke)) (hf : F2 (KR w A h) ks xs) (hAb : ∀ y, A y -> y < w.heap.size)
  (hw : WFN (h + 1) f ks) (hfu : q7 (h + 1) ks) (hk : ge k f) (h22 : 22 <= 11 * ks.length) (hsz : 11 * ks.length <= 122) (hc : Cl F Q fid cap w) (hQ : Q (qV k (h + 1) ks)) :
  Calls prog 214 #[v, .string k, .func (.func fid) #[] #[cap]] w fun e w5 => ∃ v5 xs5, e = .returned (.iface 180 v5) /\ SL w5 75 3 v5 (xs5.map ke) /\ (∀ z, v5.ownBlock = some z -> w.heap.size <= z) /\ F2 (KR w5 (fun z => A z \/ w.heap.size <= z) h) (yD F k (h + 1) ks) xs5 /\ y5 [] w w5 := by
 obtain ⟨q, hq, hqm, hgq, hloose, hres⟩ := Q5x hF h f ks hw hfu hk (fun _ => h22)
 have hkw := ((yF h f ks).1 hw).2
 have hqf := (yM h ks).1 hfu q hqm
 have hlt : qs ks k < ks.length := (List.getElem?_eq_some_iff.1 hq).1
 have hlen : (xs.map ke).length = ks.length := by rw [List.length_map, hf.1]
 have HWy : Hid (Calls _ _ _ _ _) := Q56 h A v xs ks k w hl hf hkw (by omega)
 obtain ⟨y, hy, hr⟩ := hf.get hq
 have HCl : Hid (∀ W, y5 [] w W -> _) := fun W kW => Q3E v (xs.map ke) W (hl.kept kW) (ZZ (qS hf)) (by omega)
 have HIH : Hid (∀ W, y5 [] w W -> _) := fun W kW => IH W A q.1 q.2 y.2 (ND.k hr.2 kW) (fun z hz => Nat.lt_of_lt_of_le (hAb z hz) kW.size) (hkw.all q hqm) hqf.2 hgq (fun _ => by have := hqf.1.1; omega) hqf.1.2 (hc.k kW) (by rw [QJ k h ks q hq] at hQ; exact hQ)
 obtain ⟨g, off, cp, cur, ev, hg, hc1, hc2, hc3, hcur⟩ := hl.at_ (by omega)
 rw [hlen] at ev
 have hcl := (hcur (qs ks k) (ke y) (by rw [List.getElem?_map, hy]; rfl)).2
 have HCell : Hid (∀ W, y5 [] w W -> W.cell? ⟨g, off + qs ks k * 3 + 2, none⟩ = some y.2) := fun W kW => by rw [cell_of_row _ _ _ _ _ _ (kW.get hg (by simp))]; exact hcl 2 _ rfl
 have HT : Hid (∀ w1 w2 w3 a g2 cap2 cur (v2 : Value) n', n' = yD F k h q.2 -> y5 [] w w1 -> y5 [] w1 w2 -> y5 [] w2 w3 -> w1.heap.size <= g2 -> Rw w2 g2 75 cur -> ks.length <= cap2 -> cap2 <= maxLen -> cur.length = cap2 * 3 -> cur.take (ks.length * 3) = fl (xs.map ke) -> ND w3 (fun z => A z \/ w2.heap.size <= z) h n' a -> v2 = .slice (some ⟨g2, 0, none⟩) ks.length cap2 -> _) := fun w1 w2 w3 a g2 cap2 cur v2 n' en k1 k2 k3 hB hg c1 c2 c3 htk hn hv => Q5C hf hAb hq hy (by omega) (by rw [en]; exact hloose) k1 k2 k3 hB hg c1 c2 c3 htk hn hv
 have HR : Hid _ := hres
 have hOpen : ∀ W B vl, OW W B 75 3 vl (xs.map ke) -> ∃ g cap cur, vl = .slice (some ⟨g, 0, none⟩) ks.length cap /\ B <= g /\ Rw W g 75 cur /\ ks.length <= cap /\ cap <= maxLen /\ cur.length = cap * 3 /\ cur.take (ks.length * 3) = fl (xs.map ke) := by
  intro W B vl ho
  have := ho.open (by omega)
  rw [hlen] at this
  exact this
 have HO : Hid _ := hOpen
 have hCell2 : ∀ (W : World) (g2 : Nat) (cap2 : Nat) (cur : List Value), Rw W g2 75 cur -> cur.take (ks.length * 3) = fl (xs.map ke) -> W.cell? ⟨g2, qs ks k * 3 + 2, none⟩ = some y.2 := by
  intro W g2 cap2 cur hg htk
  have := Q03 (ZZ (qS hf)).wd (qs ks k) (ke y) (by rw [List.getElem?_map, hy]; rfl) 2 y.2 rfl
  rw [<- htk, List.getElem?_take, if_pos (by omega)] at this
  rw [cell_of_row _ _ _ _ _ _ hg]
  simpa using this
 have HC2 : Hid _ := hCell2
 subst ev
 have hbd : ks.length <= 1000 := by omega
 generalize qs ks k = i at *
 generalize ks.length = m at *
 clear hcl hcur hq hqm hgq hloose hres hkw hqf hlen hy hr hw hfu hk h22 hsz hc hl hf hOpen hCell2 hQ
 go_enter func214, ntmps214
 go_wp2_with (first
  | (go_at_call 225; refine HWy.out.mono ?_; rintro e w1 ⟨rfl, hk1⟩)
  | (go_at_call 226; refine (HCl.out _ hk1).mono ?_; rintro e w2 ⟨v2, rfl, ho2, hk2⟩; obtain ⟨g2, cap2, cur2, ev2, hB2, hg2, hd1, hd2, hd3, htk2⟩ := HO.out w2 _ v2 ho2; obtain ⟨fn, vv, ⟨t, ex, hm, he⟩, hcall⟩ := HIH.out w2 (hk1.trans hk2); have c1 := HCell.out w2 (hk1.trans hk2); rw [ex] at c1; subst ev2; have HCall : Hid (Calls _ _ _ _ _) := hcall; clear hcall ho2; have HTK : Hid _ := htk2; clear htk2)
  | (refine y8 rfl _ _ (ya 180 (.tmp 16) (.tmp 17) rfl g off m cp i 3 rfl rfl 75 underlying180 jB hlt (off + i * 3) rfl) ?_)
  | (go_at_fn fn; refine HCall.out.mono ?_; rintro e w3 ⟨a, rfl, hn3, hk3⟩; have hg3 : Rw w3 g2 75 cur2 := hg2.kept hk3 (by simp); have c3 := HC2.out w3 g2 cap2 cur2 hg3 HTK.out; rw [ex] at c3; have fz : w3.frozen? ⟨g2, i * 3 + 2, none⟩ = false := frozen_of_row _ _ _ _ _ hg3; obtain ⟨ta, va, ea⟩ := hn3.iface; have HN3 : Hid _ := hn3; clear hn3; subst ea)
  | (refine y8 rfl _ _ (ya 180 (.tmp 14) (.tmp 15) rfl g2 0 m cap2 i 3 rfl rfl 75 underlying180 jB hlt (i * 3) (by omega)) ?_)
  | (go_at_call 227; refine (HT.out w1 w2 w3 _ g2 cap2 cur2 _ _ rfl hk1 hk2 hk3 hB2 hg2 hd1 hd2 hd3 HTK.out HN3.out rfl).mono ?_; rintro e w5 ⟨v5, xs5, rfl, hl5, ho5, hf5, hk5⟩; obtain ⟨p5, c5, ev5⟩ := hl5.shape; rw [List.length_map] at ev5; subst ev5))
 go_ret
 exact ⟨_, xs5, rfl, hl5, ho5, by rw [HR.out]; exact hf5, hk5⟩
theorem Q5F {F : List Pr -> List Pr} {Q : List Pr -> Prop} {k : ByteArray} {fid : FuncId} {cap : Value} (hF : Qf F k) : ∀ h, Q5D F Q k fid cap h
 | 0 => by
  intro w A f n x hx hAb hw hfu hk h22 hsz hc hQ
  obtain ⟨v, rfl, hl, hA⟩ := hx
  have hlen := (Sm.of hw (by omega)).2
  have HC := Q5A hc v n k hl hw.1 hlen hQ
  obtain ⟨p, c, ev⟩ := SL.shape hl
  subst ev
  refine ⟨_, _, Q5y _ _ _, HC.mono ?_⟩
  rintro e w' ⟨v', rfl, hl', ho', hk'⟩
  exact ⟨_, rfl, ⟨v', rfl, hl', fun y hy => (ho' y hy).imp (hA y) id⟩, hk'⟩
 | h + 1 => by
  intro w A f n x hx hAb hw hfu hk h22 hsz hc hQ
  obtain ⟨v, xs, rfl, hl, hA, hf⟩ := qE.1 hx
  have HC := Q5E hF h (Q5F hF h) hl hf hAb hw hfu hk (h22 (by omega)) hsz hc hQ
  obtain ⟨p, c, ev⟩ := SL.shape hl
  subst ev
  refine ⟨_, _, Q5z _ _ _, HC.mono ?_⟩
  rintro e w' ⟨v', xs', rfl, hl', ho', hf', hk'⟩
  exact ⟨_, rfl, qE.2 ⟨v', xs', rfl, hl', fun y hy => Or.inr (ho' y hy), hf'⟩, hk'⟩
end Go.Proofs.YtcklgafpgdhnaabGreatDoor
