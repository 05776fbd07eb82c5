import Derived.Test.YtloihcnbcknbnaaGreatDoorPtbc
namespace Go.Proofs.YtloihcnbcknbnaaGreatDoor
open Go.RowKit

theorem asrtLB (v : Value) (w : World) : (Instr.typeAssert (.iface 108 v) 72 150 true).run Tryz.prog w = .ok (.tuple #[.slice none 0 0, .bool false]) w := by kernel_rfl
theorem asrtBB (v : Value) (w : World) : (Instr.typeAssert (.iface 150 v) 72 150 true).run Tryz.prog w = .ok (.tuple #[v, .bool true]) w := by kernel_rfl
theorem stT : (Tryz.prog.info? 74).map (·.size) = some 1 := by kernel_rfl

/-- a tree that a change gives -/
def TChR (A : Nat → Prop) (t : Tr) (w : World) (e : Ending) (w' : World) : Prop := ∃ r, e = .returned (.agg #[r]) ∧ TV w' (fun y => A y ∨ w.heap.size ≤ y) t r ∧ Kept [] w w'

/-- the block of the result -/
def ResT (w : World) (r : Value) (W : World) : Prop := W.heap[w.heap.size + 1]? = some (.cells #[r] 74 (0, 0))
theorem res0 (w : World) (r : Value) : ResT w .nilIface ((w.alloc (.cells #[r] 74)).alloc (.cells #[.nilIface] 74)) := by
  have := heap_alloc_new (w.alloc (.cells #[r] 74)) (.cells #[.nilIface] 74)
  rw [World.size_alloc] at this
  exact this
theorem ResT.cell {w W : World} {r : Value} (h : ResT w r W) : W.cell? ⟨w.heap.size + 1, 0, none⟩ = some r := cellAt h rfl
theorem ResT.frozen {w W : World} {r : Value} (h : ResT w r W) : W.frozen? ⟨w.heap.size + 1, 0, none⟩ = false := frozen_of_row _ _ _ _ _ h
theorem ResT.set {w W : World} {r : Value} (h : ResT w r W) (u : Value) : ResT w u (W.setCell ⟨w.heap.size + 1, 0, none⟩ u) := setCellAt (i := 0) u h
/-- what is behind the calls -/
theorem chg_facts {F : List Pr → List Pr} {k : ByteArray} {fid : FuncId} {cap : Value} (hF : OpAt F k) {w : World} {A : Nat → Prop} {h : Nat} {n : Nd h} (hAb : ∀ y, A y → y < w.heap.size) (ht : TW ⟨h, n⟩) (hc : Cl F fid cap w) :
    (∀ W x, Kept [] w W → ND W A h n x → ∃ fn v, Disp "store/tree.changed" x fn v ∧ Calls Tryz.prog fn #[v, .string k, .func (.func fid) #[] #[cap]] W fun e w' => ∃ a, e = .returned a ∧ ND w' (fun y => A y ∨ W.heap.size ≤ y) h (chgN F k h n) a ∧ Kept [] W w') ∧
    ∀ (W W1 : World) (a : Value), ND W (fun y => A y ∨ W1.heap.size ≤ y) h (chgN F k h n) a → Calls Tryz.prog 91 #[.string ⟨#[]⟩, a] W (FitR (fun y => A y ∨ W1.heap.size ≤ y) (fitN h nil8 (chgN F k h n)) W) := by
  have hcg := chg_ok hF h nil8 n ht.wf ht.full (ge_nil k) ht.two
  have h1 := hcg.hi
  have h2 := ht.hi
  constructor
  · intro W x kW hx
    exact changed_nd hF h W A nil8 n x hx (fun y hy => Nat.lt_of_lt_of_le (hAb y hy) kW.size) ht.wf ht.full (ge_nil k) ht.two ht.hi (hc.k kW)
  · intro W W1 a hn
    have h2' : sizeN h n ≤ 122 := h2
    exact fit_any (f := nil8) hn hcg.wf (by omega)

set_option maxRecDepth 100000 in
set_option maxHeartbeats 4000000 in
theorem Tchanged_big {F : List Pr → List Pr} {k : ByteArray} {fid : FuncId} {cap : Value} (hF : OpAt F k) {w : World} {A : Nat → Prop} {h : Nat} {n : Nd (h)} {r : Value} (hx : TV w A ⟨h, n⟩ r) (hAb : ∀ y, A y → y < w.heap.size) (ht : TW ⟨h, n⟩) (hc : Cl F fid cap w) (hs : ¬ sizeN h (chgN F k h n) ≤ 122) :
    Calls Tryz.prog 65 #[.agg #[r], .string k, .func (.func fid) #[] #[cap]] w (TChR A (chgT F k ⟨h, n⟩) w) := by
  have HT : Hid (∀ W, Kept [] w W → Calls Tryz.prog 62 #[.agg #[r]] W _) := fun W kW => top_any (hx.k kW)
  obtain ⟨hch, hfit⟩ := chg_facts hF hAb ht hc
  have HCh : Hid (∀ W x, Kept [] w W → ND W A (h) n x → ∃ fn v, Disp "store/tree.changed" x fn v ∧ Calls Tryz.prog fn #[v, .string k, .func (.func fid) #[] #[cap]] W fun e w' => ∃ a, e = .returned a ∧ ND w' (fun y => A y ∨ W.heap.size ≤ y) (h) (chgN F k (h) n) a ∧ Kept [] W w') := hch
  have HFit : Hid (∀ (W W1 : World) (a : Value), ND W (fun y => A y ∨ W1.heap.size ≤ y) (h) (chgN F k (h) n) a → Calls Tryz.prog 91 #[.string ⟨#[]⟩, a] W (FitR (fun y => A y ∨ W1.heap.size ≤ y) (fitN (h) nil8 (chgN F k (h) n)) W)) := hfit
  have K0 : Hid (Kept [] w ((w.alloc (.cells #[r] 74)).alloc (.cells #[.nilIface] 74))) := ((Kept.refl [] w).alloc _).alloc _
  have R0 : Hid _ := res0 w r
  have eM : fitN h nil8 (chgN F k h n) = [(nil8, (halveN h (chgN F k h n)).1), (firstN h (halveN h (chgN F k h n)).2, (halveN h (chgN F k h n)).2)] := by unfold fitN; rw [if_neg hs]
  have hR : chgT F k ⟨h, n⟩ = ⟨h + 1, fitN h nil8 (chgN F k h n)⟩ := by
    unfold chgT
    simp only
    rw [eM]
    rfl
  have hl2 : (fitN h nil8 (chgN F k h n)).length = 2 := by rw [eM]; rfl
  rw [hR]
  generalize fitN h nil8 (chgN F k h n) = M at *
  have HA : Hid _ := hAb
  clear hch hfit hx hc ht hs hR eM hAb hF
  go_enter Tryz.func65, Tryz.ntmps65
  go_wp2_with (first
      | (go_at_call 62; refine (HT.out _ K0.out).mono ?_; rintro e w1 ⟨x, rfl, hx, hk1⟩; obtain ⟨fn, v1, ⟨t1, ex1, hm1, he1⟩, hcall⟩ := HCh.out w1 x (K0.out.trans hk1) hx; have HC1 : Hid (Calls _ _ _ _ _) := hcall; clear hcall hx; subst ex1)
      | (go_at_fn fn; refine HC1.out.mono ?_; rintro e w2 ⟨a, rfl, hn2, hk2⟩; have HF2 : Hid (Calls _ _ _ _ _) := HFit.out w2 w1 a hn2; obtain ⟨ta, va, ea⟩ := hn2.iface; clear hn2; subst ea)
      | (go_at_call 91; refine HF2.out.mono ?_; rintro e w3 ⟨gv, cv, xs1, rfl, hv3, hf3, hgv, hk3⟩; have hl3 : xs1.length = 2 := (by rw [← hf3.1]; exact hl2); have K3 : Kept [] ((w.alloc (.cells #[r] 74)).alloc (.cells #[.nilIface] 74)) w3 := (hk1.trans hk2).trans hk3; have hr3 : ResT w .nilIface w3 := K3.get R0.out (by simp); have c3 := ResT.cell hr3; have fz3 := ResT.frozen hr3; have HV3 : Hid _ := hv3; have HF3 : Hid _ := hf3; clear hv3 hf3; rw [hl3]))
  refine bodyPost_ret (results_cell_row rfl _ _ (w.heap.size + 1) 74 #[.iface 150 (.slice (some ⟨gv, 0, none⟩) 2 cv)] (0, 0) _ rfl (ResT.set hr3 _) Tryz.underlying74 rfl stT) rfl ?_
  have k4 : Kept [w.heap.size + 1] w3 (w3.setCell ⟨w.heap.size + 1, 0, none⟩ (.iface 150 (.slice (some ⟨gv, 0, none⟩) 2 cv))) := (Kept.refl _ _).setCell (Or.inl (by simp)) _
  have s0 := K0.out.size
  have s1 := hk1.size
  have s2 := hk2.size
  rw [World.size_alloc, World.size_alloc] at s0 s1
  have hv3 := HV3.out
  have hf3 : F2 (KR w3 (fun y => A y ∨ w1.heap.size ≤ y) h) M xs1 := HF3.out
  rw [hl3] at hv3
  have hS : ∀ y ∈ [w.heap.size + 1], ¬ (A y ∨ w1.heap.size ≤ y) := by
    intro y hy
    simp at hy
    subst hy
    rintro (h1 | h1)
    · have := HA.out _ h1; omega
    · omega
  refine ⟨_, rfl, Or.inr (ND_succ.2 ⟨_, xs1, rfl, SL.keptS hv3 k4 ?_, ?_, hf3.mono fun _ _ _ hr => KR.kept hr k4 hS ?_⟩), (K0.out.trans K3).trans2 k4 fun y hy => Or.inr (by simp at hy; subst hy; omega)⟩
  · intro b hb hm
    simp [Value.ownBlock] at hb hm
    omega
  · intro b hb
    simp [Value.ownBlock] at hb
    exact Or.inr (by omega)
  · rintro y (h1 | h1)
    · exact Or.inl h1
    · exact Or.inr (by omega)

theorem F2.one_inv {α β : Type} {R : α → β → Prop} {a : α} {xs : List β} (h : F2 R [a] xs) : ∃ z, xs = [z] ∧ R a z := by
  obtain ⟨z, hz, hr⟩ := h.get (i := 0) (a := a) rfl
  have hl := h.1
  cases xs with
  | nil => simp at hl
  | cons y r =>
    simp at hl
    simp at hz
    subst hz
    cases r with
    | nil => exact ⟨y, rfl, hr⟩
    | cons b c => simp at hl
theorem SL.kid0 {w : World} {g off n cap : Nat} {z : ByteArray × Value} (h : SL w 152 (.slice (some ⟨g, off, none⟩) n cap) ([z].map ke)) : w.cell? ⟨g, off + 1, none⟩ = some z.2 := by
  obtain ⟨g', off', cap', cur, e, hg, _, _, _, hcur⟩ := h.at_ (by simp)
  cases e
  have := (hcur 0 (ke z) rfl).2
  rw [cell_of_row _ _ _ _ _ _ hg]
  simpa [ke] using this
/-- the end of a change of a tree that is not higher -/
theorem chg_end {A : Nat → Prop} {w w1 w3 : World} {r u : Value} {t : Tr} (hA : ∀ y, A y → y < w.heap.size) (K0 : Kept [] w ((w.alloc (.cells #[r] 74)).alloc (.cells #[.nilIface] 74))) (hk1 : Kept [] ((w.alloc (.cells #[r] 74)).alloc (.cells #[.nilIface] 74)) w1) (K3 : Kept [] ((w.alloc (.cells #[r] 74)).alloc (.cells #[.nilIface] 74)) w3)
    (hn : ND w3 (fun y => A y ∨ w1.heap.size ≤ y) t.h t.n u) : TChR A t w (.returned (.agg #[u])) (w3.setCell ⟨w.heap.size + 1, 0, none⟩ u) := by
  have k4 : Kept [w.heap.size + 1] w3 (w3.setCell ⟨w.heap.size + 1, 0, none⟩ u) := (Kept.refl _ _).setCell (Or.inl (by simp)) _
  have s1 := hk1.size
  rw [World.size_alloc, World.size_alloc] at s1
  have hS : ∀ y ∈ [w.heap.size + 1], ¬ (A y ∨ w1.heap.size ≤ y) := by
    intro y hy
    simp at hy
    subst hy
    rintro (h1 | h1)
    · have := hA _ h1; omega
    · omega
  refine ⟨_, rfl, Or.inr (ND.kept k4 hS ?_ hn), (K0.trans K3).trans2 k4 fun y hy => Or.inr (by simp at hy; subst hy; omega)⟩
  rintro y (h1 | h1)
  · exact Or.inl h1
  · exact Or.inr (by omega)

set_option maxRecDepth 100000 in
set_option maxHeartbeats 4000000 in
theorem Tchanged_leaf {F : List Pr → List Pr} {k : ByteArray} {fid : FuncId} {cap : Value} (hF : OpAt F k) {w : World} {A : Nat → Prop} {n : Nd (0)} {r : Value} (hx : TV w A ⟨0, n⟩ r) (hAb : ∀ y, A y → y < w.heap.size) (ht : TW ⟨0, n⟩) (hc : Cl F fid cap w) (hs : sizeN 0 (chgN F k 0 n) ≤ 122) :
    Calls Tryz.prog 65 #[.agg #[r], .string k, .func (.func fid) #[] #[cap]] w (TChR A (chgT F k ⟨0, n⟩) w) := by
  have HT : Hid (∀ W, Kept [] w W → Calls Tryz.prog 62 #[.agg #[r]] W _) := fun W kW => top_any (hx.k kW)
  obtain ⟨hch, hfit⟩ := chg_facts hF hAb ht hc
  have HCh : Hid (∀ W x, Kept [] w W → ND W A (0) n x → ∃ fn v, Disp "store/tree.changed" x fn v ∧ Calls Tryz.prog fn #[v, .string k, .func (.func fid) #[] #[cap]] W fun e w' => ∃ a, e = .returned a ∧ ND w' (fun y => A y ∨ W.heap.size ≤ y) (0) (chgN F k (0) n) a ∧ Kept [] W w') := hch
  have HFit : Hid (∀ (W W1 : World) (a : Value), ND W (fun y => A y ∨ W1.heap.size ≤ y) (0) (chgN F k (0) n) a → Calls Tryz.prog 91 #[.string ⟨#[]⟩, a] W (FitR (fun y => A y ∨ W1.heap.size ≤ y) (fitN (0) nil8 (chgN F k (0) n)) W)) := hfit
  have K0 : Hid (Kept [] w ((w.alloc (.cells #[r] 74)).alloc (.cells #[.nilIface] 74))) := ((Kept.refl [] w).alloc _).alloc _
  have R0 : Hid _ := res0 w r
  have eM : fitN (0) nil8 (chgN F k (0) n) = [(nil8, chgN F k (0) n)] := by unfold fitN; rw [if_pos hs]
  have hR : chgT F k ⟨0, n⟩ = ⟨0, chgN F k 0 n⟩ := by
    unfold chgT
    simp only
    rw [eM]
    rfl
  rw [hR]
  rw [eM] at HFit
  have HA : Hid _ := hAb
  have hasr := asrtLB
  clear hch hfit hx hc ht hs hR eM hAb hF
  go_enter Tryz.func65, Tryz.ntmps65
  go_wp2_with (first
      | (go_at_call 62; refine (HT.out _ K0.out).mono ?_; rintro e w1 ⟨x, rfl, hx, hk1⟩; obtain ⟨fn, v1, ⟨t1, ex1, hm1, he1⟩, hcall⟩ := HCh.out w1 x (K0.out.trans hk1) hx; have HC1 : Hid (Calls _ _ _ _ _) := hcall; clear hcall hx; subst ex1)
      | (go_at_fn fn; refine HC1.out.mono ?_; rintro e w2 ⟨a, rfl, hn2, hk2⟩; have HF2 : Hid (Calls _ _ _ _ _) := HFit.out w2 w1 a hn2; obtain ⟨ta, va, ea⟩ := hn2.iface; clear hn2; subst ea)
      | (go_at_call 91; refine HF2.out.mono ?_; rintro e w3 ⟨gv, cv, xs1, rfl, hv3, hf3, hgv, hk3⟩; obtain ⟨z, ez, hz⟩ := F2.one_inv hf3; subst ez; have hl3 : [z].length = 1 := rfl; rw [hl3]; rw [hl3] at hv3; have K3 : Kept [] ((w.alloc (.cells #[r] 74)).alloc (.cells #[.nilIface] 74)) w3 := (hk1.trans hk2).trans hk3; have hr3 : ResT w .nilIface w3 := K3.get R0.out (by simp); have c3 := ResT.cell hr3; have fz3 := ResT.frozen hr3; have c4 := SL.kid0 hv3; have HN : Hid _ := hz.2; obtain ⟨v4, ev4, hl4, hA4⟩ := hz.2; rw [ev4] at c4; clear hv3 hf3)
      | (refine wpList_val rfl _ _ (exec_index 147 (.tmp 23) (.const (.int .i64 0)) rfl gv 0 1 cv 0 2 rfl rfl 152 Tryz.underlying147 stk' (by omega) 0 rfl) ?_))
  refine bodyPost_ret (results_cell_row rfl _ _ (w.heap.size + 1) 74 #[.iface 108 v4] (0, 0) _ rfl (ResT.set hr3 _) Tryz.underlying74 rfl stT) rfl ?_
  exact chg_end HA.out K0.out hk1 K3 (ev4 ▸ HN.out)

set_option maxRecDepth 100000 in
set_option maxHeartbeats 4000000 in
theorem Tchanged_one {F : List Pr → List Pr} {k : ByteArray} {fid : FuncId} {cap : Value} (hF : OpAt F k) {w : World} {A : Nat → Prop} {h : Nat} {n : Nd (h + 1)} {r : Value} (hx : TV w A ⟨h + 1, n⟩ r) (hAb : ∀ y, A y → y < w.heap.size) (ht : TW ⟨h + 1, n⟩) (hc : Cl F fid cap w) (hs : sizeN (h + 1) (chgN F k (h + 1) n) ≤ 122) {b : Kid h} (hb : chgN F k (h + 1) n = [b]) :
    Calls Tryz.prog 65 #[.agg #[r], .string k, .func (.func fid) #[] #[cap]] w (TChR A (chgT F k ⟨h + 1, n⟩) w) := by
  have HT : Hid (∀ W, Kept [] w W → Calls Tryz.prog 62 #[.agg #[r]] W _) := fun W kW => top_any (hx.k kW)
  obtain ⟨hch, hfit⟩ := chg_facts hF hAb ht hc
  have HCh : Hid (∀ W x, Kept [] w W → ND W A (h + 1) n x → ∃ fn v, Disp "store/tree.changed" x fn v ∧ Calls Tryz.prog fn #[v, .string k, .func (.func fid) #[] #[cap]] W fun e w' => ∃ a, e = .returned a ∧ ND w' (fun y => A y ∨ W.heap.size ≤ y) (h + 1) (chgN F k (h + 1) n) a ∧ Kept [] W w') := hch
  have HFit : Hid (∀ (W W1 : World) (a : Value), ND W (fun y => A y ∨ W1.heap.size ≤ y) (h + 1) (chgN F k (h + 1) n) a → Calls Tryz.prog 91 #[.string ⟨#[]⟩, a] W (FitR (fun y => A y ∨ W1.heap.size ≤ y) (fitN (h + 1) nil8 (chgN F k (h + 1) n)) W)) := hfit
  have K0 : Hid (Kept [] w ((w.alloc (.cells #[r] 74)).alloc (.cells #[.nilIface] 74))) := ((Kept.refl [] w).alloc _).alloc _
  have R0 : Hid _ := res0 w r
  have eM : fitN (h + 1) nil8 (chgN F k (h + 1) n) = [(nil8, chgN F k (h + 1) n)] := by unfold fitN; rw [if_pos hs]
  have hR : chgT F k ⟨h + 1, n⟩ = ⟨h, b.2⟩ := by
    unfold chgT
    simp only
    rw [eM]
    rw [hb]
    rfl
  rw [hR]
  rw [eM] at HFit
  have HB : Hid _ := hb
  clear hb
  have HA : Hid _ := hAb
  have hasr := asrtBB
  clear hch hfit hx hc ht hs hR eM hAb hF
  go_enter Tryz.func65, Tryz.ntmps65
  go_wp2_with (first
      | (go_at_call 62; refine (HT.out _ K0.out).mono ?_; rintro e w1 ⟨x, rfl, hx, hk1⟩; obtain ⟨fn, v1, ⟨t1, ex1, hm1, he1⟩, hcall⟩ := HCh.out w1 x (K0.out.trans hk1) hx; have HC1 : Hid (Calls _ _ _ _ _) := hcall; clear hcall hx; subst ex1)
      | (go_at_fn fn; refine HC1.out.mono ?_; rintro e w2 ⟨a, rfl, hn2, hk2⟩; have HF2 : Hid (Calls _ _ _ _ _) := HFit.out w2 w1 a hn2; obtain ⟨ta, va, ea⟩ := hn2.iface; clear hn2; subst ea)
      | (go_at_call 91; refine HF2.out.mono ?_; rintro e w3 ⟨gv, cv, xs1, rfl, hv3, hf3, hgv, hk3⟩; obtain ⟨z, ez, hz⟩ := F2.one_inv hf3; subst ez; have hl3 : [z].length = 1 := rfl; rw [hl3]; rw [hl3] at hv3; have K3 : Kept [] ((w.alloc (.cells #[r] 74)).alloc (.cells #[.nilIface] 74)) w3 := (hk1.trans hk2).trans hk3; have hr3 : ResT w .nilIface w3 := K3.get R0.out (by simp); have c3 := ResT.cell hr3; have fz3 := ResT.frozen hr3; have c4 := SL.kid0 hv3; have hz2 : ND w3 (fun y => A y ∨ w1.heap.size ≤ y) (h + 1) [b] z.2 := HB.out ▸ hz.2; obtain ⟨v4, xs4, ev4, hl4, hA4, hf4⟩ := ND_succ.1 hz2; rw [ev4] at c4; obtain ⟨y4, ey4, hy4⟩ := F2.one_inv hf4; subst ey4; obtain ⟨g4, off4, cap4, cur4, ev5, hg4, _⟩ := hl4.at_ (by simp); subst ev5; have c5 := SL.kid0 hl4; have hl5 : (List.map ke [y4]).length = 1 := rfl; rw [hl5] at c4; have HN : Hid _ := hy4.2; obtain ⟨t6, v6, e6⟩ := hy4.2.iface; rw [e6] at c5; clear hv3 hf3)
      | (refine wpList_val rfl _ _ (exec_index 147 (.tmp 23) (.const (.int .i64 0)) rfl gv 0 1 cv 0 2 rfl rfl 152 Tryz.underlying147 stk' (by omega) 0 rfl) ?_)
      | (refine wpList_val rfl _ _ (exec_index 150 (.tmp 38) (.const (.int .i64 0)) rfl g4 off4 1 cap4 0 2 rfl rfl 152 Tryz.underlying150 stk' (by omega) off4 (by omega)) ?_))
  refine bodyPost_ret (results_cell_row rfl _ _ (w.heap.size + 1) 74 #[.iface t6 v6] (0, 0) _ rfl (ResT.set hr3 _) Tryz.underlying74 rfl stT) rfl ?_
  exact chg_end HA.out K0.out hk1 K3 (e6 ▸ HN.out)

set_option maxRecDepth 100000 in
set_option maxHeartbeats 4000000 in
theorem Tchanged_many {F : List Pr → List Pr} {k : ByteArray} {fid : FuncId} {cap : Value} (hF : OpAt F k) {w : World} {A : Nat → Prop} {h : Nat} {n : Nd (h + 1)} {r : Value} (hx : TV w A ⟨h + 1, n⟩ r) (hAb : ∀ y, A y → y < w.heap.size) (ht : TW ⟨h + 1, n⟩) (hc : Cl F fid cap w) (hs : sizeN (h + 1) (chgN F k (h + 1) n) ≤ 122) (hne : ∀ b : Kid h, chgN F k (h + 1) n ≠ [b]) :
    Calls Tryz.prog 65 #[.agg #[r], .string k, .func (.func fid) #[] #[cap]] w (TChR A (chgT F k ⟨h + 1, n⟩) w) := by
  have HT : Hid (∀ W, Kept [] w W → Calls Tryz.prog 62 #[.agg #[r]] W _) := fun W kW => top_any (hx.k kW)
  obtain ⟨hch, hfit⟩ := chg_facts hF hAb ht hc
  have HCh : Hid (∀ W x, Kept [] w W → ND W A (h + 1) n x → ∃ fn v, Disp "store/tree.changed" x fn v ∧ Calls Tryz.prog fn #[v, .string k, .func (.func fid) #[] #[cap]] W fun e w' => ∃ a, e = .returned a ∧ ND w' (fun y => A y ∨ W.heap.size ≤ y) (h + 1) (chgN F k (h + 1) n) a ∧ Kept [] W w') := hch
  have HFit : Hid (∀ (W W1 : World) (a : Value), ND W (fun y => A y ∨ W1.heap.size ≤ y) (h + 1) (chgN F k (h + 1) n) a → Calls Tryz.prog 91 #[.string ⟨#[]⟩, a] W (FitR (fun y => A y ∨ W1.heap.size ≤ y) (fitN (h + 1) nil8 (chgN F k (h + 1) n)) W)) := hfit
  have K0 : Hid (Kept [] w ((w.alloc (.cells #[r] 74)).alloc (.cells #[.nilIface] 74))) := ((Kept.refl [] w).alloc _).alloc _
  have R0 : Hid _ := res0 w r
  have eM : fitN (h + 1) nil8 (chgN F k (h + 1) n) = [(nil8, chgN F k (h + 1) n)] := by unfold fitN; rw [if_pos hs]
  have hR : chgT F k ⟨h + 1, n⟩ = ⟨h + 1, chgN F k (h + 1) n⟩ := by
    unfold chgT
    simp only
    rw [eM]
    generalize hg : chgN F k (h + 1) n = M at *
    show lowT (h + 1) M = ⟨h + 1, M⟩
    rcases M with _ | ⟨a, _ | ⟨b, c⟩⟩
    · rfl
    · exact absurd rfl (hne a)
    · rfl
  rw [hR]
  rw [eM] at HFit
  have HNE : Hid (∀ xs4 : List (ByteArray × Value), List.length (α := Kid h) (chgN F k (h + 1) n) = xs4.length → ¬ (xs4.length : Int) = 1) := by
    intro xs4 hl he
    have h1 : List.length (α := Kid h) (chgN F k (h + 1) n) = 1 := by omega
    obtain ⟨b, hb⟩ := List.length_eq_one_iff.1 h1
    exact hne b hb
  have HA : Hid _ := hAb
  have hasr := asrtBB
  clear hch hfit hx hc ht hs hR eM hAb hF
  go_enter Tryz.func65, Tryz.ntmps65
  go_wp2_with (first
      | (go_at_call 62; refine (HT.out _ K0.out).mono ?_; rintro e w1 ⟨x, rfl, hx, hk1⟩; obtain ⟨fn, v1, ⟨t1, ex1, hm1, he1⟩, hcall⟩ := HCh.out w1 x (K0.out.trans hk1) hx; have HC1 : Hid (Calls _ _ _ _ _) := hcall; clear hcall hx; subst ex1)
      | (go_at_fn fn; refine HC1.out.mono ?_; rintro e w2 ⟨a, rfl, hn2, hk2⟩; have HF2 : Hid (Calls _ _ _ _ _) := HFit.out w2 w1 a hn2; obtain ⟨ta, va, ea⟩ := hn2.iface; clear hn2; subst ea)
      | (go_at_call 91; refine HF2.out.mono ?_; rintro e w3 ⟨gv, cv, xs1, rfl, hv3, hf3, hgv, hk3⟩; obtain ⟨z, ez, hz⟩ := F2.one_inv hf3; subst ez; have hl3 : [z].length = 1 := rfl; rw [hl3]; rw [hl3] at hv3; have K3 : Kept [] ((w.alloc (.cells #[r] 74)).alloc (.cells #[.nilIface] 74)) w3 := (hk1.trans hk2).trans hk3; have hr3 : ResT w .nilIface w3 := K3.get R0.out (by simp); have c3 := ResT.cell hr3; have fz3 := ResT.frozen hr3; have c4 := SL.kid0 hv3; have HN : Hid _ := hz.2; obtain ⟨v4, xs4, ev4, hl4, hA4, hf4⟩ := ND_succ.1 hz.2; rw [ev4] at c4; obtain ⟨p4, c44, ev5⟩ := hl4.shape; rw [List.length_map] at ev5; have hne4 : ¬ (xs4.length : Int) = 1 := HNE.out xs4 hf4.1; subst ev5; clear hv3 hf3)
      | (refine wpList_val rfl _ _ (exec_index 147 (.tmp 23) (.const (.int .i64 0)) rfl gv 0 1 cv 0 2 rfl rfl 152 Tryz.underlying147 stk' (by omega) 0 rfl) ?_))
  refine bodyPost_ret (results_cell_row rfl _ _ (w.heap.size + 1) 74 #[.iface 150 (.slice p4 xs4.length c44)] (0, 0) _ rfl (ResT.set hr3 _) Tryz.underlying74 rfl stT) rfl ?_
  exact chg_end HA.out K0.out hk1 K3 (ev4 ▸ HN.out)

theorem Tchanged_any {F : List Pr → List Pr} {k : ByteArray} {fid : FuncId} {cap : Value} (hF : OpAt F k) {w : World} {A : Nat → Prop} {t : Tr} {r : Value} (hx : TV w A t r) (hAb : ∀ y, A y → y < w.heap.size) (ht : TW t) (hc : Cl F fid cap w) :
    Calls Tryz.prog 65 #[.agg #[r], .string k, .func (.func fid) #[] #[cap]] w (TChR A (chgT F k t) w) := by
  obtain ⟨h, n⟩ := t
  by_cases hs : sizeN h (chgN F k h n) ≤ 122
  · cases h with
    | zero => exact Tchanged_leaf hF hx hAb ht hc hs
    | succ h =>
      by_cases hb : ∃ b : Kid h, chgN F k (h + 1) n = [b]
      · obtain ⟨b, hb⟩ := hb
        exact Tchanged_one hF hx hAb ht hc hs hb
      · exact Tchanged_many hF hx hAb ht hc hs fun b e => hb ⟨b, e⟩
  · exact Tchanged_big hF hx hAb ht hc hs

end Go.Proofs.YtloihcnbcknbnaaGreatDoor

namespace Go.Proofs.YtloihcnbcknbnaaGreatDoor
open Go.RowKit

theorem bpair (k x : ByteArray) (w : World) : (Instr.build 114 #[(0, .agg #[.string k, .string x])]).run Tryz.prog w = .ok (.agg #[.string k, .string x]) w := by kernel_rfl
theorem stPair : (Tryz.prog.info? 41).map (·.size) = some 2 := by kernel_rfl

set_option maxRecDepth 100000 in
set_option maxHeartbeats 1000000 in
theorem clPut (k x : ByteArray) (w : World) (b : Nat) (hb : w.heap[b]? = some (.cells #[.string k, .string x] 41 (0, 0))) : Cl (withL k x) 74 (.pointer (some ⟨b, 0, none⟩)) w := by
  refine ⟨fun _ _ => by kernel_rfl, ?_⟩
  intro W v l kW hl hs hlen
  have HC : Hid (Calls _ _ _ _ _) := leafWith_any v l k x W hl hs hlen
  have hbW := kW.get hb (by simp)
  have hld := load2 (P := Tryz.prog) (ty := 41) (e := (.string k, .string x)) (o := 0) _ hbW ⟨rfl, rfl⟩ Tryz.underlying41 stPair
  simp only at hld
  have hbp := bpair
  obtain ⟨p, c, ev⟩ := SL.shape hl
  rw [List.length_map] at ev
  subst ev
  clear hl hs hlen kW
  go_enter Tryz.func74, Tryz.ntmps74
  go_wp2_with (first
    | (refine wpList_load_seg rfl 41 (.tmp 1) rfl ⟨b, 0, none⟩ rfl _ hld ?_)
    | (go_at_call 75; refine HC.out.mono ?_; rintro e w1 ⟨v1, rfl, h1, h2, h3⟩))
  go_ret
  exact ⟨_, rfl, h1, h2, h3⟩

set_option maxRecDepth 100000 in
set_option maxHeartbeats 1000000 in
theorem clDelete (k : ByteArray) (w : World) (b : Nat) (hb : w.heap[b]? = some (.cells #[.string k] 9 (0, 0))) : Cl (withoutL k) 66 (.pointer (some ⟨b, 0, none⟩)) w := by
  refine ⟨fun _ _ => by kernel_rfl, ?_⟩
  intro W v l kW hl hs hlen
  have HC : Hid (Calls _ _ _ _ _) := leafWithout_any v l k W hl hs hlen
  have c1 : W.cell? ⟨b, 0, none⟩ = some (.string k) := cellAt (kW.get hb (by simp)) rfl
  obtain ⟨p, c, ev⟩ := SL.shape hl
  rw [List.length_map] at ev
  subst ev
  clear hl hs hlen kW
  go_enter Tryz.func66, Tryz.ntmps66
  go_wp2_with (first
    | (go_at_call 67; refine HC.out.mono ?_; rintro e w1 ⟨v1, rfl, h1, h2, h3⟩))
  go_ret
  exact ⟨_, rfl, h1, h2, h3⟩

/-- a cell for a tree -/
def Row1 (q : Nat) (r : Value) (W : World) : Prop := W.heap[q]? = some (.cells #[r] 74 (0, 0))
theorem Row1.cell {q : Nat} {W : World} {r : Value} (h : Row1 q r W) : W.cell? ⟨q, 0, none⟩ = some r := cellAt h rfl
theorem Row1.frozen {q : Nat} {W : World} {r : Value} (h : Row1 q r W) : W.frozen? ⟨q, 0, none⟩ = false := frozen_of_row _ _ _ _ _ h
theorem Row1.set {q : Nat} {W : World} {r : Value} (h : Row1 q r W) (u : Value) : Row1 q u (W.setCell ⟨q, 0, none⟩ u) := setCellAt (i := 0) u h
theorem run_storeT {q : Nat} {W : World} {r u : Value} (h : Row1 q r W) (hu : u = .nilIface ∨ ∃ t v, u = .iface t v) : (store ⟨q, 0, none⟩ u).run Tryz.prog W = .ok () (W.setCell ⟨q, 0, none⟩ u) := by
  have hc := h.cell
  have hf := h.frozen
  rcases hu with rfl | ⟨t, v, rfl⟩
  · simp [go_sem, stored, hc, hf]
  · simp [go_sem, stored, hc, hf]
theorem TV.shape {w : World} {A : Nat → Prop} {t : Tr} {r : Value} (h : TV w A t r) : r = .nilIface ∨ ∃ t v, r = .iface t v := h.imp And.left ND.iface
/-- the end of a change of a tree -/
theorem put_end {A : Nat → Prop} {w W0 w1 : World} {r1 : Value} {t : Tr} {q : Nat} (hA : ∀ y, A y → y < w.heap.size) (K0 : Kept [] w W0) (hk1 : Kept [] W0 w1) (hq : w.heap.size ≤ q) (hq2 : q < W0.heap.size) (ht : TV w1 (fun y => A y ∨ W0.heap.size ≤ y) t r1) : TChR A t w (.returned (.agg #[r1])) (w1.setCell ⟨q, 0, none⟩ r1) := by
  have k4 : Kept [q] w1 (w1.setCell ⟨q, 0, none⟩ r1) := (Kept.refl _ _).setCell (Or.inl (by simp)) _
  have s0 := K0.size
  refine ⟨_, rfl, TV.kept ht k4 ?_ ?_, (K0.trans hk1).trans2 k4 fun y hy => Or.inr (by simp at hy; subst hy; omega)⟩
  · intro y hy
    simp at hy
    subst hy
    rintro (h1 | h1)
    · have := hA _ h1; omega
    · omega
  · rintro y (h1 | h1)
    · exact Or.inl h1
    · exact Or.inr (by omega)
theorem makes0 (fn : Fn) (first cap : Array Value) (w : World) : (Instr.makeFunc fn first cap).run Tryz.prog w = .ok (.func fn first cap) w := rfl
theorem TV.one {w : World} {A : Nat → Prop} {t : Tr} {r : Value} (h : TV w A t r) : r.oneCell' = true := by
  rcases h with ⟨rfl, _⟩ | h
  · rfl
  · obtain ⟨t, v, rfl⟩ := h.iface
    rfl

set_option maxRecDepth 100000 in
set_option maxHeartbeats 4000000 in
theorem TPut_any {w : World} {A : Nat → Prop} {t : Tr} {r : Value} (hx : TV w A t r) (hAb : ∀ y, A y → y < w.heap.size) (ht : TW t) (k x : ByteArray) (hk : keyOk k) (hv : x.size ≤ 12) :
    Calls Tryz.prog 51 #[.agg #[r], .agg #[.string k, .string x]] w (TChR A (chgT (withL k x) k t) w) := by
  obtain ⟨W0, eW⟩ : ∃ W0, W0 = ((w.alloc (.cells #[r] 74)).alloc (.cells #[.string k, .string x] 41)).alloc (.cells #[.nilIface] 74) := ⟨_, rfl⟩
  have K0 : Kept [] w W0 := by rw [eW]; exact (((Kept.refl [] w).alloc _).alloc _).alloc _
  have sW : W0.heap.size = w.heap.size + 1 + 1 + 1 := by rw [eW, World.size_alloc, World.size_alloc, World.size_alloc]
  have hb1 : W0.heap[w.heap.size + 1]? = some ((.cells #[.string k, .string x] 41 : Obj)) := by
    have := heap_alloc_new (w.alloc (.cells #[r] 74)) (.cells #[.string k, .string x] 41)
    rw [World.size_alloc] at this
    rw [eW]
    exact ((Kept.refl [] _).alloc (.cells #[.nilIface] 74)).get this (by simp)
  have hb2 : Row1 (w.heap.size + 1 + 1) .nilIface W0 := by
    have := heap_alloc_new ((w.alloc (.cells #[r] 74)).alloc (.cells #[.string k, .string x] 41)) (.cells #[.nilIface] 74)
    rw [World.size_alloc, World.size_alloc] at this
    rw [eW]
    exact this
  have HC : Hid (Calls _ _ _ _ _) := Tchanged_any (op_with k x hk hv) (hx.k K0) (fun y hy => Nat.lt_of_lt_of_le (hAb y hy) K0.size) ht (clPut k x W0 (w.heap.size + 1) hb1)
  have HA : Hid _ := hAb
  clear hx hAb ht hb1
  have hmf := makes0
  go_enter Tryz.func51, Tryz.ntmps51
  go_wp2_with (first
    | (go_at_call 65; rw [← eW]; refine HC.out.mono ?_; rintro e w1 ⟨r1, rfl, ht1, hk1⟩; have hb3 : Row1 (w.heap.size + 1 + 1) .nilIface w1 := hk1.get hb2 (by simp); have c3 := hb3.cell; have fz3 := hb3.frozen; have HT1 : Hid _ := ht1; have hst := run_storeT hb3 ht1.shape; clear ht1))
  refine bodyPost_ret (results_cell_row rfl _ _ (w.heap.size + 1 + 1) 74 #[r1] (0, 0) _ rfl (Row1.set hb3 _) Tryz.underlying74 rfl stT) rfl ?_
  exact put_end HA.out K0 hk1 (by omega) (by omega) HT1.out

set_option maxRecDepth 100000 in
set_option maxHeartbeats 4000000 in
theorem TDelete_any {w : World} {A : Nat → Prop} {t : Tr} {r : Value} (hx : TV w A t r) (hAb : ∀ y, A y → y < w.heap.size) (ht : TW t) (k : ByteArray) :
    Calls Tryz.prog 46 #[.agg #[r], .string k] w (TChR A (chgT (withoutL k) k t) w) := by
  obtain ⟨W0, eW⟩ : ∃ W0, W0 = ((w.alloc (.cells #[r] 74)).alloc (.cells #[.string k] 9)).alloc (.cells #[.nilIface] 74) := ⟨_, rfl⟩
  have K0 : Kept [] w W0 := by rw [eW]; exact (((Kept.refl [] w).alloc _).alloc _).alloc _
  have sW : W0.heap.size = w.heap.size + 1 + 1 + 1 := by rw [eW, World.size_alloc, World.size_alloc, World.size_alloc]
  have hb1 : W0.heap[w.heap.size + 1]? = some ((.cells #[.string k] 9 : Obj)) := by
    have := heap_alloc_new (w.alloc (.cells #[r] 74)) (.cells #[.string k] 9)
    rw [World.size_alloc] at this
    rw [eW]
    exact ((Kept.refl [] _).alloc (.cells #[.nilIface] 74)).get this (by simp)
  have hb2 : Row1 (w.heap.size + 1 + 1) .nilIface W0 := by
    have := heap_alloc_new ((w.alloc (.cells #[r] 74)).alloc (.cells #[.string k] 9)) (.cells #[.nilIface] 74)
    rw [World.size_alloc, World.size_alloc] at this
    rw [eW]
    exact this
  have HC : Hid (Calls _ _ _ _ _) := Tchanged_any (op_without k) (hx.k K0) (fun y hy => Nat.lt_of_lt_of_le (hAb y hy) K0.size) ht (clDelete k W0 (w.heap.size + 1) hb1)
  have HA : Hid _ := hAb
  clear hx hAb ht hb1
  have hmf := makes0
  go_enter Tryz.func46, Tryz.ntmps46
  go_wp2_with (first
    | (go_at_call 65; rw [← eW]; refine HC.out.mono ?_; rintro e w1 ⟨r1, rfl, ht1, hk1⟩; have hb3 : Row1 (w.heap.size + 1 + 1) .nilIface w1 := hk1.get hb2 (by simp); have c3 := hb3.cell; have fz3 := hb3.frozen; have HT1 : Hid _ := ht1; have hst := run_storeT hb3 ht1.shape; clear ht1))
  refine bodyPost_ret (results_cell_row rfl _ _ (w.heap.size + 1 + 1) 74 #[r1] (0, 0) _ rfl (Row1.set hb3 _) Tryz.underlying74 rfl stT) rfl ?_
  exact put_end HA.out K0 hk1 (by omega) (by omega) HT1.out

end Go.Proofs.YtloihcnbcknbnaaGreatDoor
