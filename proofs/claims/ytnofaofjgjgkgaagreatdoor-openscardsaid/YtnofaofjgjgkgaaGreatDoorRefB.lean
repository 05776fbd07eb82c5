import Derived.Test.YtnofaofjgjgkgaaGreatDoorRefA
namespace Go.Proofs.YtnofaofjgjgkgaaGreatDoor
open Go.RowKit

theorem nilMaps_add (m k : Nat) : nilMaps m ++ nilMaps k = nilMaps (m + k) := by simp [nilMaps]

theorem srd : (Tryz.prog.info? 40).map (·.size) = some 6 := by kernel_rfl

theorem all_rcells (n : Int) (p1 p2 : Option Addr) (l1 q1 l2 q2 : Nat) (e wd b : Bool) : (rcells n (.slice p1 l1 q1) e (.slice p2 l2 q2) wd b).all (·.oneCell') = true := by
  have h1 : ∀ p l q, (Value.slice p l q).oneCell' = true := fun _ _ _ => rfl
  have h2 : ∀ x, (Value.bool x).oneCell' = true := fun _ => rfl
  have h3 : ∀ k x, (Value.int k x).oneCell' = true := fun _ _ => rfl
  simp [rcells, h1, h2, h3]

/-- the three boxes of Too's frame -/
structure Boxes (w0 w : World) (rc : Array Value) : Prop where
  b0 : w.heap[w0.heap.size]? = some (.cells rc 40 (0, 0))
  b1 : w.heap[w0.heap.size + 1]? = some (.cells #[.slice none 0 0] 60 (0, 0))
  b2 : w.heap[w0.heap.size + 1 + 1]? = some (.cells (rcells 0 (.slice none 0 0) false (.slice none 0 0) false false) 40 (0, 0))
  k : Kept [] w0 w
  sz : w0.heap.size + 3 ≤ w.heap.size

theorem Boxes.step {w0 w w' : World} {rc : Array Value} {S : List Nat} (h : Boxes w0 w rc) (k : Kept S w w') (hS : ∀ x ∈ S, w0.heap.size + 3 ≤ x) : Boxes w0 w' rc :=
  have hn : ∀ y, y < w0.heap.size + 3 → y ∉ S := fun y hy hx => by have := hS y hx; omega
  ⟨k.get h.b0 (hn _ (by omega)), k.get h.b1 (hn _ (by omega)), k.get h.b2 (hn _ (by omega)), h.k.trans2 k (fun x hx => Or.inr (by have := hS x hx; omega)), by have := h.sz; have := k.size; omega⟩

theorem Boxes.grown {w0 w w' : World} {rc : Array Value} {v : Value} (h : Boxes w0 w rc) (g : w.grownBy w' v.ownBlock) (hv : ∀ x, v.ownBlock = some x → w0.heap.size + 3 ≤ x) : Boxes w0 w' rc :=
  h.step (grown_kept g v.ownBlock.toList (by intro x hx; rw [hx]; simp)) (by
    intro x hx
    cases hu : v.ownBlock with
    | none => rw [hu] at hx; cases hx
    | some y => rw [hu] at hx; simp at hx; subst hx; exact hv _ hu)

theorem Boxes.alloc {w0 w : World} {rc : Array Value} (h : Boxes w0 w rc) (o : Obj) : Boxes w0 (w.alloc o) rc := h.step ((Kept.refl [] w).alloc o) (by simp)

theorem Boxes.set {w0 w : World} {rc : Array Value} (h : Boxes w0 w rc) (j : Nat) (v : Value) : Boxes w0 (w.setCell ⟨w0.heap.size, j, none⟩ v) (rc.setIfInBounds j v) := by
  have k : Kept [w0.heap.size] w (w.setCell ⟨w0.heap.size, j, none⟩ v) := (Kept.refl _ _).setCell (Or.inl (by simp)) _
  exact ⟨setCellAt v h.b0, k.get h.b1 (by simp), k.get h.b2 (by simp; omega), h.k.trans2 k (by simp), by simpa [World.setCell] using h.sz⟩

theorem Boxes.init (w : World) (rc : Array Value) : Boxes w (((w.alloc (.cells rc 40)).alloc (.cells #[.slice none 0 0] 60)).alloc (.cells #[.int .i64 0, .slice none 0 0, .bool false, .slice none 0 0, .bool false, .bool false] 40)) rc := by
  have k1 := (Kept.refl [] w).alloc (.cells rc 40)
  have k2 := (Kept.refl [] (w.alloc (.cells rc 40))).alloc (.cells #[.slice none 0 0] 60)
  have k3 := (Kept.refl [] ((w.alloc (.cells rc 40)).alloc (.cells #[.slice none 0 0] 60))).alloc (.cells #[.int .i64 0, .slice none 0 0, .bool false, .slice none 0 0, .bool false, .bool false] 40)
  refine ⟨k3.get (k2.get (heap_alloc_new _ _) (by simp)) (by simp), k3.get ?_ (by simp), ?_, (k1.trans k2).trans k3, by simp⟩
  · have := heap_alloc_new (w.alloc (.cells rc 40)) (.cells #[.slice none 0 0] 60)
    rwa [World.size_alloc] at this
  · have := heap_alloc_new ((w.alloc (.cells rc 40)).alloc (.cells #[.slice none 0 0] 60)) (.cells #[.int .i64 0, .slice none 0 0, .bool false, .slice none 0 0, .bool false, .bool false] 40)
    rwa [World.size_alloc, World.size_alloc] at this

/-- what Too gives -/
def TooR (n : Int) (k : Nat) (e wd b : Bool) (w : World) (ev : Ending) (w' : World) : Prop :=
  ∃ p1 l1 q1 p2 l2 q2, ev = .returned (.agg (rcells n (.slice p1 l1 q1) e (.slice p2 l2 q2) wd b)) ∧ Maps w' (.slice p2 l2 q2) (k + 1) ∧ Kept [] w w'

set_option maxRecDepth 100000 in
set_option maxHeartbeats 1000000 in
theorem Too_any (n : Int) (may were : Value) (m k : Nat) (e wd b : Bool) (w : World) (hm : Maps w may m) (hk : Maps w were k) (bm : m ≤ 20000) (bk : k ≤ 20000) :
    Calls Tryz.prog 32 #[.agg (rcells n may e were wd b), .agg #[.slice none 0 0]] w (TooR n k e wd b w) := by
  unfold rcells
  obtain ⟨ie, hie, hz1, hz2, hz3⟩ := info_parts imap
  have hml : ∀ x, may.ownBlock = some x → x < w.heap.size := fun x hx => (World.ownsRow.lt hm x hx).2
  have hkl : ∀ x, were.ownBlock = some x → x < w.heap.size := fun x hx => (World.ownsRow.lt hk x hx).2
  have Hm : Hid (w.ownsRow 0 60 1 may m (nilMaps m)) := hm
  have Hk : Hid (w.ownsRow 0 60 1 were k (nilMaps k)) := hk
  have HB := Boxes.init w #[.int .i64 n, may, .bool e, were, .bool wd, .bool b]
  clear hm hk
  go_enter Tryz.func32, Tryz.ntmps32
  go_wp2_with (first
    | (at_builtin; refine wpList_append_src rfl (.tmp 7) (.tmp 9) 38 rfl (w.heap.size + 3) 60 ie _ 1 24 Tryz.underlying38 hie hz1 hz2 hz3 rfl (by decide) (.slice none 0 0) 0 [] rfl (World.ownsRow_nil _ _ _ _) may 0 m (nilMaps m) rfl (owns_kept Hm.out HB.k (by simp)) (one_nilMaps _) (by unfold maxLen; omega) (by omega) (by simp) ?_; intro v1 w1 hown1 hgr1; have B1 := HB.grown (v := .slice none 0 0) hgr1 (by intro x hx; cases hx); clear hgr1 HB; have d1 : w1.cell? ⟨w.heap.size + 1, 0, none⟩ = some (.slice none 0 0) := cellAt B1.b1 rfl)
    | (at_builtin; refine wpList_append_own _ rfl (.tmp 11) (.tmp 13) 38 rfl (w.heap.size + 3) 60 ie _ 1 24 Tryz.underlying38 hie hz1 hz2 hz3 rfl (by decide) v1 (0 + m) ([] ++ nilMaps m) rfl (hown1.alloc _) ⟨w1.heap.size, 0, none⟩ 1 1 [.slice none 0 0] rfl rfl (cell_one_new _ _ _) (one_nilMaps 1) (by unfold maxLen; omega) (by omega) (by have := B1.sz; simp; omega) ?_; intro v2 w2 hown2 hgr2 _; obtain ⟨p2, l2, q2, rfl⟩ := owns_slice hown2; have B2 := (B1.alloc _).grown hgr2 (by intro x hx; exact (hown1.lt x hx).1); clear hgr2; have d2 : w2.cell? ⟨w.heap.size, 1, none⟩ = some may := cellAt B2.b0 rfl; have f2 : w2.frozen? ⟨w.heap.size, 1, none⟩ = false := frozen_of_row _ _ _ _ _ B2.b0; have B3 := B2.set 1 (.slice p2 l2 q2); have d3 : (w2.setCell ⟨w.heap.size, 1, none⟩ (.slice p2 l2 q2)).cell? ⟨w.heap.size, 3, none⟩ = some were := cellAt B3.b0 rfl)
    | (at_builtin; refine wpList_append_src rfl (.tmp 16) (.tmp 18) 38 rfl (w.heap.size + 3) 60 ie _ 1 24 Tryz.underlying38 hie hz1 hz2 hz3 rfl (by decide) (.slice none 0 0) 0 [] rfl (World.ownsRow_nil _ _ _ _) were 0 k (nilMaps k) rfl (owns_kept Hk.out B3.k (by simp)) (one_nilMaps _) (by unfold maxLen; omega) (by omega) B3.sz ?_; intro v4 w4 hown4 hgr4; have B4 := B3.grown (v := .slice none 0 0) hgr4 (by intro x hx; cases hx); have hk4 := grown_kept hgr4 [] (by intro x hx; cases hx); clear hgr4; have d4 : w4.cell? ⟨w.heap.size + 1, 0, none⟩ = some (.slice none 0 0) := cellAt B4.b1 rfl)
    | (at_builtin; refine wpList_append_own _ rfl (.tmp 20) (.tmp 22) 38 rfl (w.heap.size + 3) 60 ie _ 1 24 Tryz.underlying38 hie hz1 hz2 hz3 rfl (by decide) v4 (0 + k) ([] ++ nilMaps k) rfl (hown4.alloc _) ⟨w4.heap.size, 0, none⟩ 1 1 [.slice none 0 0] rfl rfl (cell_one_new _ _ _) (one_nilMaps 1) (by unfold maxLen; omega) (by omega) (by have := B4.sz; simp; omega) ?_; intro v5 w5 hown5 hgr5 _; obtain ⟨p5, l5, q5, rfl⟩ := owns_slice hown5; have B5 := (B4.alloc _).grown hgr5 (by intro x hx; exact (hown4.lt x hx).1); have e5 : w5.cell? ⟨w.heap.size, 3, none⟩ = some were := cellAt B5.b0 rfl; have g5 : w5.frozen? ⟨w.heap.size, 3, none⟩ = false := frozen_of_row _ _ _ _ _ B5.b0; have B6 := B5.set 3 (.slice p5 l5 q5); skip)
    | (refine wpList_load_row rfl 40 (.tmp 2) rfl w.heap.size rfl 40 (rcells n (.slice p2 l2 q2) e (.slice p5 l5 q5) wd b) (0, 0) _ B6.b0 Tryz.underlying40 rfl srd ?_)
    | (refine wpList_store_k rfl 40 (.tmp 4) (.tmp 25) rfl (w.heap.size + 1 + 1) (rcells n (.slice p2 l2 q2) e (.slice p5 l5 q5) wd b) rfl rfl 40 _ B6.b2 srd rfl (all_rcells _ _ _ _ _ _ _ _ _ _) ?_; intro w7 hg7 hk7))
  refine bodyPost_ret (results_cell_row rfl _ w7 (w.heap.size + 1 + 1) 40 _ (0, 0) _ rfl hg7 Tryz.underlying40 rfl srd) rfl ?_
  refine ⟨_, _, _, _, _, _, rfl, ?_, B6.k.trans2 hk7 (by intro x hx; simp at hx; subst hx; exact Or.inr (by omega))⟩
  have h5 : w5.ownsRow (w.heap.size + 3) 60 1 (.slice p5 l5 q5) (k + 1) (nilMaps (k + 1)) := by
    have := hown5
    simp only [List.nil_append, Nat.zero_add] at this
    rw [show [Value.slice none 0 0] = nilMaps 1 from rfl, nilMaps_add] at this
    exact this
  have hk6 : Kept [w.heap.size] w5 (w5.setCell ⟨w.heap.size, 3, none⟩ (.slice p5 l5 q5)) := (Kept.refl _ _).setCell (Or.inl (by simp)) _
  refine owns_kept (owns_kept (owns_mono h5 (Nat.zero_le _)) hk6 ?_) hk7 ?_
  · intro x hx; have := (h5.lt x hx).1; simp; omega
  · intro x hx; have := (h5.lt x hx).1; simp; omega

end Go.Proofs.YtnofaofjgjgkgaaGreatDoor
