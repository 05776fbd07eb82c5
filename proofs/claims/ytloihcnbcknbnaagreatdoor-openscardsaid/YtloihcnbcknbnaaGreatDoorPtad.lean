import Derived.Test.YtloihcnbcknbnaaGreatDoorPtac
import Derived.Laws.AppendOwnNone
import Derived.Laws.ResultCell
import Derived.Lib.Bytealg
namespace Go.Proofs.YtloihcnbcknbnaaGreatDoor
open Go.RowKit

theorem owns_kept {S : List Nat} {w w' : World} {base e size n : Nat} {v : Value} {xs : List Value} (h : w.ownsRow base e size v n xs) (k : Kept S w w') (hS : ∀ b, v.ownBlock = some b → b ∉ S) : w'.ownsRow base e size v n xs := by
  obtain ⟨h1, h2⟩ := h
  refine ⟨h1, ?_⟩
  rcases h2 with h2 | ⟨g, cap, cur, rfl, hg, hh, r⟩
  · exact Or.inl h2
  · exact Or.inr ⟨g, cap, cur, rfl, hg, k.get hh (hS g rfl), r⟩

theorem owns_slice {w : World} {base e size n : Nat} {v : Value} {xs : List Value} (h : w.ownsRow base e size v n xs) : ∃ p l q, v = .slice p l q := by
  obtain ⟨_, ⟨rfl, _⟩ | ⟨g, cap, cur, rfl, _⟩⟩ := h
  · exact ⟨_, _, _, rfl⟩
  · exact ⟨_, _, _, rfl⟩

theorem owns_mono {w : World} {base base' e size n : Nat} {v : Value} {xs : List Value} (h : w.ownsRow base e size v n xs) (hb : base' ≤ base) : w.ownsRow base' e size v n xs := by
  obtain ⟨h1, h2⟩ := h
  refine ⟨h1, ?_⟩
  rcases h2 with h2 | ⟨g, cap, cur, rfl, hg, r⟩
  · exact Or.inl h2
  · exact Or.inr ⟨g, cap, cur, rfl, by omega, r⟩

/-- append of a whole slice, nil or not -/
theorem wpList_append_src {P : Program} {w : World} {ops : Array Oper} {rest : List Oper} {o : Oper} {a : Act} {Q : Exit → Act → World → Prop} (hgd : o.guard = none) (s x : Operand) (t : TypeId)
    (ho : o.op = .call { callee := .builtin .append, args := #[s, x], argTypes := #[t, t] })
    (base : Nat) (e : TypeId) (i : TypeInfo) (z : Value) (size bytes : Nat) (ht : P.underlying t = some (.slice e)) (hi : P.info? e = some i) (hz : i.zero = some z)
    (hsize : i.size = size) (hby : i.bytes = bytes) (hzs : z.cells.size = size) (hsz : 0 < size)
    (v : Value) (n : Nat) (xs : List Value) (hs : a.eval s = v) (hown : w.ownsRow base e size v n xs)
    (y : Value) (base2 m : Nat) (ys : List Value) (hx : a.eval x = y) (hsrc : w.ownsRow base2 e size y m ys) (h1 : ∀ u ∈ ys, u.oneCell' = true)
    (h63 : n + m ≤ maxLen) (hbytes : (n + m) * bytes ≤ 140737488355328) (hbase : base ≤ w.heap.size)
    (h : ∀ v' w', w'.ownsRow base e size v' (n + m) (xs ++ ys) → w.grownBy w' v.ownBlock → wpList P ops Q rest (a.put o.dst v') w') : wpList P ops Q (o :: rest) a w := by
  obtain ⟨hl, ⟨rfl, rfl⟩ | ⟨g, cap, cur, rfl, hg, hh, h4, h5, h6, h7⟩⟩ := hsrc
  · refine wpList_append_own_none hgd s x t ho base e i size ht hi v n xs hs hown hx ?_
    have : ys = [] := List.eq_nil_of_length_eq_zero (by simpa using hl)
    subst this
    exact h v w (by simpa using hown) (World.grownBy.refl _ _)
  · refine wpList_append_own w hgd s x t ho base e i z size bytes ht hi hz hsize hby hzs hsz v n xs hs hown ⟨g, 0, none⟩ m cap ys hx hl ?_ h1 h63 hbytes hbase (fun v' w' ho' hg' _ => h v' w' ho' hg')
    intro j u hj
    rw [add_lit, Nat.zero_add, cell_of_row _ _ _ _ _ _ hh]
    rw [← h7, List.getElem?_take] at hj
    by_cases hjn : j < m * size
    · simpa [hjn] using hj
    · simp [hjn] at hj

/-- a value of storeref.Disk -/
def rcells (n : Int) (may : Value) (e : Bool) (were : Value) (wd b : Bool) : Array Value := #[.int .i64 n, may, .bool e, were, .bool wd, .bool b]
def nilMaps (k : Nat) : List Value := List.replicate k (.slice none 0 0)
theorem imap : (Tryz.prog.info? 170).map (fun i => (i.zero, i.size, i.bytes)) = some (some (.agg #[.slice none 0 0]), 1, 24) := by kernel_rfl
theorem one_nilMaps (k : Nat) : ∀ u ∈ nilMaps k, u.oneCell' = true := by intro u hu; rw [List.eq_of_mem_replicate hu]; rfl
/-- a slice of k empty maps -/
def Maps (w : World) (v : Value) (k : Nat) : Prop := w.ownsRow 0 170 1 v k (nilMaps k)

set_option maxHeartbeats 400000 in
theorem Fits_any (n : Nat) (may : Value) (e : Bool) (were : Value) (wd b : Bool) (w : World) :
    Calls Tryz.prog 107 #[.agg (rcells n may e were wd b)] w fun ev w' => ev = .returned (.bool (decide (8 ≤ n ∧ n ≤ 400))) ∧ Kept [] w w' := by
  unfold rcells
  by_cases h8 : 8 ≤ n
  · by_cases h4 : n ≤ 400
    · have g8 : (8 : Int) ≤ n := by omega
      have g4 : (n : Int) ≤ 400 := by omega
      go_enter Tryz.func107, Tryz.ntmps107
      go_wp2
      go_ret
      exact ⟨by simp [h8, h4], (Kept.refl _ _).alloc _⟩
    · have g8 : (8 : Int) ≤ n := by omega
      have g4 : ¬ (n : Int) ≤ 400 := by omega
      have d4 : decide ((n : Int) ≤ 400) = false := by simpa using g4
      go_enter Tryz.func107, Tryz.ntmps107
      go_wp2
      go_ret
      exact ⟨by simp, (Kept.refl _ _).alloc _⟩
  · have g8 : ¬ (8 : Int) ≤ n := by omega
    have d8 : decide ((8 : Int) ≤ n) = false := by simpa using g8
    go_enter Tryz.func107, Tryz.ntmps107
    go_wp2
    go_ret
    exact ⟨by simp, (Kept.refl _ _).alloc _⟩

end Go.Proofs.YtloihcnbcknbnaaGreatDoor

namespace Go.Proofs.YtloihcnbcknbnaaGreatDoor
open Go.RowKit

theorem nilMaps_add (m k : Nat) : nilMaps m ++ nilMaps k = nilMaps (m + k) := by simp [nilMaps]

theorem srd : (Tryz.prog.info? 133).map (·.size) = some 6 := by kernel_rfl

theorem all_rcells (n : Int) (p1 p2 : Option Addr) (l1 q1 l2 q2 : Nat) (e wd b : Bool) : (rcells n (.slice p1 l1 q1) e (.slice p2 l2 q2) wd b).all (·.oneCell') = true := by
  have h1 : ∀ p l q, (Value.slice p l q).oneCell' = true := fun _ _ _ => rfl
  have h2 : ∀ x, (Value.bool x).oneCell' = true := fun _ => rfl
  have h3 : ∀ k x, (Value.int k x).oneCell' = true := fun _ _ => rfl
  simp [rcells, h1, h2, h3]

/-- the three boxes of Too's frame -/
structure Boxes (w0 w : World) (rc : Array Value) : Prop where
  b0 : w.heap[w0.heap.size]? = some (.cells rc 133 (0, 0))
  b1 : w.heap[w0.heap.size + 1]? = some (.cells #[.slice none 0 0] 170 (0, 0))
  b2 : w.heap[w0.heap.size + 1 + 1]? = some (.cells (rcells 0 (.slice none 0 0) false (.slice none 0 0) false false) 133 (0, 0))
  k : Kept [] w0 w
  sz : w0.heap.size + 3 ≤ w.heap.size

theorem Boxes.step {w0 w w' : World} {rc : Array Value} {S : List Nat} (h : Boxes w0 w rc) (k : Kept S w w') (hS : ∀ x ∈ S, w0.heap.size + 3 ≤ x) : Boxes w0 w' rc :=
  have hn : ∀ y, y < w0.heap.size + 3 → y ∉ S := fun y hy hx => by have := hS y hx; omega
  ⟨k.get h.b0 (hn _ (by omega)), k.get h.b1 (hn _ (by omega)), k.get h.b2 (hn _ (by omega)), h.k.trans2 k (fun x hx => Or.inr (by have := hS x hx; omega)), by have := h.sz; have := k.size; omega⟩

theorem Boxes.grown {w0 w w' : World} {rc : Array Value} {v : Value} (h : Boxes w0 w rc) (g : w.grownBy w' v.ownBlock) (hv : ∀ x, v.ownBlock = some x → w0.heap.size + 3 ≤ x) : Boxes w0 w' rc :=
  h.step (grown_kept g v.ownBlock.toList (by intro x hx; rw [hx]; simp)) (by
    intro x hx
    cases hu : v.ownBlock with
    | none => rw [hu] at hx; cases hx
    | some y => rw [hu] at hx; simp at hx; subst hx; exact hv _ hu)

theorem Boxes.alloc {w0 w : World} {rc : Array Value} (h : Boxes w0 w rc) (o : Obj) : Boxes w0 (w.alloc o) rc := h.step ((Kept.refl [] w).alloc o) (by simp)

theorem Boxes.set {w0 w : World} {rc : Array Value} (h : Boxes w0 w rc) (j : Nat) (v : Value) : Boxes w0 (w.setCell ⟨w0.heap.size, j, none⟩ v) (rc.setIfInBounds j v) := by
  have k : Kept [w0.heap.size] w (w.setCell ⟨w0.heap.size, j, none⟩ v) := (Kept.refl _ _).setCell (Or.inl (by simp)) _
  exact ⟨setCellAt v h.b0, k.get h.b1 (by simp), k.get h.b2 (by simp; omega), h.k.trans2 k (by simp), by simpa [World.setCell] using h.sz⟩

theorem Boxes.init (w : World) (rc : Array Value) : Boxes w (((w.alloc (.cells rc 133)).alloc (.cells #[.slice none 0 0] 170)).alloc (.cells #[.int .i64 0, .slice none 0 0, .bool false, .slice none 0 0, .bool false, .bool false] 133)) rc := by
  have k1 := (Kept.refl [] w).alloc (.cells rc 133)
  have k2 := (Kept.refl [] (w.alloc (.cells rc 133))).alloc (.cells #[.slice none 0 0] 170)
  have k3 := (Kept.refl [] ((w.alloc (.cells rc 133)).alloc (.cells #[.slice none 0 0] 170))).alloc (.cells #[.int .i64 0, .slice none 0 0, .bool false, .slice none 0 0, .bool false, .bool false] 133)
  refine ⟨k3.get (k2.get (heap_alloc_new _ _) (by simp)) (by simp), k3.get ?_ (by simp), ?_, (k1.trans k2).trans k3, by simp⟩
  · have := heap_alloc_new (w.alloc (.cells rc 133)) (.cells #[.slice none 0 0] 170)
    rwa [World.size_alloc] at this
  · have := heap_alloc_new ((w.alloc (.cells rc 133)).alloc (.cells #[.slice none 0 0] 170)) (.cells #[.int .i64 0, .slice none 0 0, .bool false, .slice none 0 0, .bool false, .bool false] 133)
    rwa [World.size_alloc, World.size_alloc] at this

/-- what Too gives -/
def TooR (n : Int) (k : Nat) (e wd b : Bool) (w : World) (ev : Ending) (w' : World) : Prop :=
  ∃ p1 l1 q1 p2 l2 q2, ev = .returned (.agg (rcells n (.slice p1 l1 q1) e (.slice p2 l2 q2) wd b)) ∧ Maps w' (.slice p2 l2 q2) (k + 1) ∧ Kept [] w w'

set_option maxRecDepth 100000 in
set_option maxHeartbeats 1000000 in
theorem Too_any (n : Int) (may were : Value) (m k : Nat) (e wd b : Bool) (w : World) (hm : Maps w may m) (hk : Maps w were k) (bm : m ≤ 20000) (bk : k ≤ 20000) :
    Calls Tryz.prog 110 #[.agg (rcells n may e were wd b), .agg #[.slice none 0 0]] w (TooR n k e wd b w) := by
  unfold rcells
  obtain ⟨ie, hie, hz1, hz2, hz3⟩ := info_parts imap
  have hml : ∀ x, may.ownBlock = some x → x < w.heap.size := fun x hx => (World.ownsRow.lt hm x hx).2
  have hkl : ∀ x, were.ownBlock = some x → x < w.heap.size := fun x hx => (World.ownsRow.lt hk x hx).2
  have Hm : Hid (w.ownsRow 0 170 1 may m (nilMaps m)) := hm
  have Hk : Hid (w.ownsRow 0 170 1 were k (nilMaps k)) := hk
  have HB := Boxes.init w #[.int .i64 n, may, .bool e, were, .bool wd, .bool b]
  clear hm hk
  go_enter Tryz.func110, Tryz.ntmps110
  go_wp2_with (first
    | (at_builtin; refine wpList_append_src rfl (.tmp 7) (.tmp 9) 131 rfl (w.heap.size + 3) 170 ie _ 1 24 Tryz.underlying131 hie hz1 hz2 hz3 rfl (by decide) (.slice none 0 0) 0 [] rfl (World.ownsRow_nil _ _ _ _) may 0 m (nilMaps m) rfl (owns_kept Hm.out HB.k (by simp)) (one_nilMaps _) (by unfold maxLen; omega) (by omega) (by simp) ?_; intro v1 w1 hown1 hgr1; have B1 := HB.grown (v := .slice none 0 0) hgr1 (by intro x hx; cases hx); clear hgr1 HB; have d1 : w1.cell? ⟨w.heap.size + 1, 0, none⟩ = some (.slice none 0 0) := cellAt B1.b1 rfl)
    | (at_builtin; refine wpList_append_own _ rfl (.tmp 11) (.tmp 13) 131 rfl (w.heap.size + 3) 170 ie _ 1 24 Tryz.underlying131 hie hz1 hz2 hz3 rfl (by decide) v1 (0 + m) ([] ++ nilMaps m) rfl (hown1.alloc _) ⟨w1.heap.size, 0, none⟩ 1 1 [.slice none 0 0] rfl rfl (cell_one_new _ _ _) (one_nilMaps 1) (by unfold maxLen; omega) (by omega) (by have := B1.sz; simp; omega) ?_; intro v2 w2 hown2 hgr2 _; obtain ⟨p2, l2, q2, rfl⟩ := owns_slice hown2; have B2 := (B1.alloc _).grown hgr2 (by intro x hx; exact (hown1.lt x hx).1); clear hgr2; have d2 : w2.cell? ⟨w.heap.size, 1, none⟩ = some may := cellAt B2.b0 rfl; have f2 : w2.frozen? ⟨w.heap.size, 1, none⟩ = false := frozen_of_row _ _ _ _ _ B2.b0; have B3 := B2.set 1 (.slice p2 l2 q2); have d3 : (w2.setCell ⟨w.heap.size, 1, none⟩ (.slice p2 l2 q2)).cell? ⟨w.heap.size, 3, none⟩ = some were := cellAt B3.b0 rfl)
    | (at_builtin; refine wpList_append_src rfl (.tmp 16) (.tmp 18) 131 rfl (w.heap.size + 3) 170 ie _ 1 24 Tryz.underlying131 hie hz1 hz2 hz3 rfl (by decide) (.slice none 0 0) 0 [] rfl (World.ownsRow_nil _ _ _ _) were 0 k (nilMaps k) rfl (owns_kept Hk.out B3.k (by simp)) (one_nilMaps _) (by unfold maxLen; omega) (by omega) B3.sz ?_; intro v4 w4 hown4 hgr4; have B4 := B3.grown (v := .slice none 0 0) hgr4 (by intro x hx; cases hx); have hk4 := grown_kept hgr4 [] (by intro x hx; cases hx); clear hgr4; have d4 : w4.cell? ⟨w.heap.size + 1, 0, none⟩ = some (.slice none 0 0) := cellAt B4.b1 rfl)
    | (at_builtin; refine wpList_append_own _ rfl (.tmp 20) (.tmp 22) 131 rfl (w.heap.size + 3) 170 ie _ 1 24 Tryz.underlying131 hie hz1 hz2 hz3 rfl (by decide) v4 (0 + k) ([] ++ nilMaps k) rfl (hown4.alloc _) ⟨w4.heap.size, 0, none⟩ 1 1 [.slice none 0 0] rfl rfl (cell_one_new _ _ _) (one_nilMaps 1) (by unfold maxLen; omega) (by omega) (by have := B4.sz; simp; omega) ?_; intro v5 w5 hown5 hgr5 _; obtain ⟨p5, l5, q5, rfl⟩ := owns_slice hown5; have B5 := (B4.alloc _).grown hgr5 (by intro x hx; exact (hown4.lt x hx).1); have e5 : w5.cell? ⟨w.heap.size, 3, none⟩ = some were := cellAt B5.b0 rfl; have g5 : w5.frozen? ⟨w.heap.size, 3, none⟩ = false := frozen_of_row _ _ _ _ _ B5.b0; have B6 := B5.set 3 (.slice p5 l5 q5); skip)
    | (refine wpList_load_row rfl 133 (.tmp 2) rfl w.heap.size rfl 133 (rcells n (.slice p2 l2 q2) e (.slice p5 l5 q5) wd b) (0, 0) _ B6.b0 Tryz.underlying133 rfl srd ?_)
    | (refine wpList_store_k rfl 133 (.tmp 4) (.tmp 25) rfl (w.heap.size + 1 + 1) (rcells n (.slice p2 l2 q2) e (.slice p5 l5 q5) wd b) rfl rfl 133 _ B6.b2 srd rfl (all_rcells _ _ _ _ _ _ _ _ _ _) ?_; intro w7 hg7 hk7))
  refine bodyPost_ret (results_cell_row rfl _ w7 (w.heap.size + 1 + 1) 133 _ (0, 0) _ rfl hg7 Tryz.underlying133 rfl srd) rfl ?_
  refine ⟨_, _, _, _, _, _, rfl, ?_, B6.k.trans2 hk7 (by intro x hx; simp at hx; subst hx; exact Or.inr (by omega))⟩
  have h5 : w5.ownsRow (w.heap.size + 3) 170 1 (.slice p5 l5 q5) (k + 1) (nilMaps (k + 1)) := by
    have := hown5
    simp only [List.nil_append, Nat.zero_add] at this
    rw [show [Value.slice none 0 0] = nilMaps 1 from rfl, nilMaps_add] at this
    exact this
  have hk6 : Kept [w.heap.size] w5 (w5.setCell ⟨w.heap.size, 3, none⟩ (.slice p5 l5 q5)) := (Kept.refl _ _).setCell (Or.inl (by simp)) _
  refine owns_kept (owns_kept (owns_mono h5 (Nat.zero_le _)) hk6 ?_) hk7 ?_
  · intro x hx; have := (h5.lt x hx).1; simp; omega
  · intro x hx; have := (h5.lt x hx).1; simp; omega

end Go.Proofs.YtloihcnbcknbnaaGreatDoor

namespace Go.Proofs.YtloihcnbcknbnaaGreatDoor
open Go.RowKit

/-- what Only gives -/
def OnlyR (n : Int) (k : Nat) (wd b : Bool) (w : World) (ev : Ending) (w' : World) : Prop :=
  ∃ v1 v2, ev = .returned (.agg (rcells n v1 false v2 wd b)) ∧ Maps w' v1 1 ∧ Maps w' v2 (k + 1) ∧ Kept [] w w'

set_option maxRecDepth 100000 in
set_option maxHeartbeats 1000000 in
theorem Only_any (n : Int) (may were : Value) (m k : Nat) (e wd b : Bool) (w : World) (hm : Maps w may m) (hk : Maps w were k) (bm : m ≤ 20000) (bk : k ≤ 20000) :
    Calls Tryz.prog 109 #[.agg (rcells n may e were wd b), .agg #[.slice none 0 0]] w (OnlyR n k wd b w) := by
  have HB := Boxes.init w (rcells n may e were wd b)
  have hT := fun W (h1 : Maps W may m) (h2 : Maps W were k) => Too_any n may were m k e wd b W h1 h2 bm bk
  unfold rcells at HB hT ⊢
  go_enter Tryz.func109, Tryz.ntmps109
  go_wp2_with fail
  refine (hT _ (owns_kept hm HB.k (by simp)) (owns_kept hk HB.k (by simp))).mono ?_
  rintro e w1 ⟨p1, l1, q1, p2, l2, q2, rfl, hm1, hk1⟩
  have B1 := HB.step hk1 (by simp)
  clear HB hT hk1
  have a0 := cellAt (j := 0) B1.b1 rfl
  go_wp2_with (first
    | (refine wpList_alloc_k rfl 133 rfl (rcells 0 (.slice none 0 0) false (.slice none 0 0) false false) (by rfl) ?_; intro w2 hn2 hk2 _; have B2 := B1.step hk2 (by simp))
    | (refine wpList_store_k rfl 133 (.tmp 5) (.tmp 8) rfl w1.heap.size (rcells n (.slice p1 l1 q1) e (.slice p2 l2 q2) wd b) rfl rfl 133 _ hn2 srd rfl (all_rcells _ _ _ _ _ _ _ _ _ _) ?_; intro w3 hn3 hk3; have B3 := B2.step hk3 (by intro x hx; simp at hx; subst hx; exact B1.sz); have a3 : w3.cell? ⟨w.heap.size + 1, 0, none⟩ = some (.slice none 0 0) := cellAt B3.b1 rfl; have k4 := (Kept.refl [] w3).alloc (.cells #[.slice none 0 0] 170); have hn4 := k4.get hn3 (by simp); have a4 : (w3.alloc (.cells #[.slice none 0 0] 170)).cell? ⟨w1.heap.size, 1, none⟩ = some (.slice p1 l1 q1) := cellAt hn4 rfl; have f4 : (w3.alloc (.cells #[.slice none 0 0] 170)).frozen? ⟨w1.heap.size, 1, none⟩ = false := frozen_of_row _ _ _ _ _ hn4; have hn5 := setCellAt (i := 1) (.slice (some ⟨w3.heap.size, 0, none⟩) 1 1) hn4; have f5 : ((w3.alloc (.cells #[.slice none 0 0] 170)).setCell ⟨w1.heap.size, 1, none⟩ (.slice (some ⟨w3.heap.size, 0, none⟩) 1 1)).frozen? ⟨w1.heap.size, 2, none⟩ = false := frozen_of_row _ _ _ _ _ hn5; have a5 : ((w3.alloc (.cells #[.slice none 0 0] 170)).setCell ⟨w1.heap.size, 1, none⟩ (.slice (some ⟨w3.heap.size, 0, none⟩) 1 1)).cell? ⟨w1.heap.size, 2, none⟩ = some (.bool e) := cellAt hn5 rfl; have hn6 := setCellAt (i := 2) (.bool false) hn5; have k6 : Kept [w1.heap.size] w3 (((w3.alloc (.cells #[.slice none 0 0] 170)).setCell ⟨w1.heap.size, 1, none⟩ (.slice (some ⟨w3.heap.size, 0, none⟩) 1 1)).setCell ⟨w1.heap.size, 2, none⟩ (.bool false)) := (((Kept.refl _ _).alloc _).setCell (Or.inl (by simp)) _).setCell (Or.inl (by simp)) _; have B6 := B3.step k6 (by intro x hx; simp at hx; subst hx; exact B1.sz))
    | (refine wpList_load_row rfl 133 (.tmp 5) rfl w1.heap.size rfl 133 (rcells n (.slice (some ⟨w3.heap.size, 0, none⟩) 1 1) false (.slice p2 l2 q2) wd b) (0, 0) _ hn6 Tryz.underlying133 rfl srd ?_)
    | (refine wpList_store_k rfl 133 (.tmp 4) (.tmp 13) rfl (w.heap.size + 1 + 1) (rcells n (.slice (some ⟨w3.heap.size, 0, none⟩) 1 1) false (.slice p2 l2 q2) wd b) rfl rfl 133 _ B6.b2 srd rfl (all_rcells _ _ _ _ _ _ _ _ _ _) ?_; intro w7 hg7 hk7))
  refine bodyPost_ret (results_cell_row rfl _ w7 (w.heap.size + 1 + 1) 133 _ (0, 0) _ rfl hg7 Tryz.underlying133 rfl srd) rfl ?_
  have hsz1 := B1.sz
  have hsz3 : w1.heap.size + 1 ≤ w3.heap.size := by have := hk2.size; have := hk3.size; have := lt_heap hn3; omega
  have kk : Kept [w1.heap.size] w1 w3 := (hk2.mono (by simp)).trans hk3
  have k67 := hk7
  refine ⟨_, _, rfl, ?_, ?_, B6.k.trans2 hk7 (by intro x hx; simp at hx; subst hx; exact Or.inr (by omega))⟩
  · refine ⟨rfl, Or.inr ⟨w3.heap.size, 1, #[.slice none 0 0], rfl, Nat.zero_le _, ?_, Nat.le_refl _, by unfold maxLen; omega, rfl, rfl⟩⟩
    refine k67.get ?_ (by simp; omega)
    have kb : Kept [w1.heap.size] (w3.alloc (.cells #[.slice none 0 0] 170)) (((w3.alloc (.cells #[.slice none 0 0] 170)).setCell ⟨w1.heap.size, 1, none⟩ (.slice (some ⟨w3.heap.size, 0, none⟩) 1 1)).setCell ⟨w1.heap.size, 2, none⟩ (.bool false)) := ((Kept.refl _ _).setCell (Or.inl (by simp)) _).setCell (Or.inl (by simp)) _
    exact kb.get (heap_alloc_new _ _) (by simp; omega)
  · refine owns_kept (owns_kept (owns_kept hm1 kk ?_) k6 ?_) k67 ?_
    · intro x hx; have := (World.ownsRow.lt hm1 x hx).2; simp; omega
    · intro x hx; have := (World.ownsRow.lt hm1 x hx).2; simp; omega
    · intro x hx
      obtain ⟨_, ⟨hv, _⟩ | ⟨g, cap, cur, hv, _, hh, _⟩⟩ := hm1
      · rw [hv] at hx; cases hx
      · rw [hv] at hx
        simp only [Value.ownBlock, Option.some.injEq] at hx
        subst hx
        simpa using ne_tag hh B1.b2 (by decide)

end Go.Proofs.YtloihcnbcknbnaaGreatDoor

namespace Go.Proofs.YtloihcnbcknbnaaGreatDoor
open Go.RowKit

set_option maxHeartbeats 400000 in
theorem Same_nil (w : World) : Calls Tryz.prog 120 #[.slice none 0 0, .slice none 0 0] w fun e w' => e = .returned (.bool true) ∧ w' = w := by
  go_enter Tryz.func120, Tryz.ntmps120
  go_wp2
  refine wp_loop_rounds 1 ?_
  rw [rounds_succ]
  go_wp2
  go_ret
  exact ⟨rfl, rfl⟩

set_option maxHeartbeats 400000 in
theorem pairs_nil (w : World) : Calls Tryz.prog 119 #[.slice none 0 0] w fun e w' => e = .returned (.slice none 0 0) ∧ w' = w := by
  go_enter Tryz.func119, Tryz.ntmps119
  go_wp2
  refine wp_loop_rounds 1 ?_
  rw [rounds_succ]
  go_wp2
  go_ret
  exact ⟨rfl, rfl⟩

theorem num_any (x : Int) (w : World) : Calls Tryz.prog 108 #[.int .i64 x] w fun e w' => e = .returned (.int .i64 x) ∧ w' = w := by
  go_enter Tryz.func108, Tryz.ntmps108
  go_wp2
  go_ret
  exact ⟨rfl, rfl⟩

set_option maxHeartbeats 400000 in
theorem Has_one (n : Int) (may were : Value) (e wd b : Bool) (w : World) (hm : Maps w may 1) :
    Calls Tryz.prog 139 #[.agg (rcells n may e were wd b), .slice none 0 0] w fun ev w' => ev = .returned (.bool true) ∧ Kept [] w w' := by
  obtain ⟨_, ⟨_, h0⟩ | ⟨g, cap, cur, rfl, _, hh, _, _, _, h4⟩⟩ := hm
  · omega
  have hc : w.cell? ⟨g, 0, none⟩ = some (.slice none 0 0) := by
    rw [cell_of_row _ _ _ _ _ _ hh]
    have := congrArg (fun x => x[0]?) h4
    simpa [nilMaps] using this
  have hg := lt_heap hh
  clear hh h4
  unfold rcells
  go_enter Tryz.func139, Tryz.ntmps139
  go_wp2
  refine wp_loop_rounds 1 ?_
  rw [rounds_succ]
  go_wp2_with (go_at_call 120; refine (Same_nil _).mono ?_; rintro e w' ⟨rfl, rfl⟩)
  go_ret
  exact ⟨rfl, (Kept.refl _ _).alloc _⟩

end Go.Proofs.YtloihcnbcknbnaaGreatDoor

namespace Go.Proofs.YtloihcnbcknbnaaGreatDoor
open Go.RowKit

/-- a key with its value -/
abbrev Pr := ByteArray × ByteArray
def pcells (p : Pr) : List Value := [.string p.1, .string p.2]
def flat2 (l : List Pr) : List Value := l.flatMap pcells
theorem length_pcells (p : Pr) : (pcells p).length = 2 := rfl
theorem length_flat2 (l : List Pr) : (flat2 l).length = l.length * 2 := by
  induction l with
  | nil => rfl
  | cons o r ih =>
    have : flat2 (o :: r) = pcells o ++ flat2 r := rfl
    rw [this, List.length_append, ih, length_pcells, List.length_cons]
    omega
theorem flat2_get (l : List Pr) : ∀ (i : Nat) (p : Pr), l[i]? = some p → ∀ (j : Nat) (v : Value), (pcells p)[j]? = some v → (flat2 l)[i * 2 + j]? = some v := by
  induction l with
  | nil => intro i o h; simp at h
  | cons x r ih =>
    intro i o h j v hv
    have hj : j < 2 := by have := (List.getElem?_eq_some_iff.1 hv).1; rwa [length_pcells] at this
    have e : flat2 (x :: r) = pcells x ++ flat2 r := rfl
    rw [e]
    cases i with
    | zero =>
      simp at h; subst h
      rw [List.getElem?_append_left (by rw [length_pcells]; omega)]
      simpa using hv
    | succ i =>
      rw [List.getElem?_append_right (by rw [length_pcells]; omega), length_pcells]
      have := ih i o (by simpa using h) j v hv
      rw [show (i + 1) * 2 + j - 2 = i * 2 + j by omega]
      exact this
theorem flat2_snoc (l : List Pr) (p : Pr) : flat2 l ++ pcells p = flat2 (l ++ [p]) := by simp [flat2]
theorem one_pcells (p : Pr) : ∀ v ∈ pcells p, v.oneCell' = true := by
  intro v hv
  simp only [pcells, List.mem_cons, List.not_mem_nil, or_false] at hv
  rcases hv with rfl | rfl <;> rfl

/-- a slice of pairs, of a type t -/
def PL (w : World) (t : TypeId) (v : Value) (l : List Pr) : Prop := w.ownsRow 0 t 2 v l.length (flat2 l)

theorem PL.nil (w : World) (t : TypeId) : PL w t (.slice none 0 0) [] := World.ownsRow_nil _ _ _ _

theorem PL.shape {w : World} {t : TypeId} {v : Value} {l : List Pr} (h : PL w t v l) : ∃ p cap, v = .slice p l.length cap := by
  obtain ⟨_, ⟨rfl, h0⟩ | ⟨g, cap, cur, rfl, _⟩⟩ := h
  · exact ⟨none, 0, by rw [h0]⟩
  · exact ⟨_, _, rfl⟩

theorem PL.at_ {w : World} {t : TypeId} {v : Value} {l : List Pr} (h : PL w t v l) (hl : 0 < l.length) : ∃ g cap cur, v = .slice (some ⟨g, 0, none⟩) l.length cap ∧ w.heap[g]? = some (.cells cur t (0, 0)) ∧
    (∀ (i : Nat) (p : Pr), l[i]? = some p → cur[i * 2]? = some (.string p.1) ∧ cur[i * 2 + 1]? = some (.string p.2)) := by
  obtain ⟨_, ⟨_, h0⟩ | ⟨g, cap, cur, e, _, hh, _, _, _, htk⟩⟩ := h
  · omega
  refine ⟨g, cap, cur, e, hh, ?_⟩
  intro i p hi
  have hil : i < l.length := (List.getElem?_eq_some_iff.1 hi).1
  have h0 := flat2_get l i p hi 0 _ rfl
  have h1 := flat2_get l i p hi 1 _ rfl
  rw [← htk, List.getElem?_take, if_pos (by omega)] at h0 h1
  exact ⟨by simpa using h0, by simpa using h1⟩

theorem PL.load {w : World} {t ty : TypeId} {g i : Nat} {cur : Array Value} {p : Pr} (fs : _) {P : Program} (hg : w.heap[g]? = some (.cells cur t (0, 0))) (hc : cur[i * 2]? = some (.string p.1) ∧ cur[i * 2 + 1]? = some (.string p.2))
    (hu : P.underlying ty = some (.struct fs)) (hi : (P.info? ty).map (·.size) = some 2) :
    (loadVar ty ⟨g, i * 2, none⟩).run P w = .ok (.agg #[.string p.1, .string p.2]) w := by
  refine run_loadVar_seg (P := P) w g (i * 2) t ty cur.toList [.string p.1, .string p.2] (0, 0) _ (by simpa using hg) hu rfl hi ?_
  intro j v hv
  rcases j with _ | _ | j
  · simp at hv; subst hv; simpa using hc.1
  · simp at hv; subst hv; simpa using hc.2
  · simp at hv

theorem PL.kept {S : List Nat} {w w' : World} {t : TypeId} {v : Value} {l : List Pr} (h : PL w t v l) (k : Kept S w w') (hS : ∀ b, v.ownBlock = some b → b ∉ S) : PL w' t v l := owns_kept h k hS

theorem irp : (Tryz.prog.info? 201).map (fun i => (i.zero, i.size, i.bytes)) = some (some (.agg #[.string ⟨#[]⟩, .string ⟨#[]⟩]), 2, 32) := by kernel_rfl
theorem srp : (Tryz.prog.info? 201).map (·.size) = some 2 := by kernel_rfl
theorem iap : (Tryz.prog.info? 41).map (fun i => (i.zero, i.size, i.bytes)) = some (some (.agg #[.string ⟨#[]⟩, .string ⟨#[]⟩]), 2, 32) := by kernel_rfl
theorem sap : (Tryz.prog.info? 41).map (·.size) = some 2 := by kernel_rfl
theorem smap : (Tryz.prog.info? 170).map (·.size) = some 1 := by kernel_rfl

/-! the document's map, as the text goes through it -/

/-- is a key less? -/
def bl (a b : ByteArray) : Bool := Op.bytesLess a.toList b.toList
/-- are two texts one? -/
def be (a b : ByteArray) : Bool := a.toList == b.toList

theorem toList_of (s : ByteArray) : s.toList = s.data.toList := ByteArray.toList_eq s
theorem lessL : ∀ (x y : List UInt8), Op.bytesLess x y = decide (x < y)
  | [], [] => by simp [Op.bytesLess]
  | _ :: _, [] => by simp [Op.bytesLess]
  | [], _ :: _ => by simp [Op.bytesLess]
  | a :: x, b :: y => by
    have ih := lessL x y
    unfold Op.bytesLess
    rw [ih]
    by_cases h1 : a < b <;> by_cases h2 : a = b <;> by_cases h3 : x < y <;> simp [List.cons_lt_cons_iff, h1, h2, h3]
theorem bl_def (a b : ByteArray) : bl a b = decide (a.data.toList < b.data.toList) := by rw [bl, lessL, toList_of, toList_of]
theorem be_iff (a b : ByteArray) : be a b = true ↔ a = b := by
  rw [be, toList_of, toList_of, beq_iff_eq]
  constructor
  · intro h
    cases a; cases b
    simp only [ByteArray.mk.injEq]
    exact Array.toList_inj.1 h
  · rintro rfl; rfl
theorem be_false (a b : ByteArray) : be a b = false ↔ a ≠ b := by
  have := be_iff a b
  cases h : be a b <;> simp_all
theorem be_refl (a : ByteArray) : be a a = true := (be_iff a a).2 rfl
theorem bl_irrefl (a : ByteArray) : bl a a = false := by rw [bl_def]; simp [List.lt_irrefl]
theorem bl_trans {a b c : ByteArray} (h1 : bl a b = true) (h2 : bl b c = true) : bl a c = true := by
  rw [bl_def, decide_eq_true_eq] at *; exact List.lt_trans h1 h2
theorem bl_total (a b : ByteArray) : bl a b = true ∨ a = b ∨ bl b a = true := by
  simp only [bl_def, decide_eq_true_eq]
  rcases Decidable.em (a.data.toList < b.data.toList) with h | h
  · exact Or.inl h
  rcases Decidable.em (b.data.toList < a.data.toList) with h' | h'
  · exact Or.inr (Or.inr h')
  right; left
  have := List.le_antisymm (List.not_lt.1 h') (List.not_lt.1 h)
  cases a; cases b
  simp only [ByteArray.mk.injEq]
  exact Array.toList_inj.1 this

/-- With, from a place on: is the pair there already? -/
def withGo (k v : ByteArray) : Bool → List Pr → List Pr
  | b, [] => if b then [] else [(k, v)]
  | b, p :: r => (if !b && !bl p.1 k then [(k, v)] else []) ++ (if be p.1 k then [] else [p]) ++ withGo k v (b || !bl p.1 k) r
def withL (k v : ByteArray) (l : List Pr) : List Pr := withGo k v false l
def withoutL (k : ByteArray) (l : List Pr) : List Pr := l.filter fun p => !be p.1 k
def getL (k : ByteArray) : List Pr → Option ByteArray
  | [] => none
  | p :: r => if be p.1 k then some p.2 else getL k r
def inR (lo hi : ByteArray) (p : Pr) : Bool := !bl p.1 lo && bl p.1 hi
def scanL (lo hi : ByteArray) (m : Nat) (l : List Pr) : List Pr := (l.filter (inR lo hi)).take m

end Go.Proofs.YtloihcnbcknbnaaGreatDoor

namespace Go.Proofs.YtloihcnbcknbnaaGreatDoor
open Go.RowKit

theorem run_pair1 (w : World) (p : Pr) : (Instr.buildSlice 168 1 #[(0, .agg #[.string p.1, .string p.2])]).run Tryz.prog w = .ok (.slice (some ⟨w.heap.size, 0, none⟩) 1 1) (w.alloc (.cells (pcells p).toArray 201)) := by
  obtain ⟨ie, hie, hz1, hz2, _⟩ := info_parts irp
  exact run_build1 (P := Tryz.prog) w 168 201 #[.string p.1, .string p.2] ie _ Tryz.underlying168 hie hz1 (by rw [hz2]; rfl) (by simp) (by simp)

/-- a pair more behind an own list -/
theorem wpList_push {w : World} {ops : Array Oper} {rest : List Oper} {o : Oper} {a : Act} {Q : Exit → Act → World → Prop} (hgd : o.guard = none) (s x : Operand) (ho : o.op = .call { callee := .builtin .append, args := #[s, x], argTypes := #[168, 168] })
    (base : Nat) (v : Value) (l : List Pr) (hs : a.eval s = v) (hown : w.ownsRow base 201 2 v l.length (flat2 l)) (p : Pr) (nb : Nat) (hx : a.eval x = .slice (some ⟨nb, 0, none⟩) 1 1) (hn : w.heap[nb]? = some (.cells (pcells p).toArray 201 (0, 0)))
    (hl : l.length ≤ 100000) (hb : base ≤ w.heap.size)
    (h : ∀ v' w', w'.ownsRow base 201 2 v' (l ++ [p]).length (flat2 (l ++ [p])) → Kept v.ownBlock.toList w w' → wpList Tryz.prog ops Q rest (a.put o.dst v') w') : wpList Tryz.prog ops Q (o :: rest) a w := by
  obtain ⟨ie, hie, hz1, hz2, hz3⟩ := info_parts irp
  refine wpList_append_own _ hgd s x 168 ho base 201 ie _ 2 32 Tryz.underlying168 hie hz1 hz2 hz3 rfl (by decide) v l.length (flat2 l) hs hown ⟨nb, 0, none⟩ 1 1 (pcells p) hx rfl (row_src hn) (one_pcells p) (by unfold maxLen; omega) (by omega) hb ?_
  intro v' w' ho' hg' _
  exact h v' w' (by rw [← flat2_snoc]; simpa using ho') (grown_kept hg' _ (by intro y hy; rw [hy]; simp))

theorem own_ge {w : World} {base e size n : Nat} {v : Value} {xs : List Value} (h : w.ownsRow base e size v n xs) : ∀ y ∈ v.ownBlock.toList, base ≤ y := by
  intro y hy
  simp at hy
  exact (h.lt y hy).1
theorem own_lt {w : World} {base e size n : Nat} {v : Value} {xs : List Value} (h : w.ownsRow base e size v n xs) : ∀ y ∈ v.ownBlock.toList, y < w.heap.size := by
  intro y hy
  simp at hy
  exact (h.lt y hy).2

theorem withGo_nil (k v : ByteArray) (b : Bool) : withGo k v b [] = if b then [] else [(k, v)] := rfl
theorem withGo_cons (k v : ByteArray) (b : Bool) (p : Pr) (r : List Pr) : withGo k v b (p :: r) = (if !b && !bl p.1 k then [(k, v)] else []) ++ (if be p.1 k then [] else [p]) ++ withGo k v (b || !bl p.1 k) r := rfl

theorem owns_len2 {w : World} {base e size n : Nat} {v : Value} {xs : List Value} (h : w.ownsRow base e size v n xs) : ∃ p c, v = .slice p n c := by
  obtain ⟨_, ⟨rfl, rfl⟩ | ⟨g, cap, cur, rfl, _⟩⟩ := h
  · exact ⟨_, _, rfl⟩
  · exact ⟨_, _, rfl⟩

/-- the two boxes of With's frame, and what is collected -/
def WR (w : World) (vl : Value) (l : List Pr) (k v : ByteArray) (out put i : Value) (wr : World) : Prop :=
  ∃ (j : Nat) (b : Bool) (o : List Pr), j ≤ l.length ∧ i = .int .i64 j ∧ put = .bool b ∧ wr.ownsRow (w.heap.size + 2) 201 2 out o.length (flat2 o) ∧ o.length ≤ j + b.toNat ∧ o ++ withGo k v b (l.drop j) = withL k v l ∧
    wr.heap[w.heap.size]? = some (.cells #[vl] 170 (0, 0)) ∧ wr.heap[w.heap.size + 1]? = some (.cells #[.slice none 0 0] 170 (0, 0)) ∧ Kept [] w wr

/-- the new map -/
def MapR (l : List Pr) (w : World) (e : Ending) (w' : World) : Prop := ∃ v, e = .returned (.agg #[v]) ∧ PL w' 201 v l ∧ (∀ b, v.ownBlock = some b → w.heap.size ≤ b) ∧ Kept [] w w'

set_option maxRecDepth 100000 in
set_option maxHeartbeats 1000000 in
theorem With_any (vl : Value) (l : List Pr) (k v : ByteArray) (w : World) (h : PL w 201 vl l) (hl : l.length ≤ 50000) :
    Calls Tryz.prog 113 #[.agg #[vl], .string k, .string v] w (MapR (withL k v l) w) := by
  obtain ⟨pv, cv, rfl⟩ := h.shape
  have k0 := (Kept.refl [] w).alloc (.cells #[.slice pv l.length cv] 170)
  have n0 := heap_alloc_new w (.cells #[.slice pv l.length cv] 170)
  have k1 := (Kept.refl [] (w.alloc (.cells #[.slice pv l.length cv] 170))).alloc (.cells #[.slice none 0 0] 170)
  have n1 := heap_alloc_new (w.alloc (.cells #[.slice pv l.length cv] 170)) (.cells #[.slice none 0 0] 170)
  have z1 : (w.alloc (.cells #[.slice pv l.length cv] 170)).heap.size = w.heap.size + 1 := by simp
  rw [z1] at n1
  have hW0 : WR w (.slice pv l.length cv) l k v (.slice none 0 0) (.bool false) (.int .i64 0) ((w.alloc (.cells #[.slice pv l.length cv] 170)).alloc (.cells #[.slice none 0 0] 170)) :=
    ⟨0, false, [], Nat.zero_le _, rfl, rfl, World.ownsRow_nil _ _ _ _, by simp, rfl, k1.get n0 (by simp), n1, k0.trans k1⟩
  clear z1 n0 n1 k1
  go_enter Tryz.func113, Tryz.ntmps113
  go_wp2
  go_loopw [7, 8, 9] (fun out put i wr => WR w (.slice pv l.length cv) l k v out put i wr) (fun _ _ i _ => l.length - (intOf i).toNat)
  case atStart => exact hW0
  case round =>
    obtain ⟨j, b, o, hj, rfl, rfl, hown, hol, heq, b0, b1, hkr⟩ := hrel
    have c0 : wr.cell? ⟨w.heap.size, 0, none⟩ = some (.slice pv l.length cv) := cellAt b0 rfl
    by_cases hlt : j < l.length
    · have hPL := h.kept hkr (by simp)
      obtain ⟨g, cap, cur, e, hg, hcur⟩ := hPL.at_ (by omega)
      cases e
      obtain ⟨p, hp⟩ : ∃ p, l[j]? = some p := ⟨_, List.getElem?_eq_getElem hlt⟩
      have hld := PL.load (P := Tryz.prog) (ty := 201) _ hg (hcur j p hp) Tryz.underlying201 srp
      have hdr : l.drop j = p :: l.drop (j + 1) := by
        rw [List.drop_eq_getElem_cons hlt]
        congr 1
        exact (List.getElem?_eq_some_iff.1 hp).2
      rw [hdr, withGo_cons] at heq
      have hb : w.heap.size + 2 ≤ wr.heap.size := by have := lt_heap b1; omega
      clear hPL hcur
      have fin : ∀ (out' : Value) (o' : List Pr) (b' : Bool) (w' : World), w'.ownsRow (w.heap.size + 2) 201 2 out' o'.length (flat2 o') → o'.length ≤ j + 1 + b'.toNat → o' ++ withGo k v b' (l.drop (j + 1)) = withL k v l → (∃ S, Kept S wr w' ∧ ∀ y ∈ S, w.heap.size + 2 ≤ y) → WR w (.slice (some ⟨g, 0, none⟩) l.length cv) l k v out' (.bool b') (.int .i64 ((j : Int) + 1)) w' := by
        rintro out' o' b' w' h1 h2 h3 ⟨S, h4, h5⟩
        refine ⟨j + 1, b', o', by omega, by simp, rfl, h1, h2, h3, h4.get b0 ?_, h4.get b1 ?_, hkr.trans2 h4 ?_⟩
        · intro hx; have := h5 _ hx; omega
        · intro hx; have := h5 _ hx; omega
        · intro x hx; right; have := h5 _ hx; omega
      have FIN : Hid _ := fin
      have kA := (Kept.refl [] wr).alloc (.cells #[.string p.1, .string p.2] 201)
      have nA := heap_alloc_new wr (.cells #[.string p.1, .string p.2] 201)
      have HE : Hid _ := heq
      clear fin heq
      cases b with
      | true =>
        simp only [Bool.toNat_true] at hol
        cases he : be p.1 k with
        | true =>
          have hP := FIN.out u7 o true _ (owns_kept hown kA (by simp)) (by simp; omega) (by have := HE.out; simpa [he] using this) ⟨[], kA, by simp⟩
          unfold be at he
          go_wp2_with (first
            | (refine wpList_val rfl _ _ (exec_index 168 (.tmp 19) (.tmp 20) rfl g 0 l.length cv j 2 rfl rfl 201 Tryz.underlying168 srp hlt (j * 2) (by omega)) ?_)
            | (refine wpList_load_seg rfl 201 (.tmp 21) rfl ⟨g, j * 2, none⟩ rfl _ hld ?_))
          go_roundw
          case rel => exact hP
          case measure => simp [intOf]; omega
        | false =>
          have hE := HE.out
          simp only [Bool.not_true, Bool.false_and, Bool.false_eq_true, if_false, he, List.nil_append, Bool.true_or] at hE
          unfold be at he
          go_wp2_with (first
            | (refine wpList_val rfl _ _ (exec_index 168 (.tmp 19) (.tmp 20) rfl g 0 l.length cv j 2 rfl rfl 201 Tryz.underlying168 srp hlt (j * 2) (by omega)) ?_)
            | (refine wpList_load_seg rfl 201 (.tmp 21) rfl ⟨g, j * 2, none⟩ rfl _ hld ?_)
            | (refine wpList_new rfl _ _ (exec_buildSlice 168 1 (.tmp 42) rfl (.agg #[.string p.1, .string p.2]) rfl _ (run_pair1 _ p)) ?_; intro w3 n3 k3 _; have own3 := owns_kept hown (kA.trans k3) (by simp); have hb3 := (kA.trans k3).size)
            | (at_builtin; refine wpList_push rfl (.tmp 41) (.tmp 43) rfl (w.heap.size + 2) u7 o rfl own3 p _ rfl n3 (by omega) (by omega) ?_; intro v4 w4 own4 k4; have hP := FIN.out v4 (o ++ [p]) true w4 own4 (by simp; try omega) (by simpa using hE) ⟨_, ((kA.trans k3).mono (by simp)).trans k4, own_ge hown⟩; clear own4 own3 n3 k3 k4))
          go_roundw
          case rel => exact hP
          case measure => simp [intOf]; omega
      | false =>
        simp only [Bool.toNat_false, Nat.add_zero] at hol
        cases hl1 : bl p.1 k with
        | true =>
          cases he : be p.1 k with
          | true =>
            rw [(be_iff _ _).1 he, bl_irrefl] at hl1
            cases hl1
          | false =>
            have hE := HE.out
            simp only [Bool.not_true, Bool.and_false, Bool.false_eq_true, if_false, he, hl1, List.nil_append, Bool.or_self] at hE
            unfold be at he
            unfold bl at hl1
            go_wp2_with (first
            | (refine wpList_val rfl _ _ (exec_index 168 (.tmp 19) (.tmp 20) rfl g 0 l.length cv j 2 rfl rfl 201 Tryz.underlying168 srp hlt (j * 2) (by omega)) ?_)
            | (refine wpList_load_seg rfl 201 (.tmp 21) rfl ⟨g, j * 2, none⟩ rfl _ hld ?_)
            | (refine wpList_new rfl _ _ (exec_buildSlice 168 1 (.tmp 42) rfl (.agg #[.string p.1, .string p.2]) rfl _ (run_pair1 _ p)) ?_; intro w3 n3 k3 _; have own3 := owns_kept hown (kA.trans k3) (by simp); have hb3 := (kA.trans k3).size)
            | (at_builtin; refine wpList_push rfl (.tmp 41) (.tmp 43) rfl (w.heap.size + 2) u7 o rfl own3 p _ rfl n3 (by omega) (by omega) ?_; intro v4 w4 own4 k4; have hP := FIN.out v4 (o ++ [p]) false w4 own4 (by simp; try omega) (by simpa using hE) ⟨_, ((kA.trans k3).mono (by simp)).trans k4, own_ge hown⟩; clear own4 own3 n3 k3 k4))
            go_roundw
            case rel => exact hP
            case measure => simp [intOf]; omega
        | false =>
          cases he : be p.1 k with
          | true =>
            have hE := HE.out
            simp only [Bool.not_false, Bool.and_self, if_true, he, hl1, List.append_nil, Bool.or_true] at hE
            unfold be at he
            unfold bl at hl1
            go_wp2_with (first
            | (refine wpList_val rfl _ _ (exec_index 168 (.tmp 19) (.tmp 20) rfl g 0 l.length cv j 2 rfl rfl 201 Tryz.underlying168 srp hlt (j * 2) (by omega)) ?_)
            | (refine wpList_load_seg rfl 201 (.tmp 21) rfl ⟨g, j * 2, none⟩ rfl _ hld ?_)
            | (refine wpList_new rfl _ _ (exec_buildSlice 168 1 (.tmp 34) rfl (.agg #[.string k, .string v]) rfl _ (run_pair1 _ (k, v))) ?_; intro w3 n3 k3 _; have own3 := owns_kept hown (kA.trans k3) (by simp); have hb3 := (kA.trans k3).size; have nB3 := k3.get nA (by simp))
            | (at_builtin; refine wpList_push rfl (.tmp 31) (.tmp 35) rfl (w.heap.size + 2) u7 o rfl own3 (k, v) _ rfl n3 (by omega) (by omega) ?_; intro v4 w4 own4 k4; have nB4 := k4.get nB3 (fun hx => by have := own_lt hown _ hx; omega); have cB4 : w4.cell? ⟨wr.heap.size, 0, none⟩ = some (.string p.1) := cellAt nB4 rfl; have k14 := ((kA.trans k3).mono (S' := u7.ownBlock.toList) (by simp)).trans k4; have hP := FIN.out v4 (o ++ [(k, v)]) true w4 own4 (by simp; try omega) (by simpa using hE) ⟨_, k14, own_ge hown⟩; clear own4 own3 n3 k3 k4))
            go_roundw
            case rel => exact hP
            case measure => simp [intOf]; omega
          | false =>
            have hE := HE.out
            simp only [Bool.not_false, Bool.and_self, if_true, Bool.false_eq_true, if_false, he, hl1, Bool.or_true] at hE
            unfold be at he
            unfold bl at hl1
            go_wp2_with (first
            | (refine wpList_val rfl _ _ (exec_index 168 (.tmp 19) (.tmp 20) rfl g 0 l.length cv j 2 rfl rfl 201 Tryz.underlying168 srp hlt (j * 2) (by omega)) ?_)
            | (refine wpList_load_seg rfl 201 (.tmp 21) rfl ⟨g, j * 2, none⟩ rfl _ hld ?_)
            | (refine wpList_new rfl _ _ (exec_buildSlice 168 1 (.tmp 34) rfl (.agg #[.string k, .string v]) rfl _ (run_pair1 _ (k, v))) ?_; intro w3 n3 k3 _; have own3 := owns_kept hown (kA.trans k3) (by simp); have hb3 := (kA.trans k3).size; have nB3 := k3.get nA (by simp))
            | (at_builtin; refine wpList_push rfl (.tmp 31) (.tmp 35) rfl (w.heap.size + 2) u7 o rfl own3 (k, v) _ rfl n3 (by omega) (by omega) ?_; intro v4 w4 own4 k4; have nB4 := k4.get nB3 (fun hx => by have := own_lt hown _ hx; omega); have cB4 : w4.cell? ⟨wr.heap.size, 0, none⟩ = some (.string p.1) := cellAt nB4 rfl; have k14 := ((kA.trans k3).mono (S' := u7.ownBlock.toList) (by simp)).trans k4; have hb4 := k14.size; clear own3 n3 k3)
            | (refine wpList_load_row rfl 201 (.tmp 10) rfl wr.heap.size rfl 201 _ (0, 0) _ nB4 Tryz.underlying201 rfl srp ?_)
            | (refine wpList_new rfl _ _ (exec_buildSlice 168 1 (.tmp 42) rfl (.agg #[.string p.1, .string p.2]) rfl _ (run_pair1 _ p)) ?_; intro w5 n5 k5 _; have own5 := owns_kept own4 k5 (by simp); have hb5 := k5.size)
            | (at_builtin; refine wpList_push rfl (.tmp 41) (.tmp 43) rfl (w.heap.size + 2) v4 (o ++ [(k, v)]) rfl own5 p _ rfl n5 (by simp; omega) (by omega) ?_; intro v6 w6 own6 k6; have hP := FIN.out v6 (o ++ [(k, v)] ++ [p]) true w6 own6 (by simp; try omega) (by simpa using hE) ⟨u7.ownBlock.toList ++ v4.ownBlock.toList, ((k14.mono (by intro x hx; simp; exact Or.inl (by simpa using hx))).trans (k5.mono (by simp))).trans (k6.mono (by intro x hx; simp; exact Or.inr (by simpa using hx))), by intro y hy; rcases List.mem_append.1 hy with hy | hy; exact own_ge hown y hy; exact own_ge own4 y hy⟩; clear own6 own5 own4 n5 k5 k6))
            go_roundw
            case rel => exact hP
            case measure => simp [intOf]; omega
    · have hge : ¬ (j : Int) < (l.length : Int) := by omega
      have ej : j = l.length := by omega
      subst ej
      rw [List.drop_length, withGo_nil] at heq
      have f1 : wr.frozen? ⟨w.heap.size + 1, 0, none⟩ = false := frozen_of_row _ _ _ _ _ b1
      cases b with
      | true =>
        simp only [if_true, List.append_nil] at heq
        subst heq
        obtain ⟨p', c', rfl⟩ := owns_len2 hown
        have c1 : wr.cell? ⟨w.heap.size + 1, 0, none⟩ = some (.slice none 0 0) := cellAt b1 rfl
        go_wp2
        have b2 := setCellAt (i := 0) (.slice p' (withL k v l).length c') b1
        have k2 : Kept [w.heap.size + 1] wr (wr.setCell ⟨w.heap.size + 1, 0, none⟩ (.slice p' (withL k v l).length c')) := (Kept.refl _ _).setCell (Or.inl (by simp)) _
        refine bodyPost_ret (results_cell_row rfl _ _ (w.heap.size + 1) 170 _ (0, 0) _ rfl b2 Tryz.underlying170 rfl smap) rfl ?_
        refine ⟨_, rfl, owns_mono (owns_kept hown k2 ?_) (Nat.zero_le _), ?_, hkr.trans2 k2 (by intro x hx; simp at hx; omega)⟩
        · intro y hy; have := (hown.lt y hy).1; simp; omega
        · intro y hy; have := (hown.lt y hy).1; omega
      | false =>
        simp only [Bool.false_eq_true, if_false] at heq
        simp only [Bool.toNat_false, Nat.add_zero] at hol
        have hb : w.heap.size + 2 ≤ wr.heap.size := by have := lt_heap b1; omega
        go_wp2_with (first
            | (refine wpList_new rfl _ _ (exec_buildSlice 168 1 (.tmp 50) rfl (.agg #[.string k, .string v]) rfl _ (run_pair1 _ (k, v))) ?_; intro w3 n3 k3 _; have own3 := owns_kept hown k3 (by simp); have hb3 := k3.size)
            | (at_builtin; refine wpList_push rfl (.tmp 47) (.tmp 51) rfl (w.heap.size + 2) u7 o rfl own3 (k, v) _ rfl n3 (by omega) (by omega) ?_; intro v4 w4 own4 k4; rw [heq] at own4; obtain ⟨p', c', rfl⟩ := owns_len2 own4; have k14 := (k3.mono (S' := u7.ownBlock.toList) (by simp)).trans k4; have n4 := k14.get b1 (by intro hx; have := own_ge hown _ hx; omega); have f4 : w4.frozen? ⟨w.heap.size + 1, 0, none⟩ = false := frozen_of_row _ _ _ _ _ n4; have c4 : w4.cell? ⟨w.heap.size + 1, 0, none⟩ = some (.slice none 0 0) := cellAt n4 rfl))
        have b2 := setCellAt (i := 0) (.slice p' (withL k v l).length c') n4
        have k2 : Kept [w.heap.size + 1] w4 (w4.setCell ⟨w.heap.size + 1, 0, none⟩ (.slice p' (withL k v l).length c')) := (Kept.refl _ _).setCell (Or.inl (by simp)) _
        refine bodyPost_ret (results_cell_row rfl _ _ (w.heap.size + 1) 170 _ (0, 0) _ rfl b2 Tryz.underlying170 rfl smap) rfl ?_
        refine ⟨_, rfl, owns_mono (owns_kept own4 k2 ?_) (Nat.zero_le _), ?_, (hkr.trans2 k14 (by intro x hx; right; have := own_ge hown x hx; omega)).trans2 k2 (by intro x hx; simp at hx; omega)⟩
        · intro y hy; have := (own4.lt y hy).1; simp; omega
        · intro y hy; have := (own4.lt y hy).1; omega

end Go.Proofs.YtloihcnbcknbnaaGreatDoor
