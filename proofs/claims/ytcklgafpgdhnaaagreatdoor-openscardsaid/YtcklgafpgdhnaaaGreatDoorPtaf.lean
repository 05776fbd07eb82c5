import Derived.Test.YtcklgafpgdhnaaaGreatDoorPtae
import Derived.Lib.Bytealg
set_option maxRecDepth 100000
set_option maxHeartbeats 4000000
open List renaming getElem_toArray → zA, getElem_cons_succ → zB, getElem_cons_zero → zC, setIfInBounds_toArray → zD, set_cons_succ → zE, set_cons_zero → zF
namespace Go.Proofs.YtcklgafpgdhnaaaGreatDoor
open Go.RowKit

theorem owns_sl {w : World} {base e size n : Nat} {v : Value} {xs : List Value} (h : w.ownsRow base e size v n xs) : ∃ p l q, v = .slice p l q := by
 obtain ⟨p, q, e⟩ := owns_slice h
 exact ⟨p, _, q, e⟩
theorem nilMaps_add (m k : Nat) : nilMaps m ++ nilMaps k = nilMaps (m + k) := by simp [nilMaps]

theorem srd : (Tryz.prog.info? 151).map (·.size) = some 6 := by kernel_rfl

theorem all_rcells (n : Int) (p1 p2 : Option Addr) (l1 q1 l2 q2 : Nat) (e wd b : Bool) : (rcells n (.slice p1 l1 q1) e (.slice p2 l2 q2) wd b).all (·.oneCell') = true := by
 have h1 : ∀ p l q, (Value.slice p l q).oneCell' = true := fun _ _ _ => rfl
 have h2 : ∀ x, (Value.bool x).oneCell' = true := fun _ => rfl
 have h3 : ∀ k x, (Value.int k x).oneCell' = true := fun _ _ => rfl
 simp [rcells, h1, h2, h3]

structure Boxes (w0 w : World) (rc : Array Value) : Prop where
 b0 : w.heap[w0.heap.size]? = some (.cells rc 151 (0, 0))
 b1 : w.heap[w0.heap.size + 1]? = some (.cells #[.slice none 0 0] 189 (0, 0))
 b2 : w.heap[w0.heap.size + 1 + 1]? = some (.cells (rcells 0 (.slice none 0 0) false (.slice none 0 0) false false) 151 (0, 0))
 k : Kept [] w0 w
 sz : w0.heap.size + 3 ≤ w.heap.size

theorem Boxes.step {w0 w w' : World} {rc : Array Value} {S : List Nat} (h : Boxes w0 w rc) (k : Kept S w w') (hS : ∀ x ∈ S, w0.heap.size + 3 ≤ x) : Boxes w0 w' rc :=
 have hn : ∀ y, y < w0.heap.size + 3 → y ∉ S := fun y hy hx => by have := hS y hx; omega
 ⟨k.get h.b0 (hn _ (by omega)), k.get h.b1 (hn _ (by omega)), k.get h.b2 (hn _ (by omega)), h.k.trans2 k (fun x hx => Or.inr (by have := hS x hx; omega)), by have := h.sz; have := k.size; omega⟩

theorem Boxes.grown {w0 w w' : World} {rc : Array Value} {v : Value} (h : Boxes w0 w rc) (g : w.grownBy w' v.ownBlock) (hv : ∀ x, v.ownBlock = some x → w0.heap.size + 3 ≤ x) : Boxes w0 w' rc :=
 h.step (grown_kept g v.ownBlock.toList (by intro x hx; rw [hx]; simp)) (by
  intro x hx
  cases hu : v.ownBlock with
  | none => rw [hu] at hx; cases hx
  | some y => rw [hu] at hx; simp at hx; subst hx; exact hv _ hu)

theorem Boxes.alloc {w0 w : World} {rc : Array Value} (h : Boxes w0 w rc) (o : Obj) : Boxes w0 (w.alloc o) rc := h.step ((Kept.refl [] w).alloc o) (by simp)

theorem Boxes.set {w0 w : World} {rc : Array Value} (h : Boxes w0 w rc) (j : Nat) (v : Value) : Boxes w0 (w.setCell ⟨w0.heap.size, j, none⟩ v) (rc.setIfInBounds j v) := by
 have k : Kept [w0.heap.size] w (w.setCell ⟨w0.heap.size, j, none⟩ v) := (Kept.refl _ _).setCell (Or.inl (by simp)) _
 exact ⟨setCellAt v h.b0, k.get h.b1 (by simp), k.get h.b2 (by simp; omega), h.k.trans2 k (by simp), by simpa [World.setCell] using h.sz⟩

theorem Boxes.init (w : World) (rc : Array Value) : Boxes w (((w.alloc (.cells rc 151)).alloc (.cells #[.slice none 0 0] 189)).alloc (.cells #[.int .i64 0, .slice none 0 0, .bool false, .slice none 0 0, .bool false, .bool false] 151)) rc := by
 have k1 := (Kept.refl [] w).alloc (.cells rc 151)
 have k2 := (Kept.refl [] (w.alloc (.cells rc 151))).alloc (.cells #[.slice none 0 0] 189)
 have k3 := (Kept.refl [] ((w.alloc (.cells rc 151)).alloc (.cells #[.slice none 0 0] 189))).alloc (.cells #[.int .i64 0, .slice none 0 0, .bool false, .slice none 0 0, .bool false, .bool false] 151)
 refine ⟨k3.get (k2.get (heap_alloc_new _ _) (by simp)) (by simp), k3.get ?_ (by simp), ?_, (k1.trans k2).trans k3, by simp⟩
 ·have := heap_alloc_new (w.alloc (.cells rc 151)) (.cells #[.slice none 0 0] 189)
  rwa [World.size_alloc] at this
 ·have := heap_alloc_new ((w.alloc (.cells rc 151)).alloc (.cells #[.slice none 0 0] 189)) (.cells #[.int .i64 0, .slice none 0 0, .bool false, .slice none 0 0, .bool false, .bool false] 151)
  rwa [World.size_alloc, World.size_alloc] at this

def TooR (n : Int) (k : Nat) (e wd b : Bool) (w : World) (ev : Ending) (w' : World) : Prop :=
 ∃ p1 l1 q1 p2 l2 q2, ev = .returned (.agg (rcells n (.slice p1 l1 q1) e (.slice p2 l2 q2) wd b)) ∧ Maps w' (.slice p2 l2 q2) (k + 1) ∧ Kept [] w w'

theorem Too_any (n : Int) (may were : Value) (m k : Nat) (e wd b : Bool) (w : World) (hm : Maps w may m) (hk : Maps w were k) (bm : m ≤ 20000) (bk : k ≤ 20000) :
  Calls Tryz.prog 135 #[.agg (rcells n may e were wd b), .agg #[.slice none 0 0]] w (TooR n k e wd b w) := by
 unfold rcells
 obtain ⟨ie, hie, hz1, hz2, hz3⟩ := info_parts imap
 have hml : ∀ x, may.ownBlock = some x → x < w.heap.size := fun x hx => (World.ownsRow.lt hm x hx).2
 have hkl : ∀ x, were.ownBlock = some x → x < w.heap.size := fun x hx => (World.ownsRow.lt hk x hx).2
 have Hm : Hid (w.ownsRow 0 189 1 may m (nilMaps m)) := hm
 have Hk : Hid (w.ownsRow 0 189 1 were k (nilMaps k)) := hk
 have HB := Boxes.init w #[.int .i64 n, may, .bool e, were, .bool wd, .bool b]
 clear hm hk
 go_enter Tryz.func135, Tryz.ntmps135
 go_wp2_with (first
  | (at_builtin; refine wpList_append_src rfl (.tmp 7) (.tmp 9) 149 rfl (w.heap.size + 3) 189 ie _ 1 24 Tryz.underlying149 hie hz1 hz2 hz3 rfl (by decide) (.slice none 0 0) 0 [] rfl (World.ownsRow_nil _ _ _ _) may 0 m (nilMaps m) rfl (owns_kept Hm.out HB.k (by simp)) (one_nilMaps _) (by unfold maxLen; omega) (by omega) (by simp) ?_; intro v1 w1 hown1 hgr1; have B1 := HB.grown (v := .slice none 0 0) hgr1 (by intro x hx; cases hx); clear hgr1 HB; have d1 : w1.cell? ⟨w.heap.size + 1, 0, none⟩ = some (.slice none 0 0) := cellAt B1.b1 rfl)
  | (at_builtin; refine wpList_append_own _ rfl (.tmp 11) (.tmp 13) 149 rfl (w.heap.size + 3) 189 ie _ 1 24 Tryz.underlying149 hie hz1 hz2 hz3 rfl (by decide) v1 (0 + m) ([] ++ nilMaps m) rfl (hown1.alloc _) ⟨w1.heap.size, 0, none⟩ 1 1 [.slice none 0 0] rfl rfl (cell_one_new _ _ _) (one_nilMaps 1) (by unfold maxLen; omega) (by omega) (by have := B1.sz; simp; omega) ?_; intro v2 w2 hown2 hgr2 _; obtain ⟨p2, l2, q2, rfl⟩ := owns_sl hown2; have B2 := (B1.alloc _).grown hgr2 (by intro x hx; exact (hown1.lt x hx).1); clear hgr2; have d2 : w2.cell? ⟨w.heap.size, 1, none⟩ = some may := cellAt B2.b0 rfl; have f2 : w2.frozen? ⟨w.heap.size, 1, none⟩ = false := frozen_of_row _ _ _ _ _ B2.b0; have B3 := B2.set 1 (.slice p2 l2 q2); have d3 : (w2.setCell ⟨w.heap.size, 1, none⟩ (.slice p2 l2 q2)).cell? ⟨w.heap.size, 3, none⟩ = some were := cellAt B3.b0 rfl)
  | (at_builtin; refine wpList_append_src rfl (.tmp 16) (.tmp 18) 149 rfl (w.heap.size + 3) 189 ie _ 1 24 Tryz.underlying149 hie hz1 hz2 hz3 rfl (by decide) (.slice none 0 0) 0 [] rfl (World.ownsRow_nil _ _ _ _) were 0 k (nilMaps k) rfl (owns_kept Hk.out B3.k (by simp)) (one_nilMaps _) (by unfold maxLen; omega) (by omega) B3.sz ?_; intro v4 w4 hown4 hgr4; have B4 := B3.grown (v := .slice none 0 0) hgr4 (by intro x hx; cases hx); have hk4 := grown_kept hgr4 [] (by intro x hx; cases hx); clear hgr4; have d4 : w4.cell? ⟨w.heap.size + 1, 0, none⟩ = some (.slice none 0 0) := cellAt B4.b1 rfl)
  | (at_builtin; refine wpList_append_own _ rfl (.tmp 20) (.tmp 22) 149 rfl (w.heap.size + 3) 189 ie _ 1 24 Tryz.underlying149 hie hz1 hz2 hz3 rfl (by decide) v4 (0 + k) ([] ++ nilMaps k) rfl (hown4.alloc _) ⟨w4.heap.size, 0, none⟩ 1 1 [.slice none 0 0] rfl rfl (cell_one_new _ _ _) (one_nilMaps 1) (by unfold maxLen; omega) (by omega) (by have := B4.sz; simp; omega) ?_; intro v5 w5 hown5 hgr5 _; obtain ⟨p5, l5, q5, rfl⟩ := owns_sl hown5; have B5 := (B4.alloc _).grown hgr5 (by intro x hx; exact (hown4.lt x hx).1); have e5 : w5.cell? ⟨w.heap.size, 3, none⟩ = some were := cellAt B5.b0 rfl; have g5 : w5.frozen? ⟨w.heap.size, 3, none⟩ = false := frozen_of_row _ _ _ _ _ B5.b0; have B6 := B5.set 3 (.slice p5 l5 q5); skip)
  | (refine wpList_load_row rfl 151 (.tmp 2) rfl w.heap.size rfl 151 (rcells n (.slice p2 l2 q2) e (.slice p5 l5 q5) wd b) (0, 0) _ B6.b0 Tryz.underlying151 rfl srd ?_)
  | (refine wpList_store_k rfl 151 (.tmp 4) (.tmp 25) rfl (w.heap.size + 1 + 1) (rcells n (.slice p2 l2 q2) e (.slice p5 l5 q5) wd b) rfl rfl 151 _ B6.b2 srd rfl (all_rcells _ _ _ _ _ _ _ _ _ _) ?_; intro w7 hg7 hk7))
 refine bodyPost_ret (results_cell_row rfl _ w7 (w.heap.size + 1 + 1) 151 _ (0, 0) _ rfl hg7 Tryz.underlying151 rfl srd) rfl ?_
 refine ⟨_, _, _, _, _, _, rfl, ?_, B6.k.trans2 hk7 (by intro x hx; simp at hx; subst hx; exact Or.inr (by omega))⟩
 have h5 : w5.ownsRow (w.heap.size + 3) 189 1 (.slice p5 l5 q5) (k + 1) (nilMaps (k + 1)) := by
  have := hown5
  simp only [List.nil_append, Nat.zero_add] at this
  rw [show [Value.slice none 0 0] = nilMaps 1 from rfl, nilMaps_add] at this
  exact this
 have hk6 : Kept [w.heap.size] w5 (w5.setCell ⟨w.heap.size, 3, none⟩ (.slice p5 l5 q5)) := (Kept.refl _ _).setCell (Or.inl (by simp)) _
 refine owns_kept (owns_kept (owns_mono h5 (Nat.zero_le _)) hk6 ?_) hk7 ?_
 ·intro x hx; have := (h5.lt x hx).1; simp; omega
 ·intro x hx; have := (h5.lt x hx).1; simp; omega

end Go.Proofs.YtcklgafpgdhnaaaGreatDoor

namespace Go.Proofs.YtcklgafpgdhnaaaGreatDoor
open Go.RowKit

def OnlyR (n : Int) (k : Nat) (wd b : Bool) (w : World) (ev : Ending) (w' : World) : Prop :=
 ∃ v1 v2, ev = .returned (.agg (rcells n v1 false v2 wd b)) ∧ Maps w' v1 1 ∧ Maps w' v2 (k + 1) ∧ Kept [] w w'

theorem Only_any (n : Int) (may were : Value) (m k : Nat) (e wd b : Bool) (w : World) (hm : Maps w may m) (hk : Maps w were k) (bm : m ≤ 20000) (bk : k ≤ 20000) :
  Calls Tryz.prog 134 #[.agg (rcells n may e were wd b), .agg #[.slice none 0 0]] w (OnlyR n k wd b w) := by
 have HB := Boxes.init w (rcells n may e were wd b)
 have hT := fun W (h1 : Maps W may m) (h2 : Maps W were k) => Too_any n may were m k e wd b W h1 h2 bm bk
 unfold rcells at HB hT ⊢
 go_enter Tryz.func134, Tryz.ntmps134
 go_wp2_with fail
 refine (hT _ (owns_kept hm HB.k (by simp)) (owns_kept hk HB.k (by simp))).mono ?_
 rintro e w1 ⟨p1, l1, q1, p2, l2, q2, rfl, hm1, hk1⟩
 have B1 := HB.step hk1 (by simp)
 clear HB hT hk1
 have a0 := cellAt (j := 0) B1.b1 rfl
 go_wp2_with (first
  | (refine wpList_alloc_k rfl 151 rfl (rcells 0 (.slice none 0 0) false (.slice none 0 0) false false) (by rfl) ?_; intro w2 hn2 hk2 _; have B2 := B1.step hk2 (by simp))
  | (refine wpList_store_k rfl 151 (.tmp 5) (.tmp 8) rfl w1.heap.size (rcells n (.slice p1 l1 q1) e (.slice p2 l2 q2) wd b) rfl rfl 151 _ hn2 srd rfl (all_rcells _ _ _ _ _ _ _ _ _ _) ?_; intro w3 hn3 hk3; have B3 := B2.step hk3 (by intro x hx; simp at hx; subst hx; exact B1.sz); have a3 : w3.cell? ⟨w.heap.size + 1, 0, none⟩ = some (.slice none 0 0) := cellAt B3.b1 rfl; have k4 := (Kept.refl [] w3).alloc (.cells #[.slice none 0 0] 189); have hn4 := k4.get hn3 (by simp); have a4 : (w3.alloc (.cells #[.slice none 0 0] 189)).cell? ⟨w1.heap.size, 1, none⟩ = some (.slice p1 l1 q1) := cellAt hn4 rfl; have f4 : (w3.alloc (.cells #[.slice none 0 0] 189)).frozen? ⟨w1.heap.size, 1, none⟩ = false := frozen_of_row _ _ _ _ _ hn4; have hn5 := setCellAt (i := 1) (.slice (some ⟨w3.heap.size, 0, none⟩) 1 1) hn4; have f5 : ((w3.alloc (.cells #[.slice none 0 0] 189)).setCell ⟨w1.heap.size, 1, none⟩ (.slice (some ⟨w3.heap.size, 0, none⟩) 1 1)).frozen? ⟨w1.heap.size, 2, none⟩ = false := frozen_of_row _ _ _ _ _ hn5; have a5 : ((w3.alloc (.cells #[.slice none 0 0] 189)).setCell ⟨w1.heap.size, 1, none⟩ (.slice (some ⟨w3.heap.size, 0, none⟩) 1 1)).cell? ⟨w1.heap.size, 2, none⟩ = some (.bool e) := cellAt hn5 rfl; have hn6 := setCellAt (i := 2) (.bool false) hn5; have k6 : Kept [w1.heap.size] w3 (((w3.alloc (.cells #[.slice none 0 0] 189)).setCell ⟨w1.heap.size, 1, none⟩ (.slice (some ⟨w3.heap.size, 0, none⟩) 1 1)).setCell ⟨w1.heap.size, 2, none⟩ (.bool false)) := (((Kept.refl _ _).alloc _).setCell (Or.inl (by simp)) _).setCell (Or.inl (by simp)) _; have B6 := B3.step k6 (by intro x hx; simp at hx; subst hx; exact B1.sz))
  | (refine wpList_load_row rfl 151 (.tmp 5) rfl w1.heap.size rfl 151 (rcells n (.slice (some ⟨w3.heap.size, 0, none⟩) 1 1) false (.slice p2 l2 q2) wd b) (0, 0) _ hn6 Tryz.underlying151 rfl srd ?_)
  | (refine wpList_store_k rfl 151 (.tmp 4) (.tmp 13) rfl (w.heap.size + 1 + 1) (rcells n (.slice (some ⟨w3.heap.size, 0, none⟩) 1 1) false (.slice p2 l2 q2) wd b) rfl rfl 151 _ B6.b2 srd rfl (all_rcells _ _ _ _ _ _ _ _ _ _) ?_; intro w7 hg7 hk7))
 refine bodyPost_ret (results_cell_row rfl _ w7 (w.heap.size + 1 + 1) 151 _ (0, 0) _ rfl hg7 Tryz.underlying151 rfl srd) rfl ?_
 have hsz1 := B1.sz
 have hsz3 : w1.heap.size + 1 ≤ w3.heap.size := by have := hk2.size; have := hk3.size; have := lt_heap hn3; omega
 have kk : Kept [w1.heap.size] w1 w3 := (hk2.mono (by simp)).trans hk3
 have k67 := hk7
 refine ⟨_, _, rfl, ?_, ?_, B6.k.trans2 hk7 (by intro x hx; simp at hx; subst hx; exact Or.inr (by omega))⟩
 ·refine ⟨rfl, Or.inr ⟨w3.heap.size, 1, #[.slice none 0 0], rfl, Nat.zero_le _, ?_, Nat.le_refl _, by unfold maxLen; omega, rfl, rfl⟩⟩
  refine k67.get ?_ (by simp; omega)
  have kb : Kept [w1.heap.size] (w3.alloc (.cells #[.slice none 0 0] 189)) (((w3.alloc (.cells #[.slice none 0 0] 189)).setCell ⟨w1.heap.size, 1, none⟩ (.slice (some ⟨w3.heap.size, 0, none⟩) 1 1)).setCell ⟨w1.heap.size, 2, none⟩ (.bool false)) := ((Kept.refl _ _).setCell (Or.inl (by simp)) _).setCell (Or.inl (by simp)) _
  exact kb.get (heap_alloc_new _ _) (by simp; omega)
 ·refine owns_kept (owns_kept (owns_kept hm1 kk ?_) k6 ?_) k67 ?_
  ·intro x hx; have := (World.ownsRow.lt hm1 x hx).2; simp; omega
  ·intro x hx; have := (World.ownsRow.lt hm1 x hx).2; simp; omega
  ·intro x hx
   obtain ⟨_, ⟨hv, _⟩ | ⟨g, cap, cur, hv, _, hh, _⟩⟩ := hm1
   ·rw [hv] at hx; cases hx
   ·rw [hv] at hx
    simp only [Value.ownBlock, Option.some.injEq] at hx
    subst hx
    simpa using ne_tag hh B1.b2 (by decide)

end Go.Proofs.YtcklgafpgdhnaaaGreatDoor

namespace Go.Proofs.YtcklgafpgdhnaaaGreatDoor
open Go.RowKit

theorem Same_nil (w : World) : Calls Tryz.prog 145 #[.slice none 0 0, .slice none 0 0] w fun e w' => e = .returned (.bool true) ∧ w' = w := by
 go_enter Tryz.func145, Tryz.ntmps145
 go_wp2
 refine wp_loop_rounds 1 ?_
 rw [rounds_succ]
 go_wp2
 go_ret
 exact ⟨rfl, rfl⟩

theorem pairs_nil (w : World) : Calls Tryz.prog 144 #[.slice none 0 0] w fun e w' => e = .returned (.slice none 0 0) ∧ w' = w := by
 go_enter Tryz.func144, Tryz.ntmps144
 go_wp2
 refine wp_loop_rounds 1 ?_
 rw [rounds_succ]
 go_wp2
 go_ret
 exact ⟨rfl, rfl⟩

theorem num_any (x : Int) (w : World) : Calls Tryz.prog 133 #[.int .i64 x] w fun e w' => e = .returned (.int .i64 x) ∧ w' = w := by
 go_enter Tryz.func133, Tryz.ntmps133
 go_wp2
 go_ret
 exact ⟨rfl, rfl⟩

theorem Has_one (n : Int) (may were : Value) (e wd b : Bool) (w : World) (hm : Maps w may 1) :
  Calls Tryz.prog 165 #[.agg (rcells n may e were wd b), .slice none 0 0] w fun ev w' => ev = .returned (.bool true) ∧ Kept [] w w' := by
 obtain ⟨_, ⟨_, h0⟩ | ⟨g, cap, cur, rfl, _, hh, _, _, _, h4⟩⟩ := hm
 ·omega
 have hc : w.cell? ⟨g, 0, none⟩ = some (.slice none 0 0) := by
  rw [cell_of_row _ _ _ _ _ _ hh]
  have := congrArg (fun x => x[0]?) h4
  simpa [nilMaps] using this
 have hg := lt_heap hh
 clear hh h4
 unfold rcells
 go_enter Tryz.func165, Tryz.ntmps165
 go_wp2
 refine wp_loop_rounds 1 ?_
 rw [rounds_succ]
 go_wp2_with (go_at_call 145; refine (Same_nil _).mono ?_; rintro e w' ⟨rfl, rfl⟩)
 go_ret
 exact ⟨rfl, (Kept.refl _ _).alloc _⟩

end Go.Proofs.YtcklgafpgdhnaaaGreatDoor

namespace Go.Proofs.YtcklgafpgdhnaaaGreatDoor
open Go.RowKit

abbrev Pr := ByteArray × ByteArray
def pcells (p : Pr) : List Value := [.string p.1, .string p.2]
def flat2 (l : List Pr) : List Value := l.flatMap pcells
theorem length_pcells (p : Pr) : (pcells p).length = 2 := rfl
theorem length_flat2 (l : List Pr) : (flat2 l).length = l.length * 2 := by
 induction l with
 | nil => rfl
 | cons o r ih =>
  have : flat2 (o :: r) = pcells o ++ flat2 r := rfl
  rw [this, List.length_append, ih, length_pcells, List.length_cons]
  omega
theorem flat2_get (l : List Pr) : ∀ (i : Nat) (p : Pr), l[i]? = some p → ∀ (j : Nat) (v : Value), (pcells p)[j]? = some v → (flat2 l)[i * 2 + j]? = some v := by
 induction l with
 | nil => intro i o h; simp at h
 | cons x r ih =>
  intro i o h j v hv
  have hj : j < 2 := by have := (List.getElem?_eq_some_iff.1 hv).1; rwa [length_pcells] at this
  have e : flat2 (x :: r) = pcells x ++ flat2 r := rfl
  rw [e]
  cases i with
  | zero =>
   simp at h; subst h
   rw [List.getElem?_append_left (by rw [length_pcells]; omega)]
   simpa using hv
  | succ i =>
   rw [List.getElem?_append_right (by rw [length_pcells]; omega), length_pcells]
   have := ih i o (by simpa using h) j v hv
   rw [show (i + 1) * 2 + j - 2 = i * 2 + j by omega]
   exact this
theorem flat2_snoc (l : List Pr) (p : Pr) : flat2 l ++ pcells p = flat2 (l ++ [p]) := by simp [flat2]
theorem one_pcells (p : Pr) : ∀ v ∈ pcells p, v.oneCell' = true := by
 intro v hv
 simp only [pcells, List.mem_cons, List.not_mem_nil, or_false] at hv
 rcases hv with rfl | rfl <;> rfl

def PL (w : World) (t : TypeId) (v : Value) (l : List Pr) : Prop := w.ownsRow 0 t 2 v l.length (flat2 l)

theorem PL.nil (w : World) (t : TypeId) : PL w t (.slice none 0 0) [] := World.ownsRow_nil _ _ _ _

theorem PL.shape {w : World} {t : TypeId} {v : Value} {l : List Pr} (h : PL w t v l) : ∃ p cap, v = .slice p l.length cap := by
 obtain ⟨_, ⟨rfl, h0⟩ | ⟨g, cap, cur, rfl, _⟩⟩ := h
 ·exact ⟨none, 0, by rw [h0]⟩
 ·exact ⟨_, _, rfl⟩

theorem PL.at_ {w : World} {t : TypeId} {v : Value} {l : List Pr} (h : PL w t v l) (hl : 0 < l.length) : ∃ g cap cur, v = .slice (some ⟨g, 0, none⟩) l.length cap ∧ w.heap[g]? = some (.cells cur t (0, 0)) ∧
  (∀ (i : Nat) (p : Pr), l[i]? = some p → cur[i * 2]? = some (.string p.1) ∧ cur[i * 2 + 1]? = some (.string p.2)) := by
 obtain ⟨_, ⟨_, h0⟩ | ⟨g, cap, cur, e, _, hh, _, _, _, htk⟩⟩ := h
 ·omega
 refine ⟨g, cap, cur, e, hh, ?_⟩
 intro i p hi
 have hil : i < l.length := (List.getElem?_eq_some_iff.1 hi).1
 have h0 := flat2_get l i p hi 0 _ rfl
 have h1 := flat2_get l i p hi 1 _ rfl
 rw [← htk, List.getElem?_take, if_pos (by omega)] at h0 h1
 exact ⟨by simpa using h0, by simpa using h1⟩

theorem PL.load {w : World} {t ty : TypeId} {g i : Nat} {cur : Array Value} {p : Pr} (fs : _) {P : Program} (hg : w.heap[g]? = some (.cells cur t (0, 0))) (hc : cur[i * 2]? = some (.string p.1) ∧ cur[i * 2 + 1]? = some (.string p.2))
  (hu : P.underlying ty = some (.struct fs)) (hi : (P.info? ty).map (·.size) = some 2) :
  (loadVar ty ⟨g, i * 2, none⟩).run P w = .ok (.agg #[.string p.1, .string p.2]) w := by
 refine run_loadVar_seg (P := P) w g (i * 2) t ty cur.toList [.string p.1, .string p.2] (0, 0) _ (by simpa using hg) hu rfl hi ?_
 intro j v hv
 rcases j with _ | _ | j
 ·simp at hv; subst hv; simpa using hc.1
 ·simp at hv; subst hv; simpa using hc.2
 ·simp at hv

theorem PL.kept {S : List Nat} {w w' : World} {t : TypeId} {v : Value} {l : List Pr} (h : PL w t v l) (k : Kept S w w') (hS : ∀ b, v.ownBlock = some b → b ∉ S) : PL w' t v l := owns_kept h k hS

theorem irp : (Tryz.prog.info? 224).map (fun i => (i.zero, i.size, i.bytes)) = some (some (.agg #[.string ⟨#[]⟩, .string ⟨#[]⟩]), 2, 32) := by kernel_rfl
theorem srp : (Tryz.prog.info? 224).map (·.size) = some 2 := by kernel_rfl
theorem iap : (Tryz.prog.info? 41).map (fun i => (i.zero, i.size, i.bytes)) = some (some (.agg #[.string ⟨#[]⟩, .string ⟨#[]⟩]), 2, 32) := by kernel_rfl
theorem sap : (Tryz.prog.info? 41).map (·.size) = some 2 := by kernel_rfl
theorem smap : (Tryz.prog.info? 189).map (·.size) = some 1 := by kernel_rfl


def bl (a b : ByteArray) : Bool := Op.bytesLess a.toList b.toList
def be (a b : ByteArray) : Bool := a.toList == b.toList

theorem toList_of (s : ByteArray) : s.toList = s.data.toList := ByteArray.toList_eq s
theorem lessL : ∀ (x y : List UInt8), Op.bytesLess x y = decide (x < y)
 | [], [] => by simp [Op.bytesLess]
 | _ :: _, [] => by simp [Op.bytesLess]
 | [], _ :: _ => by simp [Op.bytesLess]
 | a :: x, b :: y => by
  have ih := lessL x y
  unfold Op.bytesLess
  rw [ih]
  by_cases h1 : a < b <;> by_cases h2 : a = b <;> by_cases h3 : x < y <;> simp [List.cons_lt_cons_iff, h1, h2, h3]
theorem bl_def (a b : ByteArray) : bl a b = decide (a.data.toList < b.data.toList) := by rw [bl, lessL, toList_of, toList_of]
theorem be_iff (a b : ByteArray) : be a b = true ↔ a = b := by
 rw [be, toList_of, toList_of, beq_iff_eq]
 constructor
 ·intro h
  cases a; cases b
  simp only [ByteArray.mk.injEq]
  exact Array.toList_inj.1 h
 ·rintro rfl; rfl
theorem be_false (a b : ByteArray) : be a b = false ↔ a ≠ b := by
 have := be_iff a b
 cases h : be a b <;> simp_all
theorem be_refl (a : ByteArray) : be a a = true := (be_iff a a).2 rfl
theorem bl_irrefl (a : ByteArray) : bl a a = false := by rw [bl_def]; simp [List.lt_irrefl]
theorem bl_trans {a b c : ByteArray} (h1 : bl a b = true) (h2 : bl b c = true) : bl a c = true := by
 rw [bl_def, decide_eq_true_eq] at *; exact List.lt_trans h1 h2
theorem bl_total (a b : ByteArray) : bl a b = true ∨ a = b ∨ bl b a = true := by
 simp only [bl_def, decide_eq_true_eq]
 rcases Decidable.em (a.data.toList < b.data.toList) with h | h
 ·exact Or.inl h
 rcases Decidable.em (b.data.toList < a.data.toList) with h' | h'
 ·exact Or.inr (Or.inr h')
 right; left
 have := List.le_antisymm (List.not_lt.1 h') (List.not_lt.1 h)
 cases a; cases b
 simp only [ByteArray.mk.injEq]
 exact Array.toList_inj.1 this

def withGo (k v : ByteArray) : Bool → List Pr → List Pr
 | b, [] => if b then [] else [(k, v)]
 | b, p :: r => (if !b && !bl p.1 k then [(k, v)] else []) ++ (if be p.1 k then [] else [p]) ++ withGo k v (b || !bl p.1 k) r
def withL (k v : ByteArray) (l : List Pr) : List Pr := withGo k v false l
def withoutL (k : ByteArray) (l : List Pr) : List Pr := l.filter fun p => !be p.1 k
def getL (k : ByteArray) : List Pr → Option ByteArray
 | [] => none
 | p :: r => if be p.1 k then some p.2 else getL k r
def inR (lo hi : ByteArray) (p : Pr) : Bool := !bl p.1 lo && bl p.1 hi
def scanL (lo hi : ByteArray) (m : Nat) (l : List Pr) : List Pr := (l.filter (inR lo hi)).take m

end Go.Proofs.YtcklgafpgdhnaaaGreatDoor

namespace Go.Proofs.YtcklgafpgdhnaaaGreatDoor
open Go.RowKit

theorem run_pair1 (w : World) (p : Pr) : (Instr.buildSlice 187 1 #[(0, .agg #[.string p.1, .string p.2])]).run Tryz.prog w = .ok (.slice (some ⟨w.heap.size, 0, none⟩) 1 1) (w.alloc (.cells (pcells p).toArray 224)) := by
 obtain ⟨ie, hie, hz1, hz2, _⟩ := info_parts irp
 exact run_build1 (P := Tryz.prog) w 187 224 #[.string p.1, .string p.2] ie _ Tryz.underlying187 hie hz1 (by rw [hz2]; rfl) (by simp) (by simp)

theorem wpList_push {w : World} {ops : Array Oper} {rest : List Oper} {o : Oper} {a : Act} {Q : Exit → Act → World → Prop} (hgd : o.guard = none) (s x : Operand) (ho : o.op = .call { callee := .builtin .append, args := #[s, x], argTypes := #[187, 187] })
  (base : Nat) (v : Value) (l : List Pr) (hs : a.eval s = v) (hown : w.ownsRow base 224 2 v l.length (flat2 l)) (p : Pr) (nb : Nat) (hx : a.eval x = .slice (some ⟨nb, 0, none⟩) 1 1) (hn : w.heap[nb]? = some (.cells (pcells p).toArray 224 (0, 0)))
  (hl : l.length ≤ 100000) (hb : base ≤ w.heap.size)
  (h : ∀ v' w', w'.ownsRow base 224 2 v' (l ++ [p]).length (flat2 (l ++ [p])) → Kept v.ownBlock.toList w w' → wpList Tryz.prog ops Q rest (a.put o.dst v') w') : wpList Tryz.prog ops Q (o :: rest) a w := by
 obtain ⟨ie, hie, hz1, hz2, hz3⟩ := info_parts irp
 refine wpList_append_own _ hgd s x 187 ho base 224 ie _ 2 32 Tryz.underlying187 hie hz1 hz2 hz3 rfl (by decide) v l.length (flat2 l) hs hown ⟨nb, 0, none⟩ 1 1 (pcells p) hx rfl (row_src hn) (one_pcells p) (by unfold maxLen; omega) (by omega) hb ?_
 intro v' w' ho' hg' _
 exact h v' w' (by rw [← flat2_snoc]; simpa using ho') (grown_kept hg' _ (by intro y hy; rw [hy]; simp))

theorem own_ge {w : World} {base e size n : Nat} {v : Value} {xs : List Value} (h : w.ownsRow base e size v n xs) : ∀ y ∈ v.ownBlock.toList, base ≤ y := by
 intro y hy
 simp at hy
 exact (h.lt y hy).1
theorem own_lt {w : World} {base e size n : Nat} {v : Value} {xs : List Value} (h : w.ownsRow base e size v n xs) : ∀ y ∈ v.ownBlock.toList, y < w.heap.size := by
 intro y hy
 simp at hy
 exact (h.lt y hy).2

theorem withGo_nil (k v : ByteArray) (b : Bool) : withGo k v b [] = if b then [] else [(k, v)] := rfl
theorem withGo_cons (k v : ByteArray) (b : Bool) (p : Pr) (r : List Pr) : withGo k v b (p :: r) = (if !b && !bl p.1 k then [(k, v)] else []) ++ (if be p.1 k then [] else [p]) ++ withGo k v (b || !bl p.1 k) r := rfl

theorem owns_len2 {w : World} {base e size n : Nat} {v : Value} {xs : List Value} (h : w.ownsRow base e size v n xs) : ∃ p c, v = .slice p n c := by
 obtain ⟨_, ⟨rfl, rfl⟩ | ⟨g, cap, cur, rfl, _⟩⟩ := h
 ·exact ⟨_, _, rfl⟩
 ·exact ⟨_, _, rfl⟩

def WR (w : World) (vl : Value) (l : List Pr) (k v : ByteArray) (out put i : Value) (wr : World) : Prop :=
 ∃ (j : Nat) (b : Bool) (o : List Pr), j ≤ l.length ∧ i = .int .i64 j ∧ put = .bool b ∧ wr.ownsRow (w.heap.size + 2) 224 2 out o.length (flat2 o) ∧ o.length ≤ j + b.toNat ∧ o ++ withGo k v b (l.drop j) = withL k v l ∧
  wr.heap[w.heap.size]? = some (.cells #[vl] 189 (0, 0)) ∧ wr.heap[w.heap.size + 1]? = some (.cells #[.slice none 0 0] 189 (0, 0)) ∧ Kept [] w wr

def MapR (l : List Pr) (w : World) (e : Ending) (w' : World) : Prop := ∃ v, e = .returned (.agg #[v]) ∧ PL w' 224 v l ∧ (∀ b, v.ownBlock = some b → w.heap.size ≤ b) ∧ Kept [] w w'

theorem With_any (vl : Value) (l : List Pr) (k v : ByteArray) (w : World) (h : PL w 224 vl l) (hl : l.length ≤ 50000) :
  Calls Tryz.prog 138 #[.agg #[vl], .string k, .string v] w (MapR (withL k v l) w) := by
 obtain ⟨pv, cv, rfl⟩ := h.shape
 have k0 := (Kept.refl [] w).alloc (.cells #[.slice pv l.length cv] 189)
 have n0 := heap_alloc_new w (.cells #[.slice pv l.length cv] 189)
 have k1 := (Kept.refl [] (w.alloc (.cells #[.slice pv l.length cv] 189))).alloc (.cells #[.slice none 0 0] 189)
 have n1 := heap_alloc_new (w.alloc (.cells #[.slice pv l.length cv] 189)) (.cells #[.slice none 0 0] 189)
 have z1 : (w.alloc (.cells #[.slice pv l.length cv] 189)).heap.size = w.heap.size + 1 := by simp
 rw [z1] at n1
 have hW0 : WR w (.slice pv l.length cv) l k v (.slice none 0 0) (.bool false) (.int .i64 0) ((w.alloc (.cells #[.slice pv l.length cv] 189)).alloc (.cells #[.slice none 0 0] 189)) :=
  ⟨0, false, [], Nat.zero_le _, rfl, rfl, World.ownsRow_nil _ _ _ _, by simp, rfl, k1.get n0 (by simp), n1, k0.trans k1⟩
 clear z1 n0 n1 k1
 go_enter Tryz.func138, Tryz.ntmps138
 go_wp2
 go_loopw [7, 8, 9] (fun out put i wr => WR w (.slice pv l.length cv) l k v out put i wr) (fun _ _ i _ => l.length - (intOf i).toNat)
 case atStart => exact hW0
 case round =>
  obtain ⟨j, b, o, hj, rfl, rfl, hown, hol, heq, b0, b1, hkr⟩ := hrel
  have c0 : wr.cell? ⟨w.heap.size, 0, none⟩ = some (.slice pv l.length cv) := cellAt b0 rfl
  by_cases hlt : j < l.length
  ·have hPL := h.kept hkr (by simp)
   obtain ⟨g, cap, cur, e, hg, hcur⟩ := hPL.at_ (by omega)
   cases e
   obtain ⟨p, hp⟩ : ∃ p, l[j]? = some p := ⟨_, List.getElem?_eq_getElem hlt⟩
   have hld := PL.load (P := Tryz.prog) (ty := 224) _ hg (hcur j p hp) Tryz.underlying224 srp
   have hdr : l.drop j = p :: l.drop (j + 1) := by
    rw [List.drop_eq_getElem_cons hlt]
    congr 1
    exact (List.getElem?_eq_some_iff.1 hp).2
   rw [hdr, withGo_cons] at heq
   have hb : w.heap.size + 2 ≤ wr.heap.size := by have := lt_heap b1; omega
   clear hPL hcur
   have fin : ∀ (out' : Value) (o' : List Pr) (b' : Bool) (w' : World), w'.ownsRow (w.heap.size + 2) 224 2 out' o'.length (flat2 o') → o'.length ≤ j + 1 + b'.toNat → o' ++ withGo k v b' (l.drop (j + 1)) = withL k v l → (∃ S, Kept S wr w' ∧ ∀ y ∈ S, w.heap.size + 2 ≤ y) → WR w (.slice (some ⟨g, 0, none⟩) l.length cv) l k v out' (.bool b') (.int .i64 ((j : Int) + 1)) w' := by
    rintro out' o' b' w' h1 h2 h3 ⟨S, h4, h5⟩
    refine ⟨j + 1, b', o', by omega, by simp, rfl, h1, h2, h3, h4.get b0 ?_, h4.get b1 ?_, hkr.trans2 h4 ?_⟩
    ·intro hx; have := h5 _ hx; omega
    ·intro hx; have := h5 _ hx; omega
    ·intro x hx; right; have := h5 _ hx; omega
   have FIN : Hid _ := fin
   have kA := (Kept.refl [] wr).alloc (.cells #[.string p.1, .string p.2] 224)
   have nA := heap_alloc_new wr (.cells #[.string p.1, .string p.2] 224)
   have HE : Hid _ := heq
   clear fin heq
   cases b with
   | true =>
    simp only [Bool.toNat_true] at hol
    cases he : be p.1 k with
    | true =>
     have hP := FIN.out u7 o true _ (owns_kept hown kA (by simp)) (by simp; omega) (by have := HE.out; simpa [he] using this) ⟨[], kA, by simp⟩
     unfold be at he
     go_wp2_with (first
      | (refine wpList_val rfl _ _ (exec_index 187 (.tmp 19) (.tmp 20) rfl g 0 l.length cv j 2 rfl rfl 224 Tryz.underlying187 srp hlt (j * 2) (by omega)) ?_)
      | (refine wpList_load_seg rfl 224 (.tmp 21) rfl ⟨g, j * 2, none⟩ rfl _ hld ?_))
     go_roundw
     case rel => exact hP
     case measure => simp [intOf]; omega
    | false =>
     have hE := HE.out
     simp only [Bool.not_true, Bool.false_and, Bool.false_eq_true, if_false, he, List.nil_append, Bool.true_or] at hE
     unfold be at he
     go_wp2_with (first
      | (refine wpList_val rfl _ _ (exec_index 187 (.tmp 19) (.tmp 20) rfl g 0 l.length cv j 2 rfl rfl 224 Tryz.underlying187 srp hlt (j * 2) (by omega)) ?_)
      | (refine wpList_load_seg rfl 224 (.tmp 21) rfl ⟨g, j * 2, none⟩ rfl _ hld ?_)
      | (refine wpList_new rfl _ _ (exec_buildSlice 187 1 (.tmp 42) rfl (.agg #[.string p.1, .string p.2]) rfl _ (run_pair1 _ p)) ?_; intro w3 n3 k3 _; have own3 := owns_kept hown (kA.trans k3) (by simp); have hb3 := (kA.trans k3).size)
      | (at_builtin; refine wpList_push rfl (.tmp 41) (.tmp 43) rfl (w.heap.size + 2) u7 o rfl own3 p _ rfl n3 (by omega) (by omega) ?_; intro v4 w4 own4 k4; have hP := FIN.out v4 (o ++ [p]) true w4 own4 (by simp; try omega) (by simpa using hE) ⟨_, ((kA.trans k3).mono (by simp)).trans k4, own_ge hown⟩; clear own4 own3 n3 k3 k4))
     go_roundw
     case rel => exact hP
     case measure => simp [intOf]; omega
   | false =>
    simp only [Bool.toNat_false, Nat.add_zero] at hol
    cases hl1 : bl p.1 k with
    | true =>
     cases he : be p.1 k with
     | true =>
      rw [(be_iff _ _).1 he, bl_irrefl] at hl1
      cases hl1
     | false =>
      have hE := HE.out
      simp only [Bool.not_true, Bool.and_false, Bool.false_eq_true, if_false, he, hl1, List.nil_append, Bool.or_self] at hE
      unfold be at he
      unfold bl at hl1
      go_wp2_with (first
      | (refine wpList_val rfl _ _ (exec_index 187 (.tmp 19) (.tmp 20) rfl g 0 l.length cv j 2 rfl rfl 224 Tryz.underlying187 srp hlt (j * 2) (by omega)) ?_)
      | (refine wpList_load_seg rfl 224 (.tmp 21) rfl ⟨g, j * 2, none⟩ rfl _ hld ?_)
      | (refine wpList_new rfl _ _ (exec_buildSlice 187 1 (.tmp 42) rfl (.agg #[.string p.1, .string p.2]) rfl _ (run_pair1 _ p)) ?_; intro w3 n3 k3 _; have own3 := owns_kept hown (kA.trans k3) (by simp); have hb3 := (kA.trans k3).size)
      | (at_builtin; refine wpList_push rfl (.tmp 41) (.tmp 43) rfl (w.heap.size + 2) u7 o rfl own3 p _ rfl n3 (by omega) (by omega) ?_; intro v4 w4 own4 k4; have hP := FIN.out v4 (o ++ [p]) false w4 own4 (by simp; try omega) (by simpa using hE) ⟨_, ((kA.trans k3).mono (by simp)).trans k4, own_ge hown⟩; clear own4 own3 n3 k3 k4))
      go_roundw
      case rel => exact hP
      case measure => simp [intOf]; omega
    | false =>
     cases he : be p.1 k with
     | true =>
      have hE := HE.out
      simp only [Bool.not_false, Bool.and_self, if_true, he, hl1, List.append_nil, Bool.or_true] at hE
      unfold be at he
      unfold bl at hl1
      go_wp2_with (first
      | (refine wpList_val rfl _ _ (exec_index 187 (.tmp 19) (.tmp 20) rfl g 0 l.length cv j 2 rfl rfl 224 Tryz.underlying187 srp hlt (j * 2) (by omega)) ?_)
      | (refine wpList_load_seg rfl 224 (.tmp 21) rfl ⟨g, j * 2, none⟩ rfl _ hld ?_)
      | (refine wpList_new rfl _ _ (exec_buildSlice 187 1 (.tmp 34) rfl (.agg #[.string k, .string v]) rfl _ (run_pair1 _ (k, v))) ?_; intro w3 n3 k3 _; have own3 := owns_kept hown (kA.trans k3) (by simp); have hb3 := (kA.trans k3).size; have nB3 := k3.get nA (by simp))
      | (at_builtin; refine wpList_push rfl (.tmp 31) (.tmp 35) rfl (w.heap.size + 2) u7 o rfl own3 (k, v) _ rfl n3 (by omega) (by omega) ?_; intro v4 w4 own4 k4; have nB4 := k4.get nB3 (fun hx => by have := own_lt hown _ hx; omega); have cB4 : w4.cell? ⟨wr.heap.size, 0, none⟩ = some (.string p.1) := cellAt nB4 rfl; have k14 := ((kA.trans k3).mono (S' := u7.ownBlock.toList) (by simp)).trans k4; have hP := FIN.out v4 (o ++ [(k, v)]) true w4 own4 (by simp; try omega) (by simpa using hE) ⟨_, k14, own_ge hown⟩; clear own4 own3 n3 k3 k4))
      go_roundw
      case rel => exact hP
      case measure => simp [intOf]; omega
     | false =>
      have hE := HE.out
      simp only [Bool.not_false, Bool.and_self, if_true, Bool.false_eq_true, if_false, he, hl1, Bool.or_true] at hE
      unfold be at he
      unfold bl at hl1
      go_wp2_with (first
      | (refine wpList_val rfl _ _ (exec_index 187 (.tmp 19) (.tmp 20) rfl g 0 l.length cv j 2 rfl rfl 224 Tryz.underlying187 srp hlt (j * 2) (by omega)) ?_)
      | (refine wpList_load_seg rfl 224 (.tmp 21) rfl ⟨g, j * 2, none⟩ rfl _ hld ?_)
      | (refine wpList_new rfl _ _ (exec_buildSlice 187 1 (.tmp 34) rfl (.agg #[.string k, .string v]) rfl _ (run_pair1 _ (k, v))) ?_; intro w3 n3 k3 _; have own3 := owns_kept hown (kA.trans k3) (by simp); have hb3 := (kA.trans k3).size; have nB3 := k3.get nA (by simp))
      | (at_builtin; refine wpList_push rfl (.tmp 31) (.tmp 35) rfl (w.heap.size + 2) u7 o rfl own3 (k, v) _ rfl n3 (by omega) (by omega) ?_; intro v4 w4 own4 k4; have nB4 := k4.get nB3 (fun hx => by have := own_lt hown _ hx; omega); have cB4 : w4.cell? ⟨wr.heap.size, 0, none⟩ = some (.string p.1) := cellAt nB4 rfl; have k14 := ((kA.trans k3).mono (S' := u7.ownBlock.toList) (by simp)).trans k4; have hb4 := k14.size; clear own3 n3 k3)
      | (refine wpList_load_row rfl 224 (.tmp 10) rfl wr.heap.size rfl 224 _ (0, 0) _ nB4 Tryz.underlying224 rfl srp ?_)
      | (refine wpList_new rfl _ _ (exec_buildSlice 187 1 (.tmp 42) rfl (.agg #[.string p.1, .string p.2]) rfl _ (run_pair1 _ p)) ?_; intro w5 n5 k5 _; have own5 := owns_kept own4 k5 (by simp); have hb5 := k5.size)
      | (at_builtin; refine wpList_push rfl (.tmp 41) (.tmp 43) rfl (w.heap.size + 2) v4 (o ++ [(k, v)]) rfl own5 p _ rfl n5 (by simp; omega) (by omega) ?_; intro v6 w6 own6 k6; have hP := FIN.out v6 (o ++ [(k, v)] ++ [p]) true w6 own6 (by simp; try omega) (by simpa using hE) ⟨u7.ownBlock.toList ++ v4.ownBlock.toList, ((k14.mono (by intro x hx; simp; exact Or.inl (by simpa using hx))).trans (k5.mono (by simp))).trans (k6.mono (by intro x hx; simp; exact Or.inr (by simpa using hx))), by intro y hy; rcases List.mem_append.1 hy with hy | hy; exact own_ge hown y hy; exact own_ge own4 y hy⟩; clear own6 own5 own4 n5 k5 k6))
      go_roundw
      case rel => exact hP
      case measure => simp [intOf]; omega
  ·have hge : ¬ (j : Int) < (l.length : Int) := by omega
   have ej : j = l.length := by omega
   subst ej
   rw [List.drop_length, withGo_nil] at heq
   have f1 : wr.frozen? ⟨w.heap.size + 1, 0, none⟩ = false := frozen_of_row _ _ _ _ _ b1
   cases b with
   | true =>
    simp only [if_true, List.append_nil] at heq
    subst heq
    obtain ⟨p', c', rfl⟩ := owns_len2 hown
    have c1 : wr.cell? ⟨w.heap.size + 1, 0, none⟩ = some (.slice none 0 0) := cellAt b1 rfl
    go_wp2
    have b2 := setCellAt (i := 0) (.slice p' (withL k v l).length c') b1
    have k2 : Kept [w.heap.size + 1] wr (wr.setCell ⟨w.heap.size + 1, 0, none⟩ (.slice p' (withL k v l).length c')) := (Kept.refl _ _).setCell (Or.inl (by simp)) _
    refine bodyPost_ret (results_cell_row rfl _ _ (w.heap.size + 1) 189 _ (0, 0) _ rfl b2 Tryz.underlying189 rfl smap) rfl ?_
    refine ⟨_, rfl, owns_mono (owns_kept hown k2 ?_) (Nat.zero_le _), ?_, hkr.trans2 k2 (by intro x hx; simp at hx; omega)⟩
    ·intro y hy; have := (hown.lt y hy).1; simp; omega
    ·intro y hy; have := (hown.lt y hy).1; omega
   | false =>
    simp only [Bool.false_eq_true, if_false] at heq
    simp only [Bool.toNat_false, Nat.add_zero] at hol
    have hb : w.heap.size + 2 ≤ wr.heap.size := by have := lt_heap b1; omega
    go_wp2_with (first
      | (refine wpList_new rfl _ _ (exec_buildSlice 187 1 (.tmp 50) rfl (.agg #[.string k, .string v]) rfl _ (run_pair1 _ (k, v))) ?_; intro w3 n3 k3 _; have own3 := owns_kept hown k3 (by simp); have hb3 := k3.size)
      | (at_builtin; refine wpList_push rfl (.tmp 47) (.tmp 51) rfl (w.heap.size + 2) u7 o rfl own3 (k, v) _ rfl n3 (by omega) (by omega) ?_; intro v4 w4 own4 k4; rw [heq] at own4; obtain ⟨p', c', rfl⟩ := owns_len2 own4; have k14 := (k3.mono (S' := u7.ownBlock.toList) (by simp)).trans k4; have n4 := k14.get b1 (by intro hx; have := own_ge hown _ hx; omega); have f4 : w4.frozen? ⟨w.heap.size + 1, 0, none⟩ = false := frozen_of_row _ _ _ _ _ n4; have c4 : w4.cell? ⟨w.heap.size + 1, 0, none⟩ = some (.slice none 0 0) := cellAt n4 rfl))
    have b2 := setCellAt (i := 0) (.slice p' (withL k v l).length c') n4
    have k2 : Kept [w.heap.size + 1] w4 (w4.setCell ⟨w.heap.size + 1, 0, none⟩ (.slice p' (withL k v l).length c')) := (Kept.refl _ _).setCell (Or.inl (by simp)) _
    refine bodyPost_ret (results_cell_row rfl _ _ (w.heap.size + 1) 189 _ (0, 0) _ rfl b2 Tryz.underlying189 rfl smap) rfl ?_
    refine ⟨_, rfl, owns_mono (owns_kept own4 k2 ?_) (Nat.zero_le _), ?_, (hkr.trans2 k14 (by intro x hx; right; have := own_ge hown x hx; omega)).trans2 k2 (by intro x hx; simp at hx; omega)⟩
    ·intro y hy; have := (own4.lt y hy).1; simp; omega
    ·intro y hy; have := (own4.lt y hy).1; omega

end Go.Proofs.YtcklgafpgdhnaaaGreatDoor

namespace Go.Proofs.YtcklgafpgdhnaaaGreatDoor
open Go.RowKit

def WoR (w : World) (vl : Value) (l : List Pr) (k : ByteArray) (out i : Value) (wr : World) : Prop :=
 ∃ (j : Nat) (o : List Pr), j ≤ l.length ∧ i = .int .i64 j ∧ wr.ownsRow (w.heap.size + 2) 224 2 out o.length (flat2 o) ∧ o.length ≤ j ∧ o = withoutL k (l.take j) ∧
  wr.heap[w.heap.size]? = some (.cells #[vl] 189 (0, 0)) ∧ wr.heap[w.heap.size + 1]? = some (.cells #[.slice none 0 0] 189 (0, 0)) ∧ Kept [] w wr

theorem Without_any (vl : Value) (l : List Pr) (k : ByteArray) (w : World) (h : PL w 224 vl l) (hl : l.length ≤ 50000) :
  Calls Tryz.prog 139 #[.agg #[vl], .string k] w (MapR (withoutL k l) w) := by
 obtain ⟨pv, cv, rfl⟩ := h.shape
 have k0 := (Kept.refl [] w).alloc (.cells #[.slice pv l.length cv] 189)
 have n0 := heap_alloc_new w (.cells #[.slice pv l.length cv] 189)
 have k1 := (Kept.refl [] (w.alloc (.cells #[.slice pv l.length cv] 189))).alloc (.cells #[.slice none 0 0] 189)
 have n1 := heap_alloc_new (w.alloc (.cells #[.slice pv l.length cv] 189)) (.cells #[.slice none 0 0] 189)
 have z1 : (w.alloc (.cells #[.slice pv l.length cv] 189)).heap.size = w.heap.size + 1 := by simp
 rw [z1] at n1
 have hW0 : WoR w (.slice pv l.length cv) l k (.slice none 0 0) (.int .i64 0) ((w.alloc (.cells #[.slice pv l.length cv] 189)).alloc (.cells #[.slice none 0 0] 189)) :=
  ⟨0, [], Nat.zero_le _, rfl, World.ownsRow_nil _ _ _ _, by simp, rfl, k1.get n0 (by simp), n1, k0.trans k1⟩
 clear z1 n0 n1 k1
 go_enter Tryz.func139, Tryz.ntmps139
 go_wp2
 go_loopw [5, 6] (fun out i wr => WoR w (.slice pv l.length cv) l k out i wr) (fun _ i _ => l.length - (intOf i).toNat)
 case atStart => exact hW0
 case round =>
  obtain ⟨j, o, hj, rfl, hown, hol, heq, b0, b1, hkr⟩ := hrel
  have c0 : wr.cell? ⟨w.heap.size, 0, none⟩ = some (.slice pv l.length cv) := cellAt b0 rfl
  by_cases hlt : j < l.length
  ·have hPL := h.kept hkr (by simp)
   obtain ⟨g, cap, cur, e, hg, hcur⟩ := hPL.at_ (by omega)
   cases e
   obtain ⟨p, hp⟩ : ∃ p, l[j]? = some p := ⟨_, List.getElem?_eq_getElem hlt⟩
   have hld := PL.load (P := Tryz.prog) (ty := 224) _ hg (hcur j p hp) Tryz.underlying224 srp
   have hc0 : wr.cell? ⟨g, j * 2, none⟩ = some (.string p.1) := cellAt hg (hcur j p hp).1
   have hb : w.heap.size + 2 ≤ wr.heap.size := by have := lt_heap b1; omega
   clear hPL hcur
   have fin : ∀ (out' : Value) (o' : List Pr) (w' : World), w'.ownsRow (w.heap.size + 2) 224 2 out' o'.length (flat2 o') → o'.length ≤ j + 1 → o' = withoutL k (l.take (j + 1)) → Kept u5.ownBlock.toList wr w' → WoR w (.slice (some ⟨g, 0, none⟩) l.length cv) l k out' (.int .i64 ((j : Int) + 1)) w' := by
    rintro out' o' w' h1 h2 h3 h4
    have h5 := own_ge hown
    refine ⟨j + 1, o', by omega, by simp, h1, h2, h3, h4.get b0 ?_, h4.get b1 ?_, hkr.trans2 h4 ?_⟩
    ·intro hx; have := h5 _ hx; omega
    ·intro hx; have := h5 _ hx; omega
    ·intro x hx; right; have := h5 _ hx; omega
   have FIN : Hid _ := fin
   have HE : Hid (withoutL k (l.take (j + 1)) = o ++ if be p.1 k then [] else [p]) := by
    show _ = _
    rw [take_snoc l j p hp, heq]
    simp only [withoutL, List.filter_append]
    cases he : be p.1 k <;> simp [he]
   clear fin heq
   cases he : be p.1 k with
   | true =>
    have hP := FIN.out u5 o wr hown (by omega) (by have := HE.out; simpa [he] using this.symm) (Kept.refl _ _)
    unfold be at he
    go_wp2_with (first
     | (refine wpList_val rfl _ _ (exec_index 187 (.tmp 15) (.tmp 16) rfl g 0 l.length cv j 2 rfl rfl 224 Tryz.underlying187 srp hlt (j * 2) (by omega)) ?_))
    go_roundw
    case rel => exact hP
    case measure => simp [intOf]; omega
   | false =>
    have hE := HE.out
    simp only [he, Bool.false_eq_true, if_false] at hE
    unfold be at he
    go_wp2_with (first
     | (refine wpList_val rfl _ _ (exec_index 187 (.tmp 15) (.tmp 16) rfl g 0 l.length cv j 2 rfl rfl 224 Tryz.underlying187 srp hlt (j * 2) (by omega)) ?_)
     | (refine wpList_val rfl _ _ (exec_index 187 (.tmp 24) (.tmp 25) rfl g 0 l.length cv j 2 rfl rfl 224 Tryz.underlying187 srp hlt (j * 2) (by omega)) ?_)
     | (refine wpList_load_seg rfl 224 (.tmp 26) rfl ⟨g, j * 2, none⟩ rfl _ hld ?_)
     | (refine wpList_new rfl _ _ (exec_buildSlice 187 1 (.tmp 27) rfl (.agg #[.string p.1, .string p.2]) rfl _ (run_pair1 _ p)) ?_; intro w3 n3 k3 _; have own3 := owns_kept hown k3 (by simp); have hb3 := k3.size)
     | (at_builtin; refine wpList_push rfl (.tmp 22) (.tmp 28) rfl (w.heap.size + 2) u5 o rfl own3 p _ rfl n3 (by omega) (by omega) ?_; intro v4 w4 own4 k4; have hP := FIN.out v4 (o ++ [p]) w4 own4 (by simp; omega) hE.symm ((k3.mono (by simp)).trans k4); clear own4 own3 n3 k3 k4))
    go_roundw
    case rel => exact hP
    case measure => simp [intOf]; omega
  ·have hge : ¬ (j : Int) < (l.length : Int) := by omega
   have ej : j = l.length := by omega
   subst ej
   rw [List.take_length] at heq
   subst heq
   have f1 : wr.frozen? ⟨w.heap.size + 1, 0, none⟩ = false := frozen_of_row _ _ _ _ _ b1
   obtain ⟨p', c', rfl⟩ := owns_len2 hown
   have c1 : wr.cell? ⟨w.heap.size + 1, 0, none⟩ = some (.slice none 0 0) := cellAt b1 rfl
   go_wp2
   have b2 := setCellAt (i := 0) (.slice p' (withoutL k l).length c') b1
   have k2 : Kept [w.heap.size + 1] wr (wr.setCell ⟨w.heap.size + 1, 0, none⟩ (.slice p' (withoutL k l).length c')) := (Kept.refl _ _).setCell (Or.inl (by simp)) _
   refine bodyPost_ret (results_cell_row rfl _ _ (w.heap.size + 1) 189 _ (0, 0) _ rfl b2 Tryz.underlying189 rfl smap) rfl ?_
   refine ⟨_, rfl, owns_mono (owns_kept hown k2 ?_) (Nat.zero_le _), ?_, hkr.trans2 k2 (by intro x hx; simp at hx; omega)⟩
   ·intro y hy; have := (hown.lt y hy).1; simp; omega
   ·intro y hy; have := (hown.lt y hy).1; omega

theorem getL_drop (k : ByteArray) (l : List Pr) (j : Nat) (p : Pr) (h : l[j]? = some p) : getL k (l.drop j) = if be p.1 k then some p.2 else getL k (l.drop (j + 1)) := by
 have hlt : j < l.length := (List.getElem?_eq_some_iff.1 h).1
 rw [List.drop_eq_getElem_cons hlt, (List.getElem?_eq_some_iff.1 h).2]
 rfl

def GetR (l : List Pr) (k : ByteArray) (w : World) (e : Ending) (w' : World) : Prop :=
 e = .returned (.tuple #[.string ((getL k l).getD ⟨#[]⟩), .bool (getL k l).isSome]) ∧ Kept [] w w'

def GetI (w : World) (l : List Pr) (pv : Option Addr) (cv : Nat) (k : ByteArray) (s b i : Value) (wr : World) : Prop := ∃ (j : Nat), j ≤ l.length ∧ s = .string ⟨#[]⟩ ∧ b = .bool false ∧ i = .int .i64 j ∧ getL k (l.drop j) = getL k l ∧ wr = w.alloc (.cells #[.slice pv l.length cv] 189)

theorem RGet_any (vl : Value) (l : List Pr) (k : ByteArray) (w : World) (h : PL w 224 vl l) (hl : l.length ≤ 50000) :
  Calls Tryz.prog 142 #[.agg #[vl], .string k] w (GetR l k w) := by
 obtain ⟨pv, cv, rfl⟩ := h.shape
 have k0 := (Kept.refl [] w).alloc (.cells #[.slice pv l.length cv] 189)
 have n0 := heap_alloc_new w (.cells #[.slice pv l.length cv] 189)
 go_enter Tryz.func142, Tryz.ntmps142
 go_wp2
 go_loopw [4, 5, 6] (fun s b i wr => GetI w l pv cv k s b i wr) (fun _ _ i _ => l.length - (intOf i).toNat)
 case atStart => exact ⟨0, Nat.zero_le _, rfl, rfl, rfl, rfl, rfl⟩
 case round =>
  obtain ⟨j, hj, rfl, rfl, rfl, heq, rfl⟩ := hrel
  have c0 : (w.alloc (.cells #[.slice pv l.length cv] 189)).cell? ⟨w.heap.size, 0, none⟩ = some (.slice pv l.length cv) := cellAt n0 rfl
  by_cases hlt : j < l.length
  ·have hPL := h.kept k0 (by simp)
   obtain ⟨g, cap, cur, e, hg, hcur⟩ := hPL.at_ (by omega)
   cases e
   obtain ⟨p, hp⟩ : ∃ p, l[j]? = some p := ⟨_, List.getElem?_eq_getElem hlt⟩
   have hc0 := cellAt (j := j * 2) hg (hcur j p hp).1
   have hc1 := cellAt (j := j * 2 + 1) hg (hcur j p hp).2
   rw [getL_drop k l j p hp] at heq
   have HE : Hid _ := heq
   clear hPL hcur heq
   cases he : be p.1 k with
   | true =>
    have hE := HE.out
    simp only [he, if_true] at hE
    unfold be at he
    go_wp2_with (first
     | (refine wpList_val rfl _ _ (exec_index 187 (.tmp 15) (.tmp 16) rfl g 0 l.length cv j 2 rfl rfl 224 Tryz.underlying187 srp hlt (j * 2) (by omega)) ?_)
     | (refine wpList_val rfl _ _ (exec_index 187 (.tmp 23) (.tmp 24) rfl g 0 l.length cv j 2 rfl rfl 224 Tryz.underlying187 srp hlt (j * 2) (by omega)) ?_))
    go_ret2
    exact ⟨by rw [← hE]; rfl, k0⟩
   | false =>
    have hE := HE.out
    simp only [he, Bool.false_eq_true, if_false] at hE
    unfold be at he
    go_wp2_with (first
     | (refine wpList_val rfl _ _ (exec_index 187 (.tmp 15) (.tmp 16) rfl g 0 l.length cv j 2 rfl rfl 224 Tryz.underlying187 srp hlt (j * 2) (by omega)) ?_))
    go_roundw
    case rel => exact ⟨j + 1, by omega, rfl, rfl, by go_num, hE, rfl⟩
    case measure => simp [intOf]; omega
  ·have hge : ¬ (j : Int) < (l.length : Int) := by omega
   have ej : j = l.length := by omega
   subst ej
   rw [List.drop_length] at heq
   have hE : getL k l = none := heq.symm
   clear heq
   go_wp2
   go_ret2
   exact ⟨by rw [hE]; rfl, k0⟩

def mst (m : Int) : Nat := m.toNat
def ListR (t : TypeId) (l : List Pr) (w : World) (e : Ending) (w' : World) : Prop := ∃ v, e = .returned v ∧ PL w' t v l ∧ (∀ b, v.ownBlock = some b → w.heap.size ≤ b) ∧ Kept [] w w'

end Go.Proofs.YtcklgafpgdhnaaaGreatDoor
