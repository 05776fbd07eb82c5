import Derived.Test.YtnofaofjgjgkgaaGreatDoorScanA
namespace Go.Proofs.YtnofaofjgjgkgaaGreatDoor
open Go.RowKit

/-- the cells of a disk of the script -/
def ldl (a : Nat) (n : Int) (may were s : Value) : List Value := [.pointer (some ⟨a, 0, none⟩), .int .i64 n, may, .bool false, were, .bool false, .bool false, s]
/-- a disk of the script at q -/
def LD (w : World) (q a : Nat) (n : Int) (may were s : Value) : Prop := w.heap[q]? = some (.cells (ldl a n may were s).toArray 43 (0, 0))

theorem LD.load {w : World} {q a : Nat} {n : Int} {may were s : Value} (h : LD w q a n may were s) : (loadVar 40 ⟨q, 1, none⟩).run Tryz.prog w = .ok (.agg (rcells n may false were false false)) w := by
  refine run_loadVar_seg (P := Tryz.prog) w q 1 43 40 (ldl a n may were s) [.int .i64 n, may, .bool false, were, .bool false, .bool false] (0, 0) _ h Tryz.underlying40 rfl srd ?_
  intro j v hv
  rw [List.getElem?_eq_some_iff] at hv
  obtain ⟨hj, rfl⟩ := hv
  simp at hj
  rcases j with _ | _ | _ | _ | _ | _ | j <;> first | rfl | omega

/-- the record of an open store -/
def opn (px : Option Addr) : Obj := .cells #[.pointer px, .slice none 0 0, .bool false, .bool false, .int .i64 0, .int .i64 0, .slice none 0 0, .slice none 0 0] 69 (0, 0)

def FoundR (q a : Nat) (n : Int) (may were : Value) (w : World) (e : Ending) (w' : World) : Prop := e = .returned (.bool true) ∧ (∃ s, LD w' q a n may were (.pointer (some s))) ∧ Kept [q] w w'

set_option maxRecDepth 100000 in
set_option maxHeartbeats 2000000 in
theorem found_any (q a : Nat) (n : Int) (may were s x : Value) (hx : ∃ p, x = .pointer p) (bs cache : Value) (c wr t : Int) (w : World) (hq : LD w q a n may were s) (hm : Maps w may 1) (h : w.heap[a]? = some (.cells (dcells bs cache c wr t) 93 (0, 0))) :
    Calls Tryz.prog 36 #[.pointer (some ⟨q, 0, none⟩), x] w (FoundR q a n may were w) := by
  obtain ⟨px, rfl⟩ := hx
  have c0 : w.cell? ⟨q, 0, none⟩ = some (.pointer (some ⟨a, 0, none⟩)) := cellAt hq rfl
  have HT : Hid (Calls _ _ _ _ _) := DTold_any a bs cache c wr t w h
  have nq : ∀ b, may.ownBlock = some b → b ∉ [q] := by
    intro b hb hbq
    simp at hbq; subst hbq
    obtain ⟨_, ⟨rfl, _⟩ | ⟨g, cap, cur, rfl, _, hh, _⟩⟩ := hm
    · cases hb
    · cases hb; rw [hq] at hh; cases hh
  go_enter Tryz.func36, Tryz.ntmps36
  go_wp2_with (first
    | (go_at_call 26; refine HT.out.mono ?_; rintro e w' ⟨rfl, rfl⟩)
    | (go_at_call 46; refine (Scan_any _ _ _ _).mono ?_; rintro e w1 ⟨rfl, hk1⟩; have hq1 : LD w1 q a n may were s := hk1.get hq (by simp); have hm1 := owns_kept hm hk1 (by simp); have hl1 := hq1.load; have d1 : w1.cell? ⟨q, 5, none⟩ = some (.bool false) := cellAt hq1 rfl; clear c0)
    | (go_at_call 28; refine (PTold_nil _).mono ?_; rintro e w' ⟨rfl, rfl⟩)
    | (go_at_call 48; refine (pairs_nil _).mono ?_; rintro e w' ⟨rfl, rfl⟩)
    | (refine wpList_load_seg rfl 40 (.tmp 41) rfl ⟨q, 1, none⟩ rfl _ hl1 ?_)
    | (go_at_call 63; refine (Has_one _ _ _ _ _ _ _ hm1).mono ?_; rintro e w2 ⟨rfl, hk2⟩; have hq2 : LD w2 q a n may were s := hk2.get hq1 (by simp); have d2 : w2.cell? ⟨q, 5, none⟩ = some (.bool false) := cellAt hq2 rfl; have hq3 := ((Kept.refl [] w2).alloc (opn px)).get hq2 (by simp); have c7 : (w2.alloc (opn px)).cell? ⟨q, 7, none⟩ = some s := cellAt hq3 rfl; have f7 : (w2.alloc (opn px)).frozen? ⟨q, 7, none⟩ = false := frozen_of_row _ _ _ _ _ hq3; unfold opn at c7 f7; have hlq := lt_heap hq2; have c8 : w2.cell? ⟨q, 7, none⟩ = some s := cellAt hq2 rfl; have f8 : w2.frozen? ⟨q, 7, none⟩ = false := frozen_of_row _ _ _ _ _ hq2))
  go_ret
  have k3 : Kept [q] w2 ((w2.setCell ⟨q, 7, none⟩ (.pointer (some ⟨w2.heap.size, 0, none⟩))).alloc (opn px)) := ((Kept.refl _ _).setCell (Or.inl (by simp)) _).alloc _
  refine ⟨rfl, ⟨⟨w2.heap.size, 0, none⟩, ?_⟩, ((hk1.trans hk2).mono (by simp)).trans k3⟩
  exact ((Kept.refl [] _).alloc _).get (setCellAt (i := 7) _ hq2) (by simp)

end Go.Proofs.YtnofaofjgjgkgaaGreatDoor
