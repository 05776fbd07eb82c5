import Derived.Test.YtnofaofjgjgkgaaGreatDoorApiG
import Derived.Laws.AppendOwnNone
import Derived.Laws.ResultCell
namespace Go.Proofs.YtnofaofjgjgkgaaGreatDoor
open Go.RowKit

theorem owns_kept {S : List Nat} {w w' : World} {base e size n : Nat} {v : Value} {xs : List Value} (h : w.ownsRow base e size v n xs) (k : Kept S w w') (hS : ∀ b, v.ownBlock = some b → b ∉ S) : w'.ownsRow base e size v n xs := by
  obtain ⟨h1, h2⟩ := h
  refine ⟨h1, ?_⟩
  rcases h2 with h2 | ⟨g, cap, cur, rfl, hg, hh, r⟩
  · exact Or.inl h2
  · exact Or.inr ⟨g, cap, cur, rfl, hg, k.get hh (hS g rfl), r⟩

theorem owns_slice {w : World} {base e size n : Nat} {v : Value} {xs : List Value} (h : w.ownsRow base e size v n xs) : ∃ p l q, v = .slice p l q := by
  obtain ⟨_, ⟨rfl, _⟩ | ⟨g, cap, cur, rfl, _⟩⟩ := h
  · exact ⟨_, _, _, rfl⟩
  · exact ⟨_, _, _, rfl⟩

theorem owns_mono {w : World} {base base' e size n : Nat} {v : Value} {xs : List Value} (h : w.ownsRow base e size v n xs) (hb : base' ≤ base) : w.ownsRow base' e size v n xs := by
  obtain ⟨h1, h2⟩ := h
  refine ⟨h1, ?_⟩
  rcases h2 with h2 | ⟨g, cap, cur, rfl, hg, r⟩
  · exact Or.inl h2
  · exact Or.inr ⟨g, cap, cur, rfl, by omega, r⟩

/-- append of a whole slice, nil or not -/
theorem wpList_append_src {P : Program} {w : World} {ops : Array Oper} {rest : List Oper} {o : Oper} {a : Act} {Q : Exit → Act → World → Prop} (hgd : o.guard = none) (s x : Operand) (t : TypeId)
    (ho : o.op = .call { callee := .builtin .append, args := #[s, x], argTypes := #[t, t] })
    (base : Nat) (e : TypeId) (i : TypeInfo) (z : Value) (size bytes : Nat) (ht : P.underlying t = some (.slice e)) (hi : P.info? e = some i) (hz : i.zero = some z)
    (hsize : i.size = size) (hby : i.bytes = bytes) (hzs : z.cells.size = size) (hsz : 0 < size)
    (v : Value) (n : Nat) (xs : List Value) (hs : a.eval s = v) (hown : w.ownsRow base e size v n xs)
    (y : Value) (base2 m : Nat) (ys : List Value) (hx : a.eval x = y) (hsrc : w.ownsRow base2 e size y m ys) (h1 : ∀ u ∈ ys, u.oneCell' = true)
    (h63 : n + m ≤ maxLen) (hbytes : (n + m) * bytes ≤ 140737488355328) (hbase : base ≤ w.heap.size)
    (h : ∀ v' w', w'.ownsRow base e size v' (n + m) (xs ++ ys) → w.grownBy w' v.ownBlock → wpList P ops Q rest (a.put o.dst v') w') : wpList P ops Q (o :: rest) a w := by
  obtain ⟨hl, ⟨rfl, rfl⟩ | ⟨g, cap, cur, rfl, hg, hh, h4, h5, h6, h7⟩⟩ := hsrc
  · refine wpList_append_own_none hgd s x t ho base e i size ht hi v n xs hs hown hx ?_
    have : ys = [] := List.eq_nil_of_length_eq_zero (by simpa using hl)
    subst this
    exact h v w (by simpa using hown) (World.grownBy.refl _ _)
  · refine wpList_append_own w hgd s x t ho base e i z size bytes ht hi hz hsize hby hzs hsz v n xs hs hown ⟨g, 0, none⟩ m cap ys hx hl ?_ h1 h63 hbytes hbase (fun v' w' ho' hg' _ => h v' w' ho' hg')
    intro j u hj
    rw [add_lit, Nat.zero_add, cell_of_row _ _ _ _ _ _ hh]
    rw [← h7, List.getElem?_take] at hj
    by_cases hjn : j < m * size
    · simpa [hjn] using hj
    · simp [hjn] at hj

/-- a value of storeref.Disk -/
def rcells (n : Int) (may : Value) (e : Bool) (were : Value) (wd b : Bool) : Array Value := #[.int .i64 n, may, .bool e, were, .bool wd, .bool b]
def nilMaps (k : Nat) : List Value := List.replicate k (.slice none 0 0)
theorem imap : (Tryz.prog.info? 60).map (fun i => (i.zero, i.size, i.bytes)) = some (some (.agg #[.slice none 0 0]), 1, 24) := by kernel_rfl
theorem one_nilMaps (k : Nat) : ∀ u ∈ nilMaps k, u.oneCell' = true := by intro u hu; rw [List.eq_of_mem_replicate hu]; rfl
/-- a slice of k empty maps -/
def Maps (w : World) (v : Value) (k : Nat) : Prop := w.ownsRow 0 60 1 v k (nilMaps k)

set_option maxHeartbeats 400000 in
theorem Fits_any (n : Nat) (may : Value) (e : Bool) (were : Value) (wd b : Bool) (w : World) :
    Calls Tryz.prog 29 #[.agg (rcells n may e were wd b)] w fun ev w' => ev = .returned (.bool (decide (8 ≤ n ∧ n ≤ 400))) ∧ Kept [] w w' := by
  unfold rcells
  by_cases h8 : 8 ≤ n
  · by_cases h4 : n ≤ 400
    · have g8 : (8 : Int) ≤ n := by omega
      have g4 : (n : Int) ≤ 400 := by omega
      go_enter Tryz.func29, Tryz.ntmps29
      go_wp2
      go_ret
      exact ⟨by simp [h8, h4], (Kept.refl _ _).alloc _⟩
    · have g8 : (8 : Int) ≤ n := by omega
      have g4 : ¬ (n : Int) ≤ 400 := by omega
      have d4 : decide ((n : Int) ≤ 400) = false := by simpa using g4
      go_enter Tryz.func29, Tryz.ntmps29
      go_wp2
      go_ret
      exact ⟨by simp, (Kept.refl _ _).alloc _⟩
  · have g8 : ¬ (8 : Int) ≤ n := by omega
    have d8 : decide ((8 : Int) ≤ n) = false := by simpa using g8
    go_enter Tryz.func29, Tryz.ntmps29
    go_wp2
    go_ret
    exact ⟨by simp, (Kept.refl _ _).alloc _⟩

end Go.Proofs.YtnofaofjgjgkgaaGreatDoor
