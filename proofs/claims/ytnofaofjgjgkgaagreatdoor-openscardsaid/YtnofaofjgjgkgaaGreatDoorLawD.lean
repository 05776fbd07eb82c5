import Derived.Test.YtnofaofjgjgkgaaGreatDoorLawC
namespace Go.Proofs.YtnofaofjgjgkgaaGreatDoor
open Go.RowKit

/-- where a disk of the script lies: its record, its device, the device's bytes; its blocks; how often it was formatted -/
structure Dk where
  q : Nat
  a : Nat
  g : Nat
  n : Nat
  k : Nat

/-- a disk of the script, and all that it leads to -/
structure DI (w : World) (d : Dk) : Prop where
  lt : d.n < 1000
  no : ¬ (8 ≤ d.n ∧ d.n ≤ 400) → d.k = 0
  ex : ∃ may were s m L c wr t, LD w d.q d.a d.n may were (.pointer s) ∧ Maps w may m ∧ m ≤ 1 ∧ (d.k = 0 → may = .slice none 0 0) ∧ (0 < d.k → m = 1) ∧ Maps w were d.k ∧ Dev w d.a d.g d.n L c wr t ∧ (8 ≤ d.n ∧ d.n ≤ 400 → St d.k L)

def OtherTag (w : World) (S : List Nat) : Prop := ∀ x ∈ S, x < w.heap.size → ∃ cs t fr, w.heap[x]? = some (.cells cs t fr) ∧ t ≠ 60

theorem Maps.kept {S : List Nat} {w w' : World} {v : Value} {k : Nat} (h : Maps w v k) (hk : Kept S w w') (hS : OtherTag w S) : Maps w' v k := by
  refine owns_kept h hk ?_
  intro b hb hx
  obtain ⟨cs, t, fr, hh, ht⟩ := hS b hx (World.ownsRow.lt h b hb).2
  exact maps_ne h hh ht b hb rfl

theorem DI.kept {S : List Nat} {w w' : World} {d : Dk} (h : DI w d) (hk : Kept S w w') (hS : OtherTag w S) (hq : d.q ∉ S) (ha : d.a ∉ S) (hg : d.g ∉ S) : DI w' d := by
  obtain ⟨may, were, s, m, L, c, wr, t, h1, h2, h3, h4, h5, h6, h7, h8⟩ := h.ex
  exact ⟨h.lt, h.no, may, were, s, m, L, c, wr, t, hk.get h1 hq, Maps.kept h2 hk hS, h3, h4, h5, Maps.kept h6 hk hS, h7.kept hk ha hg, h8⟩

theorem OtherTag.nil (w : World) : OtherTag w [] := by intro x hx; cases hx
theorem OtherTag.cons {w : World} {S : List Nat} {x : Nat} {cs : Array Value} {t : TypeId} {fr : Nat × Nat} (h : w.heap[x]? = some (.cells cs t fr)) (ht : t ≠ 60) (hS : OtherTag w S) : OtherTag w (x :: S) := by
  intro y hy hl
  rcases List.mem_cons.1 hy with rfl | hy
  · exact ⟨cs, t, fr, h, ht⟩
  · exact hS y hy hl

/-- two disks of the script share nothing but what never changes -/
def Apart (d e : Dk) : Prop := d.q ≠ e.q ∧ d.a ≠ e.a ∧ d.g ≠ e.g

def ptrs (ds : List Dk) : List Value := ds.map fun d => .pointer (some ⟨d.q, 0, none⟩)
theorem length_ptrs (ds : List Dk) : (ptrs ds).length = ds.length := by simp [ptrs]

/-- the cells of the script's world -/
def WC (w : World) (p : Nat) (kv dv : Value) : Prop := w.heap[p]? = some (.cells #[kv, dv] 32 (0, 0))

/-- the script's world: all that it made lies from B on -/
structure WI (B : Nat) (w : World) (p : Nat) (ds : List Dk) (j : Nat) : Prop where
  glob : Glob w
  pos : 0 < B
  size : B ≤ w.heap.size
  pB : B ≤ p
  ex : ∃ kv dv xs, WC w p kv dv ∧ w.ownsRow B 3 1 kv j xs ∧ (∀ v ∈ xs, v.oneCell' = true) ∧ w.ownsRow B 34 1 dv ds.length (ptrs ds)
  all : ∀ d ∈ ds, DI w d ∧ B ≤ d.q ∧ B ≤ d.a ∧ B ≤ d.g
  apart : ds.Pairwise Apart

theorem Kept.belowB {S : List Nat} {w w' : World} {B : Nat} (h : Kept S w w') (hB : B ≤ w.heap.size) (hS : ∀ x ∈ S, B ≤ x) : Below B w w' :=
  ⟨h.os, h.tape, h.output, h.size, fun k hk => h.block k (by omega) (fun hx => by have := hS k hx; omega)⟩

theorem DI.rows {w : World} {d : Dk} (h : DI w d) : (∃ cs fr, w.heap[d.q]? = some (.cells cs 43 fr)) ∧ (∃ cs fr, w.heap[d.a]? = some (.cells cs 93 fr)) ∧ (∃ cs fr, w.heap[d.g]? = some (.cells cs 94 fr)) := by
  obtain ⟨may, were, s, m, L, c, wr, t, h1, h2, h3, h4, h5, h6, h7, h8⟩ := h.ex
  exact ⟨⟨_, _, h1⟩, ⟨_, _, h7.d⟩, ⟨_, _, h7.b⟩⟩

theorem owns_row {w : World} {base e n b : Nat} {v : Value} {xs : List Value} (h : w.ownsRow base e 1 v n xs) (hb : v.ownBlock = some b) : ∃ cs fr, w.heap[b]? = some (.cells cs e fr) := by
  obtain ⟨_, ⟨rfl, _⟩ | ⟨g, cap, cur, rfl, _, hh, _⟩⟩ := h
  · cases hb
  · cases hb; exact ⟨_, _, hh⟩

theorem ne_row {w : World} {a b : Nat} {t1 t2 : TypeId} (h1 : ∃ cs fr, w.heap[a]? = some (.cells cs t1 fr)) (h2 : ∃ cs fr, w.heap[b]? = some (.cells cs t2 fr)) (ht : t1 ≠ t2) : a ≠ b := by
  obtain ⟨_, _, h1⟩ := h1
  obtain ⟨_, _, h2⟩ := h2
  exact ne_tag h1 h2 ht

/-- a change of fresh blocks alone -/
theorem WI.kept {B p j : Nat} {w w' : World} {ds : List Dk} (h : WI B w p ds j) (hk : Kept [] w w') : WI B w' p ds j := by
  obtain ⟨kv, dv, xs, h1, h2, h3, h4⟩ := h.ex
  refine ⟨h.glob.kept hk (by simp), h.pos, Nat.le_trans h.size hk.size, h.pB, ⟨kv, dv, xs, hk.get h1 (by simp), owns_kept h2 hk (by simp), h3, owns_kept h4 hk (by simp)⟩, ?_, h.apart⟩
  intro d hd
  obtain ⟨e1, e2⟩ := h.all d hd
  exact ⟨e1.kept hk (OtherTag.nil _) (by simp) (by simp) (by simp), e2⟩

/-- a change at one disk -/
theorem WI.disk {B p j : Nat} {w w' : World} {ds : List Dk} (h : WI B w p ds j) (i : Nat) (d d' : Dk) (hi : ds[i]? = some d) (hk : Kept [d.q, d.a, d.g] w w') (hd' : DI w' d') (eq : d'.q = d.q) (ea : d'.a = d.a) (eg : d'.g = d.g) : WI B w' p (ds.set i d') j ∧ Below B w w' := by
  obtain ⟨kv, dv, xs, h1, h2, h3, h4⟩ := h.ex
  have hil : i < ds.length := (List.getElem?_eq_some_iff.1 hi).1
  have hmem : d ∈ ds := List.mem_of_getElem? hi
  obtain ⟨di, bq, ba, bg⟩ := h.all d hmem
  obtain ⟨rq, ra, rg⟩ := di.rows
  have hrp : ∃ cs fr, w.heap[p]? = some (.cells cs 32 fr) := ⟨_, _, h1⟩
  have hS : ∀ x ∈ [d.q, d.a, d.g], B ≤ x := by intro x hx; simp at hx; omega
  have hot : OtherTag w [d.q, d.a, d.g] := by
    obtain ⟨_, _, rq⟩ := rq; obtain ⟨_, _, ra⟩ := ra; obtain ⟨_, _, rg⟩ := rg
    exact OtherTag.cons rq (by decide) (OtherTag.cons ra (by decide) (OtherTag.cons rg (by decide) (OtherTag.nil _)))
  have hp' : ptrs (ds.set i d') = ptrs ds := by
    apply List.ext_getElem?
    intro m
    simp only [ptrs, List.getElem?_map]
    by_cases hm : i = m
    · subst hm
      rw [List.getElem?_set_self hil, hi]
      simp [eq]
    · rw [List.getElem?_set_ne hm]
  refine ⟨⟨h.glob.kept hk (fun hx => by have := hS 0 hx; have := h.pos; omega), h.pos, Nat.le_trans h.size hk.size, h.pB, ⟨kv, dv, xs, hk.get h1 ?_, owns_kept h2 hk ?_, h3, ?_⟩, ?_, ?_⟩, hk.belowB h.size hS⟩
  · simp; exact ⟨ne_row hrp rq (by decide), ne_row hrp ra (by decide), ne_row hrp rg (by decide)⟩
  · intro b hb; have := owns_row h2 hb; simp; exact ⟨ne_row this rq (by decide), ne_row this ra (by decide), ne_row this rg (by decide)⟩
  · rw [hp', List.length_set]
    refine owns_kept h4 hk ?_
    intro b hb; have := owns_row h4 hb; simp; exact ⟨ne_row this rq (by decide), ne_row this ra (by decide), ne_row this rg (by decide)⟩
  · intro e he
    rw [List.mem_iff_getElem?] at he
    obtain ⟨m, hm⟩ := he
    by_cases hne : i = m
    · subst hne
      rw [List.getElem?_set_self hil] at hm
      cases hm
      exact ⟨hd', by omega, by omega, by omega⟩
    · rw [List.getElem?_set_ne hne] at hm
      obtain ⟨ei, be⟩ := h.all e (List.mem_of_getElem? hm)
      have hml : m < ds.length := (List.getElem?_eq_some_iff.1 hm).1
      have hap : Apart d e ∨ Apart e d := by
        have hpw := List.pairwise_iff_getElem.1 h.apart
        have e1 : ds[i] = d := by have := (List.getElem?_eq_some_iff.1 hi).2; exact this
        have e2 : ds[m] = e := by have := (List.getElem?_eq_some_iff.1 hm).2; exact this
        rcases Nat.lt_or_gt_of_ne hne with hlt | hlt
        · left; have := hpw i m hil hml hlt; rwa [e1, e2] at this
        · right; have := hpw m i hml hil hlt; rwa [e1, e2] at this
      have hap' : e.q ≠ d.q ∧ e.a ≠ d.a ∧ e.g ≠ d.g := by
        rcases hap with ⟨x, y, z⟩ | ⟨x, y, z⟩
        · exact ⟨x.symm, y.symm, z.symm⟩
        · exact ⟨x, y, z⟩
      obtain ⟨sq, sa, sg⟩ := ei.rows
      refine ⟨ei.kept hk hot ?_ ?_ ?_, be⟩
      · simp; exact ⟨hap'.1, ne_row sq ra (by decide), ne_row sq rg (by decide)⟩
      · simp; exact ⟨ne_row sa rq (by decide), hap'.2.1, ne_row sa rg (by decide)⟩
      · simp; exact ⟨ne_row sg rq (by decide), ne_row sg ra (by decide), hap'.2.2⟩
  · rw [List.pairwise_iff_getElem]
    have hpw := List.pairwise_iff_getElem.1 h.apart
    have e1 : ds[i] = d := by have := (List.getElem?_eq_some_iff.1 hi).2; exact this
    intro x y hx hy hxy
    rw [List.length_set] at hx hy
    have := hpw x y hx hy hxy
    rw [List.getElem_set, List.getElem_set]
    split <;> split
    · omega
    · subst_vars; exact ⟨by rw [eq]; exact this.1, by rw [ea]; exact this.2.1, by rw [eg]; exact this.2.2⟩
    · subst_vars; exact ⟨by rw [eq]; exact this.1, by rw [ea]; exact this.2.1, by rw [eg]; exact this.2.2⟩
    · exact this

/-- a new keep list -/
theorem WI.keep {B p j j' : Nat} {w w' : World} {ds : List Dk} {kv dv kv' : Value} {xs xs' : List Value} (h : WI B w p ds j) (hw : WC w p kv dv) (hd : w.ownsRow B 34 1 dv ds.length (ptrs ds)) (ho : w.ownsRow B 3 1 kv j xs)
    (hk : Kept (p :: kv.ownBlock.toList) w w') (hw' : WC w' p kv' dv) (ho' : w'.ownsRow B 3 1 kv' j' xs') (h1 : ∀ v ∈ xs', v.oneCell' = true) : WI B w' p ds j' ∧ Below B w w' := by
  have hrp : ∃ cs fr, w.heap[p]? = some (.cells cs 32 fr) := ⟨_, _, hw⟩
  have hrk : ∀ x ∈ kv.ownBlock.toList, ∃ cs fr, w.heap[x]? = some (.cells cs 3 fr) := by
    intro x hx; simp at hx; exact owns_row ho hx
  have hS : ∀ x ∈ p :: kv.ownBlock.toList, B ≤ x := by
    intro x hx
    rcases List.mem_cons.1 hx with rfl | hx
    · exact h.pB
    · simp at hx; exact (ho.lt x hx).1
  have hne : ∀ {t : TypeId} {b : Nat}, (∃ cs fr, w.heap[b]? = some (.cells cs t fr)) → t ≠ 32 → t ≠ 3 → b ∉ p :: kv.ownBlock.toList := by
    intro t b hb t1 t2 hx
    rcases List.mem_cons.1 hx with rfl | hx
    · exact ne_row hb hrp t1 rfl
    · exact ne_row hb (hrk b hx) t2 rfl
  have hot : OtherTag w (p :: kv.ownBlock.toList) := by
    intro x hx _
    rcases List.mem_cons.1 hx with rfl | hx
    · exact ⟨_, _, _, hw, by decide⟩
    · obtain ⟨cs, fr, hh⟩ := hrk x hx; exact ⟨cs, _, fr, hh, by decide⟩
  refine ⟨⟨h.glob.kept hk (fun hx => by have := hS 0 hx; have := h.pos; omega), h.pos, Nat.le_trans h.size hk.size, h.pB, ⟨kv', dv, xs', hw', ho', h1, owns_kept hd hk (fun b hb => hne (owns_row hd hb) (by decide) (by decide))⟩, ?_, h.apart⟩, hk.belowB h.size hS⟩
  intro d hd
  obtain ⟨e1, e2⟩ := h.all d hd
  obtain ⟨sq, sa, sg⟩ := e1.rows
  exact ⟨e1.kept hk hot (hne sq (by decide) (by decide)) (hne sa (by decide) (by decide)) (hne sg (by decide) (by decide)), e2⟩

/-- one disk more -/
theorem WI.more {B p j : Nat} {w w' : World} {ds : List Dk} {kv dv dv' : Value} {xs : List Value} (h : WI B w p ds j) (hw : WC w p kv dv) (hd : w.ownsRow B 34 1 dv ds.length (ptrs ds)) (ho : w.ownsRow B 3 1 kv j xs) (h1 : ∀ v ∈ xs, v.oneCell' = true)
    (hk : Kept (p :: dv.ownBlock.toList) w w') (hw' : WC w' p kv dv') (d : Dk) (hd' : w'.ownsRow B 34 1 dv' (ds.length + 1) (ptrs (ds ++ [d]))) (hdi : DI w d) (bq : B ≤ d.q) (ba : B ≤ d.a) (bg : B ≤ d.g) (hap : ∀ e ∈ ds, Apart e d) : WI B w' p (ds ++ [d]) j ∧ Below B w w' := by
  have hrp : ∃ cs fr, w.heap[p]? = some (.cells cs 32 fr) := ⟨_, _, hw⟩
  have hrk : ∀ x ∈ dv.ownBlock.toList, ∃ cs fr, w.heap[x]? = some (.cells cs 34 fr) := by
    intro x hx; simp at hx; exact owns_row hd hx
  have hS : ∀ x ∈ p :: dv.ownBlock.toList, B ≤ x := by
    intro x hx
    rcases List.mem_cons.1 hx with rfl | hx
    · exact h.pB
    · simp at hx; exact (hd.lt x hx).1
  have hne : ∀ {t : TypeId} {b : Nat}, (∃ cs fr, w.heap[b]? = some (.cells cs t fr)) → t ≠ 32 → t ≠ 34 → b ∉ p :: dv.ownBlock.toList := by
    intro t b hb t1 t2 hx
    rcases List.mem_cons.1 hx with rfl | hx
    · exact ne_row hb hrp t1 rfl
    · exact ne_row hb (hrk b hx) t2 rfl
  have hot : OtherTag w (p :: dv.ownBlock.toList) := by
    intro x hx _
    rcases List.mem_cons.1 hx with rfl | hx
    · exact ⟨_, _, _, hw, by decide⟩
    · obtain ⟨cs, fr, hh⟩ := hrk x hx; exact ⟨cs, _, fr, hh, by decide⟩
  refine ⟨⟨h.glob.kept hk (fun hx => by have := hS 0 hx; have := h.pos; omega), h.pos, Nat.le_trans h.size hk.size, h.pB, ⟨kv, dv', xs, hw', owns_kept ho hk (fun b hb => hne (owns_row ho hb) (by decide) (by decide)), h1, by simpa using hd'⟩, ?_, ?_⟩, hk.belowB h.size hS⟩
  · intro e he
    rcases List.mem_append.1 he with he | he
    · obtain ⟨e1, e2⟩ := h.all e he
      obtain ⟨sq, sa, sg⟩ := e1.rows
      exact ⟨e1.kept hk hot (hne sq (by decide) (by decide)) (hne sa (by decide) (by decide)) (hne sg (by decide) (by decide)), e2⟩
    · simp at he; subst he
      obtain ⟨sq, sa, sg⟩ := hdi.rows
      exact ⟨hdi.kept hk hot (hne sq (by decide) (by decide)) (hne sa (by decide) (by decide)) (hne sg (by decide) (by decide)), bq, ba, bg⟩
  · rw [List.pairwise_append]
    exact ⟨h.apart, by simp, fun e he d' hd' => by simp at hd'; subst hd'; exact hap e he⟩

end Go.Proofs.YtnofaofjgjgkgaaGreatDoor
