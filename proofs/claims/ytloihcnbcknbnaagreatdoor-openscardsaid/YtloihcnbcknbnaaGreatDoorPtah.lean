import Derived.Test.YtloihcnbcknbnaaGreatDoorPtag
namespace Go.Proofs.YtloihcnbcknbnaaGreatDoor
open Go.RowKit

theorem wpList_store_seg {P : Program} {ops : Array Oper} {Q : Exit → Act → World → Prop} {rest : List Oper} {o : Oper} {a : Act} {w : World} (hgd : o.guard = none) (ty : TypeId) (x y : Operand) (ho : o.op = .store ty x y) (ad : Addr) (hx : a.eval x = .pointer (some ad)) (v : Value) (hy : a.eval y = v) (w' : World)
    (hrun : (storeVar ty ad v).run P w = .ok () w') (h : wpList P ops Q rest (a.put o.dst undef) w') : wpList P ops Q (o :: rest) a w :=
  wpList_skip hgd w' (exec_store ty x y ho ad hx v hy hrun) h

theorem take_splice {α : Type} (L cs : List α) (off n : Nat) (h : off + cs.length ≤ n) (h2 : n ≤ L.length) : (splice L off cs).take n = splice (L.take n) off cs := by
  have e1 : (L.take off).length = off := by rw [List.length_take]; omega
  simp only [splice]
  rw [List.take_append, List.take_append, List.take_take, e1, List.take_of_length_le (l := cs) (by omega), List.take_take, Nat.min_eq_right (by omega), Nat.min_eq_left (by omega), List.drop_take]
  rw [show n - off - cs.length = n - (off + cs.length) by omega]

theorem flat2_set (l : List Pr) (i : Nat) (p : Pr) (h : i < l.length) : splice (flat2 l) (i * 2) (pcells p) = flat2 (l.set i p) := by
  induction l generalizing i with
  | nil => simp at h
  | cons x r ih =>
    cases i with
    | zero => simp [splice, flat2, pcells]
    | succ i =>
      have hi : i < r.length := by simpa using h
      have := ih i hi
      have e1 : flat2 (x :: r) = pcells x ++ flat2 r := rfl
      have e2 : flat2 ((x :: r).set (i + 1) p) = pcells x ++ flat2 (r.set i p) := rfl
      rw [e1, e2, ← this]
      simp only [splice, length_pcells]
      rw [show (i + 1) * 2 = 2 + i * 2 by omega, show (2 + i * 2 + 2) = 2 + (i * 2 + 2) by omega]
      simp [pcells, List.take_succ_cons, show 2 + i * 2 = i * 2 + 1 + 1 by omega, show 2 + (i * 2 + 2) = (i * 2 + 2) + 1 + 1 by omega]

/-- a cell of a list is given another pair -/
theorem PL.set {w : World} {t ty : TypeId} {g cap i : Nat} {l : List Pr} {P : Program} (h : PL w t (.slice (some ⟨g, 0, none⟩) l.length cap) l) (hi : i < l.length) (hs : (P.info? ty).map (·.size) = some 2) (p : Pr) :
    ∃ W, (storeVar ty ⟨g, i * 2, none⟩ (.agg #[.string p.1, .string p.2])).run P w = .ok () W ∧ PL W t (.slice (some ⟨g, 0, none⟩) l.length cap) (l.set i p) ∧ Kept [g] w W := by
  obtain ⟨hlen, ⟨e, _⟩ | ⟨g', cap', cur, e, hb, hh, hc, hm, hsz, htk⟩⟩ := h
  · cases e
  cases e
  have hr := run_storeVar_seg (P := P) w g (i * 2) t ty cur.toList (pcells p) (by simpa using hh) hs (by rw [length_pcells]; simp; omega) (one_pcells p)
  refine ⟨_, hr, ⟨by rw [length_flat2, List.length_set], Or.inr ⟨g, cap, _, by rw [List.length_set], hb, setRow_heap w g _ _ t _ hh, by simpa using hc, hm, ?_, ?_⟩⟩, (Kept.refl _ _).setRow (Or.inl (by simp)) _⟩
  · simp only [List.size_toArray]
    rw [length_splice _ _ _ (by rw [length_pcells]; simp; omega)]
    simpa using hsz
  · rw [← flat2_set l i p hi, ← htk, List.length_set]
    exact take_splice _ _ _ _ (by rw [length_pcells]; omega) (by simp; have := Nat.mul_le_mul_right 2 hc; omega)

end Go.Proofs.YtloihcnbcknbnaaGreatDoor

namespace Go.Proofs.YtloihcnbcknbnaaGreatDoor
open Go.RowKit

theorem flat2_append (a b : List Pr) : flat2 (a ++ b) = flat2 a ++ flat2 b := by simp [flat2]
theorem one_flat2 (l : List Pr) : ∀ u ∈ flat2 l, u.oneCell' = true := by
  intro u hu
  simp only [flat2, List.mem_flatMap] at hu
  obtain ⟨p, _, hp⟩ := hu
  exact one_pcells p u hp

/-- append to a list that is still read -/
theorem append_PL (ty : TypeId) (w : World) (v : Value) (l : List Pr) (hP : PL w 41 v l) (hl : l.length ≤ 50000) (nb : Nat) (ps : List Pr) (m c : Nat) (hm : ps.length = m) (hm5 : m ≤ 50000) (hnb : w.heap[nb]? = some (.cells (flat2 ps).toArray 41 (0, 0))) :
    ∃ v' w', (Builtin.append_ #[28, 28] ty #[v, .slice (some ⟨nb, 0, none⟩) m c]).run Tryz.prog w = .ok v' w' ∧ PL w' 41 v' (l ++ ps) ∧ PL w' 41 v l ∧ Kept v.ownBlock.toList w w' ∧ (v'.ownBlock = v.ownBlock ∨ v'.ownBlock = some w.heap.size) := by
  obtain ⟨ie, hie, hz1, hz2, hz3⟩ := info_parts iap
  have hnl : (flat2 ps).length = m * 2 := by rw [length_flat2, hm]
  obtain ⟨v', w', hr, ho, hg, _, hob⟩ := run_append_own_at (P := Tryz.prog) w 0 28 ty 41 ie _ 2 32 Tryz.underlying28 hie hz1 hz2 hz3 rfl (by decide) v l.length (flat2 l) hP ⟨nb, 0, none⟩ m c (flat2 ps) hnl (row_src hnb) (one_flat2 ps) (by unfold maxLen; omega) (by omega) (Nat.zero_le _)
  have kk := grown_kept hg v.ownBlock.toList (by intro y hy; rw [hy]; simp)
  refine ⟨v', w', hr, ?_, ?_, kk, hob⟩
  · show World.ownsRow _ _ _ _ _ _ _
    rw [flat2_append, List.length_append, hm]; exact ho
  · have hP' := hP
    obtain ⟨hlen, ⟨rfl, h0⟩ | ⟨g, cap, cur, rfl, hb, hh, hc, hmx, hsz, htk⟩⟩ := hP'
    · exact ⟨hlen, Or.inl ⟨rfl, h0⟩⟩
    · by_cases hroom : l.length + m ≤ cap
      · have hfit : l.length * ie.size + (flat2 ps).length ≤ cur.size := by rw [hz2, hnl, hsz]; omega
        have hr2 := run_append_room (P := Tryz.prog) w 28 ty 41 ie Tryz.underlying28 hie g l.length cap cur hh ⟨nb, 0, none⟩ m c (flat2 ps) (by rw [hz2]; exact hnl) (row_src hnb) (one_flat2 ps) hroom hfit
        rw [hr2] at hr
        cases hr
        refine ⟨hlen, Or.inr ⟨g, cap, _, rfl, hb, setRow_heap w g _ _ _ _ hh, hc, hmx, ?_, ?_⟩⟩
        · simp only [List.size_toArray, List.length_append, List.length_take, List.length_drop, Array.length_toList]
          omega
        · rw [hz2, List.append_assoc, List.take_append_of_le_length (by rw [List.length_take]; simp; omega), List.take_take, Nat.min_self]
          exact htk
      · have holds : ∀ j u, (flat2 l)[j]? = some u → w.cell? ((⟨g, 0, none⟩ : Addr).add j) = some u := World.ownsRow.cells hP (g := g) rfl
        have hr2 := run_append_grow (P := Tryz.prog) w 28 ty 41 ie _ Tryz.underlying28 hie hz1 ⟨g, 0, none⟩ l.length cap (flat2 l) (by rw [hz2]; exact hlen) holds ⟨nb, 0, none⟩ m c (flat2 ps) (by rw [hz2]; exact hnl) (row_src hnb) (by omega) (by omega) (growslice_fits (by omega) (by rw [hz3]; omega))
        rw [hr2] at hr
        cases hr
        exact ⟨hlen, Or.inr ⟨g, cap, cur, rfl, hb, ((Kept.refl [] w).drew.alloc _).get hh (by simp), hc, hmx, hsz, htk⟩⟩

theorem wpList_append_PL {w : World} {ops : Array Oper} {rest : List Oper} {o : Oper} {a : Act} {Q : Exit → Act → World → Prop} (hgd : o.guard = none) (s x : Operand) (ho : o.op = .call { callee := .builtin .append, args := #[s, x], argTypes := #[28, 28] })
    (v : Value) (l : List Pr) (hs : a.eval s = v) (hP : PL w 41 v l) (hl : l.length ≤ 50000) (nb : Nat) (ps : List Pr) (m c : Nat) (hx : a.eval x = .slice (some ⟨nb, 0, none⟩) m c) (hm : ps.length = m) (hm5 : m ≤ 50000) (hnb : w.heap[nb]? = some (.cells (flat2 ps).toArray 41 (0, 0)))
    (h : ∀ v' w', PL w' 41 v' (l ++ ps) → PL w' 41 v l → Kept v.ownBlock.toList w w' → (v'.ownBlock = v.ownBlock ∨ v'.ownBlock = some w.heap.size) → wpList Tryz.prog ops Q rest (a.put o.dst v') w') : wpList Tryz.prog ops Q (o :: rest) a w := by
  obtain ⟨v', w', hr, h1, h2, h3, h4⟩ := append_PL o.type w v l hP hl nb ps m c hm hm5 hnb
  exact wpList_val hgd v' w' (exec_append s x 28 ho v _ hs hx v' hr) (h v' w' h1 h2 h3 h4)

def KpI (v : Value) (n : Nat) (w : World) (i : Value) (wr : World) : Prop := ∃ (j : Nat) (l : List Pr), j ≤ n ∧ i = .int .i64 j ∧ l.length = n ∧ PL wr 41 v l ∧ Kept v.ownBlock.toList w wr

def KeepR (b : Nat) (px : Option Addr) (vl : Value) (f c : Bool) (mo ch : Int) (lv wv : Value) (xs : List HLd) (v : Value) (w : World) (e : Ending) (w' : World) : Prop :=
  e = .returned (.tuple #[]) ∧ ∃ lv' wv' xs', xs'.length = 2 ∧ OR w' b px vl f c mo ch lv' wv' ∧ HL w' lv' wv' (xs ++ xs') ∧ Kept (b :: (lv.ownBlock.toList ++ wv.ownBlock.toList ++ v.ownBlock.toList)) w w' ∧
    (∀ g, lv'.ownBlock = some g → lv.ownBlock = some g ∨ w.heap.size ≤ g) ∧ (∀ g, wv'.ownBlock = some g → wv.ownBlock = some g ∨ w.heap.size ≤ g) ∧
    (∀ x ∈ xs', (∀ g, x.v.ownBlock = some g → v.ownBlock = some g ∨ w.heap.size ≤ g) ∧ (∀ g, x.u.ownBlock = some g → w.heap.size ≤ g))

set_option maxRecDepth 100000 in
set_option maxHeartbeats 4000000 in
theorem keep_any (b : Nat) (px : Option Addr) (vl : Value) (f c : Bool) (mo ch : Int) (lv wv : Value) (xs : List HLd) (v : Value) (l : List Pr) (w : World) (hb : OR w b px vl f c mo ch lv wv) (h : HL w lv wv xs) (hn : xs.length ≤ 40000) (hv : PL w 41 v l) (hl : l.length ≤ 40000)
    (hap : ∀ x ∈ xs, (∀ g, x.v.ownBlock = some g → v.ownBlock ≠ some g) ∧ (∀ g, x.u.ownBlock = some g → v.ownBlock ≠ some g)) :
    Calls Tryz.prog 121 #[.pointer (some ⟨b, 0, none⟩), v] w (KeepR b px vl f c mo ch lv wv xs v w) := by
  obtain ⟨pl, cl, rfl⟩ := owns_len2 h.lists
  have c6 : w.cell? ⟨b, 6, none⟩ = some (.slice pl xs.length cl) := cellAt hb rfl
  obtain ⟨pv, cv, rfl⟩ := hv.shape
  have nbv : ∀ g, (Value.slice pv l.length cv).ownBlock = some g → g ≠ b := fun g hg => ne_rows (hv.tag hg) ⟨_, _, hb⟩ (by decide)
  go_enter Tryz.func121, Tryz.ntmps121
  go_wp2
  go_loopw [5] (fun i wr => KpI (.slice pv l.length cv) l.length w i wr) (fun i _ => l.length - (intOf i).toNat)
  case atStart => exact ⟨0, l, Nat.zero_le _, rfl, rfl, hv, Kept.refl _ _⟩
  case round =>
    obtain ⟨j, l', hj, rfl, hl', hP, hkr⟩ := hrel
    by_cases hlt : j < l.length
    · obtain ⟨g, cap, cur, e, hg, hcur⟩ := hP.at_ (by omega)
      rw [hl'] at e
      cases e
      rw [← hl'] at hP
      go_wp2_with (first
        | (go_at_call 141; refine (mark_any _ _).mono ?_; rintro e w2 ⟨⟨sx, rfl⟩, hk2⟩; obtain ⟨w3, hst, hP3, hk3⟩ := (hP.kept hk2 (by simp)).set (i := j) (by omega) sap (sx, ⟨#[]⟩))
        | (refine wpList_val rfl _ _ (exec_index 28 (.tmp 26) (.tmp 27) rfl g 0 l.length cv j 2 rfl rfl 41 Tryz.underlying28 sap hlt (j * 2) (by omega)) ?_)
        | (refine wpList_store_seg rfl 41 (.tmp 30) (.tmp 29) rfl ⟨g, j * 2, none⟩ rfl _ rfl _ hst ?_))
      go_roundw
      case rel => exact ⟨j + 1, l'.set j (sx, ⟨#[]⟩), by omega, by go_num, by simpa using hl', by rw [hl'] at hP3; exact hP3, (hkr.trans (hk2.mono (by simp))).trans (hk3.mono (by simp [Value.ownBlock]))⟩
      case measure => simp [intOf]; omega
    · have hge : ¬ (j : Int) < (l.length : Int) := by omega
      go_wp2_with (first
        | (go_at_call 141; refine (mark_any _ _).mono ?_; rintro e w2 ⟨⟨sx, rfl⟩, hk2⟩; have hP := hP.kept hk2 (by simp); have hkr := hkr.trans (hk2.mono (by simp)))
        | (at_builtin; (refine wpList_append_PL rfl (.tmp 37) (.tmp 42) rfl (.slice pv l.length cv) l' rfl (hP.kept ((Kept.refl [] _).alloc _) (by simp)) (by omega) w2.heap.size [(_, ⟨#[]⟩), (_, ⟨#[]⟩)] 2 2 rfl rfl (by omega) (heap_alloc_new _ _) ?_; intro gv w5 hG5 hP5 hk5 ho5; obtain ⟨pg, cg, rfl⟩ := hG5.shape; simp only [List.length_append, List.length_cons, List.length_nil, hl', Nat.zero_add, Nat.reduceAdd] at hG5 ho5)))
      have k05 : Kept (Value.slice pv l.length cv).ownBlock.toList w w5 := (hkr.trans (((Kept.refl [] _).alloc _).mono (by simp))).trans hk5
      have nbv' : b ∉ (Value.slice pv l.length cv).ownBlock.toList := fun hx => nbv b (by simpa using hx) rfl
      have hb5 : OR w5 b px vl f c mo ch (.slice pl xs.length cl) wv := k05.get hb nbv'
      have hH5 : HL w5 (.slice pl xs.length cl) wv xs := by
        refine h.kept k05 ?_ ?_ ?_
        · intro g hg hx; simp only [Option.mem_toList] at hx; exact ne_rows (owns_tag h.lists hg) (hv.tag hx) (by decide) rfl
        · intro g hg hx; simp only [Option.mem_toList] at hx; exact ne_rows (owns_tag h.want hg) (hv.tag hx) (by decide) rfl
        · intro x hx
          refine ⟨fun g hg hy => ?_, fun g hg hy => ?_⟩
          · simp only [Option.mem_toList] at hy; exact (hap x hx).1 g hg hy
          · simp only [Option.mem_toList] at hy; exact (hap x hx).2 g hg hy
      have z5 : w.heap.size ≤ w5.heap.size := k05.size
      have z2 : w.heap.size ≤ w2.heap.size := hkr.size
      have tagP : ∀ {v : Value} {l : List Pr} {lw ww : Value} {xs : List HLd} {W : World}, PL W 41 v l → OR W b px vl f c mo ch lw ww → HL W lw ww xs → ∀ g, v.ownBlock = some g → g ∉ b :: (lw.ownBlock.toList ++ ww.ownBlock.toList) := by
        intro v l lw ww xs W hp ho hh g hg hx
        rcases List.mem_cons.1 hx with rfl | hx
        · exact ne_rows (hp.tag hg) ⟨_, _, ho⟩ (by decide) rfl
        · rcases List.mem_append.1 hx with hx | hx
          · simp only [Option.mem_toList] at hx; exact ne_rows (hp.tag hg) (owns_tag hh.lists hx) (by decide) rfl
          · simp only [Option.mem_toList] at hx; exact ne_rows (hp.tag hg) (owns_tag hh.want hx) (by decide) rfl
      refine (hold_any b px vl f c mo ch (.slice pl xs.length cl) wv xs _ l' w5 hb5 hH5 (by omega) hP5 (by omega)).mono ?_
      rintro e w6 ⟨rfl, lv6, wv6, u6', hb6, hH6, hk6, fl6, fw6, fu6⟩
      have hG6 := hG5.kept hk6 (tagP hG5 hb5 hH5)
      go_wp2_with fail
      have HH := hold_any b px vl f c mo ch lv6 wv6 _ _ _ w6 hb6 hH6 (by simp; omega) hG6 (by simp; omega)
      refine HH.mono ?_
      rintro e w7 ⟨rfl, lv7, wv7, u7', hb7, hH7, hk7, fl7, fw7, fu7⟩
      go_wp2
      go_end0
      have z6 : w5.heap.size ≤ w6.heap.size := hk6.size
      refine ⟨rfl, lv7, wv7, _, rfl, hb7, by simpa using hH7, ?_, ?_, ?_, ?_⟩
      · have mv : ∀ x ∈ (Value.slice pv l.length cv).ownBlock.toList, x ∈ b :: ((Value.slice pl xs.length cl).ownBlock.toList ++ wv.ownBlock.toList ++ (Value.slice pv l.length cv).ownBlock.toList) := fun x hx => List.mem_cons_of_mem _ (List.mem_append_right _ hx)
        have ml : ∀ x ∈ b :: ((Value.slice pl xs.length cl).ownBlock.toList ++ wv.ownBlock.toList), x ∈ b :: ((Value.slice pl xs.length cl).ownBlock.toList ++ wv.ownBlock.toList ++ (Value.slice pv l.length cv).ownBlock.toList) := by
          intro x hx
          rcases List.mem_cons.1 hx with rfl | hx
          · exact List.mem_cons_self
          · exact List.mem_cons_of_mem _ (List.mem_append_left _ hx)
        refine ((k05.mono mv).trans (hk6.mono ml)).trans2 hk7 ?_
        intro x hx
        rcases List.mem_cons.1 hx with rfl | hx
        · exact Or.inl List.mem_cons_self
        rcases List.mem_append.1 hx with hx | hx
        · rcases fl6 x (by simpa using hx) with e | e
          · exact Or.inl (ml x (List.mem_cons_of_mem _ (List.mem_append_left _ (by simpa using e))))
          · right; omega
        · rcases fw6 x (by simpa using hx) with e | e
          · exact Or.inl (ml x (List.mem_cons_of_mem _ (List.mem_append_right _ (by simpa using e))))
          · right; omega
      · intro g hg
        rcases fl7 g hg with e | e
        · rcases fl6 g e with e | e
          · exact Or.inl e
          · right; omega
        · right; omega
      · intro g hg
        rcases fw7 g hg with e | e
        · rcases fw6 g e with e | e
          · exact Or.inl e
          · right; omega
        · right; omega
      · intro x hx
        simp only [List.mem_cons, List.not_mem_nil, or_false] at hx
        rcases hx with rfl | rfl
        · exact ⟨fun g hg => Or.inl hg, fun g hg => by have := fu6 g hg; omega⟩
        · refine ⟨fun g hg => ?_, fun g hg => by have := fu7 g hg; omega⟩
          rcases ho5 with e | e
          · left; rw [← e]; exact hg
          · right
            have hg' : (some _ : Option Nat) = some g := e.symm.trans hg
            cases hg'
            simp; omega

end Go.Proofs.YtloihcnbcknbnaaGreatDoor
