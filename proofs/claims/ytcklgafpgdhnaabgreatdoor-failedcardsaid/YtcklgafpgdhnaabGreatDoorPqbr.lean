import Derived.Test.YtcklgafpgdhnaabGreatDoorPqbq
set_option maxRecDepth 100000
set_option maxHeartbeats 4000000
open Go.Proofs.Tryz
namespace Go.Proofs.YtcklgafpgdhnaabGreatDoor
open Go.RowKit Go.Shelf
attribute [local go_sem] Oper.semAt_some
structure ScV (w : World) (mo : Int) (vO : Value) (A : World) : Prop where
 mb : A.heap[w.heap.size]? = some (.cells #[.int .i64 mo] 3 (0, 0))
 ro : A.heap[w.heap.size + 1]? = some (.cells #[.slice none 0 0] 25 (0, 0))
 re : A.heap[w.heap.size + 1 + 1]? = some (.cells #[.nilIface] 35 (0, 0))
 ov : A.heap[w.heap.size + 1 + 1 + 1]? = some (.cells #[vO] 25 (0, 0))
 bl : Below w.heap.size w A
theorem ScV.gr {w : World} {mo : Int} {vO : Value} {A A' : World} {B : Nat} (h : ScV w mo vO A) (hB : w.heap.size <= B) (g : Gr B A A') : ScV w mo vO A' :=
 ⟨g.row _ _ _ _ h.mb, g.row _ _ _ _ h.ro, g.row _ _ _ _ h.re, g.row _ _ _ _ h.ov, h.bl.trans ⟨g.os, g.tape, g.output, by have := h.bl.size; have := g.size; omega, fun k hk => g.low k (Nat.lt_of_lt_of_le hk h.bl.size) (by omega)⟩⟩
theorem ScV.new (w : World) (mo : Int) : ScV w mo (.slice none 0 0) ((((w.alloc (.cells #[.int .i64 mo] 3)).alloc (.cells #[.slice none 0 0] 25)).alloc (.cells #[.nilIface] 35)).alloc (.cells #[.slice none 0 0] 25)) := by
 have z0 := heap_alloc_new w (.cells #[.int .i64 mo] 3)
 have z1 := heap_alloc_new (w.alloc (.cells #[.int .i64 mo] 3)) (.cells #[.slice none 0 0] 25)
 have z2 := heap_alloc_new ((w.alloc (.cells #[.int .i64 mo] 3)).alloc (.cells #[.slice none 0 0] 25)) (.cells #[.nilIface] 35)
 have z3 := heap_alloc_new (((w.alloc (.cells #[.int .i64 mo] 3)).alloc (.cells #[.slice none 0 0] 25)).alloc (.cells #[.nilIface] 35)) (.cells #[.slice none 0 0] 25)
 simp only [World.size_alloc] at z1 z2 z3
 have ka := fun (W : World) (o : Obj) => (y5.refl [] W).alloc o
 exact ⟨(ka _ _).get ((ka _ _).get ((ka _ _).get z0 (by simp)) (by simp)) (by simp), (ka _ _).get ((ka _ _).get z1 (by simp)) (by simp), (ka _ _).get z2 (by simp), z3, (((((y5.refl [] w).alloc _).alloc _).alloc _).alloc _).below⟩
theorem Qbp {w w' : World} {B base e size n : Nat} {v : Value} {xs : List Value} (h : w.ownsRow base e size v n xs) (g : Gr B w w') : w'.ownsRow base e size v n xs :=
 ⟨h.1, h.2.imp id fun ⟨g', cap, cur, h1, h2, h3, h4⟩ => ⟨g', cap, cur, h1, h2, g.row _ _ _ _ h3, h4⟩⟩
theorem jn {w : World} {base e size n : Nat} {v : Value} {xs : List Value} (h : w.ownsRow base e size v n xs) : ∃ p c, v = .slice p n c := by
 obtain ⟨_, ⟨rfl, rfl⟩ | ⟨g, cap, cur, rfl, _⟩⟩ := h
 ·exact ⟨_, _, rfl⟩
 ·exact ⟨_, _, rfl⟩
def ScnI (w : World) (MO : Int) (pre : List Pr) (A : World) : Prop := ∃ vO, ScV w MO vO A /\ A.ownsRow w.heap.size 52 2 vO pre.length (jU pre) /\ (pre.length : Int) <= MO
def ScnX (w : World) (MO : Int) (c : Code) (xs : List Pr) (A : World) : Prop := ∃ zs y vO, xs = zs ++ [y] /\ c = .exit 0 /\ ScV w MO vO A /\ A.ownsRow w.heap.size 52 2 vO zs.length (jU zs) /\ (zs.length : Int) = MO
theorem Qbq : (prog.info? 52).map (fun i => (i.zero, i.size, i.bytes)) = some (some (.agg #[.string ⟨#[]⟩, .string ⟨#[]⟩]), 2, 32) := by kernel_rfl
theorem Qbr (w : World) (p : Pr) : (Instr.buildSlice 25 1 #[(0, .agg #[.string p.1, .string p.2])]).run prog w = .ok (.slice (some ⟨w.heap.size, 0, none⟩) 1 1) (w.alloc (.cells #[.string p.1, .string p.2] 52)) := by
 obtain ⟨ie, hie, hz1, hz2, hz3⟩ := info_parts Qbq
 exact ZL w 25 52 _ ie _ underlying25 hie hz1 hz2 (by simp) (by simp)
theorem Qbs (base : Nat) (A : World) (vO : Value) (zs : List Pr) (own : A.ownsRow base 52 2 vO zs.length (jU zs)) (hb : base <= A.heap.size) (hl : zs.length <= 100000) (p : Pr) :
  ∃ g cap A2, (∀ ty, (Builtin.append_ #[25, 25] ty #[vO, .slice (some ⟨A.heap.size, 0, none⟩) 1 1]).run prog (A.alloc (.cells #[.string p.1, .string p.2] 52)) = .ok (.slice (some ⟨g, 0, none⟩) (zs ++ [p]).length cap) A2) /\ A2.ownsRow base 52 2 (.slice (some ⟨g, 0, none⟩) (zs ++ [p]).length cap) (zs ++ [p]).length (jU (zs ++ [p])) /\ y5 vO.ownBlock.toList A A2 := by
 obtain ⟨ie, hie, hz1, hz2, hz3⟩ := info_parts Qbq
 have k1 := (y5.refl [] A).alloc (.cells #[.string p.1, .string p.2] 52)
 have hn := heap_alloc_new A (.cells #[.string p.1, .string p.2] 52)
 have own1 := yQ own k1 (by simp)
 obtain ⟨v', A2, hr, ho, hgr, -⟩ := run_append_own (P := prog) (A.alloc (.cells #[.string p.1, .string p.2] 52)) base 25 0 52 ie _ 2 32 underlying25 hie hz1 hz2 hz3 rfl (by decide) vO zs.length (jU zs) own1 ⟨A.heap.size, 0, none⟩ 1 1 [.string p.1, .string p.2] rfl (by
  intro j u hj
  rw [add_lit, cell_of_row _ _ _ _ _ _ hn]
  rcases j with _ | _ | j
  ·simpa using hj
  ·simpa using hj
  ·simp at hj) (by intro u hu; simp at hu; rcases hu with rfl | rfl <;> rfl) (by unfold maxLen; omega) (by omega) (by have := k1.size; omega)
 have e1 : jU zs ++ [.string p.1, .string p.2] = jU (zs ++ [p]) := Q2j zs p
 have e2 : zs.length + 1 = (zs ++ [p]).length := by simp
 rw [e1, e2] at ho
 have e3 : (zs ++ [p]).length = zs.length + 1 := by simp
 obtain ⟨g, cap, ev⟩ := ownsRow_succ (k := zs.length) (by rw [<- e3]; exact ho)
 rw [<- e3] at ev
 subst ev
 exact ⟨g, cap, A2, fun ty => hr, ho, (k1.mono (by simp)).trans (qL hgr _ (by intro x hx; rw [hx]; simp))⟩
theorem own0 {w : World} {base e size n : Nat} {v : Value} {xs : List Value} (h : w.ownsRow base e size v n xs) : w.ownsRow 0 e size v n xs :=
 ⟨h.1, h.2.imp id fun ⟨g', cap, cur, h1, _h2, h3, h4⟩ => ⟨g', cap, cur, h1, Nat.zero_le _, h3, h4⟩⟩
theorem Qbt (w A : World) (MO : Int) (v : Value) (zs : List Pr) (D : Nat) (hV : ScV w MO v A) (own : A.ownsRow w.heap.size 52 2 v zs.length (jU zs)) (hD : w.heap.size <= D) (hdf : A.heap[D]? = some (.deferred (some []))) :
  A.cell? ⟨w.heap.size + 1 + 1 + 1, 0, none⟩ = some v /\ A.cell? ⟨w.heap.size + 1, 0, none⟩ = some (.slice none 0 0) /\ A.frozen? ⟨w.heap.size + 1, 0, none⟩ = false /\
  ∃ A1, A1 = A.setCell ⟨w.heap.size + 1, 0, none⟩ v /\ A1.cell? ⟨w.heap.size + 1 + 1, 0, none⟩ = some .nilIface /\ A1.frozen? ⟨w.heap.size + 1 + 1, 0, none⟩ = false /\
  ∃ A2, A2 = A1.setCell ⟨w.heap.size + 1 + 1, 0, none⟩ .nilIface /\ A2.heap[D]? = some (.deferred (some [])) /\
  ∃ A3, A3 = A2.putObj D (.deferred none) /\ A3.cell? ⟨w.heap.size + 1, 0, none⟩ = some v /\ A3.cell? ⟨w.heap.size + 1 + 1, 0, none⟩ = some .nilIface /\ PL A3 52 v zs /\ y5 [] w A3 := by
 obtain ⟨v0, v1, v2, v3, hB⟩ := hV
 refine ⟨y6 v3 rfl, y6 v1 rfl, frozen_of_row _ _ _ _ _ v1, _, rfl, ?_⟩
 have k1 : y5 [w.heap.size + 1] A (A.setCell ⟨w.heap.size + 1, 0, none⟩ v) := (y5.refl _ _).setCell (Or.inl (by simp)) _
 have u1 := yg (i := 0) v v1
 have u2 := k1.get v2 (by simp)
 refine ⟨y6 u2 rfl, frozen_of_row _ _ _ _ _ u2, _, rfl, ?_⟩
 have k2 : y5 [w.heap.size + 1 + 1] (A.setCell ⟨w.heap.size + 1, 0, none⟩ v) ((A.setCell ⟨w.heap.size + 1, 0, none⟩ v).setCell ⟨w.heap.size + 1 + 1, 0, none⟩ .nilIface) := (y5.refl _ _).setCell (Or.inl (by simp)) _
 have t1 := k2.get u1 (by simp)
 have t2 := yg (i := 0) .nilIface u2
 have hB2 := (hB.setCell (p := ⟨w.heap.size + 1, 0, none⟩) (by simp) v).setCell (p := ⟨w.heap.size + 1 + 1, 0, none⟩) (by simp; omega) .nilIface
 have hK2 := ((KeepsOthers.setCell A ⟨w.heap.size + 1, 0, none⟩ v).trans (KeepsOthers.setCell _ ⟨w.heap.size + 1 + 1, 0, none⟩ .nilIface)).same D _ hdf rfl
 have c1 := cell_kept (y6 (j := 0) t1 rfl) (grownBy_putObj' _ D (.deferred none)) (fun r e => by cases e; exact ⟨_, hK2, rfl⟩)
 have c2 := cell_kept (y6 (j := 0) t2 rfl) (grownBy_putObj' _ D (.deferred none)) (fun r e => by cases e; exact ⟨_, hK2, rfl⟩)
 have o1 := yQ own k1 (fun b hb hm => by
  obtain ⟨cs, fr, hc⟩ := qy own hb
  simp at hm
  rw [hm, v1] at hc
  cases hc)
 have o2 := yQ o1 k2 (fun b hb hm => by
  obtain ⟨cs, fr, hc⟩ := qy o1 hb
  simp at hm
  rw [hm, u2] at hc
  cases hc)
 exact ⟨hK2, _, rfl, c1, c2, own0 (Qbp o2 (Gr.put (B := 0) _ (Nat.zero_le _) hK2 rfl)), y5.of_below (hB2.trans (belowK_b (w := w) (Nat.le_refl _) _ D _ _ hD hK2 rfl rfl))⟩
end Go.Proofs.YtcklgafpgdhnaabGreatDoor
