import Derived.Test.YtnofaofjgjgkgaaGreatDoorLawD
namespace Go.Proofs.YtnofaofjgjgkgaaGreatDoor
open Go.RowKit

/-- a call at one disk: true, and the disk is a disk still -/
def DR (d : Dk) (w : World) (e : Ending) (w' : World) : Prop := e = .returned (.bool true) ∧ ∃ d' : Dk, d'.q = d.q ∧ d'.a = d.a ∧ d'.g = d.g ∧ d'.k ≤ d.k + 1 ∧ DI w' d' ∧ Kept [d.q, d.a, d.g] w w'

theorem other_qa {w : World} {d : Dk} (h : DI w d) : OtherTag w [d.q, d.a] := by
  obtain ⟨⟨_, _, rq⟩, ⟨_, _, ra⟩, _⟩ := h.rows
  exact OtherTag.cons rq (by decide) (OtherTag.cons ra (by decide) (OtherTag.nil _))

theorem opened_DI (d : Dk) (w : World) (hG : Glob w) (h : DI w d) (hk : d.k ≤ 20000) : Calls Tryz.prog 15 #[.pointer (some ⟨d.q, 0, none⟩)] w (DR d w) := by
  obtain ⟨may, were, s, m, L, c, wr, t, h1, h2, h3, h4, h5, h6, h7, h8⟩ := h.ex
  have fin : ∀ e w', OpenedR d.q d.a d.n may were (DevC d.a d.g d.n L wr t) w e w' → DR d w e w' := by
    rintro e w' ⟨rfl, ⟨s', hq⟩, ⟨c', hd⟩, hK⟩
    exact ⟨rfl, d, rfl, rfl, rfl, by omega, ⟨h.lt, h.no, may, were, s', m, L, c', wr, t, hq, h2.kept hK (other_qa h), h3, h4, h5, Maps.kept h6 hK (other_qa h), hd, h8⟩, hK.mono (by intro x hx; simp at hx ⊢; rcases hx with rfl | rfl <;> simp)⟩
  by_cases hf : 8 ≤ d.n ∧ d.n ≤ 400
  · by_cases hk0 : 0 < d.k
    · have := h5 hk0; subst this
      exact (opened_fits d.q d.a d.g d.n d.k may were _ ⟨_, rfl⟩ L c wr t w hG h1 h7 hf.1 hf.2 hk0 (by omega) (h8 hf) h2).mono fin
    · have e0 : d.k = 0 := by omega
      have hm := h4 e0
      subst hm
      have hS := h8 hf
      rw [e0] at hS
      exact (opened_none d.q d.a d.g d.n were _ ⟨_, rfl⟩ L c wr t w hG h1 h7 hf.1 hf.2 hS).mono fin
  · exact (opened_no d.q d.a d.g d.n may were _ ⟨_, rfl⟩ L c wr t w hG h1 h7 (by omega)).mono fin

theorem formatted_DI (d : Dk) (w : World) (hG : Glob w) (h : DI w d) (hk : d.k ≤ 20000) : Calls Tryz.prog 14 #[.pointer (some ⟨d.q, 0, none⟩)] w (DR d w) := by
  obtain ⟨may, were, s, m, L, c, wr, t, h1, h2, h3, h4, h5, h6, h7, h8⟩ := h.ex
  by_cases hf : 8 ≤ d.n ∧ d.n ≤ 400
  · refine (formatted_fits d.q d.a d.g d.n d.k m may were _ ⟨_, rfl⟩ L c wr t w hG h1 h7 hf.1 hf.2 hk (h8 hf) h2 h3 h6).mono ?_
    rintro e w' ⟨rfl, ⟨may', were', hq, hm, hu⟩, ⟨t', L', c', wr', hd, hS⟩, hK⟩
    exact ⟨rfl, { d with k := d.k + 1 }, rfl, rfl, rfl, Nat.le_refl _, ⟨h.lt, fun hn => absurd hf hn, may', were', none, 1, L', c', wr', t', hq, hm, Nat.le_refl _, by simp, by simp, hu, hd, fun _ => hS⟩, hK⟩
  · refine (formatted_no d.q d.a d.g d.n may were _ ⟨_, rfl⟩ L c wr t w hG h1 h7 (by omega)).mono ?_
    rintro e w' ⟨rfl, ⟨s', hq⟩, ⟨c', hd⟩, hK⟩
    exact ⟨rfl, d, rfl, rfl, rfl, by omega, ⟨h.lt, h.no, may, were, s', m, L, c', wr, t, hq, h2.kept hK (other_qa h), h3, h4, h5, Maps.kept h6 hK (other_qa h), hd, h8⟩, hK.mono (by intro x hx; simp at hx ⊢; rcases hx with rfl | rfl <;> simp)⟩

end Go.Proofs.YtnofaofjgjgkgaaGreatDoor
