import Derived.Test.YtcklgafpgdhnaaaGreatDoorPtbs
import Derived.Test.YtcklgafpgdhnaaaGreatDoorPtbt
import Derived.Test.YtcklgafpgdhnaaaGreatDoorPtbu
import Derived.Test.YtcklgafpgdhnaaaGreatDoorPtai
set_option maxRecDepth 100000
set_option maxHeartbeats 4000000
open List renaming getElem_toArray → zA, getElem_cons_succ → zB, getElem_cons_zero → zC, setIfInBounds_toArray → zD, set_cons_succ → zE, set_cons_zero → zF
namespace Go.Proofs.YtcklgafpgdhnaaaGreatDoor
open Go.RowKit

def SIs (w : World) (s : Sx) : Prop := s.fp = [s.x] ∧ 8 ≤ s.n ∧ s.n ≤ 400 ∧ s.l.length ≤ 10000 ∧ (if s.cl then Shut s.x w else ∃ v hd r t, Rec s.x v s.a s.n hd r t w ∧ (hd.s = 1 ∨ hd.s = 2) ∧ TW t ∧ flatT t = s.l)
theorem SIs.tag {w : World} {s : Sx} (h : SIs w s) : Tg w s.x 84 := by
 obtain ⟨_, _, _, _, h⟩ := h
 split at h
 ·exact ⟨_, _, h⟩
 ·obtain ⟨v, hd, r, t, h, _⟩ := h
  exact ⟨_, _, h.row⟩
theorem LT.tags {w : World} {y : Nat} (h : LT w y) : ∃ t ∈ lawTags, Tg w y t := by
 obtain ⟨cs, t, fr, h1, h2⟩ := h
 exact ⟨t, h2, _, _, h1⟩
theorem not_TT {w : World} {y : Nat} {t : TypeId} (h : Tg w y t) (h1 : t ≠ 122) (h2 : t ≠ 80) : ¬ TT w y := fun hh => hh.elim (fun e => h1 (h.ne e)) (fun e => h2 (h.ne e))
theorem law_out {t : TypeId} (h : t ∈ lawTags) : t ≠ 128 ∧ t ≠ 122 ∧ t ≠ 80 ∧ t ≠ 84 := by
 unfold lawTags at h
 revert t
 decide
theorem SIs.kept {w w' : World} {s : Sx} {S : List Nat} (h : SIs w s) (k : Kept S w w') (hS : ∀ y ∈ S, y ∉ s.fp) (hT : ∀ y ∈ S, LT w y ∨ ∃ s', SIs w s' ∧ y ∈ s'.fp) : SIs w' s := by
 obtain ⟨h1, h2, h3, h4, h5⟩ := h
 have hx : s.x ∉ S := fun hm => hS _ hm (by rw [h1]; simp)
 refine ⟨h1, h2, h3, h4, ?_⟩
 split at h5
 ·rename_i hc
  rw [if_pos hc]
  exact k.get h5 hx
 ·rename_i hc
  rw [if_neg hc]
  obtain ⟨v, hd, r, t, hr, ht, hf⟩ := h5
  refine ⟨v, hd, r, t, hr.kept k hx fun y hy => ?_, ht, hf⟩
  rcases hT y hy with hl | ⟨s', hs', hm⟩
  ·obtain ⟨ty, hty, hg⟩ := hl.tags
   obtain ⟨a1, a2, a3, _⟩ := law_out hty
   exact ⟨fun e => a1 (hg.ne e), not_TT hg a2 a3⟩
  ·have hg := hs'.tag
   rw [hs'.1] at hm
   simp at hm
   rw [← hm] at hg
   exact ⟨fun e => by have := hg.ne e; revert this; decide, not_TT hg (by decide) (by decide)⟩
theorem SIs.k {w w' : World} {s : Sx} (h : SIs w s) (k : Kept [] w w') : SIs w' s := h.kept k (by simp) (by simp)
def Sx.to (s : Sx) (cl : Bool) (l : List Pr) : Sx := { s with cl := cl, l := l, mo := max s.mo l.length }
theorem aft_to {s : Sx} {L : List UInt8} {c wr t : Int} {w w' : World} {cl : Bool} {l : List Pr} (h : SIs w s) (hd : Dev w s.a s.g s.n L c wr t) (k : Kept [s.x] w w') (h' : SIs w' (s.to cl l)) : AftS SIs s (s.to cl l) L wr t w w' := by
 have h1 : s.a ∉ [s.x] := fun hm => by
  simp at hm
  have := h.tag.ne ⟨_, _, by rw [← hm]; exact hd.d⟩
  revert this; decide
 have h2 : s.g ∉ [s.x] := fun hm => by
  simp at hm
  have := h.tag.ne ⟨_, _, by rw [← hm]; exact hd.b⟩
  revert this; decide
 exact ⟨rfl, rfl, rfl, rfl, rfl, ⟨c, hd.kept k h1 h2⟩, h', k.mono (by rw [h.1]; simp), fun _ h => Or.inl h⟩
theorem aft_same {s : Sx} {L : List UInt8} {c wr t : Int} {w w' : World} (h : SIs w s) (hd : Dev w s.a s.g s.n L c wr t) (k : Kept [] w w') : AftS SIs s (s.to s.cl s.l) L wr t w w' :=
 aft_to h hd (k.mono (by simp)) (h.k k)
theorem fp_ok {w : World} {s : Sx} (h : SIs w s) : ∀ y ∈ s.fp, ∃ o, w.heap[y]? = some o ∧ ∀ cs t fr, o = .cells cs t fr → t ∉ lawTags := by
 intro y hy
 obtain ⟨cs, fr, hx⟩ := h.tag
 rw [h.1] at hy
 simp at hy
 subst hy
 refine ⟨_, hx, ?_⟩
 rintro cs' t' fr' e hm
 cases e
 exact (law_out hm).2.2.2 rfl
theorem chg_closed (k v : ByteArray) : chg true false k v = 5 := rfl
theorem chg_key {k v : ByteArray} (h : ¬ keyOk k) : chg false false k v = 1 := by
 unfold chg
 unfold keyOk at h
 rw [if_neg (by simp), if_neg (by simp), if_pos h]
theorem chg_value {k v : ByteArray} (h : keyOk k) (hv : ¬ v.size ≤ 12) : chg false false k v = 2 := by
 unfold chg
 unfold keyOk at h
 rw [if_neg (by simp), if_neg (by simp), if_neg (by simpa using h), if_pos (by omega)]
theorem chg_fine {k v : ByteArray} (h : keyOk k) (hv : v.size ≤ 12) : chg false false k v = 0 := by
 unfold chg
 unfold keyOk at h
 rw [if_neg (by simp), if_neg (by simp), if_neg (by simpa using h), if_neg (by omega)]
theorem with_len (k v : ByteArray) (l : List Pr) : (withL k v l).length ≤ l.length + 1 := by
 have key : ∀ (b : Bool) (l : List Pr), (withGo k v b l).length ≤ l.length + 1 := by
  intro b l
  induction l generalizing b with
  | nil => cases b <;> simp [withGo_nil]
  | cons p r ih =>
   cases b with
   | true => rw [withGo_true]; exact Nat.le_succ_of_le (List.length_filter_le _ _)
   | false =>
    have := ih false
    have h2 : (withGo k v true r).length ≤ r.length := by rw [withGo_true]; exact List.length_filter_le _ _
    rw [withGo_cons]
    cases bl p.1 k <;> cases be p.1 k <;> simp <;> omega
 exact key false l

theorem TW_nil : TW ⟨0, ([] : List Pr), 0⟩ := ⟨⟨List.Pairwise.nil, fun p hp => by cases hp⟩, trivial, by decide, (fun h => by cases h), fun _ => rfl⟩
theorem fmt_of {w : World} {a g n k : Nat} {L : List UInt8} {c wr t : Int} (h : Dev w a g n L c wr t) (h8 : 8 ≤ n) (h4 : n ≤ 400) (hk : k ≤ 50000) (hs : St k L) : Calls Tryz.prog 33 #[.pointer (some ⟨a, 0, none⟩)] w fun e w' =>
  e = .returned .nilIface ∧ (∃ L' c' wr', Dev w' a g n L' c' wr' t ∧ St (k + 1) L') ∧ Kept [a, g] w w' := by
 refine (PFormat_of a w _ _ (Format_fits a _ n _ _ w h.dq h8 h4 (by show ([] : List _).length < _; simp) (Or.inl (Dev.good L c wr t)))).mono ?_
 rintro e w' ⟨o, err, rfl, hc, ⟨cv', D', hd', _, hP⟩, hk'⟩
 have e0 : nxt (2 * k) = 2 * k + 1 := Nat.mod_eq_of_lt (by omega)
 have e1 : nxt (2 * k + 1) = 2 * k + 2 := Nat.mod_eq_of_lt (by omega)
 unfold FmtP at hP
 rw [hs.newest hk] at hP
 simp only [e0, e1] at hP
 rcases hP with ⟨rfl, D1, l1, l2⟩ | ⟨rfl, hP⟩
 ·have d1 := l1.dev
  rw [d1] at l2
  have d2 := l2.dev
  have herr : err = .nilIface := hc
  subst herr
  rw [d2] at hd'
  exact ⟨rfl, ⟨_, _, _, hd'.dev rfl ⟨rfl, rfl, rfl⟩ (by omega), St.next hk h.l h8⟩, hk'.mono (by intro y hy; simpa [dfoot, Value.ownBlock] using hy)⟩
 ·rcases hP with hP | ⟨D1, l1, hP⟩
  ·exact hP.bad.elim
  ·have d1 := l1.dev
   rw [d1] at hP
   exact hP.bad.elim
theorem Qt.dev {w : World} {a g n : Nat} {cv : Value} {L : List UInt8} {c wr t : Int} {D : Dv} (q : Qt (Dq L c wr t) D) (h : DQ w a (.slice (some ⟨g, 0, none⟩) n n) n cv D) (hn : n ≤ 1000) : Dev w a g n L D.c wr t := by
 have := h.dev q.q (q.good.2 ⟨rfl, rfl, rfl⟩) hn
 rw [q.L, q.wr, q.t] at this
 exact this
theorem read_zero {a n : Nat} {bv cv : Value} (h8 : 8 ≤ n) : ∀ v W D1, Vol W v a n → DQ W a bv n cv D1 → Calls Tryz.prog 90 #[.pointer (some ⟨v, 0, none⟩), .int .i64 0] W (TrdR a bv n cv D1 (some ⟨0, ([] : List Pr), 0⟩) W) := by
 intro v W D1 hv hd
 refine (SRead_zero v a n W hv h8).mono ?_
 rintro e w' ⟨rfl, k⟩
 exact ⟨D1, hd.k0 k, k.mono (by simp), Or.inl ⟨Qt.refl D1, _, _, rfl, rfl, Or.inl ⟨rfl, rfl⟩⟩⟩
theorem open_of {w : World} {a g n k : Nat} {L : List UInt8} {c wr t : Int} (h : Dev w a g n L c wr t) (h8 : 8 ≤ n) (h4 : n ≤ 400) (hk : k ≤ 50000) (hs : St k L) :
  Calls Tryz.prog 55 #[.iface 26 (.pointer (some ⟨a, 0, none⟩))] w (OpenR a (.slice (some ⟨g, 0, none⟩) n n) n (.slice none 0 0) (Dq L c wr t) ((2 * k, 0), decide (0 < k)) (some ⟨0, ([] : List Pr), 0⟩) w) := by
 have hR := Open_any a _ n _ _ (some ⟨0, ([] : List Pr), 0⟩) w h.dq h8 h4 (by show ([] : List _).length < _; simp) (Or.inl (Dev.good L c wr t)) (by
  rw [hs.newest hk]
  exact fun v W D1 hv hd _ _ => read_zero h8 v W D1 hv hd)
 rw [hs.newest hk] at hR
 exact hR
theorem opn_of {w : World} {a g n k : Nat} {L : List UInt8} {c wr t : Int} (h : Dev w a g n L c wr t) (h8 : 8 ≤ n) (h4 : n ≤ 400) (hk0 : 0 < k) (hk : k ≤ 50000) (hs : St k L) : Calls Tryz.prog 34 #[.pointer (some ⟨a, 0, none⟩)] w fun e w' =>
  ∃ s : Sx, e = .returned (.tuple #[.pointer (some ⟨s.x, 0, none⟩), .nilIface]) ∧ SIs w' s ∧ s.a = a ∧ s.g = g ∧ s.n = n ∧ s.cl = false ∧ s.l = [] ∧ s.mo = 0 ∧ (∀ y ∈ s.fp, w.heap.size ≤ y) ∧ (∃ c', Dev w' a g n L c' wr t) ∧ Kept [a] w w' := by
 refine POpen_of a w _ ((open_of h h8 h4 hk hs).mono ?_)
 rintro e w' ⟨o, pv, err, D', rfl, hc, hd, hkk, h1 | h1 | ⟨rfl, h2, _, t', r, x, v, h3, rfl, h5, h6⟩⟩
 ·exact absurd (Dev.good L c wr t) h1.2.1.bad
 ·rcases h1.2.2.2 with h2 | h2
  ·have : decide (0 < k) = true := decide_eq_true hk0
   simp only [this] at h2
   cases h2
  ·cases h2
 ·have herr : err = .nilIface := hc
  subst herr
  simp only [Option.some.injEq] at h3
  subst h3
  exact ⟨_, _, rfl, ⟨x, a, g, n, [x], false, [], 0⟩, rfl, ⟨rfl, h8, h4, by simp, by
   rw [if_neg (by simp)]
   exact ⟨v, _, r, _, h5, Or.inl rfl, TW_nil, rfl⟩⟩, rfl, rfl, rfl, rfl, rfl, rfl, by simpa using h6, ⟨_, h2.dev hd (by omega)⟩, hkk⟩
theorem opnNone_of {w : World} {a g n : Nat} {L : List UInt8} {c wr t : Int} (h : Dev w a g n L c wr t) (h8 : 8 ≤ n) (h4 : n ≤ 400) (hs : St 0 L) : Calls Tryz.prog 34 #[.pointer (some ⟨a, 0, none⟩)] w fun e w' =>
  ∃ err, e = .returned (.tuple #[.pointer none, err]) ∧ Tl w' err 7 ∧ (∃ c', Dev w' a g n L c' wr t) ∧ Kept [a] w w' := by
 refine POpen_of a w _ ((open_of h h8 h4 (by omega) hs).mono ?_)
 rintro e w' ⟨o, pv, err, D', rfl, hc, hd, hkk, h1 | ⟨rfl, h2, rfl, _⟩ | ⟨rfl, h2, h3, _⟩⟩
 ·exact absurd (Dev.good L c wr t) h1.2.1.bad
 ·have hch : Chain w' err 7 := hc
  exact ⟨_, _, rfl, err, rfl, Tl.chain hch, ⟨_, h2.dev hd (by omega)⟩, hkk⟩
 ·simp at h3
def stores : Iface where
 SI := SIs
 DS k L := 1024 ≤ L.length → St k L
 ds0 n h := St_zero (n * 128) (by rw [List.length_replicate] at h; exact h)
 fmt w a g n k L c wr t h h8 h4 hk hs := (fmt_of h h8 h4 hk (hs (by have := h.l; omega))).mono fun e w' ⟨h1, ⟨L', c', wr', h2, h3⟩, h4⟩ => ⟨h1, ⟨L', c', wr', h2, fun _ => h3⟩, h4⟩
 fmtNo w a g n L c wr t h hn := (PFormat_of a w _ _ (Format_no a n n _ _ _ w h.d hn)).mono fun e w' ⟨o, err, h1, h2, h3, h4⟩ => ⟨err, h1, Tl.chain (by subst h3; exact h2), h4⟩
 opn w a g n k L c wr t h h8 h4 hk0 hk hs := opn_of h h8 h4 hk0 hk (hs (by have := h.l; omega))
 opnNone w a g n L c wr t h h8 h4 hs := opnNone_of h h8 h4 (hs (by have := h.l; omega))
 opnNo w a g n L c wr t h hn := POpen_of a w _ ((Open_no a n n _ _ _ w h.d hn).mono fun e w' ⟨err, h1, h2, h3⟩ => ⟨_, _, h1, err, h1, Tl.chain h2, h3⟩)
 kept h k h1 h2 := SIs.kept h k h1 h2
 fp h := fp_ok h
 get w s L c wr t k h hd := by
  have h0 := h
  obtain ⟨_, _, _, _, hc⟩ := h0
  cases e : s.cl with
  | true =>
   rw [e, if_pos rfl] at hc
   refine (Get_closed s.x k w hc).mono ?_
   rintro _ w' ⟨err, rfl, h1, h2⟩
   exact ⟨_, _, _, err, rfl, aft_same h hd h2, by simp [Sx.to, e], rfl, by simp; exact Tl.chain h1⟩
  | false =>
   rw [e, if_neg (by simp)] at hc
   obtain ⟨v, hd0, r, tr, hr, hst, ht, hf⟩ := hc
   by_cases hk : keyOk k
   ·refine (Get_yes s.x v s.a s.n hd0 r tr k w hr ht hk).mono ?_
    rintro _ w' ⟨err, rfl, h1, h2⟩
    rw [hf]
    exact ⟨_, _, _, err, rfl, aft_same h hd h2, by simp [Sx.to, e], rfl, by simp [hk, h1]⟩
   ·refine (Get_key s.x v s.a s.n hd0 r tr k w hr hk).mono ?_
    rintro _ w' ⟨err, rfl, h1, h2⟩
    exact ⟨_, _, _, err, rfl, aft_same h hd h2, by simp [Sx.to, e], rfl, by simp [hk]; exact Tl.chain h1⟩
 scan w s L c wr t lo hi m h hd := by
  have h0 := h
  obtain ⟨_, _, _, h10, hc⟩ := h0
  cases e : s.cl with
  | true =>
   rw [e, if_pos rfl] at hc
   refine (Scan_closed s.x lo hi m w hc).mono ?_
   rintro _ w' ⟨err, rfl, h1, h2⟩
   exact ⟨_, _, err, rfl, aft_same h hd h2, by simp [Sx.to, e], rfl, by simp; exact Tl.chain h1⟩
  | false =>
   rw [e, if_neg (by simp)] at hc
   obtain ⟨v, hd0, r, tr, hr, hst, ht, hf⟩ := hc
   refine (Scan_open s.x v s.a s.n hd0 r tr lo hi m ht (by rw [hf]; exact h10) w hr).mono ?_
   rintro _ w' ⟨vv, rfl, h1, h2, h3⟩
   rw [hf] at h1
   exact ⟨_, vv, .nilIface, rfl, aft_same h hd h3, by simp [Sx.to, e], rfl, by simp; exact ⟨h1, h2⟩⟩
 put w s L c wr t k y h hd := by
  have h0 := h
  obtain ⟨hfp, h8, h4, h10, hc⟩ := h0
  cases e : s.cl with
  | true =>
   rw [e, if_pos rfl] at hc
   refine (Put_closed s.x k y w hc).mono ?_
   rintro _ w' ⟨err, rfl, ⟨h1, _⟩, h2⟩
   exact ⟨_, err, 5, rfl, aft_same h hd h2, by simp [Sx.to, e], Tl.chain h1, by rw [chg_closed, if_pos (by decide)]; exact ⟨rfl, rfl⟩⟩
  | false =>
   rw [e, if_neg (by simp)] at hc
   obtain ⟨v, hd0, r, tr, hr, hst, ht, hf⟩ := hc
   by_cases hk : keyOk k
   ·by_cases hy : y.size ≤ 12
    ·obtain ⟨htw, hfl⟩ := chgT_ok (op_with k y hk hy) tr ht
     rw [hf] at hfl
     rw [chg_fine hk hy]
     have hcb := cntT_le _ htw
     have hwl := with_len k y s.l
     rw [hfl] at hcb
     by_cases hroom : (s.n - 2) / 2 < cntT (chgT (withL k y) k tr)
     ·refine (Put_room s.x v s.a s.n hd0 r tr k y w hr hst ht hk hy h8 h4 (by omega) hroom).mono ?_
      rintro _ w' ⟨err, rfl, ⟨h1, _⟩, h2⟩
      have hno := no_room _ htw s.n s.mo h8 hroom
      rw [hfl] at hno
      exact ⟨_, err, 3, rfl, aft_same h hd h2, by simp [Sx.to, e], Tl.chain h1, by rw [if_neg (by simp)]; exact Or.inr ⟨rfl, rfl, hno⟩⟩
     ·refine (Put_yes s.x v s.a s.n hd0 r tr k y w hr hst ht hk hy h8 h4 hroom).mono ?_
      rintro _ w' ⟨err, rfl, ⟨rfl, r', h1⟩, h2⟩
      have hfc := flatT_cnt _ htw
      rw [hfl] at hfc
      exact ⟨s.to false (withL k y s.l), .nilIface, 0, rfl, aft_to h hd h2 ⟨hfp, h8, h4, by show (withL k y s.l).length ≤ 10000; omega, by
       show (if false = true then _ else _)
       rw [if_neg (by simp)]
       exact ⟨v, hd0, r', _, h1, hst, htw, hfl⟩⟩, rfl, Tl.nil _, by rw [if_neg (by simp)]; exact Or.inl ⟨rfl, rfl⟩⟩
    ·rw [chg_value hk hy]
     refine (Put_value s.x v s.a s.n hd0 r tr k y w hr hst hk hy).mono ?_
     rintro _ w' ⟨err, rfl, ⟨h1, _⟩, h2⟩
     exact ⟨_, err, 2, rfl, aft_same h hd h2, by simp [Sx.to, e], Tl.chain h1, by rw [if_pos (by decide)]; exact ⟨rfl, rfl⟩⟩
   ·rw [chg_key hk]
    refine (Put_key s.x v s.a s.n hd0 r tr k y w hr hst hk).mono ?_
    rintro _ w' ⟨err, rfl, ⟨h1, _⟩, h2⟩
    exact ⟨_, err, 1, rfl, aft_same h hd h2, by simp [Sx.to, e], Tl.chain h1, by rw [if_pos (by decide)]; exact ⟨rfl, rfl⟩⟩
 del w s L c wr t k h hd := by
  have h0 := h
  obtain ⟨hfp, h8, h4, h10, hc⟩ := h0
  cases e : s.cl with
  | true =>
   rw [e, if_pos rfl] at hc
   refine (Delete_closed s.x k w hc).mono ?_
   rintro _ w' ⟨err, rfl, ⟨h1, _⟩, h2⟩
   exact ⟨_, err, rfl, aft_same h hd h2, by simp [Sx.to, e], by rw [chg_closed, if_pos (by decide)]; exact ⟨Tl.chain h1, rfl⟩⟩
  | false =>
   rw [e, if_neg (by simp)] at hc
   obtain ⟨v, hd0, r, tr, hr, hst, ht, hf⟩ := hc
   by_cases hk : keyOk k
   ·obtain ⟨htw, hfl⟩ := delT_ok k tr ht
    rw [hf] at hfl
    rw [chg_fine hk (by decide)]
    refine (Delete_yes s.x v s.a s.n hd0 r tr k w hr ht hst hk).mono ?_
    rintro _ w' ⟨err, rfl, ⟨rfl, r', h1⟩, h2⟩
    have hle : (withoutL k s.l).length ≤ s.l.length := List.length_filter_le _ _
    exact ⟨s.to false (withoutL k s.l), .nilIface, rfl, aft_to h hd h2 ⟨hfp, h8, h4, by show (withoutL k s.l).length ≤ 10000; omega, by
     show (if false = true then _ else _)
     rw [if_neg (by simp)]
     exact ⟨v, hd0, r', _, h1, hst, htw, hfl⟩⟩, rfl, by rw [if_neg (by simp)]; exact ⟨Tl.nil _, rfl⟩⟩
   ·rw [chg_key hk]
    refine (Delete_key s.x v s.a s.n hd0 r tr k w hr hst hk).mono ?_
    rintro _ w' ⟨err, rfl, ⟨h1, _⟩, h2⟩
    exact ⟨_, err, rfl, aft_same h hd h2, by simp [Sx.to, e], by rw [if_pos (by decide)]; exact ⟨Tl.chain h1, rfl⟩⟩
 close w s L c wr t h hd := by
  have h0 := h
  obtain ⟨hfp, h8, h4, h10, hc⟩ := h0
  cases e : s.cl with
  | true =>
   rw [e, if_pos rfl] at hc
   refine (Close_no s.x w hc).mono ?_
   rintro _ w' ⟨err, rfl, ⟨h1, _⟩, h2⟩
   exact ⟨_, err, rfl, aft_same h hd h2, by simp [Sx.to, e], rfl, by simp; exact Tl.chain h1⟩
  | false =>
   rw [e, if_neg (by simp)] at hc
   obtain ⟨v, hd0, r, tr, hr, hst, ht, hf⟩ := hc
   refine (Close_yes s.x v s.a s.n hd0 r tr w hr).mono ?_
   rintro _ w' ⟨err, rfl, ⟨rfl, h1⟩, h2⟩
   exact ⟨s.to true s.l, .nilIface, rfl, aft_to h hd h2 ⟨hfp, h8, h4, h10, by
    show (if true = true then _ else _)
    rw [if_pos rfl]
    exact h1⟩, rfl, rfl, by simp; exact Tl.nil _⟩
end Go.Proofs.YtcklgafpgdhnaaaGreatDoor
