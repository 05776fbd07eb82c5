import Derived.Test.YtcklgafpgdhnaabGreatDoorPqaa
import Derived.Test.YtcklgafpgdhnaabGreatDoorPqbu
import Derived.Test.YtcklgafpgdhnaabGreatDoorPqbv
import Derived.Test.YtcklgafpgdhnaabGreatDoorPqaf
set_option maxRecDepth 100000
set_option maxHeartbeats 4000000
open Go.Proofs.Tryz
namespace Go.Proofs.YtcklgafpgdhnaabGreatDoor
open Go.RowKit
theorem QcE (z : Int) (k : Int) (hk : 1 <= k) (h1 : -9223372036854775808 <= z) (h2 : z <= 9223372036854775807) : -9223372036854775808 <= z.tdiv k /\ z.tdiv k <= 9223372036854775807 := by
 rcases Int.le_total 0 z with h | h
 ·rw [Int.tdiv_eq_ediv_of_nonneg h]
  have a1 := Int.ediv_nonneg h (show 0 <= k by omega)
  have a2 := Int.ediv_le_self k h
  omega
 ·have e : z.tdiv k = -((-z) / k) := by rw [<- Int.tdiv_eq_ediv_of_nonneg (show 0 <= -z by omega), Int.neg_tdiv]; omega
  rw [e]
  have a1 := Int.ediv_nonneg (show 0 <= -z by omega) (show 0 <= k by omega)
  have a2 := Int.ediv_le_self k (show 0 <= -z by omega)
  omega
theorem IL.kept {w w' : World} {v : Value} (h : IL w v) (k : y5 [] w w') : IL w' v := by
 obtain ⟨ao, len, cap, rfl, h⟩ := h
 refine ⟨ao, len, cap, rfl, h.imp id ?_⟩
 rintro ⟨a, e, h⟩
 refine ⟨a, e, fun i hi => ?_⟩
 obtain ⟨z, hz⟩ := h i hi
 refine ⟨z, ?_⟩
 rw [World.cell?_of_block (w := w) (k.block _ (block_lt_of_cell hz) (by simp))]
 exact hz
theorem Sd.pre {n : Nat} {c : Hd} {t : Tr} {D : Dv} (h : Sd n c t D) (hl : D.L.length = n * 128) (h8 : 8 <= n) (h4 : n <= 400) : Pre n c t D := ⟨h.st, h.q, h.hd, h.ro, h.tu, hl, h8, h4⟩
def Np (w : World) (S : List Nat) : Prop := ∀ y cs t fr, w.heap[y]? = some (.cells cs t fr) -> t = 52 \/ t = 3 -> y ∉ S
structure Fr (w : World) (vl vm vn kv : Value) (l m n : List Pr) (ms : List Int) : Prop where
 l : PL w 52 vl l
 m : PL w 52 vm m
 n : PL w 52 vn n
 k : w.ownsRow 0 3 1 kv ms.length (ints ms)
theorem Fr.kept {w w' : World} {vl vm vn kv : Value} {l m n : List Pr} {ms : List Int} {S : List Nat} (h : Fr w vl vm vn kv l m n ms) (k : y5 S w w') (hS : Np w S) : Fr w' vl vm vn kv l m n ms := by
 have hP : ∀ {v : Value} {l : List Pr}, PL w 52 v l -> PL w' 52 v l := fun {v l} hp => hp.kept k fun b hb => by
  obtain ⟨cs, fr, hh⟩ := hp.tag hb
  exact hS b cs _ fr hh (Or.inl rfl)
 refine ⟨hP h.l, hP h.m, hP h.n, yQ h.k k fun b hb => ?_⟩
 obtain ⟨cs, fr, hh⟩ := qy h.k hb
 exact hS b cs _ fr hh (Or.inr rfl)
theorem Np.nil (w : World) : Np w [] := fun _ _ _ _ _ _ => by simp
theorem Np.dq {w : World} {a n : Nat} {bv cv : Value} {D : Dv} (h : DQ w a bv n cv D) : Np w [a] := fun y cs t fr hh ht hm => by
 simp at hm
 subst hm
 exact h.no hh (by rcases ht with rfl | rfl <;> decide) (List.mem_cons_self ..)
theorem Np.st {w : World} {x v a n : Nat} {bv : Value} {c : Hd} {r : Value} {t : Tr} {D : Dv} (hr : Rec x v a n c r t w) (h : DQ w a bv n (.slice none 0 0) D) : Np w (ft x a bv) := fun y cs t fr hh ht hm => by
 rcases List.mem_cons.1 hm with rfl | hm
 ·exact yP hr.row hh (by rcases ht with rfl | rfl <;> decide) rfl
 ·exact h.no hh (by rcases ht with rfl | rfl <;> decide) hm
theorem Np.x {w : World} {x v a n : Nat} {c : Hd} {r : Value} {t : Tr} (hr : Rec x v a n c r t w) : Np w [x] := fun y cs t fr hh ht hm => by
 simp at hm
 subst hm
 exact yP hr.row hh (by rcases ht with rfl | rfl <;> decide) rfl
theorem QcF {B : List UInt8} (h : B.length = 128) {s : Nat} (hs : s < 4) : ((B.drop (s * 32)).take 32).length = 32 := by rw [List.length_take, List.length_drop]; omega
theorem QcG {L : List UInt8} {x : Wt} {n : Nat} (hL : L.length = n * 128) (hx : x.1 < n) (h2 : x.2.length = 128) : svN (fun _ => true) L x 4 = qN L x.1 x.2 := by
  have hl := fun s hs => jf (c := fun _ => true) hL hx h2 s hs
  have key : ∀ s, s <= 4 -> ∀ j, (svN (fun _ => true) L x s)[j]? = if j < x.1 * 128 then L[j]? else if j < x.1 * 128 + s * 32 then x.2[j - x.1 * 128]? else L[j]? := by
    intro s
    induction s with
    | zero =>
      intro _ j
      show L[j]? = _
      split
      · rfl
      · rw [if_neg (by omega)]
    | succ s ih =>
      intro hs j
      have hc := QcF h2 (s := s) (by omega)
      show (put1 (svN (fun _ => true) L x s) x s)[j]? = _
      unfold put1
      have hls := hl s (by omega)
      rw [Q9p (by rw [hc, hls]; omega), ih (by omega), hc]
      by_cases h1 : j < x.1 * 128
      · rw [if_pos (by omega), if_pos h1, if_pos h1]
      · by_cases h3 : j < x.1 * 128 + s * 32
        · rw [if_pos h3, if_neg h1, if_pos h3, if_neg h1, if_pos (by omega)]
        · by_cases h4 : j < x.1 * 128 + s * 32 + 32
          · rw [if_neg h3, if_pos h4, if_neg h1, if_pos (by omega), List.getElem?_take, if_pos (by omega), List.getElem?_drop]
            congr 1
            omega
          · rw [if_neg h3, if_neg h4, if_neg h1, if_neg h3, if_neg h1, if_neg (by omega)]
  apply List.ext_getElem?
  intro j
  rw [key 4 (by omega)]
  unfold qN
  rw [Q9p (by rw [h2, hL]; omega), h2]
theorem Sr.all {L : List UInt8} {n : Nat} (hL : L.length = n * 128) {q : List Wt} (hq : Fit n q) : Sr L q (lay L q) := by
  have go : ∀ (r p : List Wt), Fit n (p ++ r) -> Sr L p (lay L p) -> Sr L (p ++ r) (lay L (p ++ r)) := by
    intro r
    induction r with
    | nil => intro p _ h; simpa using h
    | cons x r ih =>
      intro p hf h
      have hp : Fit n p := fun y hy => hf y (by simp [hy])
      have hx := hf x (by simp)
      have h1 := h.snoc x fun _ => true
      rw [QcG (qR hL hp) hx.1 hx.2, <- Q0C] at h1
      have := ih (p ++ [x]) (by simpa using hf) h1
      simpa using this
  have := go q [] (by simpa using hq) Sr.nil
  simpa using this
theorem QcH {n : Nat} {D : Dv} (hL : D.L.length = n * 128) (hq : Fit n D.q) : (Dv.new (lay D.L D.q)).view = D.view := funext fun i => by
  rw [gE, Q9z hL hq]
  rfl
theorem Fnd.seen {n : Nat} {D : Dv} {tu ro : Nat} {T : Tr} (h : Fnd n (lay D.L D.q) tu ro T) (hL : D.L.length = n * 128) (hq : Fit n D.q) (hn : n <= 65536) : yn D = ((tu, ro), true) /\ QU n D = some T /\ StK n D.view T T := by
  have e := QcH hL hq
  have e1 : yn D = yn (.new (lay D.L D.q)) := by unfold yn; rw [e]
  refine ⟨by rw [e1]; exact h.hd, ?_, by rw [<- e]; exact h.st⟩
  have := h.tree hn
  unfold QU at this ⊢
  rw [e1, <- e]
  exact this
structure Pnd (n : Nat) (c : Hd) (t : Tr) (D : Dv) : Prop where
  s : c.s = 1
  st : StK n D.view c.lt t
  hd : yn D = ((c.tu, c.ro), true)
  ro : c.ro = c.lt.pl
  tu : c.tu < 18446744073709551616
  l : D.L.length = n * 128
  fit : Fit n D.q
  n8 : 8 <= n
  n4 : n <= 400
theorem Pnd.pre {n : Nat} {c : Hd} {t : Tr} {D D0 : Dv} (h : Pnd n c t D) (hf : Fl D D0) : Pre n ⟨2, c.tu, c.ro, c.lt, c.lr⟩ t D0 := by
  have hv : D0.view = D.view := funext fun i => hf.view h.l h.fit i
  refine ⟨by rw [hv]; exact h.st, hf.q, ?_, h.ro, h.tu, by rw [hf.L]; exact qR h.l h.fit, h.n8, h.n4⟩
  rw [<- h.hd]
  unfold yn
  rw [hv]
def PndR (a n : Nat) (bv : Value) (c : Hd) (t : Tr) (D : Dv) (S : List Nat) (w : World) (e : Ending) (w' : World) : Prop := ∃ o err cv' D', e = .returned err /\ CEnd o err w' /\ y5 S w w' /\ DQ w' a bv n cv' D' /\
  ((o = none /\ D'.q = [] /\ ∃ tu ro, Fnd n D'.L tu ro (yw c t).1) \/
   (o = some 6 /\ ∀ L1, Sr D'.L D'.q L1 -> Sr D.L D.q L1 \/ Fnd n L1 c.tu c.ro c.lt \/ Fnd n L1 (nxt c.tu) (yw c t).1.pl (yw c t).1))
theorem QcI {x v a n : Nat} {bv cv : Value} {c : Hd} {r : Value} {t : Tr} {D : Dv} {w : World} (hR : Rec x v a n c r t w) (hd : DQ w a bv n cv D) (hp : Pnd n c t D) (hq : D.q.length <= 800000) (hr : Rm n (y7 t)) (hl : Rm n (y7 c.lt)) (htu : c.tu + 1 < 18446744073709551616) (hT : Tab w) :
    Calls prog 13 #[.pointer (some ⟨x, 0, none⟩)] w (PndR a n bv c t D (x :: ym a bv cv) w) := by
  have hnx : nxt c.tu = c.tu + 1 := Nat.mod_eq_of_lt htu
  have hb := Q8R (c := c) (t := t) (by have := hp.n8; omega) hp.st.ub (Rm.two hl hr hp.n8 hp.st.ltw hp.st.tw)
  refine (Q8O x v a n bv cv c r t D w hR (Or.inl hp.s) hd (hp.st.lyp (by have := hp.n4; omega)) hp.n8 hp.n4 hq (by rw [hnx]; omega) (Or.inr hT)).mono ?_
  rintro e w' ⟨o, err, rfl, hc, ⟨cv', D', ⟨hd', _⟩, hcase⟩, hk⟩
  refine ⟨o, err, cv', D', rfl, hc, hk, hd', ?_⟩
  rcases hcase with ⟨rfl, D0, r', tu', ro', h0, hok, hfr, _, _⟩ | ⟨q, tu', ro', rfl, _, ⟨rfl, _, he⟩ | ⟨D0, h0, hbad⟩⟩
  · have hf : Fl D D0 := by
      rcases h0 with ⟨_, hf⟩ | ⟨h2, _⟩
      · exact hf
      · rw [hp.s] at h2; omega
    obtain ⟨a1, a2, _⟩ := (hp.pre hf).ok (D0 := D0) (D' := D') hb (Or.inr ⟨rfl, rfl⟩) hok hfr
    exact Or.inl ⟨rfl, a1, tu', ro', a2⟩
  · refine Or.inr ⟨rfl, fun L1 hs1 => Or.inl ?_⟩
    rw [he.L, he.q] at hs1
    exact hs1
  · have hf : Fl D D0 := by
      rcases h0 with ⟨_, hf⟩ | ⟨h2, _⟩
      · exact hf
      · rw [hp.s] at h2; omega
    have hq6 : q = 6 := by
      rcases hbad with ⟨ws, D1, _, _, ⟨e1, _⟩ | ⟨_, _, hno⟩⟩ | ⟨e1, _⟩
      · exact e1
      · exact absurd hb hno
      · exact e1
    subst hq6
    exact Or.inr ⟨rfl, fun L1 hs1 => Or.inr ((hp.pre hf).bad (D0 := D0) (D' := D') hb (Or.inr ⟨rfl, rfl⟩) hbad hs1)⟩
theorem QcJ (z : Int) : wrap64 (wrap64 (z + 0) + 0) = wrap64 (z + 0) := by
 simp only [wrap64]
 omega
theorem QcK {D : Dv} (h : D.off = -1) : qc { D with fr := wrap64 (D.c + 0), «to» := wrap64 (wrap64 (D.c + 0) + 0) } := ⟨h, (QcJ D.c).symm, rfl⟩
structure Lft (n : Nat) (c : Hd) (t : Tr) (o : Option Int) (D : Dv) : Prop where
 sv : ∀ L1, Sr D.L D.q L1 -> ∃ tu ro T, Fnd n L1 tu ro T /\ (tu = c.tu \/ tu = nxt c.tu) /\ ((T = c.lt /\ o ≠ none) \/ T = (yw c t).1)
 l : D.L.length = n * 128
 fit : Fit n D.q
 ql : D.q.length <= 1000
 off : D.off = -1
theorem Lft.seen {n : Nat} {c : Hd} {t : Tr} {o : Option Int} {D : Dv} (h : Lft n c t o D) (hn : n <= 65536) : ∃ tu ro T, yn D = ((tu, ro), true) /\ QU n D = some T /\ StK n D.view T T /\ ro = T.pl /\ tu < 18446744073709551616 /\ (tu = c.tu \/ tu = nxt c.tu) /\ ((T = c.lt /\ o ≠ none) \/ T = (yw c t).1) := by
 obtain ⟨tu, ro, T, hf, h1, h2⟩ := h.sv _ (Sr.all h.l h.fit)
 obtain ⟨a1, a2, a3⟩ := hf.seen h.l h.fit hn
 exact ⟨tu, ro, T, a1, a2, a3, hf.ro, hf.tu, h1, h2⟩
theorem QcL {w0 w : World} {a n : Nat} {bv cv : Value} {c : Hd} {t : Tr} {o : Option Int} {D : Dv} (hl : Lft n c t o D) (hg : qc D) (hd : DQ w a bv n cv D) (h8 : 8 <= n) (h4 : n <= 400) (hT : Tab w) (hk : y5 [] w0 w) (hfd : ∀ y ∈ ym a bv cv, w0.heap.size <= y) :
  Calls prog 17 #[.pointer (some ⟨a, 0, none⟩)] w fun e w' => ∃ x c2 T D', e = .returned (.tuple #[.pointer (some ⟨x, 0, none⟩), .nilIface]) /\ Smg w0 x a bv n cv c2 T D' w' /\ Qt D D' /\ c2.s = 1 /\ c2.lt = T /\ StK n D'.view T T /\ yn D' = ((c2.tu, c2.ro), true) /\ c2.ro = T.pl /\ c2.tu < 18446744073709551616 /\ (c2.tu = c.tu \/ c2.tu = nxt c.tu) /\ ((T = c.lt /\ o ≠ none) \/ T = (yw c t).1) /\ y5 [a] w w' := by
 obtain ⟨tu, ro, T, a1, a2, a3, a4, a5, a6, a7⟩ := hl.seen (by omega)
 refine (QbM a bv n cv D T w hd h8 h4 (by have := hl.ql; omega) hT hg (by rw [a1]) a2).mono ?_
 rintro e w' ⟨x, v, r, D', h1, h2, h3, h4, h5, h6⟩
 have hsz := hk.size
 refine ⟨x, _, T, D', h1, ⟨⟨v, r, h2⟩, h4, hk.trans2 h6 (by intro q hq; simp at hq; subst hq; exact Or.inr (hfd _ (List.mem_cons_self ..))), by omega, hfd⟩, h5, rfl, rfl, a3.qt h5, ?_, ?_, ?_, ?_, a7, h6⟩
 ·rw [h5.newest]
  show _ = (((yn D).1.1, (yn D).1.2), true)
  rw [a1]
 ·show (yn D).1.2 = T.pl
  rw [a1]
  exact a4
 ·show (yn D).1.1 < _
  rw [a1]
  exact a5
 ·show (yn D).1.1 = c.tu \/ (yn D).1.1 = nxt c.tu
  rw [a1]
  exact a6
theorem Lft.bd {n : Nat} {c : Hd} {t : Tr} {o : Option Int} {D : Dv} (h : Lft n c t o D) (z y : Int) : Lft n c t o { D with fr := z, «to» := y } := ⟨h.sv, h.l, h.fit, h.ql, h.off⟩
theorem Lft.qt {n : Nat} {c : Hd} {t : Tr} {o : Option Int} {D E : Dv} (h : Lft n c t o D) (q : Qt D E) : Lft n c t o E := ⟨by rw [q.L, q.q]; exact h.sv, by rw [q.L]; exact h.l, by rw [q.q]; exact h.fit, by rw [q.q]; exact h.ql, by rw [q.off]; exact h.off⟩
theorem CutR.lft {x v a n : Nat} {bv : Value} {c : Hd} {r : Value} {t : Tr} {D : Dv} {w : World} {e : Ending} {w' : World} (h : CutR x v a n bv c r t D w e w') (ht : TW t) (ho : D.off = -1) : ∃ o err cv' D' c7 r7 t7, e = .returned err /\ CEnd o err w' /\ y5 (ft x a bv) w w' /\ DQ w' a bv n cv' D' /\ CvN (.slice none 0 0) cv' w.heap.size /\ Lft n c t o D' /\ Rec x v a n c7 r7 t7 w' /\ y7 t7 = y7 t /\ TW t7 /\ ((o = none /\ c7.s = 2) \/ (o = some 6 /\ c7.s = 3)) := by
 obtain ⟨o, err, cv', D', h1, h2, h3, h4, h5, h6, h7, hc⟩ := h
 have hl : Lft n c t o D' := ⟨fun L1 hs => CutR.any hc hs, h4.l, h4.q, h5, by rw [h6]; exact ho⟩
 rcases hc with ⟨rfl, _, tu, ro, r', hr, hf, _⟩ | ⟨rfl, ⟨tu, ro, hr⟩, _⟩
 ·exact ⟨none, err, cv', D', _, r', _, h1, h2, h3, h4, h7, hl, hr, (QA c t).1, hf.st.tw, Or.inl ⟨rfl, rfl⟩⟩
 ·exact ⟨some 6, err, cv', D', _, r, t, h1, h2, h3, h4, h7, hl, hr, rfl, ht, Or.inr ⟨rfl, rfl⟩⟩
theorem Np.stg {w : World} {x v a n : Nat} {bv cv : Value} {c : Hd} {r : Value} {t : Tr} {D : Dv} (hr : Rec x v a n c r t w) (h : DQ w a bv n cv D) : Np w (x :: ym a bv cv) := fun y cs t fr hh ht hm => by
 rcases List.mem_cons.1 hm with rfl | hm
 ·exact yP hr.row hh (by rcases ht with rfl | rfl <;> decide) rfl
 ·exact h.no hh (by rcases ht with rfl | rfl <;> decide) hm
theorem PndR.found {a n : Nat} {bv : Value} {c0 c : Hd} {t0 t : Tr} {o0 : Option Int} {D : Dv} {S : List Nat} {w : World} {e : Ending} {w' : World} (h : PndR a n bv c t D S w e w') (hl : ∀ L1, Sr D.L D.q L1 -> ∃ tu ro T, Fnd n L1 tu ro T /\ (tu = c0.tu \/ tu = nxt c0.tu) /\ ((T = c0.lt /\ o0 ≠ none) \/ T = (yw c0 t0).1)) (hT : (y7 c.lt = y7 c0.lt) \/ y7 c.lt = y7 t0) : ∃ o err cv' D', e = .returned err /\ CEnd o err w' /\ y5 S w w' /\ DQ w' a bv n cv' D' /\
  ∀ L1, Sr D'.L D'.q L1 -> ∃ tu ro T2, Fnd n L1 tu ro T2 /\ (((y7 T2 = y7 c0.lt \/ y7 T2 = y7 t0) /\ o ≠ none) \/ y7 T2 = y7 t) := by
 obtain ⟨o, err, cv', D', h1, h2, h3, h4, hc⟩ := h
 refine ⟨o, err, cv', D', h1, h2, h3, h4, fun L1 hs => ?_⟩
 rcases hc with ⟨rfl, hq, tu, ro, hf⟩ | ⟨rfl, hc⟩
 ·rw [hq] at hs
  rw [hs.nil_eq]
  exact ⟨tu, ro, _, hf, Or.inr (QA c t).1⟩
 ·rcases hc L1 hs with hc | hc | hc
  ·obtain ⟨tu, ro, T2, hf, _, h5⟩ := hl L1 hc
   refine ⟨tu, ro, T2, hf, Or.inl ⟨?_, by simp⟩⟩
   rcases h5 with ⟨rfl, _⟩ | rfl
   ·exact Or.inl rfl
   ·exact Or.inr (QA c0 t0).1
  ·exact ⟨_, _, _, hc, Or.inl ⟨hT, by simp⟩⟩
  ·exact ⟨_, _, _, hc, Or.inr (QA c t).1⟩
end Go.Proofs.YtcklgafpgdhnaabGreatDoor
