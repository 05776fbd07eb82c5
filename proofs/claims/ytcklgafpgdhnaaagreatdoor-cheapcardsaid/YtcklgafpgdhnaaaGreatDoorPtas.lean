import Derived.Test.YtcklgafpgdhnaaaGreatDoorPtah
import Derived.Test.YtcklgafpgdhnaaaGreatDoorPtar
import Derived.Test.YtcklgafpgdhnaaaGreatDoorPtag
set_option maxRecDepth 100000
set_option maxHeartbeats 4000000
open List renaming getElem_toArray → zA, getElem_cons_succ → zB, getElem_cons_zero → zC, setIfInBounds_toArray → zD, set_cons_succ → zE, set_cons_zero → zF
namespace Go.Proofs.YtcklgafpgdhnaaaGreatDoor
open Go.RowKit


def mapS {α β σ : Type} (f : α → σ → β × σ) : List α → σ → List β × σ
 | [], s => ([], s)
 | x :: l, s => ((f x s).1 :: (mapS f l (f x s).2).1, (mapS f l (f x s).2).2)
theorem mapS_len {α β σ : Type} (f : α → σ → β × σ) (l : List α) : ∀ s : σ, (mapS f l s).1.length = l.length := by
 induction l with
 | nil => intro s; rfl
 | cons y l ih => intro s; simp [mapS, ih]

def nbN : (h : Nat) → Nd h → Nb
 | 0, l => .leaf l
 | h + 1, ks => .branch (List.map (fun k : Kid h => (k.1, k.3)) ks)

def tkF (us : List Nat) : Nat → Nat → Nat
 | 0, i => i
 | f + 1, i => if i ∈ us then tkF us f (i + 1) else i
def mxs (us : List Nat) : Nat := us.foldr (fun a b => max a b) 0
theorem le_mxs {us : List Nat} {i : Nat} (h : i ∈ us) : i ≤ mxs us := by
 induction us with
 | nil => cases h
 | cons a r ih =>
  have e : mxs (a :: r) = max a (mxs r) := rfl
  rw [e]
  rcases List.mem_cons.1 h with rfl | h
  ·omega
  ·have := ih h
   omega
def tk (us : List Nat) : Nat := tkF us (mxs us + 1) 0
theorem tkF_not (us : List Nat) : ∀ f i, mxs us + 1 ≤ f + i → tkF us f i ∉ us
 | 0, i, h => fun hm => by have := le_mxs hm; simp only [tkF] at this; omega
 | f + 1, i, h => by
  rw [tkF]
  split
  ·exact tkF_not us f (i + 1) (by omega)
  ·assumption
theorem tk_not (us : List Nat) : tk us ∉ us := tkF_not us _ _ (by omega)
theorem tkF_below (us : List Nat) : ∀ f i, (∀ j, j < i → j ∈ us) → ∀ j, j < tkF us f i → j ∈ us
 | 0, _, h, j, hj => h j hj
 | f + 1, i, h, j, hj => by
  rw [tkF] at hj
  split at hj
  ·rename_i hi
   refine tkF_below us f (i + 1) (fun j hj => ?_) j hj
   by_cases e : j = i
   ·rw [e]; exact hi
   ·exact h j (by omega)
  ·exact h j hj
theorem tk_below (us : List Nat) {j : Nat} (h : j < tk us) : j ∈ us := tkF_below us _ 0 (by omega) j h
theorem tk_eq {us : List Nat} {i : Nat} (h1 : i ∉ us) (h2 : ∀ j, j < i → j ∈ us) : tk us = i := by
 rcases Nat.lt_trichotomy (tk us) i with h | h | h
 ·exact absurd (h2 _ h) (tk_not us)
 ·exact h
 ·exact absurd (tk_below us h) h1
theorem holes : ∀ (n : Nat) (us : List Nat), (∀ j, j < n → j ∈ us) → n ≤ us.length
 | 0, _, _ => Nat.zero_le _
 | n + 1, us, h => by
  have hn := h n (by omega)
  have := holes n (us.erase n) fun j hj => (List.mem_erase_of_ne (by omega)).2 (h j (by omega))
  rw [List.length_erase_of_mem hn] at this
  have : 0 < us.length := List.length_pos_of_mem hn
  omega
theorem tk_room {us : List Nat} {n : Nat} (h : us.length < n) : tk us < n := by
 rcases Nat.lt_or_ge (tk us) n with h' | h'
 ·exact h'
 ·have := holes n us fun j hj => tk_below us (by omega)
  omega

structure Ls where
 us : List Nat
 ws : List (Nat × List UInt8)
def Ls.step (s : Ls) (B : List UInt8) : Ls := ⟨tk s.us :: s.us, s.ws ++ [(tk s.us, B)]⟩
def layN : (h : Nat) → Nd h → Ls → Nd h × Ls
 | 0, l, s => (l, s)
 | h + 1, ks, s => mapS (fun (k : Kid h) (s : Ls) => if k.3 = 0 then (⟨k.1, (layN h k.2 s).1, tk (layN h k.2 s).2.us⟩, (layN h k.2 s).2.step (encN (nbN h (layN h k.2 s).1))) else (k, s)) ks s
def layK (h : Nat) (k : Kid h) (s : Ls) : Kid h × Ls := if k.3 = 0 then (⟨k.1, (layN h k.2 s).1, tk (layN h k.2 s).2.us⟩, (layN h k.2 s).2.step (encN (nbN h (layN h k.2 s).1))) else (k, s)
theorem layK_old {h : Nat} {k : Kid h} (e : k.3 ≠ 0) (s : Ls) : layK h k s = (k, s) := by rw [layK, if_neg e]
theorem layK_new {h : Nat} {k : Kid h} (e : k.3 = 0) (s : Ls) : layK h k s = (⟨k.1, (layN h k.2 s).1, tk (layN h k.2 s).2.us⟩, (layN h k.2 s).2.step (encN (nbN h (layN h k.2 s).1))) := by rw [layK, if_pos e]

def erN : (h : Nat) → Nd h → Nd h
 | 0, l => l
 | h + 1, ks => List.map (fun k : Kid h => (⟨k.1, erN h k.2, 0⟩ : Kid h)) ks
def erK (h : Nat) (k : Kid h) : Kid h := ⟨k.1, erN h k.2, 0⟩
theorem er_flat : ∀ (h : Nat) (n : Nd h), flatN h (erN h n) = flatN h n
 | 0, _ => rfl
 | h + 1, ks => by
  have : ∀ L : List (Kid h), (L.map (erK h)).flatMap (fun k => flatN h k.2) = L.flatMap fun k => flatN h k.2 := by
   intro L
   rw [List.flatMap_map]
   congr 1
   funext k
   exact er_flat h k.2
  exact this ks
theorem er_size : ∀ (h : Nat) (n : Nd h), sizeN h (erN h n) = sizeN h n
 | 0, _ => rfl
 | h + 1, ks => by
  have : ∀ L : List (Kid h), 11 * (L.map (erK h)).length = 11 * L.length := by
   intro L
   rw [List.length_map]
  exact this ks
theorem er_cnt : ∀ (h : Nat) (n : Nd h), cntN h (erN h n) = cntN h n
 | 0, _ => rfl
 | h + 1, ks => by
  have : ∀ L : List (Kid h), 1 + ((L.map (erK h)).map fun k => cntN h k.2).sum = 1 + (L.map fun k => cntN h k.2).sum := by
   intro L
   rw [List.map_map]
   congr 3
   funext k
   exact er_cnt h k.2
  exact this ks
theorem er_nil : ∀ (h : Nat) (n : Nd h), nilN h (erN h n) = nilN h n
 | 0, _ => rfl
 | _ + 1, _ => rfl
theorem er_bef (h : Nat) (a b : Kid h) : Bef h (erK h a) (erK h b) ↔ Bef h a b := by unfold Bef erK; rw [er_flat]
theorem er_wf : ∀ (h : Nat) (f : ByteArray) (n : Nd h), WFN h f (erN h n) ↔ WFN h f n
 | 0, _, _ => Iff.rfl
 | h + 1, f, (ks : List (Kid h)) => by
  refine (WFN_succ h f (ks.map (erK h))).trans (Iff.trans ?_ (WFN_succ h f ks).symm)
  constructor
  ·rintro ⟨⟨n, x, r, e⟩, ho, ha⟩
   refine ⟨?_, ?_, fun a hm => (er_wf h a.1 a.2).1 (ha _ (List.mem_map.2 ⟨a, hm, rfl⟩))⟩
   ·cases ks with
    | nil => cases e
    | cons a r' =>
     rw [List.map_cons] at e
     have e1 := (List.cons.inj e).1
     refine ⟨a.2, a.3, r', ?_⟩
     have e2 : a.1 = f := congrArg KidOf.fr e1
     rw [← e2]
   ·exact (List.pairwise_map.1 ho).imp fun {a b} hab => (er_bef h a b).1 hab
  ·rintro ⟨⟨n, x, r, e⟩, ho, ha⟩
   refine ⟨⟨erN h n, 0, r.map (erK h), by rw [e]; rfl⟩, List.pairwise_map.2 (ho.imp fun {a b} hab => (er_bef h a b).2 hab), ?_⟩
   intro a hm
   obtain ⟨b, hb, rfl⟩ := List.mem_map.1 hm
   exact (er_wf h b.1 b.2).2 (ha b hb)
theorem er_full : ∀ (h : Nat) (n : Nd h), FullN h (erN h n) ↔ FullN h n
 | 0, _ => Iff.rfl
 | h + 1, (ks : List (Kid h)) => by
  refine (FullN_succ h (ks.map (erK h))).trans (Iff.trans ?_ (FullN_succ h ks).symm)
  constructor
  ·intro H a hm
   have := H _ (List.mem_map.2 ⟨a, hm, rfl⟩)
   unfold Rt erK at this
   rw [er_size] at this
   exact ⟨this.1, (er_full h a.2).1 this.2⟩
  ·intro H a hm
   obtain ⟨b, hb, rfl⟩ := List.mem_map.1 hm
   have := H b hb
   unfold Rt erK
   rw [er_size]
   exact ⟨this.1, (er_full h b.2).2 this.2⟩
theorem lay_er : ∀ (h : Nat) (n : Nd h) (s : Ls), erN h (layN h n s).1 = erN h n
 | 0, _, _ => rfl
 | h + 1, (ks : List (Kid h)), s => by
  have hk : ∀ (k : Kid h) (s : Ls), erK h (layK h k s).1 = erK h k := by
   intro k s
   unfold layK
   split
   ·unfold erK
    rw [lay_er h k.2 s]
   ·rfl
  have : ∀ (L : List (Kid h)) (s : Ls), (mapS (layK h) L s).1.map (erK h) = L.map (erK h) := by
   intro L
   induction L with
   | nil => intro s; rfl
   | cons a r ih => intro s; simp only [mapS, List.map_cons, hk, ih]
  exact this ks s
theorem of_er {h : Nat} {n n' : Nd h} (e : erN h n' = erN h n) : flatN h n' = flatN h n ∧ sizeN h n' = sizeN h n ∧ cntN h n' = cntN h n ∧ nilN h n' = nilN h n ∧ (∀ f, WFN h f n → WFN h f n') ∧ (FullN h n → FullN h n') :=
 ⟨by rw [← er_flat h n', e, er_flat], by rw [← er_size h n', e, er_size], by rw [← er_cnt h n', e, er_cnt], by rw [← er_nil h n', e, er_nil], fun f hw => (er_wf h f n').1 (by rw [e]; exact (er_wf h f n).2 hw), fun hf => (er_full h n').1 (by rw [e]; exact (er_full h n).2 hf)⟩

def frN : (h : Nat) → Nd h → Nat
 | 0, _ => 0
 | h + 1, ks => (List.map (fun k : Kid h => if k.3 = 0 then 1 + frN h k.2 else 0) ks).sum
inductive Stp : Ls → Ls → Prop
 | refl (s : Ls) : Stp s s
 | step {s s' : Ls} (h : Stp s s') (B : List UInt8) : Stp s (s'.step B)
theorem Stp.trans {a b c : Ls} (h : Stp a b) (g : Stp b c) : Stp a c := by
 induction g with
 | refl => exact h
 | step _ B ih => exact ih.step B
theorem lay_stp : ∀ (h : Nat) (n : Nd h) (s : Ls), Stp s (layN h n s).2 ∧ (layN h n s).2.ws.length = s.ws.length + frN h n
 | 0, _, s => ⟨.refl s, by simp [layN, frN]⟩
 | h + 1, ks, s => by
  have hk : ∀ (k : Kid h) (s : Ls), Stp s (layK h k s).2 ∧ (layK h k s).2.ws.length = s.ws.length + (if k.3 = 0 then 1 + frN h k.2 else 0) := by
   intro k s
   unfold layK
   obtain ⟨h1, h2⟩ := lay_stp h k.2 s
   split
   ·refine ⟨h1.step _, ?_⟩
    simp only [Ls.step, List.length_append, h2, List.length_singleton]
    omega
   ·exact ⟨.refl s, by simp⟩
  have : ∀ (L : List (Kid h)) (s : Ls), Stp s (mapS (layK h) L s).2 ∧ (mapS (layK h) L s).2.ws.length = s.ws.length + (L.map fun k : Kid h => if k.3 = 0 then 1 + frN h k.2 else 0).sum := by
   intro L
   induction L with
   | nil => intro s; exact ⟨.refl s, by simp [mapS]⟩
   | cons a r ih =>
    intro s
    obtain ⟨h1, h2⟩ := hk a s
    obtain ⟨h3, h4⟩ := ih (layK h a s).2
    refine ⟨h1.trans h3, ?_⟩
    simp only [mapS, List.map_cons, List.sum_cons]
    omega
  exact this ks s

end Go.Proofs.YtcklgafpgdhnaaaGreatDoor

namespace Go.Proofs.YtcklgafpgdhnaaaGreatDoor
open Go.RowKit

def TkI (us : List Nat) (w : World) (i : Value) (wr : World) : Prop := ∃ j : Nat, i = .int .i64 j ∧ (∀ k, k < j → k ∈ us) ∧ Kept [] w wr
def TkR (n b : Nat) (us : List Nat) (w : World) (e : Ending) (w' : World) : Prop :=
 (tk us < n ∧ e = .returned (.int .i64 (tk us : Nat)) ∧ SpM w' b (tk us :: us) ∧ Kept [b] w w') ∨ (n ≤ tk us ∧ Thr 3 e w' ∧ Kept [] w w')

theorem Take_any (n b : Nat) (us : List Nat) (w : World) (h : SpM w b us) (hu : ∀ u ∈ us, u < 1000) (hl : us.length < 70000) : Calls Tryz.prog 81 #[.agg #[.int .i64 n, .map (some b)]] w (TkR n b us w) := by
 have k1 := (Kept.refl [] w).alloc (.cells #[.int .i64 n, .map (some b)] 131)
 have n1 := heap_alloc_new w (.cells #[.int .i64 n, .map (some b)] 131)
 have HI : Hid (∀ (j : Nat) (W : World), j < 70000 → SpM W b us → Calls Tryz.prog 114 #[.agg #[.int .i64 n, .map (some b)], .int .i64 j] W fun e w' => e = .returned (.bool (decide (j ∈ us))) ∧ Kept [] W w') := fun j W hj hW => inUse_any n b us j W hW hj
 have HS : Hid (SpM w b us) := h
 have hb := h.lt
 clear h
 go_enter Tryz.func81, Tryz.ntmps81
 go_wp2_with fail
 go_loopw [3] (fun i wr => TkI us (w.alloc (.cells #[.int .i64 n, .map (some b)] 131)) i wr) (fun i _ => mxs us + 1 - (intOf i).toNat)
 case atStart => exact ⟨0, rfl, by omega, Kept.refl _ _⟩
 case round =>
  obtain ⟨j, rfl, hbel, hkr⟩ := hrel
  have hj : j < 70000 := by
   cases j with
   | zero => omega
   | succ j => have := hu j (hbel j (by omega)); omega
  have nr := hkr.get n1 (by simp)
  have HC : Hid (Calls _ _ _ _ _) := HI.out j wr hj ((HS.out.kept k1 (by simp)).kept hkr (by simp))
  by_cases hm : j ∈ us
  ·have hd : decide (j ∈ us) = true := by simpa using hm
   rw [hd] at HC
   have hmx := le_mxs hm
   go_wp2_with (first
    | (refine wpList_load_row rfl 131 (.tmp 1) rfl w.heap.size rfl 131 #[.int .i64 n, .map (some b)] (0, 0) _ nr Tryz.underlying131 rfl sspace ?_)
    | (go_at_call 114; refine HC.out.mono ?_; rintro e w2 ⟨rfl, hk2⟩))
   go_roundw
   case rel =>
    refine ⟨j + 1, by go_num, ?_, hkr.trans hk2⟩
    intro k hk
    by_cases e : k = j
    ·rw [e]; exact hm
    ·exact hbel k (by omega)
   case measure => simp [intOf]; omega
  ·have hd : decide (j ∈ us) = false := by simpa using hm
   rw [hd] at HC
   have ej := tk_eq hm hbel
   by_cases hlt : n ≤ j
   ·have g1 : (n : Int) ≤ j := by omega
    go_wp2_with (first
     | (refine wpList_load_row rfl 131 (.tmp 1) rfl w.heap.size rfl 131 #[.int .i64 n, .map (some b)] (0, 0) _ nr Tryz.underlying131 rfl sspace ?_)
     | (go_at_call 114; refine HC.out.mono ?_; rintro e w2 ⟨rfl, hk2⟩; have c2 : w2.cell? ⟨w.heap.size, 0, none⟩ = some (.int .i64 n) := cellAt (hk2.get nr (by simp)) rfl)
     | (go_at_call 62; refine (Throw_v _ _ _).mono ?_; rintro e w4 ⟨ht, hk4⟩; obtain ⟨f, o, rfl, hf⟩ := ht.ex))
    exact ⟨rfl, Or.inr ⟨by omega, ht, ((k1.trans hkr).trans hk2).trans hk4⟩⟩
   ·have g1 : ¬ (n : Int) ≤ j := by omega
    have HU : Hid (∀ W, SpM W b us → Calls Tryz.prog 78 #[.agg #[.int .i64 n, .map (some b)], .int .i64 j] W fun e w' => e = .returned (.tuple #[]) ∧ SpM w' b (j :: us) ∧ Kept [b] W w') := fun W hW => Use_ok n b us j W hW hj hl (by omega) hm
    have HE : Hid (tk us = j) := ej
    clear ej
    go_wp2_with (first
     | (refine wpList_load_row rfl 131 (.tmp 1) rfl w.heap.size rfl 131 #[.int .i64 n, .map (some b)] (0, 0) _ nr Tryz.underlying131 rfl sspace ?_)
     | (go_at_call 114; refine HC.out.mono ?_; rintro e w2 ⟨rfl, hk2⟩; have n2 := hk2.get nr (by simp); have c2 : w2.cell? ⟨w.heap.size, 0, none⟩ = some (.int .i64 n) := cellAt n2 rfl; have s2 := (((HS.out.kept k1 (by simp)).kept hkr (by simp)).kept hk2 (by simp)))
     | (refine wpList_load_row rfl 131 (.tmp 1) rfl w.heap.size rfl 131 #[.int .i64 n, .map (some b)] (0, 0) _ n2 Tryz.underlying131 rfl sspace ?_)
     | (go_at_call 78; refine (HU.out _ s2).mono ?_; rintro e w3 ⟨rfl, s3, hk3⟩))
    go_ret
    refine Or.inl ?_
    rw [HE.out]
    exact ⟨by omega, rfl, s3, (((k1.trans hkr).trans hk2).mono (by simp)).trans hk3⟩

end Go.Proofs.YtcklgafpgdhnaaaGreatDoor
