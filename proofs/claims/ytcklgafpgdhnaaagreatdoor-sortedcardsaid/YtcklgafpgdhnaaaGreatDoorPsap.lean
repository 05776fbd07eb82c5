import Derived.Test.YtcklgafpgdhnaaaGreatDoorPsaf
import Derived.Test.YtcklgafpgdhnaaaGreatDoorPsao
import Derived.Test.YtcklgafpgdhnaaaGreatDoorPsae
import Derived.Test.YtcklgafpgdhnaaaGreatDoorPsac
import Derived.Test.YtcklgafpgdhnaaaGreatDoorPsad
import Derived.Lib.AppendStr
import Derived.Test.YtcklgafpgdhnaaaGreatDoorPsab
set_option maxRecDepth 100000
set_option maxHeartbeats 4000000
open Go.Proofs.Tryz
open Go.Act renaming put → zP
open List renaming getElem_toArray → zA, getElem_cons_succ → zB, getElem_cons_zero → zC, setIfInBounds_toArray → zD, set_cons_succ → zE, set_cons_zero → zF
namespace Go.Proofs.YtcklgafpgdhnaaaGreatDoor
open Go.RowKit
def mapS {α β σ : Type} (f : α -> σ -> β × σ) : List α -> σ -> List β × σ
 | [], s => ([], s)
 | x :: l, s => ((f x s).1 :: (mapS f l (f x s).2).1, (mapS f l (f x s).2).2)
theorem Q8n {α β σ : Type} (f : α -> σ -> β × σ) (l : List α) : ∀ s : σ, (mapS f l s).1.length = l.length := by
 induction l with
 | nil => intro s; rfl
 | cons y l ih => intro s; simp [mapS, ih]
def nbN : (h : Nat) -> Nd h -> Nb
 | 0, l => .leaf l
 | h + 1, ks => .branch (List.map (fun k : Kid h => (k.1, k.3)) ks)
def tkF (us : List Nat) : Nat -> Nat -> Nat
 | 0, i => i
 | f + 1, i => if i ∈ us then tkF us f (i + 1) else i
def mxs (us : List Nat) : Nat := us.foldr (fun a b => max a b) 0
theorem Q8o {us : List Nat} {i : Nat} (h : i ∈ us) : i <= mxs us := by
 induction us with
 | nil => cases h
 | cons a r ih =>
  have e : mxs (a :: r) = max a (mxs r) := rfl
  rw [e]
  rcases List.mem_cons.1 h with rfl | h
  ·omega
  ·have := ih h
   omega
def tk (us : List Nat) : Nat := tkF us (mxs us + 1) 0
theorem Q8p (us : List Nat) : ∀ f i, mxs us + 1 <= f + i -> tkF us f i ∉ us
 | 0, i, h => fun hm => by have := Q8o hm; simp only [tkF] at this; omega
 | f + 1, i, h => by
  rw [tkF]
  split
  ·exact Q8p us f (i + 1) (by omega)
  ·assumption
theorem Q8q (us : List Nat) : tk us ∉ us := Q8p us _ _ (by omega)
theorem Q8r (us : List Nat) : ∀ f i, (∀ j, j < i -> j ∈ us) -> ∀ j, j < tkF us f i -> j ∈ us
 | 0, _, h, j, hj => h j hj
 | f + 1, i, h, j, hj => by
  rw [tkF] at hj
  split at hj
  ·rename_i hi
   refine Q8r us f (i + 1) (fun j hj => ?_) j hj
   by_cases e : j = i
   ·rw [e]; exact hi
   ·exact h j (by omega)
  ·exact h j hj
theorem Q8s (us : List Nat) {j : Nat} (h : j < tk us) : j ∈ us := Q8r us _ 0 (by omega) j h
theorem Q8t {us : List Nat} {i : Nat} (h1 : i ∉ us) (h2 : ∀ j, j < i -> j ∈ us) : tk us = i := by
 rcases Nat.lt_trichotomy (tk us) i with h | h | h
 ·exact absurd (h2 _ h) (Q8q us)
 ·exact h
 ·exact absurd (Q8s us h) h1
theorem Q8u : ∀ (n : Nat) (us : List Nat), (∀ j, j < n -> j ∈ us) -> n <= us.length
 | 0, _, _ => Nat.zero_le _
 | n + 1, us, h => by
  have hn := h n (by omega)
  have := Q8u n (us.erase n) fun j hj => (List.mem_erase_of_ne (by omega)).2 (h j (by omega))
  rw [List.length_erase_of_mem hn] at this
  have : 0 < us.length := List.length_pos_of_mem hn
  omega
theorem Q8v {us : List Nat} {n : Nat} (h : us.length < n) : tk us < n := by
 rcases Nat.lt_or_ge (tk us) n with h' | h'
 ·exact h'
 ·have := Q8u n us fun j hj => Q8s us (by omega)
  omega
structure Ls where
 us : List Nat
 ws : List (Nat × List UInt8)
def Ls.step (s : Ls) (B : List UInt8) : Ls := ⟨tk s.us :: s.us, s.ws ++ [(tk s.us, B)]⟩
def layN : (h : Nat) -> Nd h -> Ls -> Nd h × Ls
 | 0, l, s => (l, s)
 | h + 1, ks, s => mapS (fun (k : Kid h) (s : Ls) => if k.3 = 0 then (⟨k.1, (layN h k.2 s).1, tk (layN h k.2 s).2.us⟩, (layN h k.2 s).2.step (encN (nbN h (layN h k.2 s).1))) else (k, s)) ks s
def layK (h : Nat) (k : Kid h) (s : Ls) : Kid h × Ls := if k.3 = 0 then (⟨k.1, (layN h k.2 s).1, tk (layN h k.2 s).2.us⟩, (layN h k.2 s).2.step (encN (nbN h (layN h k.2 s).1))) else (k, s)
theorem Q8w {h : Nat} {k : Kid h} (e : k.3 ≠ 0) (s : Ls) : layK h k s = (k, s) := by rw [layK, if_neg e]
theorem Q8x {h : Nat} {k : Kid h} (e : k.3 = 0) (s : Ls) : layK h k s = (⟨k.1, (layN h k.2 s).1, tk (layN h k.2 s).2.us⟩, (layN h k.2 s).2.step (encN (nbN h (layN h k.2 s).1))) := by rw [layK, if_pos e]
def erN : (h : Nat) -> Nd h -> Nd h
 | 0, l => l
 | h + 1, ks => List.map (fun k : Kid h => (⟨k.1, erN h k.2, 0⟩ : Kid h)) ks
def erK (h : Nat) (k : Kid h) : Kid h := ⟨k.1, erN h k.2, 0⟩
theorem Q8y : ∀ (h : Nat) (n : Nd h), Q49 h (erN h n) = Q49 h n
 | 0, _ => rfl
 | h + 1, ks => by
  have : ∀ L : List (Kid h), (L.map (erK h)).flatMap (fun k => Q49 h k.2) = L.flatMap fun k => Q49 h k.2 := by
   intro L
   rw [List.flatMap_map]
   congr 1
   funext k
   exact Q8y h k.2
  exact this ks
theorem Q8z : ∀ (h : Nat) (n : Nd h), Q4a h (erN h n) = Q4a h n
 | 0, _ => rfl
 | h + 1, ks => by
  have : ∀ L : List (Kid h), 11 * (L.map (erK h)).length = 11 * L.length := by
   intro L
   rw [List.length_map]
  exact this ks
theorem Q8A : ∀ (h : Nat) (n : Nd h), cntN h (erN h n) = cntN h n
 | 0, _ => rfl
 | h + 1, ks => by
  have : ∀ L : List (Kid h), 1 + ((L.map (erK h)).map fun k => cntN h k.2).sum = 1 + (L.map fun k => cntN h k.2).sum := by
   intro L
   rw [List.map_map]
   congr 3
   funext k
   exact Q8A h k.2
  exact this ks
theorem Q8B : ∀ (h : Nat) (n : Nd h), nilN h (erN h n) = nilN h n
 | 0, _ => rfl
 | _ + 1, _ => rfl
theorem Q8C (h : Nat) (a b : Kid h) : Bef h (erK h a) (erK h b) ↔ Bef h a b := by unfold Bef erK; rw [Q8y]
theorem Q8D : ∀ (h : Nat) (f : ByteArray) (n : Nd h), WFN h f (erN h n) ↔ WFN h f n
 | 0, _, _ => Iff.rfl
 | h + 1, f, (ks : List (Kid h)) => by
  refine (Q4i h f (ks.map (erK h))).trans (Iff.trans ?_ (Q4i h f ks).symm)
  constructor
  ·rintro ⟨⟨n, x, r, e⟩, ho, ha⟩
   refine ⟨?_, ?_, fun a hm => (Q8D h a.1 a.2).1 (ha _ (List.mem_map.2 ⟨a, hm, rfl⟩))⟩
   ·cases ks with
    | nil => cases e
    | cons a r' =>
     rw [List.map_cons] at e
     have e1 := (List.cons.inj e).1
     refine ⟨a.2, a.3, r', ?_⟩
     have e2 : a.1 = f := congrArg Q48.fr e1
     rw [<- e2]
   ·exact (List.pairwise_map.1 ho).imp fun {a b} hab => (Q8C h a b).1 hab
  ·rintro ⟨⟨n, x, r, e⟩, ho, ha⟩
   refine ⟨⟨erN h n, 0, r.map (erK h), by rw [e]; rfl⟩, List.pairwise_map.2 (ho.imp fun {a b} hab => (Q8C h a b).2 hab), ?_⟩
   intro a hm
   obtain ⟨b, hb, rfl⟩ := List.mem_map.1 hm
   exact (Q8D h b.1 b.2).2 (ha b hb)
theorem Q8E : ∀ (h : Nat) (n : Nd h), Q4j h (erN h n) ↔ Q4j h n
 | 0, _ => Iff.rfl
 | h + 1, (ks : List (Kid h)) => by
  refine (Q4k h (ks.map (erK h))).trans (Iff.trans ?_ (Q4k h ks).symm)
  constructor
  ·intro H a hm
   have := H _ (List.mem_map.2 ⟨a, hm, rfl⟩)
   unfold Rt erK at this
   rw [Q8z] at this
   exact ⟨this.1, (Q8E h a.2).1 this.2⟩
  ·intro H a hm
   obtain ⟨b, hb, rfl⟩ := List.mem_map.1 hm
   have := H b hb
   unfold Rt erK
   rw [Q8z]
   exact ⟨this.1, (Q8E h b.2).2 this.2⟩
theorem Q8F : ∀ (h : Nat) (n : Nd h) (s : Ls), erN h (layN h n s).1 = erN h n
 | 0, _, _ => rfl
 | h + 1, (ks : List (Kid h)), s => by
  have hk : ∀ (k : Kid h) (s : Ls), erK h (layK h k s).1 = erK h k := by
   intro k s
   unfold layK
   split
   ·unfold erK
    rw [Q8F h k.2 s]
   ·rfl
  have : ∀ (L : List (Kid h)) (s : Ls), (mapS (layK h) L s).1.map (erK h) = L.map (erK h) := by
   intro L
   induction L with
   | nil => intro s; rfl
   | cons a r ih => intro s; simp only [mapS, List.map_cons, hk, ih]
  exact this ks s
theorem Q8G {h : Nat} {n n' : Nd h} (e : erN h n' = erN h n) : Q49 h n' = Q49 h n /\ Q4a h n' = Q4a h n /\ cntN h n' = cntN h n /\ nilN h n' = nilN h n /\ (∀ f, WFN h f n -> WFN h f n') /\ (Q4j h n -> Q4j h n') :=
 ⟨by rw [<- Q8y h n', e, Q8y], by rw [<- Q8z h n', e, Q8z], by rw [<- Q8A h n', e, Q8A], by rw [<- Q8B h n', e, Q8B], fun f hw => (Q8D h f n').1 (by rw [e]; exact (Q8D h f n).2 hw), fun hf => (Q8E h n').1 (by rw [e]; exact (Q8E h n).2 hf)⟩
def frN : (h : Nat) -> Nd h -> Nat
 | 0, _ => 0
 | h + 1, ks => (List.map (fun k : Kid h => if k.3 = 0 then 1 + frN h k.2 else 0) ks).sum
inductive Stp : Ls -> Ls -> Prop
 | refl (s : Ls) : Stp s s
 | step {s s' : Ls} (h : Stp s s') (B : List UInt8) : Stp s (s'.step B)
theorem Stp.trans {a b c : Ls} (h : Stp a b) (g : Stp b c) : Stp a c := by
 induction g with
 | refl => exact h
 | step _ B ih => exact ih.step B
theorem Q8H : ∀ (h : Nat) (n : Nd h) (s : Ls), Stp s (layN h n s).2 /\ (layN h n s).2.ws.length = s.ws.length + frN h n
 | 0, _, s => ⟨.refl s, by simp [layN, frN]⟩
 | h + 1, ks, s => by
  have hk : ∀ (k : Kid h) (s : Ls), Stp s (layK h k s).2 /\ (layK h k s).2.ws.length = s.ws.length + (if k.3 = 0 then 1 + frN h k.2 else 0) := by
   intro k s
   unfold layK
   obtain ⟨h1, h2⟩ := Q8H h k.2 s
   split
   ·refine ⟨h1.step _, ?_⟩
    simp only [Ls.step, List.length_append, h2, List.length_singleton]
    omega
   ·exact ⟨.refl s, by simp⟩
  have : ∀ (L : List (Kid h)) (s : Ls), Stp s (mapS (layK h) L s).2 /\ (mapS (layK h) L s).2.ws.length = s.ws.length + (L.map fun k : Kid h => if k.3 = 0 then 1 + frN h k.2 else 0).sum := by
   intro L
   induction L with
   | nil => intro s; exact ⟨.refl s, by simp [mapS]⟩
   | cons a r ih =>
    intro s
    obtain ⟨h1, h2⟩ := hk a s
    obtain ⟨h3, h4⟩ := ih (layK h a s).2
    refine ⟨h1.trans h3, ?_⟩
    simp only [mapS, List.map_cons, List.sum_cons]
    omega
  exact this ks s
def TkI (us : List Nat) (w : World) (i : Value) (wr : World) : Prop := ∃ j : Nat, i = .int .i64 j /\ (∀ k, k < j -> k ∈ us) /\ Kept [] w wr
def TkR (n b : Nat) (us : List Nat) (w : World) (e : Ending) (w' : World) : Prop :=
 (tk us < n /\ e = .returned (.int .i64 (tk us : Nat)) /\ SpM w' b (tk us :: us) /\ Kept [b] w w') \/ (n <= tk us /\ Thr 3 e w' /\ Kept [] w w')
theorem Q8I (n b : Nat) (us : List Nat) (w : World) (h : SpM w b us) (hu : ∀ u ∈ us, u < 1000) (hl : us.length < 70000) : Calls prog 81 #[.agg #[.int .i64 n, .map (some b)]] w (TkR n b us w) := by
 have k1 := (Kept.refl [] w).alloc (.cells #[.int .i64 n, .map (some b)] 131)
 have n1 := heap_alloc_new w (.cells #[.int .i64 n, .map (some b)] 131)
 have HI : Hid (∀ (j : Nat) (W : World), j < 70000 -> SpM W b us -> Calls prog 114 #[.agg #[.int .i64 n, .map (some b)], .int .i64 j] W fun e w' => e = .returned (.bool (decide (j ∈ us))) /\ Kept [] W w') := fun j W hj hW => Q37 n b us j W hW hj
 have HS : Hid (SpM w b us) := h
 have hb := h.lt
 clear h
 go_enter func81, ntmps81
 go_wp2_with fail
 go_loopw [3] (fun i wr => TkI us (w.alloc (.cells #[.int .i64 n, .map (some b)] 131)) i wr) (fun i _ => mxs us + 1 - (intOf i).toNat)
 case atStart => exact ⟨0, rfl, by omega, Kept.refl _ _⟩
 case round =>
  obtain ⟨j, rfl, hbel, hkr⟩ := hrel
  have hj : j < 70000 := by
   cases j with
   | zero => omega
   | succ j => have := hu j (hbel j (by omega)); omega
  have nr := hkr.get n1 (by simp)
  have HC : Hid (Calls _ _ _ _ _) := HI.out j wr hj ((HS.out.kept k1 (by simp)).kept hkr (by simp))
  by_cases hm : j ∈ us
  ·have hd : decide (j ∈ us) = true := by simpa using hm
   rw [hd] at HC
   have hmx := Q8o hm
   go_wp2_with (first
    | (refine wpList_load_row rfl 131 (.tmp 1) rfl w.heap.size rfl 131 #[.int .i64 n, .map (some b)] (0, 0) _ nr underlying131 rfl Q36 ?_)
    | (go_at_call 114; refine HC.out.mono ?_; rintro e w2 ⟨rfl, hk2⟩))
   go_roundw
   case rel =>
    refine ⟨j + 1, by go_num, ?_, hkr.trans hk2⟩
    intro k hk
    by_cases e : k = j
    ·rw [e]; exact hm
    ·exact hbel k (by omega)
   case measure => simp [intOf]; omega
  ·have hd : decide (j ∈ us) = false := by simpa using hm
   rw [hd] at HC
   have ej := Q8t hm hbel
   by_cases hlt : n <= j
   ·have g1 : (n : Int) <= j := by omega
    go_wp2_with (first
     | (refine wpList_load_row rfl 131 (.tmp 1) rfl w.heap.size rfl 131 #[.int .i64 n, .map (some b)] (0, 0) _ nr underlying131 rfl Q36 ?_)
     | (go_at_call 114; refine HC.out.mono ?_; rintro e w2 ⟨rfl, hk2⟩; have c2 : w2.cell? ⟨w.heap.size, 0, none⟩ = some (.int .i64 n) := Q02 (hk2.get nr (by simp)) rfl)
     | (go_at_call 62; refine (Q2y _ _ _).mono ?_; rintro e w4 ⟨ht, hk4⟩; obtain ⟨f, o, rfl, hf⟩ := ht.ex))
    exact ⟨rfl, Or.inr ⟨by omega, ht, ((k1.trans hkr).trans hk2).trans hk4⟩⟩
   ·have g1 : ¬ (n : Int) <= j := by omega
    have HU : Hid (∀ W, SpM W b us -> Calls prog 78 #[.agg #[.int .i64 n, .map (some b)], .int .i64 j] W fun e w' => e = .returned (.tuple #[]) /\ SpM w' b (j :: us) /\ Kept [b] W w') := fun W hW => Q38 n b us j W hW hj hl (by omega) hm
    have HE : Hid (tk us = j) := ej
    clear ej
    go_wp2_with (first
     | (refine wpList_load_row rfl 131 (.tmp 1) rfl w.heap.size rfl 131 #[.int .i64 n, .map (some b)] (0, 0) _ nr underlying131 rfl Q36 ?_)
     | (go_at_call 114; refine HC.out.mono ?_; rintro e w2 ⟨rfl, hk2⟩; have n2 := hk2.get nr (by simp); have c2 : w2.cell? ⟨w.heap.size, 0, none⟩ = some (.int .i64 n) := Q02 n2 rfl; have s2 := (((HS.out.kept k1 (by simp)).kept hkr (by simp)).kept hk2 (by simp)))
     | (refine wpList_load_row rfl 131 (.tmp 1) rfl w.heap.size rfl 131 #[.int .i64 n, .map (some b)] (0, 0) _ n2 underlying131 rfl Q36 ?_)
     | (go_at_call 78; refine (HU.out _ s2).mono ?_; rintro e w3 ⟨rfl, s3, hk3⟩))
    go_ret
    refine Or.inl ?_
    rw [HE.out]
    exact ⟨by omega, rfl, s3, (((k1.trans hkr).trans hk2).mono (by simp)).trans hk3⟩
def Bf (base : Nat) (w : World) (v : Value) (L : List UInt8) : Prop := w.ownsRow base 5 1 v L.length (u8s L)
theorem Q8J {v : Value} {x : Nat} (h : x ∈ v.ownBlock.toList) : v.ownBlock = some x := by
 cases hu : v.ownBlock with
 | none => rw [hu] at h; cases h
 | some y => rw [hu] at h; simp at h; rw [h]
theorem Bf.keep {base : Nat} {w w' : World} {v : Value} {L : List UInt8} (h : Bf base w v L) (k : Kept [] w w') : Bf base w' v L := Q0T h k (by simp)
theorem Bf.off {base : Nat} {w : World} {v : Value} {L : List UInt8} (h : Bf base w v L) {y : Nat} {cs : Array Value} {t : TypeId} {fr : Nat × Nat} (hy : w.heap[y]? = some (.cells cs t fr)) (ht : t ≠ 5) : y ∉ v.ownBlock.toList := by
 intro hm
 obtain ⟨_, ⟨rfl, _⟩ | ⟨g, cap, cur, rfl, _, hg, _⟩⟩ := h
 ·simp [Value.ownBlock] at hm
 ·have e := Q8J hm
  simp [Value.ownBlock] at e
  subst e
  rw [hg] at hy
  cases hy
  exact ht rfl
structure Kt (base : Nat) (w w' : World) : Prop where
 bl : Below base w w'
 row : ∀ (y : Nat) (cs : Array Value) (t : TypeId) (fr : Nat × Nat), t ≠ 5 -> w.heap[y]? = some (.cells cs t fr) -> w'.heap[y]? = some (.cells cs t fr)
theorem Kt.trans {base : Nat} {a b c : World} (h : Kt base a b) (g : Kt base b c) : Kt base a c := ⟨h.bl.trans g.bl, fun y cs t fr ht hy => g.row y cs t fr ht (h.row y cs t fr ht hy)⟩
theorem Kt.of {base : Nat} {w w' : World} (k : Kept [] w w') (hb : base <= w.heap.size) : Kt base w w' := ⟨⟨k.os, k.tape, k.output, k.size, fun i hi => k.block i (by omega) (by simp)⟩, fun y cs t fr _ hy => k.get hy (by simp)⟩
theorem Bf.kt {base : Nat} {w w' : World} {v : Value} {L : List UInt8} (h : Bf base w v L) (k : Kept v.ownBlock.toList w w') (hb : base <= w.heap.size) : Kt base w w' :=
 ⟨⟨k.os, k.tape, k.output, k.size, fun i hi => k.block i (by omega) (fun hm => by have := (h.lt i (Q8J hm)).1; omega)⟩, fun y cs t fr ht hy => k.get hy (h.off hy ht)⟩
def BfR (base : Nat) (L : List UInt8) (w : World) (e : Ending) (w' : World) : Prop := ∃ v', e = .returned v' /\ Bf base w' v' L /\ Kt base w w'
theorem iu8' : (prog.info? 5).map (fun i => (i.zero, i.size, i.bytes)) = some (some (.int .u8 0), 1, 1) := by kernel_rfl
theorem Q8K (w : World) (x : Int) : (Instr.buildSlice 60 1 #[(0, .int .u8 x)]).run prog w = .ok (.slice (some ⟨w.heap.size, 0, none⟩) 1 1) (w.alloc (.cells #[.int .u8 x] 5)) := by kernel_rfl
theorem Q8L (n : Nat) : (n : Int) % 256 = ((UInt8.ofNat n).toNat : Int) := by
 rw [UInt8.toNat_ofNat']
 omega
theorem Q8M (base : Nat) (v : Value) (L : List UInt8) (s : ByteArray) (w : World) (h : Bf base w v L) (hb : base <= w.heap.size) (hl : L.length <= 10000) (hs : s.size <= 255) : Calls prog 249 #[v, .string s] w (BfR base (L ++ tx s) w) := by
 obtain ⟨ie, hie, hz1, hz2, hz3⟩ := info_parts iu8'
 have hx : (s.size : Int) = ((UInt8.ofNat s.size).toNat : Int) := by have := Q8L s.size; omega
 have k1 := (Kept.refl [] w).alloc (.cells #[.int .u8 (s.size : Int)] 5)
 have n1 := heap_alloc_new w (.cells #[.int .u8 (s.size : Int)] 5)
 have h1 : Bf base (w.alloc (.cells #[.int .u8 (s.size : Int)] 5)) v L := h.keep k1
 have hsz := World.size_alloc w (.cells #[.int .u8 (s.size : Int)] 5)
 obtain ⟨v2, w2, hr2, hown2, hg2, -⟩ := run_append_own (P := prog) (w.alloc (.cells #[.int .u8 (s.size : Int)] 5)) base 60 60 5 ie (.int .u8 0) 1 1 underlying60 hie hz1 hz2 hz3 rfl (by decide) v L.length (u8s L) h1 ⟨w.heap.size, 0, none⟩ 1 1 [.int .u8 (s.size : Int)] rfl (by
  intro j u hj
  cases j with
  | zero => simp at hj; subst hj; exact Q02 n1 rfl
  | succ j => simp at hj) (by intro u hu; simp at hu; subst hu; rfl) (by unfold maxLen; omega) (by omega) (by omega)
 have t2 := h1.kt (Q1x hg2 v.ownBlock.toList (by intro k hk; rw [hk]; simp)) (by omega)
 have e2 : u8s L ++ [Value.int .u8 (s.size : Int)] = u8s (L ++ [UInt8.ofNat s.size]) := by rw [hx]; simp [u8s]
 rw [e2] at hown2
 have hown2' : Bf base w2 v2 (L ++ [UInt8.ofNat s.size]) := by unfold Bf; rw [List.length_append]; exact hown2
 have hsz2 := t2.bl.size
 obtain ⟨v3, w3, hr3, hown3, hg3, -⟩ := Lib.run_append_own_string (P := prog) w2 base 60 9 60 5 ie underlying60 underlying9 hie hz1 hz2 hz3 v2 (L.length + 1) (u8s (L ++ [UInt8.ofNat s.size])) hown2 s (by unfold maxLen; omega) (by omega) (by omega)
 have t3 := hown2'.kt (Q1x hg3 v2.ownBlock.toList (by intro k hk; rw [hk]; simp)) (by omega)
 have e3 : u8s (L ++ [UInt8.ofNat s.size]) ++ Lib.strCells s = u8s (L ++ tx s) := by simp [u8s, tx, Lib.strCells]
 rw [e3] at hown3
 have el : L.length + 1 + s.size = (L ++ tx s).length := by rw [List.length_append, Q3w]; omega
 rw [el] at hown3
 have FIN : Hid (BfR base (L ++ tx s) w (.returned v3) w3) := ⟨v3, rfl, hown3, ((Kt.of k1 hb).trans t2).trans t3⟩
 clear hown3 hown2 hown2' t2 t3 hg2 hg3 e2 e3 h1 n1 hx
 go_enter func249, ntmps249
 go_wp2_with (first
  | (refine Q04 rfl _ _ (Q0o 60 1 (.tmp 8) rfl (.int .u8 (s.size : Int)) (by rfl) _ (Q8K _ _)) ?_)
  | (at_builtin; refine Q04 rfl _ _ (Q0n (.tmp 5) (.tmp 9) 60 rfl v (.slice (some ⟨w.heap.size, 0, none⟩) 1 1) (by rfl) (by rfl) _ hr2) ?_)
  | (at_builtin; refine Q04 rfl _ _ (Q1n (.tmp 10) (.tmp 11) 60 9 rfl v2 (.string s) (by rfl) (by rfl) _ hr3) ?_))
 go_ret
 exact FIN.out
theorem Q8N (args : Array Value) (w : World) : (callFunc 249 args).run prog w = .ok (.enter 249 args) w := Q31 func249 (by kernel_rfl) (by kernel_rfl) args w
def RwS (g : Nat) (cs : Array Value) (t : TypeId) (W : World) : Prop := W.heap[g]? = some (.cells cs t (0, 0))
theorem Q8O (base : Nat) (v : Value) (L : List UInt8) (p : Pr) (w : World) (h : Bf base w v L) (hb : base <= w.heap.size) (hl : L.length <= 9000) (h1 : p.1.size <= 255) (h2 : p.2.size <= 255) : Calls prog 247 #[.agg #[.string p.1, .string p.2], v] w (BfR base (L ++ pkP p) w) := by
 have k1 := (Kept.refl [] w).alloc (.cells #[.string p.1, .string p.2] 122)
 have n1 := heap_alloc_new w (.cells #[.string p.1, .string p.2] 122)
 have hS : RwS w.heap.size #[.string p.1, .string p.2] 122 (w.alloc (.cells #[.string p.1, .string p.2] 122)).drew := n1
 have hB1 : Bf base (w.alloc (.cells #[.string p.1, .string p.2] 122)).drew v L := h.keep k1.drew
 have K1 : Kt base w (w.alloc (.cells #[.string p.1, .string p.2] 122)).drew := Kt.of k1.drew hb
 have hs1 : base <= (w.alloc (.cells #[.string p.1, .string p.2] 122)).drew.heap.size := by have := k1.drew.size; omega
 generalize hW : (w.alloc (.cells #[.string p.1, .string p.2] 122)).drew = w1 at *
 have HW : Hid _ := hW
 clear hW n1 k1 h
 go_enter func247, ntmps247
 go_wp2_with fail
 refine Q1j (RwS w.heap.size #[.string p.1, .string p.2] 122) (by kernel_rfl) ?_
 rw [HW.out]
 refine hu 0 v rfl (fun W hW => by rfl) hS ?_
 simp only [zP, zA, zC, zD, zE, zF]
 refine hu 1 (.pointer (some ⟨w.heap.size, 0 + 0, none⟩)) rfl (fun W hW => Q33 122 (.tmp 2) 0 rfl w.heap.size 0 rfl 0 (by rfl)) hS ?_
 simp only [zP, zA, zB, zC, zD, zE, zF]
 refine hu 2 (.pointer (some ⟨w.heap.size, 0 + 0 + 0, none⟩)) rfl (fun W hW => Q33 41 (.tmp 6) 0 rfl w.heap.size (0 + 0) rfl 0 (by rfl)) hS ?_
 simp only [zP, zA, zB, zC, zD, zE, zF]
 refine hu 3 (.string p.1) rfl (fun W hW => Q0l 9 (.tmp 7) rfl ⟨w.heap.size, 0 + 0 + 0, none⟩ rfl _ (Q0p underlying9 rfl (Q02 hW rfl))) hS ?_
 simp only [zP, zA, zB, zC, zD, zE, zF]
 refine hu 5 (.pointer (some ⟨w.heap.size, 0 + 0, none⟩)) rfl (fun W hW => Q33 122 (.tmp 2) 0 rfl w.heap.size 0 rfl 0 (by rfl)) hS ?_
 simp only [zP, zA, zB, zC, zD, zE, zF]
 refine hu 6 (.pointer (some ⟨w.heap.size, 0 + 0 + 1, none⟩)) rfl (fun W hW => Q33 41 (.tmp 10) 1 rfl w.heap.size (0 + 0) rfl 1 (by rfl)) hS ?_
 simp only [zP, zA, zB, zC, zD, zE, zF]
 refine hu 7 (.string p.2) rfl (fun W hW => Q0l 9 (.tmp 11) rfl ⟨w.heap.size, 0 + 0 + 1, none⟩ rfl _ (Q0p underlying9 rfl (Q02 hW rfl))) hS ?_
 simp only [zP, zA, zB, zC, zD, zE, zF]
 refine Q0j (i := 4) (by kernel_rfl) (Q2Z rfl (by rfl) 249 #[v, .string p.1] (Q32 _ _ _ rfl _ (by simp [Act.eval]) (Q8N _ _)) _ (Q8M base v L p.1 w1 hB1 hs1 (by omega) h1) ?_)
 rintro e w2 ⟨v2, rfl, hB2, K2⟩
 have hS2 := K2.row _ _ _ _ (by decide) hS
 refine ⟨_, rfl, hS2, ?_⟩
 simp only [zP, zA, zB, zC, zD, zE, zF]
 have hs2 : base <= w2.heap.size := by have := K2.bl.size; omega
 have hl2 : (L ++ tx p.1).length <= 10000 := by rw [List.length_append, Q3w]; omega
 refine Q0j (i := 8) (by kernel_rfl) (Q2Z rfl (by rfl) 249 #[v2, .string p.2] (Q32 _ _ _ rfl _ (by simp [Act.eval]) (Q8N _ _)) _ (Q8M base v2 (L ++ tx p.1) p.2 w2 hB2 hs2 hl2 h2) ?_)
 rintro e w3 ⟨v3, rfl, hB3, K3⟩
 refine ⟨_, rfl, K3.row _ _ _ _ (by decide) hS2, ?_⟩
 simp only [zP, zA, zB, zC, zD, zE, zF]
 refine Q0j (i := 9) (by kernel_rfl) (Q1r rfl (by rfl) v3 w3 (by rfl) ⟨K3.row _ _ _ _ (by decide) hS2, ?_⟩)
 simp only [zP, zA, zB, zC, zD, zE, zF]
 refine wpAnyH_done (by kernel_rfl) ?_ _
 have FIN : Hid (BfR base (L ++ pkP p) w (.returned v3) w3) := ⟨v3, rfl, by rw [pkP, <- List.append_assoc]; exact hB3, (K1.trans K2).trans K3⟩
 clear hB3 hB2 hB1 hS hS2 K1 K2 K3
 go_wp2
 go_ret
 exact FIN.out
theorem Q8P {P : Program} {o : Oper} {a : Act} {w : World} (x : Operand) (t : TypeId) (ho : o.op = .call { callee := .builtin .len, args := #[x], argTypes := #[t] }) (s : ByteArray) (hx : a.eval x = .string s) (hu : P.underlying t = some .string) :
  (execOp a.eval o).run P w = .ok (.value (.int .i64 s.size)) w := by
 have hl : (Builtin.len_ #[t] o.type #[.string s]).run P w = .ok (goInt s.size) w := by
  simp [Builtin.len_, run_underlying hu]
 simp [execOp, ho, resolve, invoke, builtin, hx, hl, goInt]
theorem z10 (w : World) : (Instr.alloc 322 true (.tuple #[])).run prog w = .ok (.pointer (some ⟨w.heap.size, 0, none⟩)) (w.alloc (.cells (u8s (List.replicate 10 0)).toArray 322)) := by kernel_rfl
theorem Q8Q (W : World) (g : Nat) : ∀ l : Nat, l <= 8 -> (Instr.sliceAt 322 (.pointer (some ⟨g, 0, none⟩)) (some (.int .i64 (l : Int))) none none).run prog W = .ok (.slice (some ⟨g, l, none⟩) (10 - l) (10 - l)) W
 | 0, _ => by kernel_rfl
 | 1, _ => by kernel_rfl
 | 2, _ => by kernel_rfl
 | 3, _ => by kernel_rfl
 | 4, _ => by kernel_rfl
 | 5, _ => by kernel_rfl
 | 6, _ => by kernel_rfl
 | 7, _ => by kernel_rfl
 | 8, _ => by kernel_rfl
 | n + 9, h => by omega
theorem Q8R (f : ByteArray) (p : Nat) (h : f.size <= 8) : (splice (List.replicate 10 (0 : UInt8)) 8 (Q22 p 2)).drop f.size = List.replicate (8 - f.size) 0 ++ Q22 p 2 := by
 have e : splice (List.replicate 10 (0 : UInt8)) 8 (Q22 p 2) = List.replicate 8 0 ++ Q22 p 2 := by
  simp [splice, Q2j]
 rw [e, List.drop_append_of_le_length (by simp; exact h), List.drop_replicate]
theorem Q8S (base : Nat) (v : Value) (L : List UInt8) (f : ByteArray) (p : Nat) (x : Value) (w : World) (h : Bf base w v L) (hb : base <= w.heap.size) (hl : L.length <= 9000) (h1 : f.size <= 8) (h2 : p < 65536) : Calls prog 296 #[.agg #[.string f, .int .i64 p, x], v] w (BfR base (L ++ pkK (f, p)) w) := by
 obtain ⟨ie, hie, hz1, hz2, hz3⟩ := info_parts iu8'
 have k1 := (Kept.refl [] w).alloc (.cells #[.string f, .int .i64 p, x] 80)
 have n1 := heap_alloc_new w (.cells #[.string f, .int .i64 p, x] 80)
 have hsz1 := World.size_alloc w (.cells #[.string f, .int .i64 p, x] 80)
 have HW : Hid (IntKind.u64.wrap (p : Int) = p) := by show _ = _; rw [IntKind.wrap_u64]; omega
 go_enter func296, ntmps296
 go_wp2_with (refine Q0b rfl 322 rfl _ (z10 _) ?_; intro w2 n2 k2 hsz2)
 have n12 := k2.get n1 (by simp)
 have c1 : w2.cell? ⟨w.heap.size, 1, none⟩ = some (.int .i64 p) := Q02 n12 rfl
 have hK2 := k1.trans k2
 clear k1 k2 n1
 rw [hsz1] at n2 hsz2
 go_region_with (go_at_call 151; rw [HW.out]; refine (Q24 (w.heap.size + 1) 8 2 2 (List.replicate 10 0) p 322 _ (by exact n2) (by omega) (by simp) (by omega)).mono ?_; rintro e w3 ⟨rfl, n3, k3⟩)
 have n13 := k3.get (w := w2.drew) n12 (by simp)
 have hK3 : Kept [] w w3 := hK2.drew.trans2 k3 (by intro y hy; simp at hy; subst hy; exact Or.inr (by omega))
 clear n2 n12 c1 hK2 k3
 have hS : RwS w.heap.size #[.string f, .int .i64 p, x] 80 w3.drew := n13
 have hB3 : Bf base w3.drew v L := h.keep hK3.drew
 have K3 : Kt base w w3.drew := Kt.of hK3.drew hb
 have hs3 : base <= w3.drew.heap.size := by have := K3.bl.size; omega
 go_wp2_with fail
 refine Q1j (RwS w.heap.size #[.string f, .int .i64 p, x] 80) (by kernel_rfl) ?_
 refine hu 0 v rfl (fun W hW => by rfl) hS ?_
 simp only [zP, zA, zC, zD, zE, zF]
 refine hu 1 (.pointer (some ⟨w.heap.size, 0 + 0, none⟩)) rfl (fun W hW => Q33 80 (.tmp 2) 0 rfl w.heap.size 0 rfl 0 (by rfl)) hS ?_
 simp only [zP, zA, zB, zC, zD, zE, zF]
 refine hu 2 (.string f) rfl (fun W hW => Q0l 9 (.tmp 12) rfl ⟨w.heap.size, 0 + 0, none⟩ rfl _ (Q0p underlying9 rfl (Q02 hW rfl))) hS ?_
 simp only [zP, zA, zB, zC, zD, zE, zF]
 refine hu 4 (.pointer (some ⟨w.heap.size, 0 + 0, none⟩)) rfl (fun W hW => Q33 80 (.tmp 2) 0 rfl w.heap.size 0 rfl 0 (by rfl)) hS ?_
 simp only [zP, zA, zB, zC, zD, zE, zF]
 refine hu 5 (.string f) rfl (fun W hW => Q0l 9 (.tmp 15) rfl ⟨w.heap.size, 0 + 0, none⟩ rfl _ (Q0p underlying9 rfl (Q02 hW rfl))) hS ?_
 simp only [zP, zA, zB, zC, zD, zE, zF]
 refine hu 6 (.int .i64 f.size) rfl (fun W hW => Q8P (.tmp 16) 9 rfl f rfl underlying9) hS ?_
 simp only [zP, zA, zB, zC, zD, zE, zF]
 refine hu 7 (.slice (some ⟨w.heap.size + 1, f.size, none⟩) (10 - f.size) (10 - f.size)) rfl (fun W hW => Q1m 322 (.tmp 5) (some (.tmp 17)) none none rfl _ (some (.int .i64 (f.size : Int))) none none (by rfl) (by rfl) rfl rfl _ (Q8Q W _ _ h1)) hS ?_
 simp only [zP, zA, zB, zC, zD, zE, zF]
 refine Q0j (i := 3) (by kernel_rfl) (Q2Z rfl (by rfl) 249 #[v, .string f] (Q32 _ _ _ rfl _ (by simp [Act.eval]) (Q8N _ _)) _ (Q8M base v L f w3.drew hB3 hs3 (by omega) (by omega)) ?_)
 rintro e w4 ⟨v4, rfl, hB4, K4⟩
 have hS4 := K4.row _ _ _ _ (by decide) hS
 refine ⟨_, rfl, hS4, ?_⟩
 simp only [zP, zA, zB, zC, zD, zE, zF]
 have hs4 : base <= w4.heap.size := by have := K4.bl.size; omega
 have n4 := K4.row _ _ _ _ (by decide) (show w3.drew.heap[w.heap.size + 1]? = _ from n3)
 have hl4 : (L ++ tx f).length <= 9300 := by rw [List.length_append, Q3w]; omega
 have hrl : (List.replicate (8 - f.size) (0 : UInt8) ++ Q22 p 2).length = 10 - f.size := by rw [List.length_append, List.length_replicate, Q2j]; omega
 obtain ⟨v5, w5, hr5, hown5, hg5, -⟩ := run_append_own (P := prog) w4 base 60 60 5 ie (.int .u8 0) 1 1 underlying60 hie hz1 hz2 hz3 rfl (by decide) v4 (L ++ tx f).length (u8s (L ++ tx f)) hB4 ⟨w.heap.size + 1, f.size, none⟩ (10 - f.size) (10 - f.size) (u8s (List.replicate (8 - f.size) 0 ++ Q22 p 2)) (by rw [Q08, hrl, Nat.mul_one]) (Q15 n4 (by
  intro j u hu
  rw [<- Q8R f p h1, Q0a, List.getElem?_drop] at hu
  rw [Q0a]
  exact hu)) (Q09 _) (by unfold maxLen; omega) (by omega) hs4
 have K5 := hB4.kt (Q1x hg5 v4.ownBlock.toList (by intro k hk; rw [hk]; simp)) hs4
 have e5 : u8s (L ++ tx f) ++ u8s (List.replicate (8 - f.size) 0 ++ Q22 p 2) = u8s (L ++ pkK (f, p)) := by simp [u8s, pkK]
 have el : (L ++ tx f).length + (10 - f.size) = (L ++ pkK (f, p)).length := by rw [List.length_append, List.length_append, Q3z (f, p) h1, Q3w]; omega
 rw [e5, el] at hown5
 have FIN : Hid (BfR base (L ++ pkK (f, p)) w (.returned v5) w5) := ⟨v5, rfl, hown5, (K3.trans K4).trans K5⟩
 have hS5 := K5.row _ _ _ _ (by decide) hS4
 refine Q0j (i := 8) (by kernel_rfl) (Q1r rfl (by rfl) v5 w5 (Q0n (.tmp 14) (.tmp 18) 60 rfl v4 _ (by rfl) (by rfl) _ hr5) ⟨hS5, ?_⟩)
 simp only [zP, zA, zB, zC, zD, zE, zF]
 refine Q0j (i := 9) (by kernel_rfl) (Q1r rfl (by rfl) v5 w5 (by rfl) ⟨hS5, ?_⟩)
 simp only [zP, zA, zB, zC, zD, zE, zF]
 refine wpAnyH_done (by kernel_rfl) ?_ _
 clear hB3 hB4 hS hS4 hS5 K3 K4 K5 hown5 n3 n4 n13
 go_wp2
 go_ret
 exact FIN.out
end Go.Proofs.YtcklgafpgdhnaaaGreatDoor
