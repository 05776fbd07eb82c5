import Derived.Test.YtcklgafpgdhnaaaGreatDoorPtaq
import Derived.Lib.Bytealg
set_option maxRecDepth 100000
set_option maxHeartbeats 4000000
open List renaming getElem_toArray → zA, getElem_cons_succ → zB, getElem_cons_zero → zC, setIfInBounds_toArray → zD, set_cons_succ → zE, set_cons_zero → zF
namespace Go.Proofs.YtcklgafpgdhnaaaGreatDoor

theorem op_with (k v : ByteArray) (hk : keyOk k) (hv : v.size ≤ 12) : OpAt (withL k v) k where
 mid A l B hA hB := by rw [with_app_lt k v A _ hA, with_app_gt k v l B hB]
 srt l h := srt_with k v l h
 mem l p hp := by
  rcases mem_withGo hp with rfl | h
  ·exact Or.inr ⟨rfl, hk.1, hk.2, hv⟩
  ·exact Or.inl h
 size l hs ho := by
  have hp : psz (k, v) ≤ 22 := psz_le ⟨hk.1, hk.2, hv⟩
  induction l with
  | nil => simp [withL, withGo]; exact hp
  | cons p r ih =>
   have hr : Srt r := (List.pairwise_cons.1 hs).2
   have hpr := (List.pairwise_cons.1 hs).1
   have hop : psz p ≤ 22 := psz_le (ho p (by simp))
   rcases bl_total p.1 k with hl | he | hl
   ·have e : withL k v (p :: r) = p :: withL k v r := with_app_lt k v [p] r (by simp [hl])
    have := ih hr fun q hq => ho q (by simp [hq])
    rw [e]; simp; omega
   ·have e : withL k v (p :: r) = (k, v) :: r := by
     have hr' : withoutL k r = r := without_gt k r fun q hq => by rw [← he]; exact hpr q hq
     unfold withL
     rw [withGo_cons, he, bl_irrefl, be_refl]
     simp [withGo_true, hr']
    rw [e]; simp; omega
   ·have hg : ∀ q ∈ p :: r, bl k q.1 = true := by
     intro q hq
     rcases List.mem_cons.1 hq with rfl | hq
     ·exact hl
     ·exact bl_trans hl (hpr q hq)
    have e : withL k v (p :: r) = (k, v) :: p :: r := by
     have := with_app_gt k v [] (p :: r) hg
     simpa [withL, withGo] using this
    rw [e]; simp; omega

theorem op_without (k : ByteArray) : OpAt (withoutL k) k where
 mid A l B hA hB := by rw [without_app, without_app, without_lt k A hA, without_gt k B hB]
 srt l h := srt_without h
 mem l p hp := Or.inl (mem_without hp)
 size l hs ho := by
  induction l with
  | nil => simp [withoutL]
  | cons p r ih =>
   have hr : Srt r := (List.pairwise_cons.1 hs).2
   have hpr := (List.pairwise_cons.1 hs).1
   have hop : psz p ≤ 22 := psz_le (ho p (by simp))
   have := ih hr fun q hq => ho q (by simp [hq])
   cases he : be p.1 k with
   | true =>
    have hk := (be_iff _ _).1 he
    have hr' : withoutL k r = r := without_gt k r fun q hq => by rw [← hk]; exact hpr q hq
    have e : withoutL k (p :: r) = r := by
     have e1 : withoutL k (p :: r) = withoutL k r := by simp [withoutL, he]
     rw [e1, hr']
    rw [e]; simp; omega
   | false =>
    have e : withoutL k (p :: r) = p :: withoutL k r := by simp [withoutL, he]
    rw [e]; simp; omega

structure Tr where
 h : Nat
 n : Nd h
 pl : Nat
def flatT (t : Tr) : List Pr := flatN t.h t.n
def nilN : (h : Nat) → Nd h → Bool
 | 0, l => List.isEmpty (α := Pr) l
 | _ + 1, _ => false
def cntT (t : Tr) : Nat := if nilN t.h t.n then 0 else cntN t.h t.n
theorem cntT_cnt (t : Tr) : cntT t ≤ cntN t.h t.n := by unfold cntT; split <;> omega
def nil8 : ByteArray := ⟨#[]⟩
theorem ge_nil (k : ByteArray) : ge k nil8 := by
 unfold ge
 rw [bl_def]
 simp [nil8]
structure TW (t : Tr) : Prop where
 wf : WFN t.h nil8 t.n
 full : FullN t.h t.n
 hi : sizeN t.h t.n ≤ 122
 two : 0 < t.h → 22 ≤ sizeN t.h t.n
 nil : nilN t.h t.n = true → t.pl = 0

def lowT : (h : Nat) → Nd h → Tr
 | 0, l => ⟨0, l, 0⟩
 | h + 1, ks => match (show List (Kid h) from ks) with
  | [a] => ⟨h, a.2, a.3⟩
  | ks' => ⟨h + 1, ks', 0⟩
def rootT (h : Nat) (M : List (Kid h)) : Tr := match M with
 | [a] => lowT h a.2
 | M' => ⟨h + 1, M', 0⟩
theorem nil_size : ∀ (h : Nat) (n : Nd h), nilN h n = true → sizeN h n = 0
 | 0, l, e => by
  have : l = ([] : List Pr) := List.isEmpty_iff.1 e
  subst this; rfl
def chgT (F : List Pr → List Pr) (k : ByteArray) (t : Tr) : Tr := rootT t.h (fitN t.h nil8 (chgN F k t.h t.n))

theorem low_ok (h : Nat) (n : Nd h) (hw : WFN h nil8 n) (hf : FullN h n) (hi : sizeN h n ≤ 122) : TW (lowT h n) ∧ flatT (lowT h n) = flatN h n := by
 cases h with
 | zero => exact ⟨⟨hw, hf, hi, (by intro h; cases h), fun _ => rfl⟩, rfl⟩
 | succ h =>
  obtain ⟨⟨n0, x0, r0, e0⟩, hk⟩ := (WFN_succ h nil8 n).1 hw
  have hfull := (FullN_succ h n).1 hf
  subst e0
  cases r0 with
  | nil =>
   have hm : ⟨nil8, n0, x0⟩ ∈ [(⟨nil8, n0, x0⟩ : Kid h)] := by simp
   have ha := hfull ⟨nil8, n0, x0⟩ hm
   refine ⟨⟨hk.all _ hm, ha.2, ha.1.2, fun _ => by have := ha.1.1; show 22 ≤ sizeN h n0; simp at this; omega, fun e => by have := ha.1.1; have e2 := nil_size h n0 e; simp at this; omega⟩, ?_⟩
   show flatN h n0 = flatK h [⟨nil8, n0, x0⟩]
   simp [flatK]
  | cons b r =>
   refine ⟨⟨hw, hf, hi, fun _ => ?_, fun _ => rfl⟩, rfl⟩
   show 22 ≤ 11 * (⟨nil8, n0, x0⟩ :: b :: r).length
   simp; omega

theorem chgT_ok {F : List Pr → List Pr} {k : ByteArray} (hF : OpAt F k) (t : Tr) (ht : TW t) : TW (chgT F k t) ∧ flatT (chgT F k t) = F (flatT t) := by
 have hc := chg_ok hF t.h nil8 t.n ht.wf ht.full (ge_nil k) ht.two
 have h1 := hc.hi
 have h2 := ht.hi
 unfold chgT
 by_cases hs : sizeN t.h (chgN F k t.h t.n) ≤ 122
 ·have e : fitN t.h nil8 (chgN F k t.h t.n) = [⟨nil8, chgN F k t.h t.n, 0⟩] := by unfold fitN; rw [if_pos hs]
  rw [e]
  obtain ⟨a, b⟩ := low_ok t.h _ hc.wf hc.full hs
  exact ⟨a, b.trans hc.flat⟩
 ·have hfit := fit_ok t.h nil8 _ hc.wf hc.full (by omega) (by omega)
  have e : fitN t.h nil8 (chgN F k t.h t.n) = [⟨nil8, (halveN t.h (chgN F k t.h t.n)).1, 0⟩, ⟨firstN t.h (halveN t.h (chgN F k t.h t.n)).2, (halveN t.h (chgN F k t.h t.n)).2, 0⟩] := by unfold fitN; rw [if_neg hs]
  rw [e] at hfit ⊢
  refine ⟨⟨(WFN_succ t.h nil8 _).2 ⟨⟨_, _, _, rfl⟩, hfit.kw⟩, fun a ha => hfit.full a ha, by show 11 * 2 ≤ 122; omega, fun _ => by show 22 ≤ 11 * 2; omega, fun _ => rfl⟩, ?_⟩
  exact hfit.flat.trans hc.flat

theorem sum_le22 (l : List Pr) (h : ∀ p ∈ l, okp p) : (l.map psz).sum ≤ 22 * l.length := by
 induction l with
 | nil => simp
 | cons p r ih =>
  have := psz_le (h p (by simp))
  have := ih fun q hq => h q (by simp [hq])
  simp; omega

theorem cnt_kids {h : Nat} (IH : ∀ (f : ByteArray) (n : Nd h), WFN h f n → FullN h n → 40 ≤ sizeN h n → 3 * cntN h n + 1 ≤ 2 * (flatN h n).length) (ks : List (Kid h)) (hk : KW h ks) (hf : ∀ a ∈ ks, Rt h a.2 ∧ FullN h a.2) :
  3 * (ks.map fun k => cntN h k.2).sum + ks.length ≤ 2 * (flatK h ks).length := by
 induction ks with
 | nil => simp [flatK]
 | cons a r ih =>
  have hr : KW h r := ⟨(List.pairwise_cons.1 hk.ord).2, fun b hb => hk.all b (by simp [hb])⟩
  have h1 := ih hr fun b hb => hf b (by simp [hb])
  have ha := hf a (by simp)
  have h2 := IH a.1 a.2 (hk.all a (by simp)) ha.2 ha.1.1
  rw [flatK_cons, List.length_append]
  simp; omega

theorem cnt_le : ∀ (h : Nat) (f : ByteArray) (n : Nd h), WFN h f n → FullN h n → 40 ≤ sizeN h n → 3 * cntN h n + 1 ≤ 2 * (flatN h n).length
 | 0, f, l, hw, _, hs => by
  have h1 := sum_le22 l fun p hp => (hw.2 p hp).2
  have hs' : 40 ≤ (List.map psz l).sum := hs
  show 3 * 1 + 1 ≤ 2 * List.length (α := Pr) l
  omega
 | h + 1, f, ks, hw, hf, hs => by
  obtain ⟨_, hk⟩ := (WFN_succ h f ks).1 hw
  have h1 := cnt_kids (fun f n => cnt_le h f n) ks hk ((FullN_succ h ks).1 hf)
  have hs' : 40 ≤ 11 * List.length (α := Kid h) ks := hs
  show 3 * (1 + (List.map (fun k : Kid h => cntN h k.2) ks).sum) + 1 ≤ 2 * (flatK h ks).length
  omega

theorem cntT_le (t : Tr) (ht : TW t) : cntT t ≤ 1 ∨ 3 * cntT t ≤ 2 * (flatT t).length + 1 := by
 have hc := cntT_cnt t
 obtain ⟨h, n, pl⟩ := t
 cases h with
 | zero => exact Or.inl hc
 | succ h =>
  right
  refine Nat.le_trans (Nat.mul_le_mul_left 3 hc) ?_
  obtain ⟨_, hk⟩ := (WFN_succ h nil8 n).1 ht.wf
  have h1 := cnt_kids (fun f n => cnt_le h f n) n hk ((FullN_succ h n).1 ht.full)
  have h2 : 22 ≤ 11 * List.length (α := Kid h) n := ht.two (by simp)
  show 3 * (1 + (List.map (fun k : Kid h => cntN h k.2) n).sum) ≤ 2 * (flatK h n).length + 1
  omega

theorem no_room (t : Tr) (ht : TW t) (n mo : Nat) (hn : 8 ≤ n) (h : (n - 2) / 2 < cntT t) : ¬ roomy n mo (flatT t).length := by
 unfold roomy
 have := cntT_le t ht
 omega

end Go.Proofs.YtcklgafpgdhnaaaGreatDoor

namespace Go.Proofs.YtcklgafpgdhnaaaGreatDoor
open Go.RowKit

def SL (w : World) (t : TypeId) (d : Nat) (v : Value) (es : List El) : Prop :=
 (v = .slice none 0 0 ∧ es = []) ∨ ∃ g off cap cur, v = .slice (some ⟨g, off, none⟩) es.length cap ∧ w.heap[g]? = some (.cells cur t (0, 0)) ∧ es.length ≤ cap ∧ cap ≤ maxLen ∧ off + cap * d ≤ cur.size ∧
  ∀ (i : Nat) (e : El), es[i]? = some e → e.length = d ∧ ∀ (j : Nat) (u : Value), e[j]? = some u → cur[off + i * d + j]? = some u

theorem SL.kept {w w' : World} {t : TypeId} {d : Nat} {v : Value} {es : List El} (h : SL w t d v es) (k : Kept [] w w') : SL w' t d v es := by
 rcases h with h | ⟨g, off, cap, cur, e, hh, r⟩
 ·exact Or.inl h
 ·exact Or.inr ⟨g, off, cap, cur, e, k.get hh (by simp), r⟩
theorem SL.shape {w : World} {t : TypeId} {d : Nat} {v : Value} {es : List El} (h : SL w t d v es) : ∃ p cap, v = .slice p es.length cap := by
 rcases h with ⟨rfl, rfl⟩ | ⟨g, off, cap, cur, rfl, _⟩
 ·exact ⟨_, _, rfl⟩
 ·exact ⟨_, _, rfl⟩
theorem SL.at_ {w : World} {t : TypeId} {d : Nat} {v : Value} {es : List El} (h : SL w t d v es) (hl : 0 < es.length) : ∃ g off cap cur, v = .slice (some ⟨g, off, none⟩) es.length cap ∧ w.heap[g]? = some (.cells cur t (0, 0)) ∧ es.length ≤ cap ∧ cap ≤ maxLen ∧ off + cap * d ≤ cur.size ∧
  ∀ (i : Nat) (e : El), es[i]? = some e → e.length = d ∧ ∀ (j : Nat) (u : Value), e[j]? = some u → cur[off + i * d + j]? = some u := by
 rcases h with ⟨_, rfl⟩ | h
 ·simp at hl
 ·exact h
theorem SL.wd {w : World} {t : TypeId} {d : Nat} {v : Value} {es : List El} (h : SL w t d v es) : ∀ e ∈ es, e.length = d := by
 intro e he
 obtain ⟨i, hi⟩ := List.mem_iff_getElem?.1 he
 obtain ⟨g, off, cap, cur, _, _, _, _, _, hc⟩ := h.at_ (by have := (List.getElem?_eq_some_iff.1 hi).1; omega)
 exact (hc i e hi).1

theorem load2 {w : World} {t ty : TypeId} {g o d : Nat} {cur : Array Value} {e : El} (fs : _) {P : Program} (hg : w.heap[g]? = some (.cells cur t (0, 0))) (hc : e.length = d ∧ ∀ (j : Nat) (u : Value), e[j]? = some u → cur[o + j]? = some u)
  (hu : P.underlying ty = some (.struct fs)) (hi : (P.info? ty).map (·.size) = some d) : (loadVar ty ⟨g, o, none⟩).run P w = .ok (.agg e.toArray) w :=
 run_loadVar_seg (P := P) w g o t ty cur.toList e (0, 0) _ (by simpa using hg) hu rfl (by rw [hi, hc.1]) (by intro j v hv; simpa using hc.2 j v hv)

def pe (p : Pr) : El := [.string p.1, .string p.2]
def LF (w : World) (v : Value) (l : List Pr) : Prop := SL w 122 2 v (l.map pe)
theorem LF.kept {w w' : World} {v : Value} {l : List Pr} (h : LF w v l) (k : Kept [] w w') : LF w' v l := SL.kept h k

theorem stp : (Tryz.prog.info? 122).map (·.size) = some 2 := by kernel_rfl

theorem pairKey_any (k v : Value) (s : ByteArray) (hk : k = .string s) (w : World) : Calls Tryz.prog 246 #[.agg #[k, v]] w fun e w' => e = .returned (.string s) ∧ Kept [] w w' := by
 subst hk
 go_enter Tryz.func246, Tryz.ntmps246
 go_wp2
 go_ret
 exact ⟨rfl, (Kept.refl _ _).alloc _⟩

theorem Compare_any (a b : ByteArray) (w : World) : Calls Tryz.prog 109 #[.string a, .string b] w fun e w' => e = .returned (.int .i64 (Lib.compareBytes a.data.toList b.data.toList)) ∧ w' = w := by
 have hx := fun W => Lib.run_compareString (P := Tryz.prog) a b W
 have he := @run_callFunc_extern Tryz.prog 170 _ Extern.BytealgCompare.compare Tryz.func170 (by kernel_rfl) (by kernel_rfl) (by kernel_rfl) (by kernel_rfl)
 go_enter Tryz.func109, Tryz.ntmps109
 go_wp2
 go_ret
 exact ⟨rfl, rfl⟩

theorem cmp_lt : ∀ (a b : List UInt8), (Lib.compareBytes a b < 0) = (a < b)
 | [], [] => by simp [Lib.compareBytes]
 | [], _ :: _ => by simp [Lib.compareBytes]
 | _ :: _, [] => by simp [Lib.compareBytes]
 | x :: a, y :: b => by
  have ih := cmp_lt a b
  unfold Lib.compareBytes
  by_cases h1 : x < y
  ·simp [h1, List.cons_lt_cons_iff]
  ·by_cases h2 : y < x
   ·have : x ≠ y := fun e => by subst e; exact h1 h2
    simp [h1, h2, List.cons_lt_cons_iff, this]
   ·have e : x = y := UInt8.le_antisymm (UInt8.not_lt.1 h2) (UInt8.not_lt.1 h1)
    subst e
    simp [h1, ih]
theorem cmp_eq0 : ∀ (a b : List UInt8), (Lib.compareBytes a b = 0) = (a = b)
 | [], [] => by simp [Lib.compareBytes]
 | [], _ :: _ => by simp [Lib.compareBytes]
 | _ :: _, [] => by simp [Lib.compareBytes]
 | x :: a, y :: b => by
  have ih := cmp_eq0 a b
  unfold Lib.compareBytes
  by_cases h1 : x < y
  ·have : x ≠ y := fun e => by subst e; exact absurd h1 (UInt8.lt_irrefl x)
   simp [h1, this]
  ·by_cases h2 : y < x
   ·have : x ≠ y := fun e => by subst e; exact h1 h2
    simp [h1, h2, this]
   ·have e : x = y := UInt8.le_antisymm (UInt8.not_lt.1 h2) (UInt8.not_lt.1 h1)
    subst e
    simp [h1, ih]
def cmpB (a b : ByteArray) : Int := Lib.compareBytes a.data.toList b.data.toList
theorem cmpB_lt (a b : ByteArray) : decide (cmpB a b < 0) = bl a b := by rw [bl_def]; unfold cmpB; simp only [cmp_lt]
theorem cmpB_eq (a b : ByteArray) : (cmpB a b == 0) = be a b := by
 have h : (cmpB a b = 0) = (a.data.toList = b.data.toList) := cmp_eq0 _ _
 have h2 : be a b = decide (a.data.toList = b.data.toList) := by unfold be; rw [toList_of, toList_of]; exact Bool.eq_iff_iff.2 (by rw [beq_iff_eq, decide_eq_true_eq])
 rw [h2]
 by_cases e : a.data.toList = b.data.toList
 ·rw [← h] at e; simp [e, h ▸ e]
 ·have e' : ¬ cmpB a b = 0 := by rw [h]; exact e
  simp [e, e']

def Pos (keys : List ByteArray) (k : ByteArray) (i : Nat) : Prop := i ≤ keys.length ∧ ∀ (x : Nat) (q : ByteArray), keys[x]? = some q → (x < i ↔ bl q k = true)
def Rise (keys : List ByteArray) : Prop := keys.Pairwise fun a b => bl a b = true

def FindR (keys : List ByteArray) (k : ByteArray) (w : World) (e : Ending) (w' : World) : Prop :=
 ∃ (i : Nat) (b : Bool), e = .returned (.tuple #[.int .i64 i, .bool b]) ∧ Pos keys k i ∧ (b = true ↔ keys[i]? = some k) ∧ Kept [] w w'

theorem mPairKey (k v : Value) (w : World) : (Go.method 433 122 (.agg #[k, v]) "store/tree.key").run Tryz.prog w = .ok (246, .agg #[k, v]) w := by kernel_rfl

theorem findP1_any (s k : ByteArray) (v : Value) (w : World) : Calls Tryz.prog 108 #[.agg #[.string s, v], .string k] w fun e w' => e = .returned (.int .i64 (cmpB s k)) ∧ Kept [] w w' := by
 have hm := mPairKey
 go_enter Tryz.func108, Tryz.ntmps108
 go_wp2_with (first
  | (go_at_call 246; refine (pairKey_any _ _ _ rfl _).mono ?_; rintro e w2 ⟨rfl, hk2⟩)
  | (go_at_call 109; refine (Compare_any _ _ _).mono ?_; rintro e w3 ⟨rfl, hw3⟩; rw [hw3]; clear hw3 w3))
 go_ret
 exact ⟨rfl, ((Kept.refl _ _).alloc _).trans hk2⟩

end Go.Proofs.YtcklgafpgdhnaaaGreatDoor

namespace Go.Proofs.YtcklgafpgdhnaaaGreatDoor
open Go.RowKit

def BsI (keys : List ByteArray) (k : ByteArray) (w : World) (i j : Value) (wr : World) : Prop :=
 ∃ a b : Nat, i = .int .i64 a ∧ j = .int .i64 b ∧ a ≤ b ∧ b ≤ keys.length ∧ (∀ (x : Nat) (q : ByteArray), keys[x]? = some q → x < a → bl q k = true) ∧ (∀ (x : Nat) (q : ByteArray), keys[x]? = some q → b ≤ x → bl q k = false) ∧ Kept [] w wr

theorem rise_get {keys : List ByteArray} (h : Rise keys) {x y : Nat} {p q : ByteArray} (hx : keys[x]? = some p) (hy : keys[y]? = some q) (hxy : x < y) : bl p q = true := by
 obtain ⟨h1, e1⟩ := List.getElem?_eq_some_iff.1 hx
 obtain ⟨h2, e2⟩ := List.getElem?_eq_some_iff.1 hy
 have := List.pairwise_iff_getElem.1 h x y h1 h2 hxy
 rwa [e1, e2] at this

theorem bsP_any (vl : Value) (es : List El) (keys : List ByteArray) (k : ByteArray) (w : World) (h : SL w 122 2 vl es) (hke : es.map List.head? = keys.map fun q => some (Value.string q)) (hr : Rise keys) (hl : es.length ≤ 50000) :
  Calls Tryz.prog 107 #[vl, .string k, .func (.func 108) #[] #[]] w (FindR keys k w) := by
 obtain ⟨pv, cv, rfl⟩ := h.shape
 have hkl : keys.length = es.length := by have := congrArg List.length hke; simpa using this.symm
 have hnth : ∀ (x : Nat) (q : ByteArray), keys[x]? = some q → ∃ v2, es[x]? = some [.string q, v2] := by
  intro x q hq
  have hx : x < es.length := by rw [← hkl]; exact (List.getElem?_eq_some_iff.1 hq).1
  have h2 := congrArg (fun l => l[x]?) hke
  simp only [List.getElem?_map, hq, Option.map_some, List.getElem?_eq_getElem hx] at h2
  have h3 := Option.some.inj h2
  have h4 := h.wd es[x] (List.getElem_mem hx)
  rw [List.getElem?_eq_getElem hx]
  match hes : es[x], h3, h4 with
  | [a, v2], h3, _ => simp at h3; subst h3; exact ⟨v2, rfl⟩
 go_enter Tryz.func107, Tryz.ntmps107
 go_wp2
 go_loopw [9, 10] (fun i j wr => BsI keys k w i j wr) (fun i j _ => (intOf j).toNat - (intOf i).toNat)
 case atStart => exact ⟨0, es.length, rfl, rfl, Nat.zero_le _, by omega, by intro x q _ hx; omega, by intro x q hx hb; have := (List.getElem?_eq_some_iff.1 hx).1; omega, Kept.refl _ _⟩
 case round =>
  obtain ⟨a, b, rfl, rfl, hab, hb, hlo, hhi, hkr⟩ := hrel
  by_cases hlt : a < b
  ·have hlt' : (a : Int) < (b : Int) := by omega
   obtain ⟨m, hm⟩ : ∃ m : Nat, m = (a + b) / 2 := ⟨_, rfl⟩
   obtain ⟨q, hq⟩ : ∃ q, keys[m]? = some q := ⟨_, List.getElem?_eq_getElem (by omega)⟩
   obtain ⟨v2, he⟩ := hnth m q hq
   obtain ⟨g, off, cap, cur, e, hg, hc1, hc2, hc3, hcur⟩ := (h.kept hkr).at_ (by omega)
   cases e
   have hld := load2 (P := Tryz.prog) (ty := 122) _ hg (hcur m _ he) Tryz.underlying122 stp
   have hmi : ((a : Int) + (b : Int)) / 2 = (m : Int) := by omega
   have hml : m < es.length := by omega
   have hma : a ≤ m ∧ m < b := by omega
   clear hcur hm
   cases hbl : bl q k with
   | true =>
    have hc : cmpB q k < 0 := by rw [← cmpB_lt] at hbl; simpa using hbl
    go_wp2_with (first
    | (refine wpList_val rfl _ _ (exec_index 115 (.tmp 25) (.tmp 26) rfl g off es.length cv m 2 rfl rfl 122 Tryz.underlying115 stp hml (off + m * 2) (by omega)) ?_)
    | (refine wpList_load_seg rfl 122 (.tmp 27) rfl ⟨g, off + m * 2, none⟩ rfl _ hld ?_)
    | (go_at_call 108; refine (findP1_any _ _ _ _).mono ?_; rintro e w2 ⟨rfl, hk2⟩))
    go_roundw
    case rel =>
     refine ⟨m + 1, b, by go_num, rfl, by omega, hb, ?_, hhi, hkr.trans hk2⟩
     intro x p hx hxm
     rcases Nat.lt_or_ge x m with h1 | h1
     ·exact bl_trans (rise_get hr hx hq h1) hbl
     ·have e : x = m := by omega
      subst e; rw [hq] at hx; cases hx; exact hbl
    case measure => simp [intOf]; omega
   | false =>
    have hc : ¬ cmpB q k < 0 := by rw [← cmpB_lt] at hbl; simpa using hbl
    go_wp2_with (first
    | (refine wpList_val rfl _ _ (exec_index 115 (.tmp 25) (.tmp 26) rfl g off es.length cv m 2 rfl rfl 122 Tryz.underlying115 stp hml (off + m * 2) (by omega)) ?_)
    | (refine wpList_load_seg rfl 122 (.tmp 27) rfl ⟨g, off + m * 2, none⟩ rfl _ hld ?_)
    | (go_at_call 108; refine (findP1_any _ _ _ _).mono ?_; rintro e w2 ⟨rfl, hk2⟩))
    go_roundw
    case rel =>
     refine ⟨a, m, rfl, rfl, by omega, by omega, hlo, ?_, hkr.trans hk2⟩
     intro x p hx hxm
     rcases Nat.lt_or_ge m x with h1 | h1
     ·exact ge_trans (lt_ge (rise_get hr hq hx h1)) hbl
     ·have e : x = m := by omega
      subst e; rw [hq] at hx; cases hx; exact hbl
    case measure => simp [intOf]; omega
  ·have hge : ¬ (a : Int) < (b : Int) := by omega
   have eab : a = b := by omega
   subst eab
   have hpos : Pos keys k a := by
    refine ⟨hb, fun x q hx => ⟨fun hxa => hlo x q hx hxa, fun hbl => ?_⟩⟩
    rcases Nat.lt_or_ge x a with h1 | h1
    ·exact h1
    ·have := hhi x q hx h1; rw [this] at hbl; cases hbl
   by_cases hn : a < es.length
   ·have hn' : (a : Int) < (es.length : Int) := by omega
    obtain ⟨q, hq⟩ : ∃ q, keys[a]? = some q := ⟨_, List.getElem?_eq_getElem (by omega)⟩
    obtain ⟨v2, he⟩ := hnth a q hq
    obtain ⟨g, off, cap, cur, e, hg, hc1, hc2, hc3, hcur⟩ := (h.kept hkr).at_ (by omega)
    cases e
    have hld := load2 (P := Tryz.prog) (ty := 122) _ hg (hcur a _ he) Tryz.underlying122 stp
    have c0 : wr.cell? ⟨g, off + a * 2, none⟩ = some (.string q) := cellAt hg ((hcur a _ he).2 0 _ rfl)
    have c1 := cellAt hg ((hcur a _ he).2 1 _ rfl)
    have hix := run_index (P := Tryz.prog) (w := wr) 115 g off es.length cv a 2 122 Tryz.underlying115 stp hn (off + a * 2) rfl
    clear hcur
    go_wp2_with (first
     | (go_at_call 108; refine (findP1_any _ _ _ _).mono ?_; rintro e w2 ⟨rfl, hk2⟩))
    go_ret2
    refine ⟨a, cmpB q k == 0, rfl, hpos, ?_, hkr.trans hk2⟩
    rw [cmpB_eq, be_iff, hq]
    simp
   ·have hn' : ¬ (a : Int) < (es.length : Int) := by omega
    go_wp2
    go_ret2
    refine ⟨a, false, rfl, hpos, ?_, hkr⟩
    have : keys[a]? = none := by rw [List.getElem?_eq_none_iff]; omega
    simp [this]

theorem findP_any (vl : Value) (es : List El) (keys : List ByteArray) (k : ByteArray) (w : World) (h : SL w 122 2 vl es) (hke : es.map List.head? = keys.map fun q => some (Value.string q)) (hr : Rise keys) (hl : es.length ≤ 50000) :
  Calls Tryz.prog 70 #[vl, .string k] w (FindR keys k w) := by
 have HB : Hid (Calls _ _ _ _ _) := bsP_any vl es keys k w h hke hr hl
 go_enter Tryz.func70, Tryz.ntmps70
 go_wp2_with (first | (go_at_call 107; refine HB.out.mono ?_; rintro e w2 ⟨i, b, rfl, h1, h2, h3⟩))
 go_ret2
 exact ⟨i, b, rfl, h1, h2, h3⟩

end Go.Proofs.YtcklgafpgdhnaaaGreatDoor

namespace Go.Proofs.YtcklgafpgdhnaaaGreatDoor
open Go.RowKit

abbrev KE := KidOf Value
theorem stk : (Tryz.prog.info? 80).map (·.size) = some 3 := by kernel_rfl

theorem kidKey_any (k v u : Value) (s : ByteArray) (hk : k = .string s) (w : World) : Calls Tryz.prog 226 #[.agg #[k, v, u]] w fun e w' => e = .returned (.string s) ∧ Kept [] w w' := by
 subst hk
 go_enter Tryz.func226, Tryz.ntmps226
 go_wp2
 go_ret
 exact ⟨rfl, (Kept.refl _ _).alloc _⟩

theorem mKidKey (k v u : Value) (w : World) : (Go.method 433 80 (.agg #[k, v, u]) "store/tree.key").run Tryz.prog w = .ok (226, .agg #[k, v, u]) w := by kernel_rfl

theorem findK1_any (s k : ByteArray) (v u : Value) (w : World) : Calls Tryz.prog 273 #[.agg #[.string s, v, u], .string k] w fun e w' => e = .returned (.int .i64 (cmpB s k)) ∧ Kept [] w w' := by
 have hm := mKidKey
 go_enter Tryz.func273, Tryz.ntmps273
 go_wp2_with (first
  | (go_at_call 226; refine (kidKey_any _ _ _ _ rfl _).mono ?_; rintro e w2 ⟨rfl, hk2⟩)
  | (go_at_call 109; refine (Compare_any _ _ _).mono ?_; rintro e w3 ⟨rfl, hw3⟩; rw [hw3]; clear hw3 w3))
 go_ret
 exact ⟨rfl, ((Kept.refl _ _).alloc _).trans hk2⟩

theorem bsK_any (vl : Value) (es : List El) (keys : List ByteArray) (k : ByteArray) (w : World) (h : SL w 80 3 vl es) (hke : es.map List.head? = keys.map fun q => some (Value.string q)) (hr : Rise keys) (hl : es.length ≤ 50000) :
  Calls Tryz.prog 272 #[vl, .string k, .func (.func 273) #[] #[]] w (FindR keys k w) := by
 obtain ⟨pv, cv, rfl⟩ := h.shape
 have hkl : keys.length = es.length := by have := congrArg List.length hke; simpa using this.symm
 have hnth : ∀ (x : Nat) (q : ByteArray), keys[x]? = some q → ∃ v2 v3, es[x]? = some [.string q, v2, v3] := by
  intro x q hq
  have hx : x < es.length := by rw [← hkl]; exact (List.getElem?_eq_some_iff.1 hq).1
  have h2 := congrArg (fun l => l[x]?) hke
  simp only [List.getElem?_map, hq, Option.map_some, List.getElem?_eq_getElem hx] at h2
  have h3 := Option.some.inj h2
  have h4 := h.wd es[x] (List.getElem_mem hx)
  rw [List.getElem?_eq_getElem hx]
  match hes : es[x], h3, h4 with
  | [a, v2, v3], h3, _ => simp at h3; subst h3; exact ⟨v2, v3, rfl⟩
 go_enter Tryz.func272, Tryz.ntmps272
 go_wp2
 go_loopw [9, 10] (fun i j wr => BsI keys k w i j wr) (fun i j _ => (intOf j).toNat - (intOf i).toNat)
 case atStart => exact ⟨0, es.length, rfl, rfl, Nat.zero_le _, by omega, by intro x q _ hx; omega, by intro x q hx hb; have := (List.getElem?_eq_some_iff.1 hx).1; omega, Kept.refl _ _⟩
 case round =>
  obtain ⟨a, b, rfl, rfl, hab, hb, hlo, hhi, hkr⟩ := hrel
  by_cases hlt : a < b
  ·have hlt' : (a : Int) < (b : Int) := by omega
   obtain ⟨m, hm⟩ : ∃ m : Nat, m = (a + b) / 2 := ⟨_, rfl⟩
   obtain ⟨q, hq⟩ : ∃ q, keys[m]? = some q := ⟨_, List.getElem?_eq_getElem (by omega)⟩
   obtain ⟨v2, v3, he⟩ := hnth m q hq
   obtain ⟨g, off, cap, cur, e, hg, hc1, hc2, hc3, hcur⟩ := (h.kept hkr).at_ (by omega)
   cases e
   have hld := load2 (P := Tryz.prog) (ty := 80) _ hg (hcur m _ he) Tryz.underlying80 stk
   have hmi : ((a : Int) + (b : Int)) / 2 = (m : Int) := by omega
   have hml : m < es.length := by omega
   have hma : a ≤ m ∧ m < b := by omega
   clear hcur hm
   cases hbl : bl q k with
   | true =>
    have hc : cmpB q k < 0 := by rw [← cmpB_lt] at hbl; simpa using hbl
    go_wp2_with (first
    | (refine wpList_val rfl _ _ (exec_index 165 (.tmp 25) (.tmp 26) rfl g off es.length cv m 3 rfl rfl 80 Tryz.underlying165 stk hml (off + m * 3) (by omega)) ?_)
    | (refine wpList_load_seg rfl 80 (.tmp 27) rfl ⟨g, off + m * 3, none⟩ rfl _ hld ?_)
    | (go_at_call 273; refine (findK1_any _ _ _ _ _).mono ?_; rintro e w2 ⟨rfl, hk2⟩))
    go_roundw
    case rel =>
     refine ⟨m + 1, b, by go_num, rfl, by omega, hb, ?_, hhi, hkr.trans hk2⟩
     intro x p hx hxm
     rcases Nat.lt_or_ge x m with h1 | h1
     ·exact bl_trans (rise_get hr hx hq h1) hbl
     ·have e : x = m := by omega
      subst e; rw [hq] at hx; cases hx; exact hbl
    case measure => simp [intOf]; omega
   | false =>
    have hc : ¬ cmpB q k < 0 := by rw [← cmpB_lt] at hbl; simpa using hbl
    go_wp2_with (first
    | (refine wpList_val rfl _ _ (exec_index 165 (.tmp 25) (.tmp 26) rfl g off es.length cv m 3 rfl rfl 80 Tryz.underlying165 stk hml (off + m * 3) (by omega)) ?_)
    | (refine wpList_load_seg rfl 80 (.tmp 27) rfl ⟨g, off + m * 3, none⟩ rfl _ hld ?_)
    | (go_at_call 273; refine (findK1_any _ _ _ _ _).mono ?_; rintro e w2 ⟨rfl, hk2⟩))
    go_roundw
    case rel =>
     refine ⟨a, m, rfl, rfl, by omega, by omega, hlo, ?_, hkr.trans hk2⟩
     intro x p hx hxm
     rcases Nat.lt_or_ge m x with h1 | h1
     ·exact ge_trans (lt_ge (rise_get hr hq hx h1)) hbl
     ·have e : x = m := by omega
      subst e; rw [hq] at hx; cases hx; exact hbl
    case measure => simp [intOf]; omega
  ·have hge : ¬ (a : Int) < (b : Int) := by omega
   have eab : a = b := by omega
   subst eab
   have hpos : Pos keys k a := by
    refine ⟨hb, fun x q hx => ⟨fun hxa => hlo x q hx hxa, fun hbl => ?_⟩⟩
    rcases Nat.lt_or_ge x a with h1 | h1
    ·exact h1
    ·have := hhi x q hx h1; rw [this] at hbl; cases hbl
   by_cases hn : a < es.length
   ·have hn' : (a : Int) < (es.length : Int) := by omega
    obtain ⟨q, hq⟩ : ∃ q, keys[a]? = some q := ⟨_, List.getElem?_eq_getElem (by omega)⟩
    obtain ⟨v2, v3, he⟩ := hnth a q hq
    obtain ⟨g, off, cap, cur, e, hg, hc1, hc2, hc3, hcur⟩ := (h.kept hkr).at_ (by omega)
    cases e
    have hld := load2 (P := Tryz.prog) (ty := 80) _ hg (hcur a _ he) Tryz.underlying80 stk
    have c0 : wr.cell? ⟨g, off + a * 3, none⟩ = some (.string q) := cellAt hg ((hcur a _ he).2 0 _ rfl)
    have c1 := cellAt hg ((hcur a _ he).2 1 _ rfl)
    have c2 := cellAt hg ((hcur a _ he).2 2 _ rfl)
    have hix := run_index (P := Tryz.prog) (w := wr) 165 g off es.length cv a 3 80 Tryz.underlying165 stk hn (off + a * 3) rfl
    clear hcur
    go_wp2_with (first
     | (go_at_call 273; refine (findK1_any _ _ _ _ _).mono ?_; rintro e w2 ⟨rfl, hk2⟩))
    go_ret2
    refine ⟨a, cmpB q k == 0, rfl, hpos, ?_, hkr.trans hk2⟩
    rw [cmpB_eq, be_iff, hq]
    simp
   ·have hn' : ¬ (a : Int) < (es.length : Int) := by omega
    go_wp2
    go_ret2
    refine ⟨a, false, rfl, hpos, ?_, hkr⟩
    have : keys[a]? = none := by rw [List.getElem?_eq_none_iff]; omega
    simp [this]

theorem findK_any (vl : Value) (es : List El) (keys : List ByteArray) (k : ByteArray) (w : World) (h : SL w 80 3 vl es) (hke : es.map List.head? = keys.map fun q => some (Value.string q)) (hr : Rise keys) (hl : es.length ≤ 50000) :
  Calls Tryz.prog 268 #[vl, .string k] w (FindR keys k w) := by
 have HB : Hid (Calls _ _ _ _ _) := bsK_any vl es keys k w h hke hr hl
 go_enter Tryz.func268, Tryz.ntmps268
 go_wp2_with (first | (go_at_call 272; refine HB.out.mono ?_; rintro e w2 ⟨i, b, rfl, h1, h2, h3⟩))
 go_ret2
 exact ⟨i, b, rfl, h1, h2, h3⟩

end Go.Proofs.YtcklgafpgdhnaaaGreatDoor

namespace Go.Proofs.YtcklgafpgdhnaaaGreatDoor
open Go.RowKit

theorem mPSize (k v : Value) (w : World) : (Go.method 433 122 (.agg #[k, v]) "store/tree.size").run Tryz.prog w = .ok (248, .agg #[k, v]) w := by kernel_rfl

theorem pairSize_any (p : Pr) (w : World) (h1 : p.1.size ≤ 100000 := by omega) (h2 : p.2.size ≤ 100000 := by omega) : Calls Tryz.prog 248 #[.agg #[.string p.1, .string p.2]] w fun e w' => e = .returned (.int .i64 (psz p : Nat)) ∧ Kept [] w w' := by
 go_enter Tryz.func248, Tryz.ntmps248
 go_wp2
 go_ret
 exact ⟨by unfold psz; simp, (Kept.refl _ _).alloc _⟩


def MePI (l : List Pr) (w : World) (s i : Value) (wr : World) : Prop := ∃ j : Nat, j ≤ l.length ∧ i = .int .i64 j ∧ s = .int .i64 (((l.take j).map psz).sum : Nat) ∧ Kept [] w wr

theorem measP_any (vl : Value) (l : List Pr) (w : World) (h : SL w 122 2 vl (l.map pe)) (hl : l.length ≤ 50000) (hs : ∀ x ∈ l, psz x ≤ 22) :
  Calls Tryz.prog 244 #[vl] w fun e w' => e = .returned (.int .i64 ((l.map psz).sum : Nat)) ∧ Kept [] w w' := by
 obtain ⟨pv, cv, ev⟩ := h.shape
 rw [List.length_map] at ev
 subst ev
 have hm := mPSize
 have hsum : ∀ j, ((l.take j).map psz).sum ≤ 22 * l.length := by
  intro j
  have : ∀ (L : List Pr), (∀ x ∈ L, psz x ≤ 22) → (L.map psz).sum ≤ 22 * L.length := by
   intro L hL
   induction L with
   | nil => simp
   | cons a r ih =>
    have h1 := hL a (by simp)
    have h2 := ih fun x hx => hL x (by simp [hx])
    simp only [List.map_cons, List.sum_cons, List.length_cons]
    omega
  have h1 := this (l.take j) fun x hx => hs x (List.mem_of_mem_take hx)
  have h2 : (l.take j).length ≤ l.length := by rw [List.length_take]; exact Nat.min_le_right _ _
  omega
 go_enter Tryz.func244, Tryz.ntmps244
 go_wp2
 go_loopw [3, 8] (fun s i wr => MePI l w s i wr) (fun _ i _ => l.length - (intOf i).toNat)
 case atStart => exact ⟨0, Nat.zero_le _, rfl, by simp, Kept.refl _ _⟩
 case round =>
  obtain ⟨j, hj, rfl, rfl, hkr⟩ := hrel
  by_cases hlt : j < l.length
  ·have hlt' : (j : Int) < (l.length : Int) := by omega
   obtain ⟨x, hx⟩ : ∃ x, l[j]? = some x := ⟨_, List.getElem?_eq_getElem hlt⟩
   have hx22 := hs x (List.mem_of_getElem? hx)
   have hx1 : x.1.size ≤ 22 := by unfold psz at hx22; omega
   have hx2 : x.2.size ≤ 22 := by unfold psz at hx22; omega
   have hsj := hsum j
   have hnext : ((l.take (j + 1)).map psz).sum = ((l.take j).map psz).sum + psz x := by
    rw [take_snoc l j x hx]; simp
   obtain ⟨g, off, cap, cur, e, hg, hc1, hc2, hc3, hcur⟩ := (h.kept hkr).at_ (by simp; omega)
   rw [List.length_map] at e
   cases e
   have hld := load2 (P := Tryz.prog) (ty := 122) _ hg (hcur j _ (by rw [List.getElem?_map, hx]; rfl)) Tryz.underlying122 stp
   simp only [pe] at hld
   generalize hS : ((l.take j).map psz).sum = S at *
   have HN : Hid _ := hnext
   clear hcur hnext hS
   go_wp2_with (first
    | (refine wpList_val rfl _ _ (exec_index 115 (.tmp 6) (.tmp 8) rfl g off l.length cv j 2 rfl rfl 122 Tryz.underlying115 stp hlt (off + j * 2) rfl) ?_)
    | (refine wpList_load_seg rfl 122 (.tmp 10) rfl ⟨g, off + j * 2, none⟩ rfl _ hld ?_)
    | (go_at_call 248; refine (pairSize_any _ _).mono ?_; rintro e w2 ⟨rfl, hk2⟩))
   go_roundw
   case rel => exact ⟨j + 1, by omega, by go_num, by rw [HN.out]; simp, ((hkr.alloc _).trans hk2)⟩
   case measure => simp [intOf]; omega
  ·have hge : ¬ (j : Int) < (l.length : Int) := by omega
   have ej : j = l.length := by omega
   subst ej
   go_wp2
   go_ret
   exact ⟨rfl, hkr⟩

end Go.Proofs.YtcklgafpgdhnaaaGreatDoor

namespace Go.Proofs.YtcklgafpgdhnaaaGreatDoor
open Go.RowKit

def ke (x : KE) : El := [.string x.1, .int .i64 x.3, x.2]
def ksz (_ : KE) : Nat := 11
theorem mKSize (k v u : Value) (w : World) : (Go.method 433 80 (.agg #[k, v, u]) "store/tree.size").run Tryz.prog w = .ok (227, .agg #[k, v, u]) w := by kernel_rfl

theorem kidSize_any (x : KE) (w : World) : Calls Tryz.prog 227 #[.agg #[.string x.1, .int .i64 x.3, x.2]] w fun e w' => e = .returned (.int .i64 (ksz x : Nat)) ∧ Kept [] w w' := by
 go_enter Tryz.func227, Tryz.ntmps227
 go_wp2
 go_ret
 exact ⟨rfl, (Kept.refl _ _).alloc _⟩


def MeKI (l : List KE) (w : World) (s i : Value) (wr : World) : Prop := ∃ j : Nat, j ≤ l.length ∧ i = .int .i64 j ∧ s = .int .i64 (((l.take j).map ksz).sum : Nat) ∧ Kept [] w wr

theorem measK_any (vl : Value) (l : List KE) (w : World) (h : SL w 80 3 vl (l.map ke)) (hl : l.length ≤ 50000) (hs : ∀ x ∈ l, ksz x ≤ 22) (ho : ∀ x ∈ l, ∃ t v, x.2 = .iface t v) :
  Calls Tryz.prog 266 #[vl] w fun e w' => e = .returned (.int .i64 ((l.map ksz).sum : Nat)) ∧ Kept [] w w' := by
 obtain ⟨pv, cv, ev⟩ := h.shape
 rw [List.length_map] at ev
 subst ev
 have hm := mKSize
 have hsum : ∀ j, ((l.take j).map ksz).sum ≤ 22 * l.length := by
  intro j
  have : ∀ (L : List KE), (∀ x ∈ L, ksz x ≤ 22) → (L.map ksz).sum ≤ 22 * L.length := by
   intro L hL
   induction L with
   | nil => simp
   | cons a r ih =>
    have h1 := hL a (by simp)
    have h2 := ih fun x hx => hL x (by simp [hx])
    simp only [List.map_cons, List.sum_cons, List.length_cons]
    omega
  have h1 := this (l.take j) fun x hx => hs x (List.mem_of_mem_take hx)
  have h2 : (l.take j).length ≤ l.length := by rw [List.length_take]; exact Nat.min_le_right _ _
  omega
 go_enter Tryz.func266, Tryz.ntmps266
 go_wp2
 go_loopw [3, 8] (fun s i wr => MeKI l w s i wr) (fun _ i _ => l.length - (intOf i).toNat)
 case atStart => exact ⟨0, Nat.zero_le _, rfl, by simp, Kept.refl _ _⟩
 case round =>
  obtain ⟨j, hj, rfl, rfl, hkr⟩ := hrel
  by_cases hlt : j < l.length
  ·have hlt' : (j : Int) < (l.length : Int) := by omega
   obtain ⟨x, hx⟩ : ∃ x, l[j]? = some x := ⟨_, List.getElem?_eq_getElem hlt⟩
   have hx22 := hs x (List.mem_of_getElem? hx)
   obtain ⟨ti, vi, ei⟩ := ho x (List.mem_of_getElem? hx)
   have hsj := hsum j
   have hnext : ((l.take (j + 1)).map ksz).sum = ((l.take j).map ksz).sum + ksz x := by
    rw [take_snoc l j x hx]; simp
   obtain ⟨g, off, cap, cur, e, hg, hc1, hc2, hc3, hcur⟩ := (h.kept hkr).at_ (by simp; omega)
   rw [List.length_map] at e
   cases e
   have hld := load2 (P := Tryz.prog) (ty := 80) _ hg (hcur j _ (by rw [List.getElem?_map, hx]; rfl)) Tryz.underlying80 stk
   simp only [ke, ei] at hld
   generalize hS : ((l.take j).map ksz).sum = S at *
   have HN : Hid _ := hnext
   clear hcur hnext hS
   go_wp2_with (first
    | (refine wpList_val rfl _ _ (exec_index 165 (.tmp 6) (.tmp 8) rfl g off l.length cv j 3 rfl rfl 80 Tryz.underlying165 stk hlt (off + j * 3) rfl) ?_)
    | (refine wpList_load_seg rfl 80 (.tmp 10) rfl ⟨g, off + j * 3, none⟩ rfl _ hld ?_)
    | (go_at_call 227; refine (kidSize_any ⟨x.1, .iface ti vi, x.3⟩ _).mono ?_; rintro e w2 ⟨rfl, hk2⟩))
   go_roundw
   case rel => exact ⟨j + 1, by omega, by go_num, by rw [HN.out]; simp only [ksz]; rw [Value.int.injEq]; refine ⟨rfl, ?_⟩; rw [w64 _ (by omega)]; omega, ((hkr.alloc _).trans hk2)⟩
   case measure => simp [intOf]; omega
  ·have hge : ¬ (j : Int) < (l.length : Int) := by omega
   have ej : j = l.length := by omega
   subst ej
   go_wp2
   go_ret
   exact ⟨rfl, hkr⟩

end Go.Proofs.YtcklgafpgdhnaaaGreatDoor

namespace Go.Proofs.YtcklgafpgdhnaaaGreatDoor
open Go.RowKit

def HvPI (l : List Pr) (w : World) (s i : Value) (wr : World) : Prop := ∃ j : Nat, j ≤ l.length ∧ i = .int .i64 j ∧ s = .int .i64 (((l.take j).map psz).sum : Nat) ∧ j + cutI psz (l.map psz).sum ((l.take j).map psz).sum (l.drop j) = halfI psz l ∧ Kept [] w wr

def HvPR (vl : Value) (l : List Pr) (w : World) (e : Ending) (w' : World) : Prop := ∃ a b, e = .returned (.tuple #[a, b]) ∧ SL w' 122 2 a ((l.take (halfI psz l)).map pe) ∧ SL w' 122 2 b ((l.drop (halfI psz l)).map pe) ∧ (∀ y, a.ownBlock = some y → vl.ownBlock = some y) ∧ (∀ y, b.ownBlock = some y → vl.ownBlock = some y) ∧ Kept [] w w'

theorem halveP_any (vl : Value) (l : List Pr) (w : World) (h : SL w 122 2 vl (l.map pe)) (hl : l.length ≤ 50000) (hs : ∀ x ∈ l, psz x ≤ 22) (h0 : halfI psz l < l.length) :
  Calls Tryz.prog 243 #[vl] w (HvPR vl l w) := by
 obtain ⟨g, off, cap, cur, ev, hg, hc1, hc2, hc3, hcur⟩ := h.at_ (by simp; omega)
 rw [List.length_map] at ev hc1
 subst ev
 have hm := mPSize
 have hbnd : ∀ j, ((l.take j).map psz).sum ≤ (l.map psz).sum := by
  intro j; have := sum_split psz l j; omega
 have hall : (l.map psz).sum ≤ 22 * l.length := by
  have : ∀ (L : List Pr), (∀ x ∈ L, psz x ≤ 22) → (L.map psz).sum ≤ 22 * L.length := by
   intro L hL
   induction L with
   | nil => simp
   | cons a r ih =>
    have h1 := hL a (by simp)
    have h2 := ih fun x hx => hL x (by simp [hx])
    simp only [List.map_cons, List.sum_cons, List.length_cons]
    omega
  exact this l hs
 have HM : Hid (Calls _ _ _ _ _) := measP_any _ l w h hl hs
 generalize hW : (l.map psz).sum = WH at *
 have HWH : Hid _ := hW
 clear hW
 go_enter Tryz.func243, Tryz.ntmps243
 go_wp2_with (first | (go_at_call 244; refine HM.out.mono ?_; rintro e w1 ⟨rfl, hk1⟩))
 go_loopw [5, 6] (fun s i wr => HvPI l w s i wr) (fun _ i _ => l.length + 1 - (intOf i).toNat)
 case atStart => exact ⟨0, Nat.zero_le _, rfl, by simp, by simp [halfI], hk1⟩
 case round =>
  obtain ⟨j, hj, rfl, rfl, hcut, hkr⟩ := hrel
  have hbj := hbnd j
  rw [HWH.out] at hcut
  by_cases hlt : 2 * ((l.take j).map psz).sum < WH
  ·have hjl : j < l.length := by
    rcases Nat.lt_or_ge j l.length with h1 | h1
    ·exact h1
    ·rw [List.take_of_length_le h1, HWH.out] at hlt; omega
   have hlt' : (2 : Int) * (((l.take j).map psz).sum : Nat) < (WH : Int) := by omega
   obtain ⟨x, hx⟩ : ∃ x, l[j]? = some x := ⟨_, List.getElem?_eq_getElem hjl⟩
   have hx22 := hs x (List.mem_of_getElem? hx)
   have hx1 : x.1.size ≤ 22 := by unfold psz at hx22; omega
   have hx2 : x.2.size ≤ 22 := by unfold psz at hx22; omega
   have hnext : ((l.take (j + 1)).map psz).sum = ((l.take j).map psz).sum + psz x := by
    rw [take_snoc l j x hx]; simp
   have hdr : l.drop j = x :: l.drop (j + 1) := by
    rw [List.drop_eq_getElem_cons hjl, (List.getElem?_eq_some_iff.1 hx).2]
   have hcut2 : j + 1 + cutI psz (l.map psz).sum ((l.take (j + 1)).map psz).sum (l.drop (j + 1)) = halfI psz l := by
    rw [← hcut, hdr, cutI, if_pos hlt, hnext, HWH.out]; omega
   have hgr : wr.heap[g]? = some (.cells cur 122 (0, 0)) := hkr.get hg (by simp)
   have hld := load2 (P := Tryz.prog) (ty := 122) _ hgr (hcur j _ (by rw [List.getElem?_map, hx]; rfl)) Tryz.underlying122 stp
   simp only [pe] at hld
   generalize hS : ((l.take j).map psz).sum = S at *
   have HN : Hid _ := hnext
   have HC : Hid _ := hcut2
   clear hnext hS hcut2 hcut hdr
   go_wp2_with (first
    | (refine wpList_val rfl _ _ (exec_index 116 (.tmp 16) (.tmp 17) rfl g off l.length cap j 2 rfl rfl 122 Tryz.underlying116 stp hjl (off + j * 2) rfl) ?_)
    | (refine wpList_load_seg rfl 122 (.tmp 18) rfl ⟨g, off + j * 2, none⟩ rfl _ hld ?_)
    | (go_at_call 248; refine (pairSize_any _ _).mono ?_; rintro e w2 ⟨rfl, hk2⟩))
   go_roundw
   case rel => exact ⟨j + 1, by omega, by go_num, by rw [HN.out]; simp, HC.out, hkr.trans hk2⟩
   case measure => simp [intOf]; omega
  ·have hge : ¬ (2 : Int) * (((l.take j).map psz).sum : Nat) < (WH : Int) := by omega
   have ej : j = halfI psz l := by
    have hz : cutI psz WH ((l.take j).map psz).sum (l.drop j) = 0 := by
     cases l.drop j with
     | nil => rfl
     | cons y t => rw [cutI, if_neg hlt]
    omega
   generalize hS : ((l.take j).map psz).sum = S at *
   clear hcut hS
   have hjl : j < l.length := by omega
   have i1 : (j : Int) ≤ (l.length : Int) := by omega
   have i2 : (j : Int) ≤ (cap : Int) := by omega
   have i3 : ¬ cap = j := by omega
   have i4 : j ≤ cap := by omega
   go_wp2
   go_quiet (fail)
   go_wp2
   go_ret2
   have hgd : (wr.drewN nq).heap[g]? = some (.cells cur 122 (0, 0)) := hkr.get hg (by simp)
   refine ⟨_, _, rfl, Or.inr ⟨g, off, halfI psz l, cur, ?_, hgd, ?_, by omega, by omega, ?_⟩, Or.inr ⟨g, off + halfI psz l * 2, cap - halfI psz l, cur, ?_, hgd, ?_, by omega, by omega, ?_⟩, fun _ hy => hy, fun _ hy => hy, hkr.drewN _⟩
   ·simp; omega
   ·simp; omega
   ·intro i e he
    rw [List.map_take, List.getElem?_take] at he
    split at he
    ·exact hcur i e he
    ·cases he
   ·simp
   ·simp; omega
   ·intro i e he
    rw [List.map_drop, List.getElem?_drop] at he
    have := hcur _ e he
    rw [show off + (halfI psz l + i) * 2 = off + halfI psz l * 2 + i * 2 by omega] at this
    exact this

end Go.Proofs.YtcklgafpgdhnaaaGreatDoor

namespace Go.Proofs.YtcklgafpgdhnaaaGreatDoor
open Go.RowKit

def HvKI (l : List KE) (w : World) (s i : Value) (wr : World) : Prop := ∃ j : Nat, j ≤ l.length ∧ i = .int .i64 j ∧ s = .int .i64 (((l.take j).map ksz).sum : Nat) ∧ j + cutI ksz (l.map ksz).sum ((l.take j).map ksz).sum (l.drop j) = halfI ksz l ∧ Kept [] w wr

def HvKR (vl : Value) (l : List KE) (w : World) (e : Ending) (w' : World) : Prop := ∃ a b, e = .returned (.tuple #[a, b]) ∧ SL w' 80 3 a ((l.take (halfI ksz l)).map ke) ∧ SL w' 80 3 b ((l.drop (halfI ksz l)).map ke) ∧ (∀ y, a.ownBlock = some y → vl.ownBlock = some y) ∧ (∀ y, b.ownBlock = some y → vl.ownBlock = some y) ∧ Kept [] w w'

theorem halveK_any (vl : Value) (l : List KE) (w : World) (h : SL w 80 3 vl (l.map ke)) (hl : l.length ≤ 50000) (hs : ∀ x ∈ l, ksz x ≤ 22) (ho : ∀ x ∈ l, ∃ t v, x.2 = .iface t v) (h0 : halfI ksz l < l.length) :
  Calls Tryz.prog 265 #[vl] w (HvKR vl l w) := by
 obtain ⟨g, off, cap, cur, ev, hg, hc1, hc2, hc3, hcur⟩ := h.at_ (by simp; omega)
 rw [List.length_map] at ev hc1
 subst ev
 have hm := mKSize
 have hbnd : ∀ j, ((l.take j).map ksz).sum ≤ (l.map ksz).sum := by
  intro j; have := sum_split ksz l j; omega
 have hall : (l.map ksz).sum ≤ 22 * l.length := by
  have : ∀ (L : List KE), (∀ x ∈ L, ksz x ≤ 22) → (L.map ksz).sum ≤ 22 * L.length := by
   intro L hL
   induction L with
   | nil => simp
   | cons a r ih =>
    have h1 := hL a (by simp)
    have h2 := ih fun x hx => hL x (by simp [hx])
    simp only [List.map_cons, List.sum_cons, List.length_cons]
    omega
  exact this l hs
 have HM : Hid (Calls _ _ _ _ _) := measK_any _ l w h hl hs ho
 generalize hW : (l.map ksz).sum = WH at *
 have HWH : Hid _ := hW
 clear hW
 go_enter Tryz.func265, Tryz.ntmps265
 go_wp2_with (first | (go_at_call 266; refine HM.out.mono ?_; rintro e w1 ⟨rfl, hk1⟩))
 go_loopw [5, 6] (fun s i wr => HvKI l w s i wr) (fun _ i _ => l.length + 1 - (intOf i).toNat)
 case atStart => exact ⟨0, Nat.zero_le _, rfl, by simp, by simp [halfI], hk1⟩
 case round =>
  obtain ⟨j, hj, rfl, rfl, hcut, hkr⟩ := hrel
  have hbj := hbnd j
  rw [HWH.out] at hcut
  by_cases hlt : 2 * ((l.take j).map ksz).sum < WH
  ·have hjl : j < l.length := by
    rcases Nat.lt_or_ge j l.length with h1 | h1
    ·exact h1
    ·rw [List.take_of_length_le h1, HWH.out] at hlt; omega
   have hlt' : (2 : Int) * (((l.take j).map ksz).sum : Nat) < (WH : Int) := by omega
   obtain ⟨x, hx⟩ : ∃ x, l[j]? = some x := ⟨_, List.getElem?_eq_getElem hjl⟩
   have hx22 := hs x (List.mem_of_getElem? hx)
   obtain ⟨ti, vi, ei⟩ := ho x (List.mem_of_getElem? hx)
   have hnext : ((l.take (j + 1)).map ksz).sum = ((l.take j).map ksz).sum + ksz x := by
    rw [take_snoc l j x hx]; simp
   have hdr : l.drop j = x :: l.drop (j + 1) := by
    rw [List.drop_eq_getElem_cons hjl, (List.getElem?_eq_some_iff.1 hx).2]
   have hcut2 : j + 1 + cutI ksz (l.map ksz).sum ((l.take (j + 1)).map ksz).sum (l.drop (j + 1)) = halfI ksz l := by
    rw [← hcut, hdr, cutI, if_pos hlt, hnext, HWH.out]; omega
   have hgr : wr.heap[g]? = some (.cells cur 80 (0, 0)) := hkr.get hg (by simp)
   have hld := load2 (P := Tryz.prog) (ty := 80) _ hgr (hcur j _ (by rw [List.getElem?_map, hx]; rfl)) Tryz.underlying80 stk
   simp only [ke, ei] at hld
   generalize hS : ((l.take j).map ksz).sum = S at *
   have HN : Hid _ := hnext
   have HC : Hid _ := hcut2
   clear hnext hS hcut2 hcut hdr
   go_wp2_with (first
    | (refine wpList_val rfl _ _ (exec_index 168 (.tmp 16) (.tmp 17) rfl g off l.length cap j 3 rfl rfl 80 Tryz.underlying168 stk hjl (off + j * 3) rfl) ?_)
    | (refine wpList_load_seg rfl 80 (.tmp 18) rfl ⟨g, off + j * 3, none⟩ rfl _ hld ?_)
    | (go_at_call 227; refine (kidSize_any ⟨x.1, .iface ti vi, x.3⟩ _).mono ?_; rintro e w2 ⟨rfl, hk2⟩))
   go_roundw
   case rel => exact ⟨j + 1, by omega, by go_num, by rw [HN.out]; simp only [ksz]; rw [Value.int.injEq]; refine ⟨rfl, ?_⟩; rw [w64 _ (by omega)]; omega, HC.out, hkr.trans hk2⟩
   case measure => simp [intOf]; omega
  ·have hge : ¬ (2 : Int) * (((l.take j).map ksz).sum : Nat) < (WH : Int) := by omega
   have ej : j = halfI ksz l := by
    have hz : cutI ksz WH ((l.take j).map ksz).sum (l.drop j) = 0 := by
     cases l.drop j with
     | nil => rfl
     | cons y t => rw [cutI, if_neg hlt]
    omega
   generalize hS : ((l.take j).map ksz).sum = S at *
   clear hcut hS
   have hjl : j < l.length := by omega
   have i1 : (j : Int) ≤ (l.length : Int) := by omega
   have i2 : (j : Int) ≤ (cap : Int) := by omega
   have i3 : ¬ cap = j := by omega
   have i4 : j ≤ cap := by omega
   go_wp2
   go_quiet (fail)
   go_wp2
   go_ret2
   have hgd : (wr.drewN nq).heap[g]? = some (.cells cur 80 (0, 0)) := hkr.get hg (by simp)
   refine ⟨_, _, rfl, Or.inr ⟨g, off, halfI ksz l, cur, ?_, hgd, ?_, by omega, by omega, ?_⟩, Or.inr ⟨g, off + halfI ksz l * 3, cap - halfI ksz l, cur, ?_, hgd, ?_, by omega, by omega, ?_⟩, fun _ hy => hy, fun _ hy => hy, hkr.drewN _⟩
   ·simp; omega
   ·simp; omega
   ·intro i e he
    rw [List.map_take, List.getElem?_take] at he
    split at he
    ·exact hcur i e he
    ·cases he
   ·simp
   ·simp; omega
   ·intro i e he
    rw [List.map_drop, List.getElem?_drop] at he
    have := hcur _ e he
    rw [show off + (halfI ksz l + i) * 3 = off + halfI ksz l * 3 + i * 3 by omega] at this
    exact this

end Go.Proofs.YtcklgafpgdhnaaaGreatDoor
