import Derived.Test.YtloihcnbcknbnaaGreatDoorPtat
import Derived.Lib.Bytealg
namespace Go.Proofs.YtloihcnbcknbnaaGreatDoor

theorem op_with (k v : ByteArray) (hk : keyOk k) (hv : v.size ≤ 12) : OpAt (withL k v) k where
  mid A l B hA hB := by rw [with_app_lt k v A _ hA, with_app_gt k v l B hB]
  srt l h := srt_with k v l h
  mem l p hp := by
    rcases mem_withGo hp with rfl | h
    · exact Or.inr ⟨rfl, hk.1, hk.2, hv⟩
    · exact Or.inl h
  size l hs ho := by
    have hp : psz (k, v) ≤ 22 := psz_le ⟨hk.1, hk.2, hv⟩
    induction l with
    | nil => simp [withL, withGo]; exact hp
    | cons p r ih =>
      have hr : Srt r := (List.pairwise_cons.1 hs).2
      have hpr := (List.pairwise_cons.1 hs).1
      have hop : psz p ≤ 22 := psz_le (ho p (by simp))
      rcases bl_total p.1 k with hl | he | hl
      · have e : withL k v (p :: r) = p :: withL k v r := with_app_lt k v [p] r (by simp [hl])
        have := ih hr fun q hq => ho q (by simp [hq])
        rw [e]; simp; omega
      · have e : withL k v (p :: r) = (k, v) :: r := by
          have hr' : withoutL k r = r := without_gt k r fun q hq => by rw [← he]; exact hpr q hq
          unfold withL
          rw [withGo_cons, he, bl_irrefl, be_refl]
          simp [withGo_true, hr']
        rw [e]; simp; omega
      · have hg : ∀ q ∈ p :: r, bl k q.1 = true := by
          intro q hq
          rcases List.mem_cons.1 hq with rfl | hq
          · exact hl
          · exact bl_trans hl (hpr q hq)
        have e : withL k v (p :: r) = (k, v) :: p :: r := by
          have := with_app_gt k v [] (p :: r) hg
          simpa [withL, withGo] using this
        rw [e]; simp; omega

theorem op_without (k : ByteArray) : OpAt (withoutL k) k where
  mid A l B hA hB := by rw [without_app, without_app, without_lt k A hA, without_gt k B hB]
  srt l h := srt_without h
  mem l p hp := Or.inl (mem_without hp)
  size l hs ho := by
    induction l with
    | nil => simp [withoutL]
    | cons p r ih =>
      have hr : Srt r := (List.pairwise_cons.1 hs).2
      have hpr := (List.pairwise_cons.1 hs).1
      have hop : psz p ≤ 22 := psz_le (ho p (by simp))
      have := ih hr fun q hq => ho q (by simp [hq])
      cases he : be p.1 k with
      | true =>
        have hk := (be_iff _ _).1 he
        have hr' : withoutL k r = r := without_gt k r fun q hq => by rw [← hk]; exact hpr q hq
        have e : withoutL k (p :: r) = r := by
          have e1 : withoutL k (p :: r) = withoutL k r := by simp [withoutL, he]
          rw [e1, hr']
        rw [e]; simp; omega
      | false =>
        have e : withoutL k (p :: r) = p :: withoutL k r := by simp [withoutL, he]
        rw [e]; simp; omega

/-- a tree -/
structure Tr where
  h : Nat
  n : Nd h
def flatT (t : Tr) : List Pr := flatN t.h t.n
def cntT (t : Tr) : Nat := cntN t.h t.n
def nil8 : ByteArray := ⟨#[]⟩
theorem ge_nil (k : ByteArray) : ge k nil8 := by
  unfold ge
  rw [bl_def]
  simp [nil8]
structure TW (t : Tr) : Prop where
  wf : WFN t.h nil8 t.n
  full : FullN t.h t.n
  hi : sizeN t.h t.n ≤ 122
  two : 0 < t.h → 22 ≤ sizeN t.h t.n

/-- a root with one kid alone is that kid -/
def lowT : (h : Nat) → Nd h → Tr
  | 0, l => ⟨0, l⟩
  | h + 1, ks => match (show List (Kid h) from ks) with
    | [a] => ⟨h, a.2⟩
    | ks' => ⟨h + 1, ks'⟩
def rootT (h : Nat) (M : List (Kid h)) : Tr := match M with
  | [a] => lowT h a.2
  | M' => ⟨h + 1, M'⟩
def chgT (F : List Pr → List Pr) (k : ByteArray) (t : Tr) : Tr := rootT t.h (fitN t.h nil8 (chgN F k t.h t.n))

theorem low_ok (h : Nat) (n : Nd h) (hw : WFN h nil8 n) (hf : FullN h n) (hi : sizeN h n ≤ 122) : TW (lowT h n) ∧ flatT (lowT h n) = flatN h n := by
  cases h with
  | zero => exact ⟨⟨hw, hf, hi, by intro h; cases h⟩, rfl⟩
  | succ h =>
    obtain ⟨⟨n0, r0, e0⟩, hk⟩ := (WFN_succ h nil8 n).1 hw
    have hfull := (FullN_succ h n).1 hf
    subst e0
    cases r0 with
    | nil =>
      have hm : (nil8, n0) ∈ [((nil8, n0) : Kid h)] := by simp
      have ha := hfull (nil8, n0) hm
      refine ⟨⟨hk.all _ hm, ha.2, ha.1.2, fun _ => by have := ha.1.1; show 22 ≤ sizeN h n0; simp at this; omega⟩, ?_⟩
      show flatN h n0 = flatK h [(nil8, n0)]
      simp [flatK]
    | cons b r =>
      refine ⟨⟨hw, hf, hi, fun _ => ?_⟩, rfl⟩
      show 22 ≤ 11 * ((nil8, n0) :: b :: r).length
      simp; omega

theorem chgT_ok {F : List Pr → List Pr} {k : ByteArray} (hF : OpAt F k) (t : Tr) (ht : TW t) : TW (chgT F k t) ∧ flatT (chgT F k t) = F (flatT t) := by
  have hc := chg_ok hF t.h nil8 t.n ht.wf ht.full (ge_nil k) ht.two
  have h1 := hc.hi
  have h2 := ht.hi
  unfold chgT
  by_cases hs : sizeN t.h (chgN F k t.h t.n) ≤ 122
  · have e : fitN t.h nil8 (chgN F k t.h t.n) = [(nil8, chgN F k t.h t.n)] := by unfold fitN; rw [if_pos hs]
    rw [e]
    obtain ⟨a, b⟩ := low_ok t.h _ hc.wf hc.full hs
    exact ⟨a, b.trans hc.flat⟩
  · have hfit := fit_ok t.h nil8 _ hc.wf hc.full (by omega) (by omega)
    have e : fitN t.h nil8 (chgN F k t.h t.n) = [(nil8, (halveN t.h (chgN F k t.h t.n)).1), (firstN t.h (halveN t.h (chgN F k t.h t.n)).2, (halveN t.h (chgN F k t.h t.n)).2)] := by unfold fitN; rw [if_neg hs]
    rw [e] at hfit ⊢
    refine ⟨⟨(WFN_succ t.h nil8 _).2 ⟨⟨_, _, rfl⟩, hfit.kw⟩, fun a ha => hfit.full a ha, by show 11 * 2 ≤ 122; omega, fun _ => by show 22 ≤ 11 * 2; omega⟩, ?_⟩
    exact hfit.flat.trans hc.flat

/-! how many nodes -/
theorem sum_le22 (l : List Pr) (h : ∀ p ∈ l, okp p) : (l.map psz).sum ≤ 22 * l.length := by
  induction l with
  | nil => simp
  | cons p r ih =>
    have := psz_le (h p (by simp))
    have := ih fun q hq => h q (by simp [hq])
    simp; omega

theorem cnt_kids {h : Nat} (IH : ∀ (f : ByteArray) (n : Nd h), WFN h f n → FullN h n → 40 ≤ sizeN h n → 3 * cntN h n + 1 ≤ 2 * (flatN h n).length) (ks : List (Kid h)) (hk : KW h ks) (hf : ∀ a ∈ ks, Rt h a.2 ∧ FullN h a.2) :
    3 * (ks.map fun k => cntN h k.2).sum + ks.length ≤ 2 * (flatK h ks).length := by
  induction ks with
  | nil => simp [flatK]
  | cons a r ih =>
    have hr : KW h r := ⟨(List.pairwise_cons.1 hk.ord).2, fun b hb => hk.all b (by simp [hb])⟩
    have h1 := ih hr fun b hb => hf b (by simp [hb])
    have ha := hf a (by simp)
    have h2 := IH a.1 a.2 (hk.all a (by simp)) ha.2 ha.1.1
    rw [flatK_cons, List.length_append]
    simp; omega

theorem cnt_le : ∀ (h : Nat) (f : ByteArray) (n : Nd h), WFN h f n → FullN h n → 40 ≤ sizeN h n → 3 * cntN h n + 1 ≤ 2 * (flatN h n).length
  | 0, f, l, hw, _, hs => by
    have h1 := sum_le22 l fun p hp => (hw.2 p hp).2
    have hs' : 40 ≤ (List.map psz l).sum := hs
    show 3 * 1 + 1 ≤ 2 * List.length (α := Pr) l
    omega
  | h + 1, f, ks, hw, hf, hs => by
    obtain ⟨_, hk⟩ := (WFN_succ h f ks).1 hw
    have h1 := cnt_kids (fun f n => cnt_le h f n) ks hk ((FullN_succ h ks).1 hf)
    have hs' : 40 ≤ 11 * List.length (α := Kid h) ks := hs
    show 3 * (1 + (List.map (fun k : Kid h => cntN h k.2) ks).sum) + 1 ≤ 2 * (flatK h ks).length
    omega

theorem cntT_le (t : Tr) (ht : TW t) : cntT t = 1 ∨ 3 * cntT t ≤ 2 * (flatT t).length + 1 := by
  obtain ⟨h, n⟩ := t
  cases h with
  | zero => exact Or.inl rfl
  | succ h =>
    right
    obtain ⟨_, hk⟩ := (WFN_succ h nil8 n).1 ht.wf
    have h1 := cnt_kids (fun f n => cnt_le h f n) n hk ((FullN_succ h n).1 ht.full)
    have h2 : 22 ≤ 11 * List.length (α := Kid h) n := ht.two (by simp)
    show 3 * (1 + (List.map (fun k : Kid h => cntN h k.2) n).sum) ≤ 2 * (flatK h n).length + 1
    omega

/-- a tree that takes too many blocks has too many keys (P11) -/
theorem no_room (t : Tr) (ht : TW t) (n mo : Nat) (hn : 8 ≤ n) (h : (n - 2) / 2 < cntT t) : ¬ roomy n mo (flatT t).length := by
  unfold roomy
  have := cntT_le t ht
  omega

end Go.Proofs.YtloihcnbcknbnaaGreatDoor

namespace Go.Proofs.YtloihcnbcknbnaaGreatDoor
open Go.RowKit

/-- a slice of elements of two cells, somewhere in a block -/
def SL (w : World) (t : TypeId) (v : Value) (es : List (Value × Value)) : Prop :=
  (v = .slice none 0 0 ∧ es = []) ∨ ∃ g off cap cur, v = .slice (some ⟨g, off, none⟩) es.length cap ∧ w.heap[g]? = some (.cells cur t (0, 0)) ∧ es.length ≤ cap ∧ cap ≤ maxLen ∧ off + cap * 2 ≤ cur.size ∧
    ∀ (i : Nat) (e : Value × Value), es[i]? = some e → cur[off + i * 2]? = some e.1 ∧ cur[off + i * 2 + 1]? = some e.2

theorem SL.kept {w w' : World} {t : TypeId} {v : Value} {es : List (Value × Value)} (h : SL w t v es) (k : Kept [] w w') : SL w' t v es := by
  rcases h with h | ⟨g, off, cap, cur, e, hh, r⟩
  · exact Or.inl h
  · exact Or.inr ⟨g, off, cap, cur, e, k.get hh (by simp), r⟩
theorem SL.shape {w : World} {t : TypeId} {v : Value} {es : List (Value × Value)} (h : SL w t v es) : ∃ p cap, v = .slice p es.length cap := by
  rcases h with ⟨rfl, rfl⟩ | ⟨g, off, cap, cur, rfl, _⟩
  · exact ⟨_, _, rfl⟩
  · exact ⟨_, _, rfl⟩
theorem SL.at_ {w : World} {t : TypeId} {v : Value} {es : List (Value × Value)} (h : SL w t v es) (hl : 0 < es.length) : ∃ g off cap cur, v = .slice (some ⟨g, off, none⟩) es.length cap ∧ w.heap[g]? = some (.cells cur t (0, 0)) ∧ es.length ≤ cap ∧ cap ≤ maxLen ∧ off + cap * 2 ≤ cur.size ∧
    ∀ (i : Nat) (e : Value × Value), es[i]? = some e → cur[off + i * 2]? = some e.1 ∧ cur[off + i * 2 + 1]? = some e.2 := by
  rcases h with ⟨_, rfl⟩ | h
  · simp at hl
  · exact h

theorem load2 {w : World} {t ty : TypeId} {g o : Nat} {cur : Array Value} {e : Value × Value} (fs : _) {P : Program} (hg : w.heap[g]? = some (.cells cur t (0, 0))) (hc : cur[o]? = some e.1 ∧ cur[o + 1]? = some e.2)
    (hu : P.underlying ty = some (.struct fs)) (hi : (P.info? ty).map (·.size) = some 2) : (loadVar ty ⟨g, o, none⟩).run P w = .ok (.agg #[e.1, e.2]) w := by
  refine run_loadVar_seg (P := P) w g o t ty cur.toList [e.1, e.2] (0, 0) _ (by simpa using hg) hu rfl hi ?_
  intro j v hv
  rcases j with _ | _ | j
  · simp at hv; subst hv; simpa using hc.1
  · simp at hv; subst hv; simpa using hc.2
  · simp at hv

/-- pairs as cells -/
def pe (p : Pr) : Value × Value := (.string p.1, .string p.2)
def LF (w : World) (v : Value) (l : List Pr) : Prop := SL w 114 v (l.map pe)
theorem LF.kept {w w' : World} {v : Value} {l : List Pr} (h : LF w v l) (k : Kept [] w w') : LF w' v l := SL.kept h k

theorem stp : (Tryz.prog.info? 114).map (·.size) = some 2 := by kernel_rfl

theorem pairKey_any (k v : Value) (s : ByteArray) (hk : k = .string s) (w : World) : Calls Tryz.prog 203 #[.agg #[k, v]] w fun e w' => e = .returned (.string s) ∧ Kept [] w w' := by
  subst hk
  go_enter Tryz.func203, Tryz.ntmps203
  go_wp2
  go_ret
  exact ⟨rfl, (Kept.refl _ _).alloc _⟩

theorem Compare_any (a b : ByteArray) (w : World) : Calls Tryz.prog 90 #[.string a, .string b] w fun e w' => e = .returned (.int .i64 (Lib.compareBytes a.data.toList b.data.toList)) ∧ w' = w := by
  have hx := fun W => Lib.run_compareString (P := Tryz.prog) a b W
  have he := @run_callFunc_extern Tryz.prog 144 _ Extern.BytealgCompare.compare Tryz.func144 (by kernel_rfl) (by kernel_rfl) (by kernel_rfl) (by kernel_rfl)
  go_enter Tryz.func90, Tryz.ntmps90
  go_wp2
  go_ret
  exact ⟨rfl, rfl⟩

theorem cmp_lt : ∀ (a b : List UInt8), (Lib.compareBytes a b < 0) = (a < b)
  | [], [] => by simp [Lib.compareBytes]
  | [], _ :: _ => by simp [Lib.compareBytes]
  | _ :: _, [] => by simp [Lib.compareBytes]
  | x :: a, y :: b => by
    have ih := cmp_lt a b
    unfold Lib.compareBytes
    by_cases h1 : x < y
    · simp [h1, List.cons_lt_cons_iff]
    · by_cases h2 : y < x
      · have : x ≠ y := fun e => by subst e; exact h1 h2
        simp [h1, h2, List.cons_lt_cons_iff, this]
      · have e : x = y := UInt8.le_antisymm (UInt8.not_lt.1 h2) (UInt8.not_lt.1 h1)
        subst e
        simp [h1, ih]
theorem cmp_eq0 : ∀ (a b : List UInt8), (Lib.compareBytes a b = 0) = (a = b)
  | [], [] => by simp [Lib.compareBytes]
  | [], _ :: _ => by simp [Lib.compareBytes]
  | _ :: _, [] => by simp [Lib.compareBytes]
  | x :: a, y :: b => by
    have ih := cmp_eq0 a b
    unfold Lib.compareBytes
    by_cases h1 : x < y
    · have : x ≠ y := fun e => by subst e; exact absurd h1 (UInt8.lt_irrefl x)
      simp [h1, this]
    · by_cases h2 : y < x
      · have : x ≠ y := fun e => by subst e; exact h1 h2
        simp [h1, h2, this]
      · have e : x = y := UInt8.le_antisymm (UInt8.not_lt.1 h2) (UInt8.not_lt.1 h1)
        subst e
        simp [h1, ih]
/-- what Compare says -/
def cmpB (a b : ByteArray) : Int := Lib.compareBytes a.data.toList b.data.toList
theorem cmpB_lt (a b : ByteArray) : decide (cmpB a b < 0) = bl a b := by rw [bl_def]; unfold cmpB; simp only [cmp_lt]
theorem cmpB_eq (a b : ByteArray) : (cmpB a b == 0) = be a b := by
  have h : (cmpB a b = 0) = (a.data.toList = b.data.toList) := cmp_eq0 _ _
  have h2 : be a b = decide (a.data.toList = b.data.toList) := by unfold be; rw [toList_of, toList_of]; exact Bool.eq_iff_iff.2 (by rw [beq_iff_eq, decide_eq_true_eq])
  rw [h2]
  by_cases e : a.data.toList = b.data.toList
  · rw [← h] at e; simp [e, h ▸ e]
  · have e' : ¬ cmpB a b = 0 := by rw [h]; exact e
    simp [e, e']

/-- the place of a key among keys -/
def Pos (keys : List ByteArray) (k : ByteArray) (i : Nat) : Prop := i ≤ keys.length ∧ ∀ (x : Nat) (q : ByteArray), keys[x]? = some q → (x < i ↔ bl q k = true)
/-- keys that rise -/
def Rise (keys : List ByteArray) : Prop := keys.Pairwise fun a b => bl a b = true

def FindR (keys : List ByteArray) (k : ByteArray) (w : World) (e : Ending) (w' : World) : Prop :=
  ∃ (i : Nat) (b : Bool), e = .returned (.tuple #[.int .i64 i, .bool b]) ∧ Pos keys k i ∧ (b = true ↔ keys[i]? = some k) ∧ Kept [] w w'

theorem mPairKey (k v : Value) (w : World) : (Go.method 395 114 (.agg #[k, v]) "store/tree.key").run Tryz.prog w = .ok (203, .agg #[k, v]) w := by kernel_rfl

set_option maxRecDepth 100000 in
set_option maxHeartbeats 1000000 in
theorem findP1_any (s k : ByteArray) (v : Value) (w : World) : Calls Tryz.prog 89 #[.agg #[.string s, v], .string k] w fun e w' => e = .returned (.int .i64 (cmpB s k)) ∧ Kept [] w w' := by
  have hm := mPairKey
  go_enter Tryz.func89, Tryz.ntmps89
  go_wp2_with (first
    | (go_at_call 203; refine (pairKey_any _ _ _ rfl _).mono ?_; rintro e w2 ⟨rfl, hk2⟩)
    | (go_at_call 90; refine (Compare_any _ _ _).mono ?_; rintro e w3 ⟨rfl, hw3⟩; rw [hw3]; clear hw3 w3))
  go_ret
  exact ⟨rfl, ((Kept.refl _ _).alloc _).trans hk2⟩

end Go.Proofs.YtloihcnbcknbnaaGreatDoor

namespace Go.Proofs.YtloihcnbcknbnaaGreatDoor
open Go.RowKit

def BsI (keys : List ByteArray) (k : ByteArray) (w : World) (i j : Value) (wr : World) : Prop :=
  ∃ a b : Nat, i = .int .i64 a ∧ j = .int .i64 b ∧ a ≤ b ∧ b ≤ keys.length ∧ (∀ (x : Nat) (q : ByteArray), keys[x]? = some q → x < a → bl q k = true) ∧ (∀ (x : Nat) (q : ByteArray), keys[x]? = some q → b ≤ x → bl q k = false) ∧ Kept [] w wr

theorem rise_get {keys : List ByteArray} (h : Rise keys) {x y : Nat} {p q : ByteArray} (hx : keys[x]? = some p) (hy : keys[y]? = some q) (hxy : x < y) : bl p q = true := by
  obtain ⟨h1, e1⟩ := List.getElem?_eq_some_iff.1 hx
  obtain ⟨h2, e2⟩ := List.getElem?_eq_some_iff.1 hy
  have := List.pairwise_iff_getElem.1 h x y h1 h2 hxy
  rwa [e1, e2] at this

set_option maxRecDepth 100000 in
set_option maxHeartbeats 4000000 in
theorem bsP_any (vl : Value) (es : List (Value × Value)) (keys : List ByteArray) (k : ByteArray) (w : World) (h : SL w 114 vl es) (hke : es.map Prod.fst = keys.map Value.string) (hr : Rise keys) (hl : es.length ≤ 50000) :
    Calls Tryz.prog 88 #[vl, .string k, .func (.func 89) #[] #[]] w (FindR keys k w) := by
  obtain ⟨pv, cv, rfl⟩ := h.shape
  have hkl : keys.length = es.length := by have := congrArg List.length hke; simpa using this.symm
  have hnth : ∀ (x : Nat) (q : ByteArray), keys[x]? = some q → ∃ v2, es[x]? = some (.string q, v2) := by
    intro x q hq
    have hx : x < es.length := by rw [← hkl]; exact (List.getElem?_eq_some_iff.1 hq).1
    have h2 := congrArg (fun l => l[x]?) hke
    simp only [List.getElem?_map, hq, Option.map_some, List.getElem?_eq_getElem hx] at h2
    refine ⟨es[x].2, ?_⟩
    rw [List.getElem?_eq_getElem hx]
    congr 1
    have h3 := Option.some.inj h2
    exact Prod.ext h3 rfl
  go_enter Tryz.func88, Tryz.ntmps88
  go_wp2
  go_loopw [9, 10] (fun i j wr => BsI keys k w i j wr) (fun i j _ => (intOf j).toNat - (intOf i).toNat)
  case atStart => exact ⟨0, es.length, rfl, rfl, Nat.zero_le _, by omega, by intro x q _ hx; omega, by intro x q hx hb; have := (List.getElem?_eq_some_iff.1 hx).1; omega, Kept.refl _ _⟩
  case round =>
    obtain ⟨a, b, rfl, rfl, hab, hb, hlo, hhi, hkr⟩ := hrel
    by_cases hlt : a < b
    · have hlt' : (a : Int) < (b : Int) := by omega
      obtain ⟨m, hm⟩ : ∃ m : Nat, m = (a + b) / 2 := ⟨_, rfl⟩
      obtain ⟨q, hq⟩ : ∃ q, keys[m]? = some q := ⟨_, List.getElem?_eq_getElem (by omega)⟩
      obtain ⟨v2, he⟩ := hnth m q hq
      obtain ⟨g, off, cap, cur, e, hg, hc1, hc2, hc3, hcur⟩ := (h.kept hkr).at_ (by omega)
      cases e
      have hld := load2 (P := Tryz.prog) (ty := 114) _ hg (hcur m _ he) Tryz.underlying114 stp
      have hmi : ((a : Int) + (b : Int)) / 2 = (m : Int) := by omega
      have hml : m < es.length := by omega
      have hma : a ≤ m ∧ m < b := by omega
      clear hcur hm
      cases hbl : bl q k with
      | true =>
        have hc : cmpB q k < 0 := by rw [← cmpB_lt] at hbl; simpa using hbl
        go_wp2_with (first
        | (refine wpList_val rfl _ _ (exec_index 107 (.tmp 25) (.tmp 26) rfl g off es.length cv m 2 rfl rfl 114 Tryz.underlying107 stp hml (off + m * 2) (by omega)) ?_)
        | (refine wpList_load_seg rfl 114 (.tmp 27) rfl ⟨g, off + m * 2, none⟩ rfl _ hld ?_)
        | (go_at_call 89; refine (findP1_any _ _ _ _).mono ?_; rintro e w2 ⟨rfl, hk2⟩))
        go_roundw
        case rel =>
          refine ⟨m + 1, b, by go_num, rfl, by omega, hb, ?_, hhi, hkr.trans hk2⟩
          intro x p hx hxm
          rcases Nat.lt_or_ge x m with h1 | h1
          · exact bl_trans (rise_get hr hx hq h1) hbl
          · have e : x = m := by omega
            subst e; rw [hq] at hx; cases hx; exact hbl
        case measure => simp [intOf]; omega
      | false =>
        have hc : ¬ cmpB q k < 0 := by rw [← cmpB_lt] at hbl; simpa using hbl
        go_wp2_with (first
        | (refine wpList_val rfl _ _ (exec_index 107 (.tmp 25) (.tmp 26) rfl g off es.length cv m 2 rfl rfl 114 Tryz.underlying107 stp hml (off + m * 2) (by omega)) ?_)
        | (refine wpList_load_seg rfl 114 (.tmp 27) rfl ⟨g, off + m * 2, none⟩ rfl _ hld ?_)
        | (go_at_call 89; refine (findP1_any _ _ _ _).mono ?_; rintro e w2 ⟨rfl, hk2⟩))
        go_roundw
        case rel =>
          refine ⟨a, m, rfl, rfl, by omega, by omega, hlo, ?_, hkr.trans hk2⟩
          intro x p hx hxm
          rcases Nat.lt_or_ge m x with h1 | h1
          · exact ge_trans (lt_ge (rise_get hr hq hx h1)) hbl
          · have e : x = m := by omega
            subst e; rw [hq] at hx; cases hx; exact hbl
        case measure => simp [intOf]; omega
    · have hge : ¬ (a : Int) < (b : Int) := by omega
      have eab : a = b := by omega
      subst eab
      have hpos : Pos keys k a := by
        refine ⟨hb, fun x q hx => ⟨fun hxa => hlo x q hx hxa, fun hbl => ?_⟩⟩
        rcases Nat.lt_or_ge x a with h1 | h1
        · exact h1
        · have := hhi x q hx h1; rw [this] at hbl; cases hbl
      by_cases hn : a < es.length
      · have hn' : (a : Int) < (es.length : Int) := by omega
        obtain ⟨q, hq⟩ : ∃ q, keys[a]? = some q := ⟨_, List.getElem?_eq_getElem (by omega)⟩
        obtain ⟨v2, he⟩ := hnth a q hq
        obtain ⟨g, off, cap, cur, e, hg, hc1, hc2, hc3, hcur⟩ := (h.kept hkr).at_ (by omega)
        cases e
        have hld := load2 (P := Tryz.prog) (ty := 114) _ hg (hcur a _ he) Tryz.underlying114 stp
        have c0 := cellAt hg (hcur a _ he).1
        have c1 := cellAt hg (hcur a _ he).2
        have hix := run_index (P := Tryz.prog) (w := wr) 107 g off es.length cv a 2 114 Tryz.underlying107 stp hn (off + a * 2) rfl
        clear hcur
        go_wp2_with (first
          | (go_at_call 89; refine (findP1_any _ _ _ _).mono ?_; rintro e w2 ⟨rfl, hk2⟩))
        go_ret2
        refine ⟨a, cmpB q k == 0, rfl, hpos, ?_, hkr.trans hk2⟩
        rw [cmpB_eq, be_iff, hq]
        simp
      · have hn' : ¬ (a : Int) < (es.length : Int) := by omega
        go_wp2
        go_ret2
        refine ⟨a, false, rfl, hpos, ?_, hkr⟩
        have : keys[a]? = none := by rw [List.getElem?_eq_none_iff]; omega
        simp [this]

set_option maxRecDepth 100000 in
set_option maxHeartbeats 1000000 in
theorem findP_any (vl : Value) (es : List (Value × Value)) (keys : List ByteArray) (k : ByteArray) (w : World) (h : SL w 114 vl es) (hke : es.map Prod.fst = keys.map Value.string) (hr : Rise keys) (hl : es.length ≤ 50000) :
    Calls Tryz.prog 63 #[vl, .string k] w (FindR keys k w) := by
  have HB : Hid (Calls _ _ _ _ _) := bsP_any vl es keys k w h hke hr hl
  go_enter Tryz.func63, Tryz.ntmps63
  go_wp2_with (first | (go_at_call 88; refine HB.out.mono ?_; rintro e w2 ⟨i, b, rfl, h1, h2, h3⟩))
  go_ret2
  exact ⟨i, b, rfl, h1, h2, h3⟩

end Go.Proofs.YtloihcnbcknbnaaGreatDoor

namespace Go.Proofs.YtloihcnbcknbnaaGreatDoor
open Go.RowKit

theorem stk : (Tryz.prog.info? 152).map (·.size) = some 2 := by kernel_rfl

theorem kidKey_any (k v : Value) (s : ByteArray) (hk : k = .string s) (w : World) : Calls Tryz.prog 232 #[.agg #[k, v]] w fun e w' => e = .returned (.string s) ∧ Kept [] w w' := by
  subst hk
  go_enter Tryz.func232, Tryz.ntmps232
  go_wp2
  go_ret
  exact ⟨rfl, (Kept.refl _ _).alloc _⟩

theorem mKidKey (k v : Value) (w : World) : (Go.method 395 152 (.agg #[k, v]) "store/tree.key").run Tryz.prog w = .ok (232, .agg #[k, v]) w := by kernel_rfl

set_option maxRecDepth 100000 in
set_option maxHeartbeats 1000000 in
theorem findK1_any (s k : ByteArray) (v : Value) (w : World) : Calls Tryz.prog 223 #[.agg #[.string s, v], .string k] w fun e w' => e = .returned (.int .i64 (cmpB s k)) ∧ Kept [] w w' := by
  have hm := mKidKey
  go_enter Tryz.func223, Tryz.ntmps223
  go_wp2_with (first
    | (go_at_call 232; refine (kidKey_any _ _ _ rfl _).mono ?_; rintro e w2 ⟨rfl, hk2⟩)
    | (go_at_call 90; refine (Compare_any _ _ _).mono ?_; rintro e w3 ⟨rfl, hw3⟩; rw [hw3]; clear hw3 w3))
  go_ret
  exact ⟨rfl, ((Kept.refl _ _).alloc _).trans hk2⟩

set_option maxRecDepth 100000 in
set_option maxHeartbeats 4000000 in
theorem bsK_any (vl : Value) (es : List (Value × Value)) (keys : List ByteArray) (k : ByteArray) (w : World) (h : SL w 152 vl es) (hke : es.map Prod.fst = keys.map Value.string) (hr : Rise keys) (hl : es.length ≤ 50000) :
    Calls Tryz.prog 222 #[vl, .string k, .func (.func 223) #[] #[]] w (FindR keys k w) := by
  obtain ⟨pv, cv, rfl⟩ := h.shape
  have hkl : keys.length = es.length := by have := congrArg List.length hke; simpa using this.symm
  have hnth : ∀ (x : Nat) (q : ByteArray), keys[x]? = some q → ∃ v2, es[x]? = some (.string q, v2) := by
    intro x q hq
    have hx : x < es.length := by rw [← hkl]; exact (List.getElem?_eq_some_iff.1 hq).1
    have h2 := congrArg (fun l => l[x]?) hke
    simp only [List.getElem?_map, hq, Option.map_some, List.getElem?_eq_getElem hx] at h2
    refine ⟨es[x].2, ?_⟩
    rw [List.getElem?_eq_getElem hx]
    congr 1
    have h3 := Option.some.inj h2
    exact Prod.ext h3 rfl
  go_enter Tryz.func222, Tryz.ntmps222
  go_wp2
  go_loopw [9, 10] (fun i j wr => BsI keys k w i j wr) (fun i j _ => (intOf j).toNat - (intOf i).toNat)
  case atStart => exact ⟨0, es.length, rfl, rfl, Nat.zero_le _, by omega, by intro x q _ hx; omega, by intro x q hx hb; have := (List.getElem?_eq_some_iff.1 hx).1; omega, Kept.refl _ _⟩
  case round =>
    obtain ⟨a, b, rfl, rfl, hab, hb, hlo, hhi, hkr⟩ := hrel
    by_cases hlt : a < b
    · have hlt' : (a : Int) < (b : Int) := by omega
      obtain ⟨m, hm⟩ : ∃ m : Nat, m = (a + b) / 2 := ⟨_, rfl⟩
      obtain ⟨q, hq⟩ : ∃ q, keys[m]? = some q := ⟨_, List.getElem?_eq_getElem (by omega)⟩
      obtain ⟨v2, he⟩ := hnth m q hq
      obtain ⟨g, off, cap, cur, e, hg, hc1, hc2, hc3, hcur⟩ := (h.kept hkr).at_ (by omega)
      cases e
      have hld := load2 (P := Tryz.prog) (ty := 152) _ hg (hcur m _ he) Tryz.underlying152 stk
      have hmi : ((a : Int) + (b : Int)) / 2 = (m : Int) := by omega
      have hml : m < es.length := by omega
      have hma : a ≤ m ∧ m < b := by omega
      clear hcur hm
      cases hbl : bl q k with
      | true =>
        have hc : cmpB q k < 0 := by rw [← cmpB_lt] at hbl; simpa using hbl
        go_wp2_with (first
        | (refine wpList_val rfl _ _ (exec_index 147 (.tmp 25) (.tmp 26) rfl g off es.length cv m 2 rfl rfl 152 Tryz.underlying147 stk hml (off + m * 2) (by omega)) ?_)
        | (refine wpList_load_seg rfl 152 (.tmp 27) rfl ⟨g, off + m * 2, none⟩ rfl _ hld ?_)
        | (go_at_call 223; refine (findK1_any _ _ _ _).mono ?_; rintro e w2 ⟨rfl, hk2⟩))
        go_roundw
        case rel =>
          refine ⟨m + 1, b, by go_num, rfl, by omega, hb, ?_, hhi, hkr.trans hk2⟩
          intro x p hx hxm
          rcases Nat.lt_or_ge x m with h1 | h1
          · exact bl_trans (rise_get hr hx hq h1) hbl
          · have e : x = m := by omega
            subst e; rw [hq] at hx; cases hx; exact hbl
        case measure => simp [intOf]; omega
      | false =>
        have hc : ¬ cmpB q k < 0 := by rw [← cmpB_lt] at hbl; simpa using hbl
        go_wp2_with (first
        | (refine wpList_val rfl _ _ (exec_index 147 (.tmp 25) (.tmp 26) rfl g off es.length cv m 2 rfl rfl 152 Tryz.underlying147 stk hml (off + m * 2) (by omega)) ?_)
        | (refine wpList_load_seg rfl 152 (.tmp 27) rfl ⟨g, off + m * 2, none⟩ rfl _ hld ?_)
        | (go_at_call 223; refine (findK1_any _ _ _ _).mono ?_; rintro e w2 ⟨rfl, hk2⟩))
        go_roundw
        case rel =>
          refine ⟨a, m, rfl, rfl, by omega, by omega, hlo, ?_, hkr.trans hk2⟩
          intro x p hx hxm
          rcases Nat.lt_or_ge m x with h1 | h1
          · exact ge_trans (lt_ge (rise_get hr hq hx h1)) hbl
          · have e : x = m := by omega
            subst e; rw [hq] at hx; cases hx; exact hbl
        case measure => simp [intOf]; omega
    · have hge : ¬ (a : Int) < (b : Int) := by omega
      have eab : a = b := by omega
      subst eab
      have hpos : Pos keys k a := by
        refine ⟨hb, fun x q hx => ⟨fun hxa => hlo x q hx hxa, fun hbl => ?_⟩⟩
        rcases Nat.lt_or_ge x a with h1 | h1
        · exact h1
        · have := hhi x q hx h1; rw [this] at hbl; cases hbl
      by_cases hn : a < es.length
      · have hn' : (a : Int) < (es.length : Int) := by omega
        obtain ⟨q, hq⟩ : ∃ q, keys[a]? = some q := ⟨_, List.getElem?_eq_getElem (by omega)⟩
        obtain ⟨v2, he⟩ := hnth a q hq
        obtain ⟨g, off, cap, cur, e, hg, hc1, hc2, hc3, hcur⟩ := (h.kept hkr).at_ (by omega)
        cases e
        have hld := load2 (P := Tryz.prog) (ty := 152) _ hg (hcur a _ he) Tryz.underlying152 stk
        have c0 := cellAt hg (hcur a _ he).1
        have c1 := cellAt hg (hcur a _ he).2
        have hix := run_index (P := Tryz.prog) (w := wr) 147 g off es.length cv a 2 152 Tryz.underlying147 stk hn (off + a * 2) rfl
        clear hcur
        go_wp2_with (first
          | (go_at_call 223; refine (findK1_any _ _ _ _).mono ?_; rintro e w2 ⟨rfl, hk2⟩))
        go_ret2
        refine ⟨a, cmpB q k == 0, rfl, hpos, ?_, hkr.trans hk2⟩
        rw [cmpB_eq, be_iff, hq]
        simp
      · have hn' : ¬ (a : Int) < (es.length : Int) := by omega
        go_wp2
        go_ret2
        refine ⟨a, false, rfl, hpos, ?_, hkr⟩
        have : keys[a]? = none := by rw [List.getElem?_eq_none_iff]; omega
        simp [this]

set_option maxRecDepth 100000 in
set_option maxHeartbeats 1000000 in
theorem findK_any (vl : Value) (es : List (Value × Value)) (keys : List ByteArray) (k : ByteArray) (w : World) (h : SL w 152 vl es) (hke : es.map Prod.fst = keys.map Value.string) (hr : Rise keys) (hl : es.length ≤ 50000) :
    Calls Tryz.prog 218 #[vl, .string k] w (FindR keys k w) := by
  have HB : Hid (Calls _ _ _ _ _) := bsK_any vl es keys k w h hke hr hl
  go_enter Tryz.func218, Tryz.ntmps218
  go_wp2_with (first | (go_at_call 222; refine HB.out.mono ?_; rintro e w2 ⟨i, b, rfl, h1, h2, h3⟩))
  go_ret2
  exact ⟨i, b, rfl, h1, h2, h3⟩

end Go.Proofs.YtloihcnbcknbnaaGreatDoor

namespace Go.Proofs.YtloihcnbcknbnaaGreatDoor
open Go.RowKit

theorem mPSize (k v : Value) (w : World) : (Go.method 395 114 (.agg #[k, v]) "store/tree.size").run Tryz.prog w = .ok (204, .agg #[k, v]) w := by kernel_rfl

set_option maxHeartbeats 400000 in
theorem pairSize_any (p : Pr) (w : World) (h1 : p.1.size ≤ 100000 := by omega) (h2 : p.2.size ≤ 100000 := by omega) : Calls Tryz.prog 204 #[.agg #[.string p.1, .string p.2]] w fun e w' => e = .returned (.int .i64 (psz p : Nat)) ∧ Kept [] w w' := by
  go_enter Tryz.func204, Tryz.ntmps204
  go_wp2
  go_ret
  exact ⟨by unfold psz; simp, (Kept.refl _ _).alloc _⟩


def MePI (l : List Pr) (w : World) (s i : Value) (wr : World) : Prop := ∃ j : Nat, j ≤ l.length ∧ i = .int .i64 j ∧ s = .int .i64 (((l.take j).map psz).sum : Nat) ∧ Kept [] w wr

set_option maxRecDepth 100000 in
set_option maxHeartbeats 4000000 in
theorem measP_any (vl : Value) (l : List Pr) (w : World) (h : SL w 114 vl (l.map pe)) (hl : l.length ≤ 50000) (hs : ∀ x ∈ l, psz x ≤ 22) :
    Calls Tryz.prog 202 #[vl] w fun e w' => e = .returned (.int .i64 ((l.map psz).sum : Nat)) ∧ Kept [] w w' := by
  obtain ⟨pv, cv, ev⟩ := h.shape
  rw [List.length_map] at ev
  subst ev
  have hm := mPSize
  have hsum : ∀ j, ((l.take j).map psz).sum ≤ 22 * l.length := by
    intro j
    have : ∀ (L : List Pr), (∀ x ∈ L, psz x ≤ 22) → (L.map psz).sum ≤ 22 * L.length := by
      intro L hL
      induction L with
      | nil => simp
      | cons a r ih =>
        have h1 := hL a (by simp)
        have h2 := ih fun x hx => hL x (by simp [hx])
        simp only [List.map_cons, List.sum_cons, List.length_cons]
        omega
    have h1 := this (l.take j) fun x hx => hs x (List.mem_of_mem_take hx)
    have h2 : (l.take j).length ≤ l.length := by rw [List.length_take]; exact Nat.min_le_right _ _
    omega
  go_enter Tryz.func202, Tryz.ntmps202
  go_wp2
  go_loopw [3, 8] (fun s i wr => MePI l w s i wr) (fun _ i _ => l.length - (intOf i).toNat)
  case atStart => exact ⟨0, Nat.zero_le _, rfl, by simp, Kept.refl _ _⟩
  case round =>
    obtain ⟨j, hj, rfl, rfl, hkr⟩ := hrel
    by_cases hlt : j < l.length
    · have hlt' : (j : Int) < (l.length : Int) := by omega
      obtain ⟨x, hx⟩ : ∃ x, l[j]? = some x := ⟨_, List.getElem?_eq_getElem hlt⟩
      have hx22 := hs x (List.mem_of_getElem? hx)
      have hx1 : x.1.size ≤ 22 := by unfold psz at hx22; omega
      have hx2 : x.2.size ≤ 22 := by unfold psz at hx22; omega
      have hsj := hsum j
      have hnext : ((l.take (j + 1)).map psz).sum = ((l.take j).map psz).sum + psz x := by
        rw [take_snoc l j x hx]; simp
      obtain ⟨g, off, cap, cur, e, hg, hc1, hc2, hc3, hcur⟩ := (h.kept hkr).at_ (by simp; omega)
      rw [List.length_map] at e
      cases e
      have hld := load2 (P := Tryz.prog) (ty := 114) _ hg (hcur j _ (by rw [List.getElem?_map, hx]; rfl)) Tryz.underlying114 stp
      simp only [pe] at hld
      generalize hS : ((l.take j).map psz).sum = S at *
      have HN : Hid _ := hnext
      clear hcur hnext hS
      go_wp2_with (first
        | (refine wpList_val rfl _ _ (exec_index 107 (.tmp 6) (.tmp 8) rfl g off l.length cv j 2 rfl rfl 114 Tryz.underlying107 stp hlt (off + j * 2) rfl) ?_)
        | (refine wpList_load_seg rfl 114 (.tmp 10) rfl ⟨g, off + j * 2, none⟩ rfl _ hld ?_)
        | (go_at_call 204; refine (pairSize_any _ _).mono ?_; rintro e w2 ⟨rfl, hk2⟩))
      go_roundw
      case rel => exact ⟨j + 1, by omega, by go_num, by rw [HN.out]; simp, ((hkr.alloc _).trans hk2)⟩
      case measure => simp [intOf]; omega
    · have hge : ¬ (j : Int) < (l.length : Int) := by omega
      have ej : j = l.length := by omega
      subst ej
      go_wp2
      go_ret
      exact ⟨rfl, hkr⟩

end Go.Proofs.YtloihcnbcknbnaaGreatDoor

namespace Go.Proofs.YtloihcnbcknbnaaGreatDoor
open Go.RowKit

/-- kids as cells -/
def ke (x : ByteArray × Value) : Value × Value := (.string x.1, x.2)
def ksz (_ : ByteArray × Value) : Nat := 11
theorem mKSize (k v : Value) (w : World) : (Go.method 395 152 (.agg #[k, v]) "store/tree.size").run Tryz.prog w = .ok (233, .agg #[k, v]) w := by kernel_rfl

set_option maxHeartbeats 400000 in
theorem kidSize_any (x : ByteArray × Value) (w : World) : Calls Tryz.prog 233 #[.agg #[.string x.1, x.2]] w fun e w' => e = .returned (.int .i64 (ksz x : Nat)) ∧ Kept [] w w' := by
  go_enter Tryz.func233, Tryz.ntmps233
  go_wp2
  go_ret
  exact ⟨rfl, (Kept.refl _ _).alloc _⟩


def MeKI (l : List (ByteArray × Value)) (w : World) (s i : Value) (wr : World) : Prop := ∃ j : Nat, j ≤ l.length ∧ i = .int .i64 j ∧ s = .int .i64 (((l.take j).map ksz).sum : Nat) ∧ Kept [] w wr

set_option maxRecDepth 100000 in
set_option maxHeartbeats 4000000 in
theorem measK_any (vl : Value) (l : List (ByteArray × Value)) (w : World) (h : SL w 152 vl (l.map ke)) (hl : l.length ≤ 50000) (hs : ∀ x ∈ l, ksz x ≤ 22) (ho : ∀ x ∈ l, ∃ t v, x.2 = .iface t v) :
    Calls Tryz.prog 217 #[vl] w fun e w' => e = .returned (.int .i64 ((l.map ksz).sum : Nat)) ∧ Kept [] w w' := by
  obtain ⟨pv, cv, ev⟩ := h.shape
  rw [List.length_map] at ev
  subst ev
  have hm := mKSize
  have hsum : ∀ j, ((l.take j).map ksz).sum ≤ 22 * l.length := by
    intro j
    have : ∀ (L : List (ByteArray × Value)), (∀ x ∈ L, ksz x ≤ 22) → (L.map ksz).sum ≤ 22 * L.length := by
      intro L hL
      induction L with
      | nil => simp
      | cons a r ih =>
        have h1 := hL a (by simp)
        have h2 := ih fun x hx => hL x (by simp [hx])
        simp only [List.map_cons, List.sum_cons, List.length_cons]
        omega
    have h1 := this (l.take j) fun x hx => hs x (List.mem_of_mem_take hx)
    have h2 : (l.take j).length ≤ l.length := by rw [List.length_take]; exact Nat.min_le_right _ _
    omega
  go_enter Tryz.func217, Tryz.ntmps217
  go_wp2
  go_loopw [3, 8] (fun s i wr => MeKI l w s i wr) (fun _ i _ => l.length - (intOf i).toNat)
  case atStart => exact ⟨0, Nat.zero_le _, rfl, by simp, Kept.refl _ _⟩
  case round =>
    obtain ⟨j, hj, rfl, rfl, hkr⟩ := hrel
    by_cases hlt : j < l.length
    · have hlt' : (j : Int) < (l.length : Int) := by omega
      obtain ⟨x, hx⟩ : ∃ x, l[j]? = some x := ⟨_, List.getElem?_eq_getElem hlt⟩
      have hx22 := hs x (List.mem_of_getElem? hx)
      obtain ⟨ti, vi, ei⟩ := ho x (List.mem_of_getElem? hx)
      have hsj := hsum j
      have hnext : ((l.take (j + 1)).map ksz).sum = ((l.take j).map ksz).sum + ksz x := by
        rw [take_snoc l j x hx]; simp
      obtain ⟨g, off, cap, cur, e, hg, hc1, hc2, hc3, hcur⟩ := (h.kept hkr).at_ (by simp; omega)
      rw [List.length_map] at e
      cases e
      have hld := load2 (P := Tryz.prog) (ty := 152) _ hg (hcur j _ (by rw [List.getElem?_map, hx]; rfl)) Tryz.underlying152 stk
      simp only [ke, ei] at hld
      generalize hS : ((l.take j).map ksz).sum = S at *
      have HN : Hid _ := hnext
      clear hcur hnext hS
      go_wp2_with (first
        | (refine wpList_val rfl _ _ (exec_index 147 (.tmp 6) (.tmp 8) rfl g off l.length cv j 2 rfl rfl 152 Tryz.underlying147 stk hlt (off + j * 2) rfl) ?_)
        | (refine wpList_load_seg rfl 152 (.tmp 10) rfl ⟨g, off + j * 2, none⟩ rfl _ hld ?_)
        | (go_at_call 233; refine (kidSize_any (x.1, .iface ti vi) _).mono ?_; rintro e w2 ⟨rfl, hk2⟩))
      go_roundw
      case rel => exact ⟨j + 1, by omega, by go_num, by rw [HN.out]; simp only [ksz]; rw [Value.int.injEq]; refine ⟨rfl, ?_⟩; rw [w64 _ (by omega)]; omega, ((hkr.alloc _).trans hk2)⟩
      case measure => simp [intOf]; omega
    · have hge : ¬ (j : Int) < (l.length : Int) := by omega
      have ej : j = l.length := by omega
      subst ej
      go_wp2
      go_ret
      exact ⟨rfl, hkr⟩

end Go.Proofs.YtloihcnbcknbnaaGreatDoor

namespace Go.Proofs.YtloihcnbcknbnaaGreatDoor
open Go.RowKit

def HvPI (l : List Pr) (w : World) (s i : Value) (wr : World) : Prop := ∃ j : Nat, j ≤ l.length ∧ i = .int .i64 j ∧ s = .int .i64 (((l.take j).map psz).sum : Nat) ∧ j + cutI psz (l.map psz).sum ((l.take j).map psz).sum (l.drop j) = halfI psz l ∧ Kept [] w wr

/-- the halves of a slice -/
def HvPR (vl : Value) (l : List Pr) (w : World) (e : Ending) (w' : World) : Prop := ∃ a b, e = .returned (.tuple #[a, b]) ∧ SL w' 114 a ((l.take (halfI psz l)).map pe) ∧ SL w' 114 b ((l.drop (halfI psz l)).map pe) ∧ (∀ y, a.ownBlock = some y → vl.ownBlock = some y) ∧ (∀ y, b.ownBlock = some y → vl.ownBlock = some y) ∧ Kept [] w w'

set_option maxRecDepth 100000 in
set_option maxHeartbeats 4000000 in
theorem halveP_any (vl : Value) (l : List Pr) (w : World) (h : SL w 114 vl (l.map pe)) (hl : l.length ≤ 50000) (hs : ∀ x ∈ l, psz x ≤ 22) (h0 : halfI psz l < l.length) :
    Calls Tryz.prog 201 #[vl] w (HvPR vl l w) := by
  obtain ⟨g, off, cap, cur, ev, hg, hc1, hc2, hc3, hcur⟩ := h.at_ (by simp; omega)
  rw [List.length_map] at ev hc1
  subst ev
  have hm := mPSize
  have hbnd : ∀ j, ((l.take j).map psz).sum ≤ (l.map psz).sum := by
    intro j; have := sum_split psz l j; omega
  have hall : (l.map psz).sum ≤ 22 * l.length := by
    have : ∀ (L : List Pr), (∀ x ∈ L, psz x ≤ 22) → (L.map psz).sum ≤ 22 * L.length := by
      intro L hL
      induction L with
      | nil => simp
      | cons a r ih =>
        have h1 := hL a (by simp)
        have h2 := ih fun x hx => hL x (by simp [hx])
        simp only [List.map_cons, List.sum_cons, List.length_cons]
        omega
    exact this l hs
  have HM : Hid (Calls _ _ _ _ _) := measP_any _ l w h hl hs
  generalize hW : (l.map psz).sum = WH at *
  have HWH : Hid _ := hW
  clear hW
  go_enter Tryz.func201, Tryz.ntmps201
  go_wp2_with (first | (go_at_call 202; refine HM.out.mono ?_; rintro e w1 ⟨rfl, hk1⟩))
  go_loopw [5, 6] (fun s i wr => HvPI l w s i wr) (fun _ i _ => l.length + 1 - (intOf i).toNat)
  case atStart => exact ⟨0, Nat.zero_le _, rfl, by simp, by simp [halfI], hk1⟩
  case round =>
    obtain ⟨j, hj, rfl, rfl, hcut, hkr⟩ := hrel
    have hbj := hbnd j
    rw [HWH.out] at hcut
    by_cases hlt : 2 * ((l.take j).map psz).sum < WH
    · have hjl : j < l.length := by
        rcases Nat.lt_or_ge j l.length with h1 | h1
        · exact h1
        · rw [List.take_of_length_le h1, HWH.out] at hlt; omega
      have hlt' : (2 : Int) * (((l.take j).map psz).sum : Nat) < (WH : Int) := by omega
      obtain ⟨x, hx⟩ : ∃ x, l[j]? = some x := ⟨_, List.getElem?_eq_getElem hjl⟩
      have hx22 := hs x (List.mem_of_getElem? hx)
      have hx1 : x.1.size ≤ 22 := by unfold psz at hx22; omega
      have hx2 : x.2.size ≤ 22 := by unfold psz at hx22; omega
      have hnext : ((l.take (j + 1)).map psz).sum = ((l.take j).map psz).sum + psz x := by
        rw [take_snoc l j x hx]; simp
      have hdr : l.drop j = x :: l.drop (j + 1) := by
        rw [List.drop_eq_getElem_cons hjl, (List.getElem?_eq_some_iff.1 hx).2]
      have hcut2 : j + 1 + cutI psz (l.map psz).sum ((l.take (j + 1)).map psz).sum (l.drop (j + 1)) = halfI psz l := by
        rw [← hcut, hdr, cutI, if_pos hlt, hnext, HWH.out]; omega
      have hgr : wr.heap[g]? = some (.cells cur 114 (0, 0)) := hkr.get hg (by simp)
      have hld := load2 (P := Tryz.prog) (ty := 114) _ hgr (hcur j _ (by rw [List.getElem?_map, hx]; rfl)) Tryz.underlying114 stp
      simp only [pe] at hld
      generalize hS : ((l.take j).map psz).sum = S at *
      have HN : Hid _ := hnext
      have HC : Hid _ := hcut2
      clear hnext hS hcut2 hcut hdr
      go_wp2_with (first
        | (refine wpList_val rfl _ _ (exec_index 108 (.tmp 16) (.tmp 17) rfl g off l.length cap j 2 rfl rfl 114 Tryz.underlying108 stp hjl (off + j * 2) rfl) ?_)
        | (refine wpList_load_seg rfl 114 (.tmp 18) rfl ⟨g, off + j * 2, none⟩ rfl _ hld ?_)
        | (go_at_call 204; refine (pairSize_any _ _).mono ?_; rintro e w2 ⟨rfl, hk2⟩))
      go_roundw
      case rel => exact ⟨j + 1, by omega, by go_num, by rw [HN.out]; simp, HC.out, hkr.trans hk2⟩
      case measure => simp [intOf]; omega
    · have hge : ¬ (2 : Int) * (((l.take j).map psz).sum : Nat) < (WH : Int) := by omega
      have ej : j = halfI psz l := by
        have hz : cutI psz WH ((l.take j).map psz).sum (l.drop j) = 0 := by
          cases l.drop j with
          | nil => rfl
          | cons y t => rw [cutI, if_neg hlt]
        omega
      generalize hS : ((l.take j).map psz).sum = S at *
      clear hcut hS
      have hjl : j < l.length := by omega
      have i1 : (j : Int) ≤ (l.length : Int) := by omega
      have i2 : (j : Int) ≤ (cap : Int) := by omega
      have i3 : ¬ cap = j := by omega
      have i4 : j ≤ cap := by omega
      go_wp2
      go_quiet (fail)
      go_wp2
      go_ret2
      have hgd : (wr.drewN nq).heap[g]? = some (.cells cur 114 (0, 0)) := hkr.get hg (by simp)
      refine ⟨_, _, rfl, Or.inr ⟨g, off, halfI psz l, cur, ?_, hgd, ?_, by omega, by omega, ?_⟩, Or.inr ⟨g, off + halfI psz l * 2, cap - halfI psz l, cur, ?_, hgd, ?_, by omega, by omega, ?_⟩, fun _ hy => hy, fun _ hy => hy, hkr.drewN _⟩
      · simp; omega
      · simp; omega
      · intro i e he
        rw [List.map_take, List.getElem?_take] at he
        split at he
        · exact hcur i e he
        · cases he
      · simp
      · simp; omega
      · intro i e he
        rw [List.map_drop, List.getElem?_drop] at he
        have := hcur _ e he
        rw [show off + (halfI psz l + i) * 2 = off + halfI psz l * 2 + i * 2 by omega] at this
        exact this

end Go.Proofs.YtloihcnbcknbnaaGreatDoor
