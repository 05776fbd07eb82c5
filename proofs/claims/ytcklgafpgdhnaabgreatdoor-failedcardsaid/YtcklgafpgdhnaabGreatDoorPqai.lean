import Derived.Test.YtcklgafpgdhnaabGreatDoorPqah
import Derived.Lib.Bytealg
set_option maxRecDepth 100000
set_option maxHeartbeats 4000000
open Go.Proofs.Tryz
namespace Go.Proofs.YtcklgafpgdhnaabGreatDoor
open Go.RowKit
def SL (w : World) (t : TypeId) (d : Nat) (v : Value) (es : List El) : Prop :=
 (v = .slice none 0 0 /\ es = []) \/ ∃ g off cap cur, v = .slice (some ⟨g, off, none⟩) es.length cap /\ w.heap[g]? = some (.cells cur t (0, 0)) /\ es.length <= cap /\ cap <= maxLen /\ off + cap * d <= cur.size /\
  ∀ (i : Nat) (e : El), es[i]? = some e -> e.length = d /\ ∀ (j : Nat) (u : Value), e[j]? = some u -> cur[off + i * d + j]? = some u
theorem SL.kept {w w' : World} {t : TypeId} {d : Nat} {v : Value} {es : List El} (h : SL w t d v es) (k : y5 [] w w') : SL w' t d v es := by
 rcases h with h | ⟨g, off, cap, cur, e, hh, r⟩
 ·exact Or.inl h
 ·exact Or.inr ⟨g, off, cap, cur, e, k.get hh (by simp), r⟩
theorem SL.shape {w : World} {t : TypeId} {d : Nat} {v : Value} {es : List El} (h : SL w t d v es) : ∃ p cap, v = .slice p es.length cap := by
 rcases h with ⟨rfl, rfl⟩ | ⟨g, off, cap, cur, rfl, _⟩
 ·exact ⟨_, _, rfl⟩
 ·exact ⟨_, _, rfl⟩
theorem SL.at_ {w : World} {t : TypeId} {d : Nat} {v : Value} {es : List El} (h : SL w t d v es) (hl : 0 < es.length) : ∃ g off cap cur, v = .slice (some ⟨g, off, none⟩) es.length cap /\ w.heap[g]? = some (.cells cur t (0, 0)) /\ es.length <= cap /\ cap <= maxLen /\ off + cap * d <= cur.size /\
  ∀ (i : Nat) (e : El), es[i]? = some e -> e.length = d /\ ∀ (j : Nat) (u : Value), e[j]? = some u -> cur[off + i * d + j]? = some u := by
 rcases h with ⟨_, rfl⟩ | h
 ·simp at hl
 ·exact h
theorem SL.wd {w : World} {t : TypeId} {d : Nat} {v : Value} {es : List El} (h : SL w t d v es) : ∀ e ∈ es, e.length = d := by
 intro e he
 obtain ⟨i, hi⟩ := List.mem_iff_getElem?.1 he
 obtain ⟨g, off, cap, cur, _, _, _, _, _, hc⟩ := h.at_ (by have := (List.getElem?_eq_some_iff.1 hi).1; omega)
 exact (hc i e hi).1
theorem gG {w : World} {t ty : TypeId} {g o d : Nat} {cur : Array Value} {e : El} (fs : _) {P : Program} (hg : w.heap[g]? = some (.cells cur t (0, 0))) (hc : e.length = d /\ ∀ (j : Nat) (u : Value), e[j]? = some u -> cur[o + j]? = some u)
  (hu : P.underlying ty = some (.struct fs)) (hi : (P.info? ty).map (·.size) = some d) : (loadVar ty ⟨g, o, none⟩).run P w = .ok (.agg e.toArray) w :=
 yV (P := P) w g o t ty cur.toList e (0, 0) _ (by simpa using hg) hu rfl (by rw [hi, hc.1]) (by intro j v hv; simpa using hc.2 j v hv)
def pe (p : Pr) : El := [.string p.1, .string p.2]
def LF (w : World) (v : Value) (l : List Pr) : Prop := SL w 138 2 v (l.map pe)
theorem LF.kept {w w' : World} {v : Value} {l : List Pr} (h : LF w v l) (k : y5 [] w w') : LF w' v l := SL.kept h k
theorem stp : (prog.info? 138).map (·.size) = some 2 := by kernel_rfl
theorem jA (k v : Value) (s : ByteArray) (hk : k = .string s) (w : World) : Calls prog 198 #[.agg #[k, v]] w fun e w' => e = .returned (.string s) /\ y5 [] w w' := by
 subst hk
 go_enter func198, ntmps198
 go_wp2
 go_ret
 exact ⟨rfl, (y5.refl _ _).alloc _⟩
theorem Q3e (a b : ByteArray) (w : World) : Calls prog 112 #[.string a, .string b] w fun e w' => e = .returned (.int .i64 (Lib.compareBytes a.data.toList b.data.toList)) /\ w' = w := by
 have hx := fun W => Lib.run_compareString (P := prog) a b W
 have he := @run_callFunc_extern prog 132 _ Extern.BytealgCompare.compare func132 (by kernel_rfl) (by kernel_rfl) (by kernel_rfl) (by kernel_rfl)
 go_enter func112, ntmps112
 go_wp2
 go_ret
 exact ⟨rfl, rfl⟩
theorem Q3f : ∀ (a b : List UInt8), (Lib.compareBytes a b < 0) = (a < b)
 | [], [] => by simp [Lib.compareBytes]
 | [], _ :: _ => by simp [Lib.compareBytes]
 | _ :: _, [] => by simp [Lib.compareBytes]
 | x :: a, y :: b => by
  have ih := Q3f a b
  unfold Lib.compareBytes
  by_cases h1 : x < y
  ·simp [h1, List.cons_lt_cons_iff]
  ·by_cases h2 : y < x
   ·have : x ≠ y := fun e => by subst e; exact h1 h2
    simp [h1, h2, List.cons_lt_cons_iff, this]
   ·have e : x = y := UInt8.le_antisymm (UInt8.not_lt.1 h2) (UInt8.not_lt.1 h1)
    subst e
    simp [h1, ih]
theorem Q3g : ∀ (a b : List UInt8), (Lib.compareBytes a b = 0) = (a = b)
 | [], [] => by simp [Lib.compareBytes]
 | [], _ :: _ => by simp [Lib.compareBytes]
 | _ :: _, [] => by simp [Lib.compareBytes]
 | x :: a, y :: b => by
  have ih := Q3g a b
  unfold Lib.compareBytes
  by_cases h1 : x < y
  ·have : x ≠ y := fun e => by subst e; exact absurd h1 (UInt8.lt_irrefl x)
   simp [h1, this]
  ·by_cases h2 : y < x
   ·have : x ≠ y := fun e => by subst e; exact h1 h2
    simp [h1, h2, this]
   ·have e : x = y := UInt8.le_antisymm (UInt8.not_lt.1 h2) (UInt8.not_lt.1 h1)
    subst e
    simp [h1, ih]
def cmpB (a b : ByteArray) : Int := Lib.compareBytes a.data.toList b.data.toList
theorem Q3h (a b : ByteArray) : decide (cmpB a b < 0) = bl a b := by rw [ZO]; unfold cmpB; simp only [Q3f]
theorem Q3i (a b : ByteArray) : (cmpB a b == 0) = be a b := by
 have h : (cmpB a b = 0) = (a.data.toList = b.data.toList) := Q3g _ _
 have h2 : be a b = decide (a.data.toList = b.data.toList) := by unfold be; rw [gT, gT]; exact Bool.eq_iff_iff.2 (by rw [beq_iff_eq, decide_eq_true_eq])
 rw [h2]
 by_cases e : a.data.toList = b.data.toList
 ·rw [<- h] at e; simp [e, h ▸ e]
 ·have e' : ¬ cmpB a b = 0 := by rw [h]; exact e
  simp [e, e']
def Pos (keys : List ByteArray) (k : ByteArray) (i : Nat) : Prop := i <= keys.length /\ ∀ (x : Nat) (q : ByteArray), keys[x]? = some q -> (x < i ↔ bl q k = true)
def QI (keys : List ByteArray) : Prop := keys.Pairwise fun a b => bl a b = true
def Q3j (keys : List ByteArray) (k : ByteArray) (w : World) (e : Ending) (w' : World) : Prop :=
 ∃ (i : Nat) (b : Bool), e = .returned (.tuple #[.int .i64 i, .bool b]) /\ Pos keys k i /\ (b = true ↔ keys[i]? = some k) /\ y5 [] w w'
theorem Q3k (k v : Value) (w : World) : (Go.method 391 138 (.agg #[k, v]) "store/tree.key").run prog w = .ok (198, .agg #[k, v]) w := by kernel_rfl
theorem ZV (s k : ByteArray) (v : Value) (w : World) : Calls prog 111 #[.agg #[.string s, v], .string k] w fun e w' => e = .returned (.int .i64 (cmpB s k)) /\ y5 [] w w' := by
 have hm := Q3k
 go_enter func111, ntmps111
 go_wp2_with (first
  | (go_at_call 198; refine (jA _ _ _ rfl _).mono ?_; rintro e w2 ⟨rfl, hk2⟩)
  | (go_at_call 112; refine (Q3e _ _ _).mono ?_; rintro e w3 ⟨rfl, hw3⟩; rw [hw3]; clear hw3 w3))
 go_ret
 exact ⟨rfl, ((y5.refl _ _).alloc _).trans hk2⟩
def BsI (keys : List ByteArray) (k : ByteArray) (w : World) (i j : Value) (wr : World) : Prop :=
 ∃ a b : Nat, i = .int .i64 a /\ j = .int .i64 b /\ a <= b /\ b <= keys.length /\ (∀ (x : Nat) (q : ByteArray), keys[x]? = some q -> x < a -> bl q k = true) /\ (∀ (x : Nat) (q : ByteArray), keys[x]? = some q -> b <= x -> bl q k = false) /\ y5 [] w wr
theorem Q3l {keys : List ByteArray} (h : QI keys) {x y : Nat} {p q : ByteArray} (hx : keys[x]? = some p) (hy : keys[y]? = some q) (hxy : x < y) : bl p q = true := by
 obtain ⟨h1, e1⟩ := List.getElem?_eq_some_iff.1 hx
 obtain ⟨h2, e2⟩ := List.getElem?_eq_some_iff.1 hy
 have := List.pairwise_iff_getElem.1 h x y h1 h2 hxy
 rwa [e1, e2] at this
theorem Q3m (vl : Value) (es : List El) (keys : List ByteArray) (k : ByteArray) (w : World) (h : SL w 138 2 vl es) (hke : es.map List.head? = keys.map fun q => some (Value.string q)) (hr : QI keys) (hl : es.length <= 50000) :
  Calls prog 110 #[vl, .string k, .func (.func 111) #[] #[]] w (Q3j keys k w) := by
 obtain ⟨pv, cv, rfl⟩ := h.shape
 have hkl : keys.length = es.length := by have := congrArg List.length hke; simpa using this.symm
 have hnth : ∀ (x : Nat) (q : ByteArray), keys[x]? = some q -> ∃ v2, es[x]? = some [.string q, v2] := by
  intro x q hq
  have hx : x < es.length := by rw [<- hkl]; exact (List.getElem?_eq_some_iff.1 hq).1
  have h2 := congrArg (fun l => l[x]?) hke
  simp only [List.getElem?_map, hq, Option.map_some, List.getElem?_eq_getElem hx] at h2
  have h3 := Option.some.inj h2
  have h4 := h.wd es[x] (List.getElem_mem hx)
  rw [List.getElem?_eq_getElem hx]
  match hes : es[x], h3, h4 with
  | [a, v2], h3, _ => simp at h3; subst h3; exact ⟨v2, rfl⟩
 go_enter func110, ntmps110
 go_wp2
 go_loopw [9, 10] (fun i j wr => BsI keys k w i j wr) (fun i j _ => (intOf j).toNat - (intOf i).toNat)
 case atStart => exact ⟨0, es.length, rfl, rfl, Nat.zero_le _, by omega, by intro x q _ hx; omega, by intro x q hx hb; have := (List.getElem?_eq_some_iff.1 hx).1; omega, y5.refl _ _⟩
 case round =>
  obtain ⟨a, b, rfl, rfl, hab, hb, hlo, hhi, hkr⟩ := hrel
  by_cases hlt : a < b
  ·have hlt' : (a : Int) < (b : Int) := by omega
   obtain ⟨m, hm⟩ : ∃ m : Nat, m = (a + b) / 2 := ⟨_, rfl⟩
   obtain ⟨q, hq⟩ : ∃ q, keys[m]? = some q := ⟨_, List.getElem?_eq_getElem (by omega)⟩
   obtain ⟨v2, he⟩ := hnth m q hq
   obtain ⟨g, off, cap, cur, e, hg, hc1, hc2, hc3, hcur⟩ := (h.kept hkr).at_ (by omega)
   cases e
   have hld := gG (P := prog) (ty := 138) _ hg (hcur m _ he) underlying138 stp
   have hmi : ((a : Int) + (b : Int)) / 2 = (m : Int) := by omega
   have hml : m < es.length := by omega
   have hma : a <= m /\ m < b := by omega
   clear hcur hm
   cases hbl : bl q k with
   | true =>
    have hc : cmpB q k < 0 := by rw [<- Q3h] at hbl; simpa using hbl
    go_wp2_with (first
    | (refine y8 rfl _ _ (ya 134 (.tmp 25) (.tmp 26) rfl g off es.length cv m 2 rfl rfl 138 underlying134 stp hml (off + m * 2) (by omega)) ?_)
    | (refine ye rfl 138 (.tmp 27) rfl ⟨g, off + m * 2, none⟩ rfl _ hld ?_)
    | (go_at_call 111; refine (ZV _ _ _ _).mono ?_; rintro e w2 ⟨rfl, hk2⟩))
    go_roundw
    case rel =>
     refine ⟨m + 1, b, by go_num, rfl, by omega, hb, ?_, hhi, hkr.trans hk2⟩
     intro x p hx hxm
     rcases Nat.lt_or_ge x m with h1 | h1
     ·exact qX (Q3l hr hx hq h1) hbl
     ·have e : x = m := by omega
      subst e; rw [hq] at hx; cases hx; exact hbl
    case measure => simp [intOf]; omega
   | false =>
    have hc : ¬ cmpB q k < 0 := by rw [<- Q3h] at hbl; simpa using hbl
    go_wp2_with (first
    | (refine y8 rfl _ _ (ya 134 (.tmp 25) (.tmp 26) rfl g off es.length cv m 2 rfl rfl 138 underlying134 stp hml (off + m * 2) (by omega)) ?_)
    | (refine ye rfl 138 (.tmp 27) rfl ⟨g, off + m * 2, none⟩ rfl _ hld ?_)
    | (go_at_call 111; refine (ZV _ _ _ _).mono ?_; rintro e w2 ⟨rfl, hk2⟩))
    go_roundw
    case rel =>
     refine ⟨a, m, rfl, rfl, by omega, by omega, hlo, ?_, hkr.trans hk2⟩
     intro x p hx hxm
     rcases Nat.lt_or_ge m x with h1 | h1
     ·exact gz (Qp (Q3l hr hq hx h1)) hbl
     ·have e : x = m := by omega
      subst e; rw [hq] at hx; cases hx; exact hbl
    case measure => simp [intOf]; omega
  ·have hge : ¬ (a : Int) < (b : Int) := by omega
   have eab : a = b := by omega
   subst eab
   have hpos : Pos keys k a := by
    refine ⟨hb, fun x q hx => ⟨fun hxa => hlo x q hx hxa, fun hbl => ?_⟩⟩
    rcases Nat.lt_or_ge x a with h1 | h1
    ·exact h1
    ·have := hhi x q hx h1; rw [this] at hbl; cases hbl
   by_cases hn : a < es.length
   ·have hn' : (a : Int) < (es.length : Int) := by omega
    obtain ⟨q, hq⟩ : ∃ q, keys[a]? = some q := ⟨_, List.getElem?_eq_getElem (by omega)⟩
    obtain ⟨v2, he⟩ := hnth a q hq
    obtain ⟨g, off, cap, cur, e, hg, hc1, hc2, hc3, hcur⟩ := (h.kept hkr).at_ (by omega)
    cases e
    have hld := gG (P := prog) (ty := 138) _ hg (hcur a _ he) underlying138 stp
    have c0 : wr.cell? ⟨g, off + a * 2, none⟩ = some (.string q) := y6 hg ((hcur a _ he).2 0 _ rfl)
    have c1 := y6 hg ((hcur a _ he).2 1 _ rfl)
    have hix := Q2C (P := prog) (w := wr) 134 g off es.length cv a 2 138 underlying134 stp hn (off + a * 2) rfl
    clear hcur
    go_wp2_with (first
     | (go_at_call 111; refine (ZV _ _ _ _).mono ?_; rintro e w2 ⟨rfl, hk2⟩))
    go_ret2
    refine ⟨a, cmpB q k == 0, rfl, hpos, ?_, hkr.trans hk2⟩
    rw [Q3i, jg, hq]
    simp
   ·have hn' : ¬ (a : Int) < (es.length : Int) := by omega
    go_wp2
    go_ret2
    refine ⟨a, false, rfl, hpos, ?_, hkr⟩
    have : keys[a]? = none := by rw [List.getElem?_eq_none_iff]; omega
    simp [this]
theorem Zo (vl : Value) (es : List El) (keys : List ByteArray) (k : ByteArray) (w : World) (h : SL w 138 2 vl es) (hke : es.map List.head? = keys.map fun q => some (Value.string q)) (hr : QI keys) (hl : es.length <= 50000) :
  Calls prog 83 #[vl, .string k] w (Q3j keys k w) := by
 have HB : Hid (Calls _ _ _ _ _) := Q3m vl es keys k w h hke hr hl
 go_enter func83, ntmps83
 go_wp2_with (first | (go_at_call 110; refine HB.out.mono ?_; rintro e w2 ⟨i, b, rfl, h1, h2, h3⟩))
 go_ret2
 exact ⟨i, b, rfl, h1, h2, h3⟩
abbrev KE := qI Value
theorem stk : (prog.info? 75).map (·.size) = some 3 := by kernel_rfl
theorem Q0 (k v u : Value) (s : ByteArray) (hk : k = .string s) (w : World) : Calls prog 176 #[.agg #[k, v, u]] w fun e w' => e = .returned (.string s) /\ y5 [] w w' := by
 subst hk
 go_enter func176, ntmps176
 go_wp2
 go_ret
 exact ⟨rfl, (y5.refl _ _).alloc _⟩
theorem Q3n (k v u : Value) (w : World) : (Go.method 391 75 (.agg #[k, v, u]) "store/tree.key").run prog w = .ok (176, .agg #[k, v, u]) w := by kernel_rfl
theorem ZW (s k : ByteArray) (v u : Value) (w : World) : Calls prog 236 #[.agg #[.string s, v, u], .string k] w fun e w' => e = .returned (.int .i64 (cmpB s k)) /\ y5 [] w w' := by
 have hm := Q3n
 go_enter func236, ntmps236
 go_wp2_with (first
  | (go_at_call 176; refine (Q0 _ _ _ _ rfl _).mono ?_; rintro e w2 ⟨rfl, hk2⟩)
  | (go_at_call 112; refine (Q3e _ _ _).mono ?_; rintro e w3 ⟨rfl, hw3⟩; rw [hw3]; clear hw3 w3))
 go_ret
 exact ⟨rfl, ((y5.refl _ _).alloc _).trans hk2⟩
theorem Q3o (vl : Value) (es : List El) (keys : List ByteArray) (k : ByteArray) (w : World) (h : SL w 75 3 vl es) (hke : es.map List.head? = keys.map fun q => some (Value.string q)) (hr : QI keys) (hl : es.length <= 50000) :
  Calls prog 235 #[vl, .string k, .func (.func 236) #[] #[]] w (Q3j keys k w) := by
 obtain ⟨pv, cv, rfl⟩ := h.shape
 have hkl : keys.length = es.length := by have := congrArg List.length hke; simpa using this.symm
 have hnth : ∀ (x : Nat) (q : ByteArray), keys[x]? = some q -> ∃ v2 v3, es[x]? = some [.string q, v2, v3] := by
  intro x q hq
  have hx : x < es.length := by rw [<- hkl]; exact (List.getElem?_eq_some_iff.1 hq).1
  have h2 := congrArg (fun l => l[x]?) hke
  simp only [List.getElem?_map, hq, Option.map_some, List.getElem?_eq_getElem hx] at h2
  have h3 := Option.some.inj h2
  have h4 := h.wd es[x] (List.getElem_mem hx)
  rw [List.getElem?_eq_getElem hx]
  match hes : es[x], h3, h4 with
  | [a, v2, v3], h3, _ => simp at h3; subst h3; exact ⟨v2, v3, rfl⟩
 go_enter func235, ntmps235
 go_wp2
 go_loopw [9, 10] (fun i j wr => BsI keys k w i j wr) (fun i j _ => (intOf j).toNat - (intOf i).toNat)
 case atStart => exact ⟨0, es.length, rfl, rfl, Nat.zero_le _, by omega, by intro x q _ hx; omega, by intro x q hx hb; have := (List.getElem?_eq_some_iff.1 hx).1; omega, y5.refl _ _⟩
 case round =>
  obtain ⟨a, b, rfl, rfl, hab, hb, hlo, hhi, hkr⟩ := hrel
  by_cases hlt : a < b
  ·have hlt' : (a : Int) < (b : Int) := by omega
   obtain ⟨m, hm⟩ : ∃ m : Nat, m = (a + b) / 2 := ⟨_, rfl⟩
   obtain ⟨q, hq⟩ : ∃ q, keys[m]? = some q := ⟨_, List.getElem?_eq_getElem (by omega)⟩
   obtain ⟨v2, v3, he⟩ := hnth m q hq
   obtain ⟨g, off, cap, cur, e, hg, hc1, hc2, hc3, hcur⟩ := (h.kept hkr).at_ (by omega)
   cases e
   have hld := gG (P := prog) (ty := 75) _ hg (hcur m _ he) underlying75 stk
   have hmi : ((a : Int) + (b : Int)) / 2 = (m : Int) := by omega
   have hml : m < es.length := by omega
   have hma : a <= m /\ m < b := by omega
   clear hcur hm
   cases hbl : bl q k with
   | true =>
    have hc : cmpB q k < 0 := by rw [<- Q3h] at hbl; simpa using hbl
    go_wp2_with (first
    | (refine y8 rfl _ _ (ya 177 (.tmp 25) (.tmp 26) rfl g off es.length cv m 3 rfl rfl 75 underlying177 stk hml (off + m * 3) (by omega)) ?_)
    | (refine ye rfl 75 (.tmp 27) rfl ⟨g, off + m * 3, none⟩ rfl _ hld ?_)
    | (go_at_call 236; refine (ZW _ _ _ _ _).mono ?_; rintro e w2 ⟨rfl, hk2⟩))
    go_roundw
    case rel =>
     refine ⟨m + 1, b, by go_num, rfl, by omega, hb, ?_, hhi, hkr.trans hk2⟩
     intro x p hx hxm
     rcases Nat.lt_or_ge x m with h1 | h1
     ·exact qX (Q3l hr hx hq h1) hbl
     ·have e : x = m := by omega
      subst e; rw [hq] at hx; cases hx; exact hbl
    case measure => simp [intOf]; omega
   | false =>
    have hc : ¬ cmpB q k < 0 := by rw [<- Q3h] at hbl; simpa using hbl
    go_wp2_with (first
    | (refine y8 rfl _ _ (ya 177 (.tmp 25) (.tmp 26) rfl g off es.length cv m 3 rfl rfl 75 underlying177 stk hml (off + m * 3) (by omega)) ?_)
    | (refine ye rfl 75 (.tmp 27) rfl ⟨g, off + m * 3, none⟩ rfl _ hld ?_)
    | (go_at_call 236; refine (ZW _ _ _ _ _).mono ?_; rintro e w2 ⟨rfl, hk2⟩))
    go_roundw
    case rel =>
     refine ⟨a, m, rfl, rfl, by omega, by omega, hlo, ?_, hkr.trans hk2⟩
     intro x p hx hxm
     rcases Nat.lt_or_ge m x with h1 | h1
     ·exact gz (Qp (Q3l hr hq hx h1)) hbl
     ·have e : x = m := by omega
      subst e; rw [hq] at hx; cases hx; exact hbl
    case measure => simp [intOf]; omega
  ·have hge : ¬ (a : Int) < (b : Int) := by omega
   have eab : a = b := by omega
   subst eab
   have hpos : Pos keys k a := by
    refine ⟨hb, fun x q hx => ⟨fun hxa => hlo x q hx hxa, fun hbl => ?_⟩⟩
    rcases Nat.lt_or_ge x a with h1 | h1
    ·exact h1
    ·have := hhi x q hx h1; rw [this] at hbl; cases hbl
   by_cases hn : a < es.length
   ·have hn' : (a : Int) < (es.length : Int) := by omega
    obtain ⟨q, hq⟩ : ∃ q, keys[a]? = some q := ⟨_, List.getElem?_eq_getElem (by omega)⟩
    obtain ⟨v2, v3, he⟩ := hnth a q hq
    obtain ⟨g, off, cap, cur, e, hg, hc1, hc2, hc3, hcur⟩ := (h.kept hkr).at_ (by omega)
    cases e
    have hld := gG (P := prog) (ty := 75) _ hg (hcur a _ he) underlying75 stk
    have c0 : wr.cell? ⟨g, off + a * 3, none⟩ = some (.string q) := y6 hg ((hcur a _ he).2 0 _ rfl)
    have c1 := y6 hg ((hcur a _ he).2 1 _ rfl)
    have c2 := y6 hg ((hcur a _ he).2 2 _ rfl)
    have hix := Q2C (P := prog) (w := wr) 177 g off es.length cv a 3 75 underlying177 stk hn (off + a * 3) rfl
    clear hcur
    go_wp2_with (first
     | (go_at_call 236; refine (ZW _ _ _ _ _).mono ?_; rintro e w2 ⟨rfl, hk2⟩))
    go_ret2
    refine ⟨a, cmpB q k == 0, rfl, hpos, ?_, hkr.trans hk2⟩
    rw [Q3i, jg, hq]
    simp
   ·have hn' : ¬ (a : Int) < (es.length : Int) := by omega
    go_wp2
    go_ret2
    refine ⟨a, false, rfl, hpos, ?_, hkr⟩
    have : keys[a]? = none := by rw [List.getElem?_eq_none_iff]; omega
    simp [this]
theorem Q3p (vl : Value) (es : List El) (keys : List ByteArray) (k : ByteArray) (w : World) (h : SL w 75 3 vl es) (hke : es.map List.head? = keys.map fun q => some (Value.string q)) (hr : QI keys) (hl : es.length <= 50000) :
  Calls prog 231 #[vl, .string k] w (Q3j keys k w) := by
 have HB : Hid (Calls _ _ _ _ _) := Q3o vl es keys k w h hke hr hl
 go_enter func231, ntmps231
 go_wp2_with (first | (go_at_call 235; refine HB.out.mono ?_; rintro e w2 ⟨i, b, rfl, h1, h2, h3⟩))
 go_ret2
 exact ⟨i, b, rfl, h1, h2, h3⟩
theorem Q3q (k v : Value) (w : World) : (Go.method 391 138 (.agg #[k, v]) "store/tree.size").run prog w = .ok (200, .agg #[k, v]) w := by kernel_rfl
theorem Q3r (p : Pr) (w : World) (h1 : p.1.size <= 100000 := by omega) (h2 : p.2.size <= 100000 := by omega) : Calls prog 200 #[.agg #[.string p.1, .string p.2]] w fun e w' => e = .returned (.int .i64 (psz p : Nat)) /\ y5 [] w w' := by
 go_enter func200, ntmps200
 go_wp2
 go_ret
 exact ⟨by unfold psz; simp, (y5.refl _ _).alloc _⟩
def MePI (l : List Pr) (w : World) (s i : Value) (wr : World) : Prop := ∃ j : Nat, j <= l.length /\ i = .int .i64 j /\ s = .int .i64 (((l.take j).map psz).sum : Nat) /\ y5 [] w wr
theorem Q3s (vl : Value) (l : List Pr) (w : World) (h : SL w 138 2 vl (l.map pe)) (hl : l.length <= 50000) (hs : ∀ x ∈ l, psz x <= 22) :
  Calls prog 196 #[vl] w fun e w' => e = .returned (.int .i64 ((l.map psz).sum : Nat)) /\ y5 [] w w' := by
 obtain ⟨pv, cv, ev⟩ := h.shape
 rw [List.length_map] at ev
 subst ev
 have hm := Q3q
 have hsum : ∀ j, ((l.take j).map psz).sum <= 22 * l.length := by
  intro j
  have : ∀ (L : List Pr), (∀ x ∈ L, psz x <= 22) -> (L.map psz).sum <= 22 * L.length := by
   intro L hL
   induction L with
   | nil => simp
   | cons a r ih =>
    have h1 := hL a (by simp)
    have h2 := ih fun x hx => hL x (by simp [hx])
    simp only [List.map_cons, List.sum_cons, List.length_cons]
    omega
  have h1 := this (l.take j) fun x hx => hs x (List.mem_of_mem_take hx)
  have h2 : (l.take j).length <= l.length := by rw [List.length_take]; exact Nat.min_le_right _ _
  omega
 go_enter func196, ntmps196
 go_wp2
 go_loopw [3, 8] (fun s i wr => MePI l w s i wr) (fun _ i _ => l.length - (intOf i).toNat)
 case atStart => exact ⟨0, Nat.zero_le _, rfl, by simp, y5.refl _ _⟩
 case round =>
  obtain ⟨j, hj, rfl, rfl, hkr⟩ := hrel
  by_cases hlt : j < l.length
  ·have hlt' : (j : Int) < (l.length : Int) := by omega
   obtain ⟨x, hx⟩ : ∃ x, l[j]? = some x := ⟨_, List.getElem?_eq_getElem hlt⟩
   have hx22 := hs x (List.mem_of_getElem? hx)
   have hx1 : x.1.size <= 22 := by unfold psz at hx22; omega
   have hx2 : x.2.size <= 22 := by unfold psz at hx22; omega
   have hsj := hsum j
   have hnext : ((l.take (j + 1)).map psz).sum = ((l.take j).map psz).sum + psz x := by
    rw [qr l j x hx]; simp
   obtain ⟨g, off, cap, cur, e, hg, hc1, hc2, hc3, hcur⟩ := (h.kept hkr).at_ (by simp; omega)
   rw [List.length_map] at e
   cases e
   have hld := gG (P := prog) (ty := 138) _ hg (hcur j _ (by rw [List.getElem?_map, hx]; rfl)) underlying138 stp
   simp only [pe] at hld
   generalize hS : ((l.take j).map psz).sum = S at *
   have HN : Hid _ := hnext
   clear hcur hnext hS
   go_wp2_with (first
    | (refine y8 rfl _ _ (ya 134 (.tmp 6) (.tmp 8) rfl g off l.length cv j 2 rfl rfl 138 underlying134 stp hlt (off + j * 2) rfl) ?_)
    | (refine ye rfl 138 (.tmp 10) rfl ⟨g, off + j * 2, none⟩ rfl _ hld ?_)
    | (go_at_call 200; refine (Q3r _ _).mono ?_; rintro e w2 ⟨rfl, hk2⟩))
   go_roundw
   case rel => exact ⟨j + 1, by omega, by go_num, by rw [HN.out]; simp, ((hkr.alloc _).trans hk2)⟩
   case measure => simp [intOf]; omega
  ·have hge : ¬ (j : Int) < (l.length : Int) := by omega
   have ej : j = l.length := by omega
   subst ej
   go_wp2
   go_ret
   exact ⟨rfl, hkr⟩
def ke (x : KE) : El := [.string x.1, .int .i64 x.3, x.2]
def ksz (_ : KE) : Nat := 11
theorem Q3t (k v u : Value) (w : World) : (Go.method 391 75 (.agg #[k, v, u]) "store/tree.size").run prog w = .ok (177, .agg #[k, v, u]) w := by kernel_rfl
theorem Q3u (x : KE) (w : World) : Calls prog 177 #[.agg #[.string x.1, .int .i64 x.3, x.2]] w fun e w' => e = .returned (.int .i64 (ksz x : Nat)) /\ y5 [] w w' := by
 go_enter func177, ntmps177
 go_wp2
 go_ret
 exact ⟨rfl, (y5.refl _ _).alloc _⟩
def MeKI (l : List KE) (w : World) (s i : Value) (wr : World) : Prop := ∃ j : Nat, j <= l.length /\ i = .int .i64 j /\ s = .int .i64 (((l.take j).map ksz).sum : Nat) /\ y5 [] w wr
theorem Q3v (vl : Value) (l : List KE) (w : World) (h : SL w 75 3 vl (l.map ke)) (hl : l.length <= 50000) (hs : ∀ x ∈ l, ksz x <= 22) (ho : ∀ x ∈ l, ∃ t v, x.2 = .iface t v) :
  Calls prog 229 #[vl] w fun e w' => e = .returned (.int .i64 ((l.map ksz).sum : Nat)) /\ y5 [] w w' := by
 obtain ⟨pv, cv, ev⟩ := h.shape
 rw [List.length_map] at ev
 subst ev
 have hm := Q3t
 have hsum : ∀ j, ((l.take j).map ksz).sum <= 22 * l.length := by
  intro j
  have : ∀ (L : List KE), (∀ x ∈ L, ksz x <= 22) -> (L.map ksz).sum <= 22 * L.length := by
   intro L hL
   induction L with
   | nil => simp
   | cons a r ih =>
    have h1 := hL a (by simp)
    have h2 := ih fun x hx => hL x (by simp [hx])
    simp only [List.map_cons, List.sum_cons, List.length_cons]
    omega
  have h1 := this (l.take j) fun x hx => hs x (List.mem_of_mem_take hx)
  have h2 : (l.take j).length <= l.length := by rw [List.length_take]; exact Nat.min_le_right _ _
  omega
 go_enter func229, ntmps229
 go_wp2
 go_loopw [3, 8] (fun s i wr => MeKI l w s i wr) (fun _ i _ => l.length - (intOf i).toNat)
 case atStart => exact ⟨0, Nat.zero_le _, rfl, by simp, y5.refl _ _⟩
 case round =>
  obtain ⟨j, hj, rfl, rfl, hkr⟩ := hrel
  by_cases hlt : j < l.length
  ·have hlt' : (j : Int) < (l.length : Int) := by omega
   obtain ⟨x, hx⟩ : ∃ x, l[j]? = some x := ⟨_, List.getElem?_eq_getElem hlt⟩
   have hx22 := hs x (List.mem_of_getElem? hx)
   obtain ⟨ti, vi, ei⟩ := ho x (List.mem_of_getElem? hx)
   have hsj := hsum j
   have hnext : ((l.take (j + 1)).map ksz).sum = ((l.take j).map ksz).sum + ksz x := by
    rw [qr l j x hx]; simp
   obtain ⟨g, off, cap, cur, e, hg, hc1, hc2, hc3, hcur⟩ := (h.kept hkr).at_ (by simp; omega)
   rw [List.length_map] at e
   cases e
   have hld := gG (P := prog) (ty := 75) _ hg (hcur j _ (by rw [List.getElem?_map, hx]; rfl)) underlying75 stk
   simp only [ke, ei] at hld
   generalize hS : ((l.take j).map ksz).sum = S at *
   have HN : Hid _ := hnext
   clear hcur hnext hS
   go_wp2_with (first
    | (refine y8 rfl _ _ (ya 177 (.tmp 6) (.tmp 8) rfl g off l.length cv j 3 rfl rfl 75 underlying177 stk hlt (off + j * 3) rfl) ?_)
    | (refine ye rfl 75 (.tmp 10) rfl ⟨g, off + j * 3, none⟩ rfl _ hld ?_)
    | (go_at_call 177; refine (Q3u ⟨x.1, .iface ti vi, x.3⟩ _).mono ?_; rintro e w2 ⟨rfl, hk2⟩))
   go_roundw
   case rel => exact ⟨j + 1, by omega, by go_num, by rw [HN.out]; simp only [ksz]; rw [Value.int.injEq]; refine ⟨rfl, ?_⟩; rw [w64 _ (by omega)]; omega, ((hkr.alloc _).trans hk2)⟩
   case measure => simp [intOf]; omega
  ·have hge : ¬ (j : Int) < (l.length : Int) := by omega
   have ej : j = l.length := by omega
   subst ej
   go_wp2
   go_ret
   exact ⟨rfl, hkr⟩
def HvPI (l : List Pr) (w : World) (s i : Value) (wr : World) : Prop := ∃ j : Nat, j <= l.length /\ i = .int .i64 j /\ s = .int .i64 (((l.take j).map psz).sum : Nat) /\ j + Q4 psz (l.map psz).sum ((l.take j).map psz).sum (l.drop j) = yJ psz l /\ y5 [] w wr
def HvPR (vl : Value) (l : List Pr) (w : World) (e : Ending) (w' : World) : Prop := ∃ a b, e = .returned (.tuple #[a, b]) /\ SL w' 138 2 a ((l.take (yJ psz l)).map pe) /\ SL w' 138 2 b ((l.drop (yJ psz l)).map pe) /\ (∀ y, a.ownBlock = some y -> vl.ownBlock = some y) /\ (∀ y, b.ownBlock = some y -> vl.ownBlock = some y) /\ y5 [] w w'
theorem Q3w (vl : Value) (l : List Pr) (w : World) (h : SL w 138 2 vl (l.map pe)) (hl : l.length <= 50000) (hs : ∀ x ∈ l, psz x <= 22) (h0 : yJ psz l < l.length) :
  Calls prog 195 #[vl] w (HvPR vl l w) := by
 obtain ⟨g, off, cap, cur, ev, hg, hc1, hc2, hc3, hcur⟩ := h.at_ (by simp; omega)
 rw [List.length_map] at ev hc1
 subst ev
 have hm := Q3q
 have hbnd : ∀ j, ((l.take j).map psz).sum <= (l.map psz).sum := by
  intro j; have := Qq psz l j; omega
 have hall : (l.map psz).sum <= 22 * l.length := by
  have : ∀ (L : List Pr), (∀ x ∈ L, psz x <= 22) -> (L.map psz).sum <= 22 * L.length := by
   intro L hL
   induction L with
   | nil => simp
   | cons a r ih =>
    have h1 := hL a (by simp)
    have h2 := ih fun x hx => hL x (by simp [hx])
    simp only [List.map_cons, List.sum_cons, List.length_cons]
    omega
  exact this l hs
 have HM : Hid (Calls _ _ _ _ _) := Q3s _ l w h hl hs
 generalize hW : (l.map psz).sum = WH at *
 have HWH : Hid _ := hW
 clear hW
 go_enter func195, ntmps195
 go_wp2_with (first | (go_at_call 196; refine HM.out.mono ?_; rintro e w1 ⟨rfl, hk1⟩))
 go_loopw [5, 6] (fun s i wr => HvPI l w s i wr) (fun _ i _ => l.length + 1 - (intOf i).toNat)
 case atStart => exact ⟨0, Nat.zero_le _, rfl, by simp, by simp [yJ], hk1⟩
 case round =>
  obtain ⟨j, hj, rfl, rfl, hcut, hkr⟩ := hrel
  have hbj := hbnd j
  rw [HWH.out] at hcut
  by_cases hlt : 2 * ((l.take j).map psz).sum < WH
  ·have hjl : j < l.length := by
    rcases Nat.lt_or_ge j l.length with h1 | h1
    ·exact h1
    ·rw [List.take_of_length_le h1, HWH.out] at hlt; omega
   have hlt' : (2 : Int) * (((l.take j).map psz).sum : Nat) < (WH : Int) := by omega
   obtain ⟨x, hx⟩ : ∃ x, l[j]? = some x := ⟨_, List.getElem?_eq_getElem hjl⟩
   have hx22 := hs x (List.mem_of_getElem? hx)
   have hx1 : x.1.size <= 22 := by unfold psz at hx22; omega
   have hx2 : x.2.size <= 22 := by unfold psz at hx22; omega
   have hnext : ((l.take (j + 1)).map psz).sum = ((l.take j).map psz).sum + psz x := by
    rw [qr l j x hx]; simp
   have hdr : l.drop j = x :: l.drop (j + 1) := by
    rw [List.drop_eq_getElem_cons hjl, (List.getElem?_eq_some_iff.1 hx).2]
   have hcut2 : j + 1 + Q4 psz (l.map psz).sum ((l.take (j + 1)).map psz).sum (l.drop (j + 1)) = yJ psz l := by
    rw [<- hcut, hdr, Q4, if_pos hlt, hnext, HWH.out]; omega
   have hgr : wr.heap[g]? = some (.cells cur 138 (0, 0)) := hkr.get hg (by simp)
   have hld := gG (P := prog) (ty := 138) _ hgr (hcur j _ (by rw [List.getElem?_map, hx]; rfl)) underlying138 stp
   simp only [pe] at hld
   generalize hS : ((l.take j).map psz).sum = S at *
   have HN : Hid _ := hnext
   have HC : Hid _ := hcut2
   clear hnext hS hcut2 hcut hdr
   go_wp2_with (first
    | (refine y8 rfl _ _ (ya 135 (.tmp 16) (.tmp 17) rfl g off l.length cap j 2 rfl rfl 138 underlying135 stp hjl (off + j * 2) rfl) ?_)
    | (refine ye rfl 138 (.tmp 18) rfl ⟨g, off + j * 2, none⟩ rfl _ hld ?_)
    | (go_at_call 200; refine (Q3r _ _).mono ?_; rintro e w2 ⟨rfl, hk2⟩))
   go_roundw
   case rel => exact ⟨j + 1, by omega, by go_num, by rw [HN.out]; simp, HC.out, hkr.trans hk2⟩
   case measure => simp [intOf]; omega
  ·have hge : ¬ (2 : Int) * (((l.take j).map psz).sum : Nat) < (WH : Int) := by omega
   have ej : j = yJ psz l := by
    have hz : Q4 psz WH ((l.take j).map psz).sum (l.drop j) = 0 := by
     cases l.drop j with
     | nil => rfl
     | cons y t => rw [Q4, if_neg hlt]
    omega
   generalize hS : ((l.take j).map psz).sum = S at *
   clear hcut hS
   have hjl : j < l.length := by omega
   have i1 : (j : Int) <= (l.length : Int) := by omega
   have i2 : (j : Int) <= (cap : Int) := by omega
   have i3 : ¬ cap = j := by omega
   have i4 : j <= cap := by omega
   go_wp2
   go_quiet (fail)
   go_wp2
   go_ret2
   have hgd : (wr.drewN nq).heap[g]? = some (.cells cur 138 (0, 0)) := hkr.get hg (by simp)
   refine ⟨_, _, rfl, Or.inr ⟨g, off, yJ psz l, cur, ?_, hgd, ?_, by omega, by omega, ?_⟩, Or.inr ⟨g, off + yJ psz l * 2, cap - yJ psz l, cur, ?_, hgd, ?_, by omega, by omega, ?_⟩, fun _ hy => hy, fun _ hy => hy, hkr.drewN _⟩
   ·simp; omega
   ·simp; omega
   ·intro i e he
    rw [List.map_take, List.getElem?_take] at he
    split at he
    ·exact hcur i e he
    ·cases he
   ·simp
   ·simp; omega
   ·intro i e he
    rw [List.map_drop, List.getElem?_drop] at he
    have := hcur _ e he
    rw [show off + (yJ psz l + i) * 2 = off + yJ psz l * 2 + i * 2 by omega] at this
    exact this
def HvKI (l : List KE) (w : World) (s i : Value) (wr : World) : Prop := ∃ j : Nat, j <= l.length /\ i = .int .i64 j /\ s = .int .i64 (((l.take j).map ksz).sum : Nat) /\ j + Q4 ksz (l.map ksz).sum ((l.take j).map ksz).sum (l.drop j) = yJ ksz l /\ y5 [] w wr
def HvKR (vl : Value) (l : List KE) (w : World) (e : Ending) (w' : World) : Prop := ∃ a b, e = .returned (.tuple #[a, b]) /\ SL w' 75 3 a ((l.take (yJ ksz l)).map ke) /\ SL w' 75 3 b ((l.drop (yJ ksz l)).map ke) /\ (∀ y, a.ownBlock = some y -> vl.ownBlock = some y) /\ (∀ y, b.ownBlock = some y -> vl.ownBlock = some y) /\ y5 [] w w'
theorem Q3x (vl : Value) (l : List KE) (w : World) (h : SL w 75 3 vl (l.map ke)) (hl : l.length <= 50000) (hs : ∀ x ∈ l, ksz x <= 22) (ho : ∀ x ∈ l, ∃ t v, x.2 = .iface t v) (h0 : yJ ksz l < l.length) :
  Calls prog 228 #[vl] w (HvKR vl l w) := by
 obtain ⟨g, off, cap, cur, ev, hg, hc1, hc2, hc3, hcur⟩ := h.at_ (by simp; omega)
 rw [List.length_map] at ev hc1
 subst ev
 have hm := Q3t
 have hbnd : ∀ j, ((l.take j).map ksz).sum <= (l.map ksz).sum := by
  intro j; have := Qq ksz l j; omega
 have hall : (l.map ksz).sum <= 22 * l.length := by
  have : ∀ (L : List KE), (∀ x ∈ L, ksz x <= 22) -> (L.map ksz).sum <= 22 * L.length := by
   intro L hL
   induction L with
   | nil => simp
   | cons a r ih =>
    have h1 := hL a (by simp)
    have h2 := ih fun x hx => hL x (by simp [hx])
    simp only [List.map_cons, List.sum_cons, List.length_cons]
    omega
  exact this l hs
 have HM : Hid (Calls _ _ _ _ _) := Q3v _ l w h hl hs ho
 generalize hW : (l.map ksz).sum = WH at *
 have HWH : Hid _ := hW
 clear hW
 go_enter func228, ntmps228
 go_wp2_with (first | (go_at_call 229; refine HM.out.mono ?_; rintro e w1 ⟨rfl, hk1⟩))
 go_loopw [5, 6] (fun s i wr => HvKI l w s i wr) (fun _ i _ => l.length + 1 - (intOf i).toNat)
 case atStart => exact ⟨0, Nat.zero_le _, rfl, by simp, by simp [yJ], hk1⟩
 case round =>
  obtain ⟨j, hj, rfl, rfl, hcut, hkr⟩ := hrel
  have hbj := hbnd j
  rw [HWH.out] at hcut
  by_cases hlt : 2 * ((l.take j).map ksz).sum < WH
  ·have hjl : j < l.length := by
    rcases Nat.lt_or_ge j l.length with h1 | h1
    ·exact h1
    ·rw [List.take_of_length_le h1, HWH.out] at hlt; omega
   have hlt' : (2 : Int) * (((l.take j).map ksz).sum : Nat) < (WH : Int) := by omega
   obtain ⟨x, hx⟩ : ∃ x, l[j]? = some x := ⟨_, List.getElem?_eq_getElem hjl⟩
   have hx22 := hs x (List.mem_of_getElem? hx)
   obtain ⟨ti, vi, ei⟩ := ho x (List.mem_of_getElem? hx)
   have hnext : ((l.take (j + 1)).map ksz).sum = ((l.take j).map ksz).sum + ksz x := by
    rw [qr l j x hx]; simp
   have hdr : l.drop j = x :: l.drop (j + 1) := by
    rw [List.drop_eq_getElem_cons hjl, (List.getElem?_eq_some_iff.1 hx).2]
   have hcut2 : j + 1 + Q4 ksz (l.map ksz).sum ((l.take (j + 1)).map ksz).sum (l.drop (j + 1)) = yJ ksz l := by
    rw [<- hcut, hdr, Q4, if_pos hlt, hnext, HWH.out]; omega
   have hgr : wr.heap[g]? = some (.cells cur 75 (0, 0)) := hkr.get hg (by simp)
   have hld := gG (P := prog) (ty := 75) _ hgr (hcur j _ (by rw [List.getElem?_map, hx]; rfl)) underlying75 stk
   simp only [ke, ei] at hld
   generalize hS : ((l.take j).map ksz).sum = S at *
   have HN : Hid _ := hnext
   have HC : Hid _ := hcut2
   clear hnext hS hcut2 hcut hdr
   go_wp2_with (first
    | (refine y8 rfl _ _ (ya 180 (.tmp 16) (.tmp 17) rfl g off l.length cap j 3 rfl rfl 75 underlying180 stk hjl (off + j * 3) rfl) ?_)
    | (refine ye rfl 75 (.tmp 18) rfl ⟨g, off + j * 3, none⟩ rfl _ hld ?_)
    | (go_at_call 177; refine (Q3u ⟨x.1, .iface ti vi, x.3⟩ _).mono ?_; rintro e w2 ⟨rfl, hk2⟩))
   go_roundw
   case rel => exact ⟨j + 1, by omega, by go_num, by rw [HN.out]; simp only [ksz]; rw [Value.int.injEq]; refine ⟨rfl, ?_⟩; rw [w64 _ (by omega)]; omega, HC.out, hkr.trans hk2⟩
   case measure => simp [intOf]; omega
  ·have hge : ¬ (2 : Int) * (((l.take j).map ksz).sum : Nat) < (WH : Int) := by omega
   have ej : j = yJ ksz l := by
    have hz : Q4 ksz WH ((l.take j).map ksz).sum (l.drop j) = 0 := by
     cases l.drop j with
     | nil => rfl
     | cons y t => rw [Q4, if_neg hlt]
    omega
   generalize hS : ((l.take j).map ksz).sum = S at *
   clear hcut hS
   have hjl : j < l.length := by omega
   have i1 : (j : Int) <= (l.length : Int) := by omega
   have i2 : (j : Int) <= (cap : Int) := by omega
   have i3 : ¬ cap = j := by omega
   have i4 : j <= cap := by omega
   go_wp2
   go_quiet (fail)
   go_wp2
   go_ret2
   have hgd : (wr.drewN nq).heap[g]? = some (.cells cur 75 (0, 0)) := hkr.get hg (by simp)
   refine ⟨_, _, rfl, Or.inr ⟨g, off, yJ ksz l, cur, ?_, hgd, ?_, by omega, by omega, ?_⟩, Or.inr ⟨g, off + yJ ksz l * 3, cap - yJ ksz l, cur, ?_, hgd, ?_, by omega, by omega, ?_⟩, fun _ hy => hy, fun _ hy => hy, hkr.drewN _⟩
   ·simp; omega
   ·simp; omega
   ·intro i e he
    rw [List.map_take, List.getElem?_take] at he
    split at he
    ·exact hcur i e he
    ·cases he
   ·simp
   ·simp; omega
   ·intro i e he
    rw [List.map_drop, List.getElem?_drop] at he
    have := hcur _ e he
    rw [show off + (yJ ksz l + i) * 3 = off + yJ ksz l * 3 + i * 3 by omega] at this
    exact this
theorem SL.Wd {w : World} {t : TypeId} {d : Nat} {v : Value} {es : List El} (h : SL w t d v es) : Wd d es := h.wd
def OW (w : World) (B : Nat) (t : TypeId) (d : Nat) (v : Value) (es : List El) : Prop := w.ownsRow B t d v es.length (fl es) /\ Wd d es
theorem OW.sl {w : World} {B : Nat} {t : TypeId} {d : Nat} {v : Value} {es : List El} (h : OW w B t d v es) : SL w t d v es := by
 obtain ⟨⟨_, ⟨rfl, h0⟩ | ⟨g, cap, cur, rfl, _, hh, h1, h2, h3, htk⟩⟩, hw⟩ := h
 ·exact Or.inl ⟨rfl, List.eq_nil_of_length_eq_zero h0⟩
 ·refine Or.inr ⟨g, 0, cap, cur, rfl, hh, h1, h2, by omega, ?_⟩
  intro i e he
  have hil : i < es.length := (List.getElem?_eq_some_iff.1 he).1
  refine ⟨hw e (List.mem_of_getElem? he), fun j u hj => ?_⟩
  have g1 := Q03 hw i e he j u hj
  have hjd : j < d := by rw [<- hw e (List.mem_of_getElem? he)]; exact (List.getElem?_eq_some_iff.1 hj).1
  have hb : (i + 1) * d <= es.length * d := Nat.mul_le_mul_right d hil
  rw [Nat.add_mul, Nat.one_mul] at hb
  rw [<- htk, List.getElem?_take, if_pos (by omega)] at g1
  rw [Nat.zero_add]
  simpa using g1
theorem SL.src {w : World} {t : TypeId} {d g off n cap : Nat} {es : List El} (h : SL w t d (.slice (some ⟨g, off, none⟩) n cap) es) (hd : 0 < d := by decide) : n = es.length /\ ∀ j u, (fl es)[j]? = some u -> w.cell? ((⟨g, off, none⟩ : Addr).add j) = some u := by
 have hw := h.Wd
 rcases h with ⟨h, _⟩ | ⟨g', off', cap', cur, e, hh, _, _, _, hc⟩
 ·cases h
 cases e
 refine ⟨rfl, ?_⟩
 intro j u hj
 have hjl : j < es.length * d := by have := (List.getElem?_eq_some_iff.1 hj).1; rwa [qb hw] at this
 obtain ⟨e, he⟩ : ∃ e, es[j / d]? = some e := ⟨_, List.getElem?_eq_getElem (Nat.div_lt_of_lt_mul (by rwa [Nat.mul_comm] at hjl))⟩
 obtain ⟨hed, c1⟩ := hc (j / d) e he
 have hjm := Nat.mod_lt j hd
 have ej : j = j / d * d + j % d := by rw [Nat.mul_comm]; exact (Nat.div_add_mod j d).symm
 obtain ⟨u', hu'⟩ : ∃ u', e[j % d]? = some u' := ⟨_, List.getElem?_eq_getElem (by omega)⟩
 have f1 := Q03 hw (j / d) e he _ _ hu'
 rw [<- ej, hj] at f1
 have f2 := c1 _ _ hu'
 rw [Nat.add_assoc, <- ej] at f2
 rw [add_lit, cell_of_row _ _ _ _ _ _ hh, f2, f1]
theorem itp : (prog.info? 138).map (fun i => (i.zero, i.size, i.bytes)) = some (some (.agg #[.string ⟨#[]⟩, .string ⟨#[]⟩]), 2, 32) := by kernel_rfl
theorem itk : (prog.info? 75).map (fun i => (i.zero, i.size, i.bytes)) = some (some (.agg #[.string ⟨#[]⟩, .int .i64 0, .nilIface]), 3, 40) := by kernel_rfl
theorem Q3y (W : World) : (binOp .eql 135 (.slice none 0 0) (.slice none 0 0)).run prog W = .ok (.bool true) W := by kernel_rfl
theorem Q3z (a : Addr) (n c : Nat) (W : World) : (binOp .eql 135 (.slice (some a) n c) (.slice none 0 0)).run prog W = .ok (.bool false) W := by kernel_rfl
theorem Q3A (W : World) : (binOp .eql 180 (.slice none 0 0) (.slice none 0 0)).run prog W = .ok (.bool true) W := by kernel_rfl
theorem Q3B (a : Addr) (n c : Nat) (W : World) : (binOp .eql 180 (.slice (some a) n c) (.slice none 0 0)).run prog W = .ok (.bool false) W := by kernel_rfl
def Q3C (t : TypeId) (d : Nat) (es : List El) (w : World) (e : Ending) (w' : World) : Prop := ∃ v, e = .returned v /\ OW w' w.heap.size t d v es /\ y5 [] w w'
theorem Q3D (vl : Value) (es : List El) (w : World) (h : SL w 138 2 vl es) (h1 : One 2 es) (hl : es.length <= 50000) : Calls prog 108 #[vl] w (Q3C 138 2 es w) := by
 obtain ⟨ie, hie, hz1, hz2, hz3⟩ := info_parts itp
 have h' := h
 rcases h' with ⟨rfl, rfl⟩ | ⟨g, off, cap, cur, rfl, hg, _, _, _, _⟩
 ·have hn := Q3y
  go_enter func108, ntmps108
  go_wp2
  go_ret
  exact ⟨_, rfl, ⟨World.ownsRow_nil _ _ _ _, by simp [Wd]⟩, y5.refl _ _⟩
 ·have k1 := (y5.refl [] w).alloc (.cells #[] 138)
  have own1 : (w.alloc (.cells #[] 138)).ownsRow w.heap.size 138 2 (.slice (some ⟨w.heap.size, 0, none⟩) 0 0) 0 [] := ⟨rfl, Or.inr ⟨w.heap.size, 0, #[], rfl, Nat.le_refl _, heap_alloc_new _ _, Nat.le_refl _, by unfold maxLen; omega, rfl, rfl⟩⟩
  have hsrc := (h.kept k1).src.2
  have hn := Q3z
  go_enter func108, ntmps108
  go_wp2_with (first
   | (at_builtin; refine wpList_append_own _ rfl (.tmp 5) (.tmp 6) 135 rfl w.heap.size 138 ie _ 2 32 underlying135 hie hz1 hz2 hz3 rfl (by decide) (.slice (some ⟨w.heap.size, 0, none⟩) 0 0) 0 [] rfl own1 ⟨g, off, none⟩ es.length cap (fl es) rfl (qb h1.wd) hsrc h1.fl (by unfold maxLen; omega) (by omega) (by simp) ?_; intro v3 w3 own3 gr3 _; have k3 := qL gr3 [w.heap.size] (by intro x hx; cases hx; simp)))
  go_ret
  refine ⟨_, rfl, ?_, k1.trans2 k3 (by intro x hx; simp at hx; exact Or.inr (by omega))⟩
  have := own3
  rw [Nat.zero_add, List.nil_append] at this
  exact ⟨this, h1.wd⟩
theorem Q3E (vl : Value) (es : List El) (w : World) (h : SL w 75 3 vl es) (h1 : One 3 es) (hl : es.length <= 50000) : Calls prog 226 #[vl] w (Q3C 75 3 es w) := by
 obtain ⟨ie, hie, hz1, hz2, hz3⟩ := info_parts itk
 have h' := h
 rcases h' with ⟨rfl, rfl⟩ | ⟨g, off, cap, cur, rfl, hg, _, _, _, _⟩
 ·have hn := Q3A
  go_enter func226, ntmps226
  go_wp2
  go_ret
  exact ⟨_, rfl, ⟨World.ownsRow_nil _ _ _ _, by simp [Wd]⟩, y5.refl _ _⟩
 ·have k1 := (y5.refl [] w).alloc (.cells #[] 75)
  have own1 : (w.alloc (.cells #[] 75)).ownsRow w.heap.size 75 3 (.slice (some ⟨w.heap.size, 0, none⟩) 0 0) 0 [] := ⟨rfl, Or.inr ⟨w.heap.size, 0, #[], rfl, Nat.le_refl _, heap_alloc_new _ _, Nat.le_refl _, by unfold maxLen; omega, rfl, rfl⟩⟩
  have hsrc := (h.kept k1).src.2
  have hn := Q3B
  go_enter func226, ntmps226
  go_wp2_with (first
   | (at_builtin; refine wpList_append_own _ rfl (.tmp 5) (.tmp 6) 180 rfl w.heap.size 75 ie _ 3 40 underlying180 hie hz1 hz2 hz3 rfl (by decide) (.slice (some ⟨w.heap.size, 0, none⟩) 0 0) 0 [] rfl own1 ⟨g, off, none⟩ es.length cap (fl es) rfl (qb h1.wd) hsrc h1.fl (by unfold maxLen; omega) (by omega) (by simp) ?_; intro v3 w3 own3 gr3 _; have k3 := qL gr3 [w.heap.size] (by intro x hx; cases hx; simp)))
  go_ret
  refine ⟨_, rfl, ?_, k1.trans2 k3 (by intro x hx; simp at hx; exact Or.inr (by omega))⟩
  have := own3
  rw [Nat.zero_add, List.nil_append] at this
  exact ⟨this, h1.wd⟩
theorem Q3F {zc : Array Value} {n : Nat} (h0 : 0 < zc.size) (h1 : ∀ u ∈ zc.toList, u.oneCell' = true) : ∀ u ∈ (Builtin.zeroCells zc n).toList, u.oneCell' = true := by
 intro u hu
 obtain ⟨i, hi⟩ := List.mem_iff_getElem?.1 hu
 simp only [Builtin.zeroCells, Array.getElem?_toList] at hi
 rw [Array.getElem?_map] at hi
 cases hr : (Array.range (n * zc.size))[i]? with
 | none => rw [hr] at hi; cases hi
 | some x =>
  rw [hr] at hi
  simp only [Option.map_some, Option.some.injEq] at hi
  subst hi
  have hlt : x % zc.size < zc.size := Nat.mod_lt _ h0
  rw [getElem!_pos zc _ hlt]
  exact h1 _ (by simp)
theorem Z6 {P : Program} (w : World) (t e : TypeId) (z : Value) (ht : P.underlying t = some (.slice e)) (hv : ∀ w, (zeroValue e).run P w = .ok z w) (k : Nat) (hk : z.cells.size = k) (hk0 : 0 < k) (h1 : ∀ u ∈ z.cells.toList, u.oneCell' = true) (g o n c : Nat) (cur : List Value) (tg : TypeId)
  (hg : w.heap[g]? = some (.cells cur.toArray tg (0, 0))) (hfit : o + n * k <= cur.length) :
  ∃ W zs, zs.length = n * k /\ (∀ ty, (Builtin.clear_ #[t] ty #[.slice (some ⟨g, o, none⟩) n c]).run P w = .ok (.tuple #[]) W) /\ W.heap[g]? = some (.cells (splice cur o zs).toArray tg (0, 0)) /\ y5 [g] w W := by
 cases n with
 | zero =>
  refine ⟨w, [], by simp, ?_, by simpa [splice] using hg, y5.refl _ _⟩
  intro ty; simp [Builtin.clear_, run_underlying ht]
 | succ n =>
  have hzl : (Builtin.zeroCells z.cells (n + 1)).toList.length = (n + 1) * k := by rw [Array.length_toList, size_zeroCells, hk]
  have hst := run_storeCells_at P g o tg (Builtin.zeroCells z.cells (n + 1)).toList 0 cur.toArray w hg (by rw [hzl]; simpa using hfit) (Q3F (by omega) h1)
  simp only [Nat.add_zero] at hst
  refine ⟨_, _, hzl, ?_, setRow_heap w g _ _ tg _ hg, (y5.refl _ _).setRow (Or.inl (by simp)) _⟩
  intro ty; simp [Builtin.clear_, run_underlying ht, hv, hst, splice]
end Go.Proofs.YtcklgafpgdhnaabGreatDoor
