import Derived.Test.YtcklgafpgdhnaaaGreatDoorPsag
set_option maxRecDepth 100000
set_option maxHeartbeats 4000000
open Go.Proofs.Tryz
namespace Go.Proofs.YtcklgafpgdhnaaaGreatDoor
open Go.RowKit
abbrev KE := Q48 Value
theorem stk : (prog.info? 80).map (·.size) = some 3 := by kernel_rfl
theorem Q5j (k v u : Value) (s : ByteArray) (hk : k = .string s) (w : World) : Calls prog 226 #[.agg #[k, v, u]] w fun e w' => e = .returned (.string s) /\ Kept [] w w' := by
 subst hk
 go_enter func226, ntmps226
 go_wp2
 go_ret
 exact ⟨rfl, (Kept.refl _ _).alloc _⟩
theorem Q5k (k v u : Value) (w : World) : (Go.method 433 80 (.agg #[k, v, u]) "store/tree.key").run prog w = .ok (226, .agg #[k, v, u]) w := by kernel_rfl
theorem Q5l (s k : ByteArray) (v u : Value) (w : World) : Calls prog 273 #[.agg #[.string s, v, u], .string k] w fun e w' => e = .returned (.int .i64 (cmpB s k)) /\ Kept [] w w' := by
 have hm := Q5k
 go_enter func273, ntmps273
 go_wp2_with (first
  | (go_at_call 226; refine (Q5j _ _ _ _ rfl _).mono ?_; rintro e w2 ⟨rfl, hk2⟩)
  | (go_at_call 109; refine (Q58 _ _ _).mono ?_; rintro e w3 ⟨rfl, hw3⟩; rw [hw3]; clear hw3 w3))
 go_ret
 exact ⟨rfl, ((Kept.refl _ _).alloc _).trans hk2⟩
theorem Q5m (vl : Value) (es : List El) (keys : List ByteArray) (k : ByteArray) (w : World) (h : SL w 80 3 vl es) (hke : es.map List.head? = keys.map fun q => some (Value.string q)) (hr : Rise keys) (hl : es.length <= 50000) :
  Calls prog 272 #[vl, .string k, .func (.func 273) #[] #[]] w (Q5d keys k w) := by
 obtain ⟨pv, cv, rfl⟩ := h.shape
 have hkl : keys.length = es.length := by have := congrArg List.length hke; simpa using this.symm
 have hnth : ∀ (x : Nat) (q : ByteArray), keys[x]? = some q -> ∃ v2 v3, es[x]? = some [.string q, v2, v3] := by
  intro x q hq
  have hx : x < es.length := by rw [<- hkl]; exact (List.getElem?_eq_some_iff.1 hq).1
  have h2 := congrArg (fun l => l[x]?) hke
  simp only [List.getElem?_map, hq, Option.map_some, List.getElem?_eq_getElem hx] at h2
  have h3 := Option.some.inj h2
  have h4 := h.wd es[x] (List.getElem_mem hx)
  rw [List.getElem?_eq_getElem hx]
  match hes : es[x], h3, h4 with
  | [a, v2, v3], h3, _ => simp at h3; subst h3; exact ⟨v2, v3, rfl⟩
 go_enter func272, ntmps272
 go_wp2
 go_loopw [9, 10] (fun i j wr => BsI keys k w i j wr) (fun i j _ => (intOf j).toNat - (intOf i).toNat)
 case atStart => exact ⟨0, es.length, rfl, rfl, Nat.zero_le _, by omega, by intro x q _ hx; omega, by intro x q hx hb; have := (List.getElem?_eq_some_iff.1 hx).1; omega, Kept.refl _ _⟩
 case round =>
  obtain ⟨a, b, rfl, rfl, hab, hb, hlo, hhi, hkr⟩ := hrel
  by_cases hlt : a < b
  ·have hlt' : (a : Int) < (b : Int) := by omega
   obtain ⟨m, hm⟩ : ∃ m : Nat, m = (a + b) / 2 := ⟨_, rfl⟩
   obtain ⟨q, hq⟩ : ∃ q, keys[m]? = some q := ⟨_, List.getElem?_eq_getElem (by omega)⟩
   obtain ⟨v2, v3, he⟩ := hnth m q hq
   obtain ⟨g, off, cap, cur, e, hg, hc1, hc2, hc3, hcur⟩ := (h.kept hkr).at_ (by omega)
   cases e
   have hld := Q56 (P := prog) (ty := 80) _ hg (hcur m _ he) underlying80 stk
   have hmi : ((a : Int) + (b : Int)) / 2 = (m : Int) := by omega
   have hml : m < es.length := by omega
   have hma : a <= m /\ m < b := by omega
   clear hcur hm
   cases hbl : bl q k with
   | true =>
    have hc : cmpB q k < 0 := by rw [<- Q5b] at hbl; simpa using hbl
    go_wp2_with (first
    | (refine Q04 rfl _ _ (Q0v 165 (.tmp 25) (.tmp 26) rfl g off es.length cv m 3 rfl rfl 80 underlying165 stk hml (off + m * 3) (by omega)) ?_)
    | (refine Q0t rfl 80 (.tmp 27) rfl ⟨g, off + m * 3, none⟩ rfl _ hld ?_)
    | (go_at_call 273; refine (Q5l _ _ _ _ _).mono ?_; rintro e w2 ⟨rfl, hk2⟩))
    go_roundw
    case rel =>
     refine ⟨m + 1, b, by go_num, rfl, by omega, hb, ?_, hhi, hkr.trans hk2⟩
     intro x p hx hxm
     rcases Nat.lt_or_ge x m with h1 | h1
     ·exact Q3o (Q5g hr hx hq h1) hbl
     ·have e : x = m := by omega
      subst e; rw [hq] at hx; cases hx; exact hbl
    case measure => simp [intOf]; omega
   | false =>
    have hc : ¬ cmpB q k < 0 := by rw [<- Q5b] at hbl; simpa using hbl
    go_wp2_with (first
    | (refine Q04 rfl _ _ (Q0v 165 (.tmp 25) (.tmp 26) rfl g off es.length cv m 3 rfl rfl 80 underlying165 stk hml (off + m * 3) (by omega)) ?_)
    | (refine Q0t rfl 80 (.tmp 27) rfl ⟨g, off + m * 3, none⟩ rfl _ hld ?_)
    | (go_at_call 273; refine (Q5l _ _ _ _ _).mono ?_; rintro e w2 ⟨rfl, hk2⟩))
    go_roundw
    case rel =>
     refine ⟨a, m, rfl, rfl, by omega, by omega, hlo, ?_, hkr.trans hk2⟩
     intro x p hx hxm
     rcases Nat.lt_or_ge m x with h1 | h1
     ·exact Q3T (Q3Q (Q5g hr hq hx h1)) hbl
     ·have e : x = m := by omega
      subst e; rw [hq] at hx; cases hx; exact hbl
    case measure => simp [intOf]; omega
  ·have hge : ¬ (a : Int) < (b : Int) := by omega
   have eab : a = b := by omega
   subst eab
   have hpos : Pos keys k a := by
    refine ⟨hb, fun x q hx => ⟨fun hxa => hlo x q hx hxa, fun hbl => ?_⟩⟩
    rcases Nat.lt_or_ge x a with h1 | h1
    ·exact h1
    ·have := hhi x q hx h1; rw [this] at hbl; cases hbl
   by_cases hn : a < es.length
   ·have hn' : (a : Int) < (es.length : Int) := by omega
    obtain ⟨q, hq⟩ : ∃ q, keys[a]? = some q := ⟨_, List.getElem?_eq_getElem (by omega)⟩
    obtain ⟨v2, v3, he⟩ := hnth a q hq
    obtain ⟨g, off, cap, cur, e, hg, hc1, hc2, hc3, hcur⟩ := (h.kept hkr).at_ (by omega)
    cases e
    have hld := Q56 (P := prog) (ty := 80) _ hg (hcur a _ he) underlying80 stk
    have c0 : wr.cell? ⟨g, off + a * 3, none⟩ = some (.string q) := Q02 hg ((hcur a _ he).2 0 _ rfl)
    have c1 := Q02 hg ((hcur a _ he).2 1 _ rfl)
    have c2 := Q02 hg ((hcur a _ he).2 2 _ rfl)
    have hix := Q3M (P := prog) (w := wr) 165 g off es.length cv a 3 80 underlying165 stk hn (off + a * 3) rfl
    clear hcur
    go_wp2_with (first
     | (go_at_call 273; refine (Q5l _ _ _ _ _).mono ?_; rintro e w2 ⟨rfl, hk2⟩))
    go_ret2
    refine ⟨a, cmpB q k == 0, rfl, hpos, ?_, hkr.trans hk2⟩
    rw [Q5c, Q3k, hq]
    simp
   ·have hn' : ¬ (a : Int) < (es.length : Int) := by omega
    go_wp2
    go_ret2
    refine ⟨a, false, rfl, hpos, ?_, hkr⟩
    have : keys[a]? = none := by rw [List.getElem?_eq_none_iff]; omega
    simp [this]
theorem Q5n (vl : Value) (es : List El) (keys : List ByteArray) (k : ByteArray) (w : World) (h : SL w 80 3 vl es) (hke : es.map List.head? = keys.map fun q => some (Value.string q)) (hr : Rise keys) (hl : es.length <= 50000) :
  Calls prog 268 #[vl, .string k] w (Q5d keys k w) := by
 have HB : Hid (Calls _ _ _ _ _) := Q5m vl es keys k w h hke hr hl
 go_enter func268, ntmps268
 go_wp2_with (first | (go_at_call 272; refine HB.out.mono ?_; rintro e w2 ⟨i, b, rfl, h1, h2, h3⟩))
 go_ret2
 exact ⟨i, b, rfl, h1, h2, h3⟩
theorem Q5o (k v : Value) (w : World) : (Go.method 433 122 (.agg #[k, v]) "store/tree.size").run prog w = .ok (248, .agg #[k, v]) w := by kernel_rfl
theorem Q5p (p : Pr) (w : World) (h1 : p.1.size <= 100000 := by omega) (h2 : p.2.size <= 100000 := by omega) : Calls prog 248 #[.agg #[.string p.1, .string p.2]] w fun e w' => e = .returned (.int .i64 (psz p : Nat)) /\ Kept [] w w' := by
 go_enter func248, ntmps248
 go_wp2
 go_ret
 exact ⟨by unfold psz; simp, (Kept.refl _ _).alloc _⟩
def MePI (l : List Pr) (w : World) (s i : Value) (wr : World) : Prop := ∃ j : Nat, j <= l.length /\ i = .int .i64 j /\ s = .int .i64 (((l.take j).map psz).sum : Nat) /\ Kept [] w wr
theorem Q5q (vl : Value) (l : List Pr) (w : World) (h : SL w 122 2 vl (l.map pe)) (hl : l.length <= 50000) (hs : ∀ x ∈ l, psz x <= 22) :
  Calls prog 244 #[vl] w fun e w' => e = .returned (.int .i64 ((l.map psz).sum : Nat)) /\ Kept [] w w' := by
 obtain ⟨pv, cv, ev⟩ := h.shape
 rw [List.length_map] at ev
 subst ev
 have hm := Q5o
 have hsum : ∀ j, ((l.take j).map psz).sum <= 22 * l.length := by
  intro j
  have : ∀ (L : List Pr), (∀ x ∈ L, psz x <= 22) -> (L.map psz).sum <= 22 * L.length := by
   intro L hL
   induction L with
   | nil => simp
   | cons a r ih =>
    have h1 := hL a (by simp)
    have h2 := ih fun x hx => hL x (by simp [hx])
    simp only [List.map_cons, List.sum_cons, List.length_cons]
    omega
  have h1 := this (l.take j) fun x hx => hs x (List.mem_of_mem_take hx)
  have h2 : (l.take j).length <= l.length := by rw [List.length_take]; exact Nat.min_le_right _ _
  omega
 go_enter func244, ntmps244
 go_wp2
 go_loopw [3, 8] (fun s i wr => MePI l w s i wr) (fun _ i _ => l.length - (intOf i).toNat)
 case atStart => exact ⟨0, Nat.zero_le _, rfl, by simp, Kept.refl _ _⟩
 case round =>
  obtain ⟨j, hj, rfl, rfl, hkr⟩ := hrel
  by_cases hlt : j < l.length
  ·have hlt' : (j : Int) < (l.length : Int) := by omega
   obtain ⟨x, hx⟩ : ∃ x, l[j]? = some x := ⟨_, List.getElem?_eq_getElem hlt⟩
   have hx22 := hs x (List.mem_of_getElem? hx)
   have hx1 : x.1.size <= 22 := by unfold psz at hx22; omega
   have hx2 : x.2.size <= 22 := by unfold psz at hx22; omega
   have hsj := hsum j
   have hnext : ((l.take (j + 1)).map psz).sum = ((l.take j).map psz).sum + psz x := by
    rw [Q17 l j x hx]; simp
   obtain ⟨g, off, cap, cur, e, hg, hc1, hc2, hc3, hcur⟩ := (h.kept hkr).at_ (by simp; omega)
   rw [List.length_map] at e
   cases e
   have hld := Q56 (P := prog) (ty := 122) _ hg (hcur j _ (by rw [List.getElem?_map, hx]; rfl)) underlying122 stp
   simp only [pe] at hld
   generalize hS : ((l.take j).map psz).sum = S at *
   have HN : Hid _ := hnext
   clear hcur hnext hS
   go_wp2_with (first
    | (refine Q04 rfl _ _ (Q0v 115 (.tmp 6) (.tmp 8) rfl g off l.length cv j 2 rfl rfl 122 underlying115 stp hlt (off + j * 2) rfl) ?_)
    | (refine Q0t rfl 122 (.tmp 10) rfl ⟨g, off + j * 2, none⟩ rfl _ hld ?_)
    | (go_at_call 248; refine (Q5p _ _).mono ?_; rintro e w2 ⟨rfl, hk2⟩))
   go_roundw
   case rel => exact ⟨j + 1, by omega, by go_num, by rw [HN.out]; simp, ((hkr.alloc _).trans hk2)⟩
   case measure => simp [intOf]; omega
  ·have hge : ¬ (j : Int) < (l.length : Int) := by omega
   have ej : j = l.length := by omega
   subst ej
   go_wp2
   go_ret
   exact ⟨rfl, hkr⟩
def ke (x : KE) : El := [.string x.1, .int .i64 x.3, x.2]
def ksz (_ : KE) : Nat := 11
theorem Q5r (k v u : Value) (w : World) : (Go.method 433 80 (.agg #[k, v, u]) "store/tree.size").run prog w = .ok (227, .agg #[k, v, u]) w := by kernel_rfl
theorem Q5s (x : KE) (w : World) : Calls prog 227 #[.agg #[.string x.1, .int .i64 x.3, x.2]] w fun e w' => e = .returned (.int .i64 (ksz x : Nat)) /\ Kept [] w w' := by
 go_enter func227, ntmps227
 go_wp2
 go_ret
 exact ⟨rfl, (Kept.refl _ _).alloc _⟩
def MeKI (l : List KE) (w : World) (s i : Value) (wr : World) : Prop := ∃ j : Nat, j <= l.length /\ i = .int .i64 j /\ s = .int .i64 (((l.take j).map ksz).sum : Nat) /\ Kept [] w wr
theorem Q5t (vl : Value) (l : List KE) (w : World) (h : SL w 80 3 vl (l.map ke)) (hl : l.length <= 50000) (hs : ∀ x ∈ l, ksz x <= 22) (ho : ∀ x ∈ l, ∃ t v, x.2 = .iface t v) :
  Calls prog 266 #[vl] w fun e w' => e = .returned (.int .i64 ((l.map ksz).sum : Nat)) /\ Kept [] w w' := by
 obtain ⟨pv, cv, ev⟩ := h.shape
 rw [List.length_map] at ev
 subst ev
 have hm := Q5r
 have hsum : ∀ j, ((l.take j).map ksz).sum <= 22 * l.length := by
  intro j
  have : ∀ (L : List KE), (∀ x ∈ L, ksz x <= 22) -> (L.map ksz).sum <= 22 * L.length := by
   intro L hL
   induction L with
   | nil => simp
   | cons a r ih =>
    have h1 := hL a (by simp)
    have h2 := ih fun x hx => hL x (by simp [hx])
    simp only [List.map_cons, List.sum_cons, List.length_cons]
    omega
  have h1 := this (l.take j) fun x hx => hs x (List.mem_of_mem_take hx)
  have h2 : (l.take j).length <= l.length := by rw [List.length_take]; exact Nat.min_le_right _ _
  omega
 go_enter func266, ntmps266
 go_wp2
 go_loopw [3, 8] (fun s i wr => MeKI l w s i wr) (fun _ i _ => l.length - (intOf i).toNat)
 case atStart => exact ⟨0, Nat.zero_le _, rfl, by simp, Kept.refl _ _⟩
 case round =>
  obtain ⟨j, hj, rfl, rfl, hkr⟩ := hrel
  by_cases hlt : j < l.length
  ·have hlt' : (j : Int) < (l.length : Int) := by omega
   obtain ⟨x, hx⟩ : ∃ x, l[j]? = some x := ⟨_, List.getElem?_eq_getElem hlt⟩
   have hx22 := hs x (List.mem_of_getElem? hx)
   obtain ⟨ti, vi, ei⟩ := ho x (List.mem_of_getElem? hx)
   have hsj := hsum j
   have hnext : ((l.take (j + 1)).map ksz).sum = ((l.take j).map ksz).sum + ksz x := by
    rw [Q17 l j x hx]; simp
   obtain ⟨g, off, cap, cur, e, hg, hc1, hc2, hc3, hcur⟩ := (h.kept hkr).at_ (by simp; omega)
   rw [List.length_map] at e
   cases e
   have hld := Q56 (P := prog) (ty := 80) _ hg (hcur j _ (by rw [List.getElem?_map, hx]; rfl)) underlying80 stk
   simp only [ke, ei] at hld
   generalize hS : ((l.take j).map ksz).sum = S at *
   have HN : Hid _ := hnext
   clear hcur hnext hS
   go_wp2_with (first
    | (refine Q04 rfl _ _ (Q0v 165 (.tmp 6) (.tmp 8) rfl g off l.length cv j 3 rfl rfl 80 underlying165 stk hlt (off + j * 3) rfl) ?_)
    | (refine Q0t rfl 80 (.tmp 10) rfl ⟨g, off + j * 3, none⟩ rfl _ hld ?_)
    | (go_at_call 227; refine (Q5s ⟨x.1, .iface ti vi, x.3⟩ _).mono ?_; rintro e w2 ⟨rfl, hk2⟩))
   go_roundw
   case rel => exact ⟨j + 1, by omega, by go_num, by rw [HN.out]; simp only [ksz]; rw [Value.int.injEq]; refine ⟨rfl, ?_⟩; rw [w64 _ (by omega)]; omega, ((hkr.alloc _).trans hk2)⟩
   case measure => simp [intOf]; omega
  ·have hge : ¬ (j : Int) < (l.length : Int) := by omega
   have ej : j = l.length := by omega
   subst ej
   go_wp2
   go_ret
   exact ⟨rfl, hkr⟩
def HvPI (l : List Pr) (w : World) (s i : Value) (wr : World) : Prop := ∃ j : Nat, j <= l.length /\ i = .int .i64 j /\ s = .int .i64 (((l.take j).map psz).sum : Nat) /\ j + cutI psz (l.map psz).sum ((l.take j).map psz).sum (l.drop j) = Q4n psz l /\ Kept [] w wr
def HvPR (vl : Value) (l : List Pr) (w : World) (e : Ending) (w' : World) : Prop := ∃ a b, e = .returned (.tuple #[a, b]) /\ SL w' 122 2 a ((l.take (Q4n psz l)).map pe) /\ SL w' 122 2 b ((l.drop (Q4n psz l)).map pe) /\ (∀ y, a.ownBlock = some y -> vl.ownBlock = some y) /\ (∀ y, b.ownBlock = some y -> vl.ownBlock = some y) /\ Kept [] w w'
theorem Q5u (vl : Value) (l : List Pr) (w : World) (h : SL w 122 2 vl (l.map pe)) (hl : l.length <= 50000) (hs : ∀ x ∈ l, psz x <= 22) (h0 : Q4n psz l < l.length) :
  Calls prog 243 #[vl] w (HvPR vl l w) := by
 obtain ⟨g, off, cap, cur, ev, hg, hc1, hc2, hc3, hcur⟩ := h.at_ (by simp; omega)
 rw [List.length_map] at ev hc1
 subst ev
 have hm := Q5o
 have hbnd : ∀ j, ((l.take j).map psz).sum <= (l.map psz).sum := by
  intro j; have := Q4o psz l j; omega
 have hall : (l.map psz).sum <= 22 * l.length := by
  have : ∀ (L : List Pr), (∀ x ∈ L, psz x <= 22) -> (L.map psz).sum <= 22 * L.length := by
   intro L hL
   induction L with
   | nil => simp
   | cons a r ih =>
    have h1 := hL a (by simp)
    have h2 := ih fun x hx => hL x (by simp [hx])
    simp only [List.map_cons, List.sum_cons, List.length_cons]
    omega
  exact this l hs
 have HM : Hid (Calls _ _ _ _ _) := Q5q _ l w h hl hs
 generalize hW : (l.map psz).sum = WH at *
 have HWH : Hid _ := hW
 clear hW
 go_enter func243, ntmps243
 go_wp2_with (first | (go_at_call 244; refine HM.out.mono ?_; rintro e w1 ⟨rfl, hk1⟩))
 go_loopw [5, 6] (fun s i wr => HvPI l w s i wr) (fun _ i _ => l.length + 1 - (intOf i).toNat)
 case atStart => exact ⟨0, Nat.zero_le _, rfl, by simp, by simp [Q4n], hk1⟩
 case round =>
  obtain ⟨j, hj, rfl, rfl, hcut, hkr⟩ := hrel
  have hbj := hbnd j
  rw [HWH.out] at hcut
  by_cases hlt : 2 * ((l.take j).map psz).sum < WH
  ·have hjl : j < l.length := by
    rcases Nat.lt_or_ge j l.length with h1 | h1
    ·exact h1
    ·rw [List.take_of_length_le h1, HWH.out] at hlt; omega
   have hlt' : (2 : Int) * (((l.take j).map psz).sum : Nat) < (WH : Int) := by omega
   obtain ⟨x, hx⟩ : ∃ x, l[j]? = some x := ⟨_, List.getElem?_eq_getElem hjl⟩
   have hx22 := hs x (List.mem_of_getElem? hx)
   have hx1 : x.1.size <= 22 := by unfold psz at hx22; omega
   have hx2 : x.2.size <= 22 := by unfold psz at hx22; omega
   have hnext : ((l.take (j + 1)).map psz).sum = ((l.take j).map psz).sum + psz x := by
    rw [Q17 l j x hx]; simp
   have hdr : l.drop j = x :: l.drop (j + 1) := by
    rw [List.drop_eq_getElem_cons hjl, (List.getElem?_eq_some_iff.1 hx).2]
   have hcut2 : j + 1 + cutI psz (l.map psz).sum ((l.take (j + 1)).map psz).sum (l.drop (j + 1)) = Q4n psz l := by
    rw [<- hcut, hdr, cutI, if_pos hlt, hnext, HWH.out]; omega
   have hgr : wr.heap[g]? = some (.cells cur 122 (0, 0)) := hkr.get hg (by simp)
   have hld := Q56 (P := prog) (ty := 122) _ hgr (hcur j _ (by rw [List.getElem?_map, hx]; rfl)) underlying122 stp
   simp only [pe] at hld
   generalize hS : ((l.take j).map psz).sum = S at *
   have HN : Hid _ := hnext
   have HC : Hid _ := hcut2
   clear hnext hS hcut2 hcut hdr
   go_wp2_with (first
    | (refine Q04 rfl _ _ (Q0v 116 (.tmp 16) (.tmp 17) rfl g off l.length cap j 2 rfl rfl 122 underlying116 stp hjl (off + j * 2) rfl) ?_)
    | (refine Q0t rfl 122 (.tmp 18) rfl ⟨g, off + j * 2, none⟩ rfl _ hld ?_)
    | (go_at_call 248; refine (Q5p _ _).mono ?_; rintro e w2 ⟨rfl, hk2⟩))
   go_roundw
   case rel => exact ⟨j + 1, by omega, by go_num, by rw [HN.out]; simp, HC.out, hkr.trans hk2⟩
   case measure => simp [intOf]; omega
  ·have hge : ¬ (2 : Int) * (((l.take j).map psz).sum : Nat) < (WH : Int) := by omega
   have ej : j = Q4n psz l := by
    have hz : cutI psz WH ((l.take j).map psz).sum (l.drop j) = 0 := by
     cases l.drop j with
     | nil => rfl
     | cons y t => rw [cutI, if_neg hlt]
    omega
   generalize hS : ((l.take j).map psz).sum = S at *
   clear hcut hS
   have hjl : j < l.length := by omega
   have i1 : (j : Int) <= (l.length : Int) := by omega
   have i2 : (j : Int) <= (cap : Int) := by omega
   have i3 : ¬ cap = j := by omega
   have i4 : j <= cap := by omega
   go_wp2
   go_quiet (fail)
   go_wp2
   go_ret2
   have hgd : (wr.drewN nq).heap[g]? = some (.cells cur 122 (0, 0)) := hkr.get hg (by simp)
   refine ⟨_, _, rfl, Or.inr ⟨g, off, Q4n psz l, cur, ?_, hgd, ?_, by omega, by omega, ?_⟩, Or.inr ⟨g, off + Q4n psz l * 2, cap - Q4n psz l, cur, ?_, hgd, ?_, by omega, by omega, ?_⟩, fun _ hy => hy, fun _ hy => hy, hkr.drewN _⟩
   ·simp; omega
   ·simp; omega
   ·intro i e he
    rw [List.map_take, List.getElem?_take] at he
    split at he
    ·exact hcur i e he
    ·cases he
   ·simp
   ·simp; omega
   ·intro i e he
    rw [List.map_drop, List.getElem?_drop] at he
    have := hcur _ e he
    rw [show off + (Q4n psz l + i) * 2 = off + Q4n psz l * 2 + i * 2 by omega] at this
    exact this
def HvKI (l : List KE) (w : World) (s i : Value) (wr : World) : Prop := ∃ j : Nat, j <= l.length /\ i = .int .i64 j /\ s = .int .i64 (((l.take j).map ksz).sum : Nat) /\ j + cutI ksz (l.map ksz).sum ((l.take j).map ksz).sum (l.drop j) = Q4n ksz l /\ Kept [] w wr
def HvKR (vl : Value) (l : List KE) (w : World) (e : Ending) (w' : World) : Prop := ∃ a b, e = .returned (.tuple #[a, b]) /\ SL w' 80 3 a ((l.take (Q4n ksz l)).map ke) /\ SL w' 80 3 b ((l.drop (Q4n ksz l)).map ke) /\ (∀ y, a.ownBlock = some y -> vl.ownBlock = some y) /\ (∀ y, b.ownBlock = some y -> vl.ownBlock = some y) /\ Kept [] w w'
theorem Q5v (vl : Value) (l : List KE) (w : World) (h : SL w 80 3 vl (l.map ke)) (hl : l.length <= 50000) (hs : ∀ x ∈ l, ksz x <= 22) (ho : ∀ x ∈ l, ∃ t v, x.2 = .iface t v) (h0 : Q4n ksz l < l.length) :
  Calls prog 265 #[vl] w (HvKR vl l w) := by
 obtain ⟨g, off, cap, cur, ev, hg, hc1, hc2, hc3, hcur⟩ := h.at_ (by simp; omega)
 rw [List.length_map] at ev hc1
 subst ev
 have hm := Q5r
 have hbnd : ∀ j, ((l.take j).map ksz).sum <= (l.map ksz).sum := by
  intro j; have := Q4o ksz l j; omega
 have hall : (l.map ksz).sum <= 22 * l.length := by
  have : ∀ (L : List KE), (∀ x ∈ L, ksz x <= 22) -> (L.map ksz).sum <= 22 * L.length := by
   intro L hL
   induction L with
   | nil => simp
   | cons a r ih =>
    have h1 := hL a (by simp)
    have h2 := ih fun x hx => hL x (by simp [hx])
    simp only [List.map_cons, List.sum_cons, List.length_cons]
    omega
  exact this l hs
 have HM : Hid (Calls _ _ _ _ _) := Q5t _ l w h hl hs ho
 generalize hW : (l.map ksz).sum = WH at *
 have HWH : Hid _ := hW
 clear hW
 go_enter func265, ntmps265
 go_wp2_with (first | (go_at_call 266; refine HM.out.mono ?_; rintro e w1 ⟨rfl, hk1⟩))
 go_loopw [5, 6] (fun s i wr => HvKI l w s i wr) (fun _ i _ => l.length + 1 - (intOf i).toNat)
 case atStart => exact ⟨0, Nat.zero_le _, rfl, by simp, by simp [Q4n], hk1⟩
 case round =>
  obtain ⟨j, hj, rfl, rfl, hcut, hkr⟩ := hrel
  have hbj := hbnd j
  rw [HWH.out] at hcut
  by_cases hlt : 2 * ((l.take j).map ksz).sum < WH
  ·have hjl : j < l.length := by
    rcases Nat.lt_or_ge j l.length with h1 | h1
    ·exact h1
    ·rw [List.take_of_length_le h1, HWH.out] at hlt; omega
   have hlt' : (2 : Int) * (((l.take j).map ksz).sum : Nat) < (WH : Int) := by omega
   obtain ⟨x, hx⟩ : ∃ x, l[j]? = some x := ⟨_, List.getElem?_eq_getElem hjl⟩
   have hx22 := hs x (List.mem_of_getElem? hx)
   obtain ⟨ti, vi, ei⟩ := ho x (List.mem_of_getElem? hx)
   have hnext : ((l.take (j + 1)).map ksz).sum = ((l.take j).map ksz).sum + ksz x := by
    rw [Q17 l j x hx]; simp
   have hdr : l.drop j = x :: l.drop (j + 1) := by
    rw [List.drop_eq_getElem_cons hjl, (List.getElem?_eq_some_iff.1 hx).2]
   have hcut2 : j + 1 + cutI ksz (l.map ksz).sum ((l.take (j + 1)).map ksz).sum (l.drop (j + 1)) = Q4n ksz l := by
    rw [<- hcut, hdr, cutI, if_pos hlt, hnext, HWH.out]; omega
   have hgr : wr.heap[g]? = some (.cells cur 80 (0, 0)) := hkr.get hg (by simp)
   have hld := Q56 (P := prog) (ty := 80) _ hgr (hcur j _ (by rw [List.getElem?_map, hx]; rfl)) underlying80 stk
   simp only [ke, ei] at hld
   generalize hS : ((l.take j).map ksz).sum = S at *
   have HN : Hid _ := hnext
   have HC : Hid _ := hcut2
   clear hnext hS hcut2 hcut hdr
   go_wp2_with (first
    | (refine Q04 rfl _ _ (Q0v 168 (.tmp 16) (.tmp 17) rfl g off l.length cap j 3 rfl rfl 80 underlying168 stk hjl (off + j * 3) rfl) ?_)
    | (refine Q0t rfl 80 (.tmp 18) rfl ⟨g, off + j * 3, none⟩ rfl _ hld ?_)
    | (go_at_call 227; refine (Q5s ⟨x.1, .iface ti vi, x.3⟩ _).mono ?_; rintro e w2 ⟨rfl, hk2⟩))
   go_roundw
   case rel => exact ⟨j + 1, by omega, by go_num, by rw [HN.out]; simp only [ksz]; rw [Value.int.injEq]; refine ⟨rfl, ?_⟩; rw [w64 _ (by omega)]; omega, HC.out, hkr.trans hk2⟩
   case measure => simp [intOf]; omega
  ·have hge : ¬ (2 : Int) * (((l.take j).map ksz).sum : Nat) < (WH : Int) := by omega
   have ej : j = Q4n ksz l := by
    have hz : cutI ksz WH ((l.take j).map ksz).sum (l.drop j) = 0 := by
     cases l.drop j with
     | nil => rfl
     | cons y t => rw [cutI, if_neg hlt]
    omega
   generalize hS : ((l.take j).map ksz).sum = S at *
   clear hcut hS
   have hjl : j < l.length := by omega
   have i1 : (j : Int) <= (l.length : Int) := by omega
   have i2 : (j : Int) <= (cap : Int) := by omega
   have i3 : ¬ cap = j := by omega
   have i4 : j <= cap := by omega
   go_wp2
   go_quiet (fail)
   go_wp2
   go_ret2
   have hgd : (wr.drewN nq).heap[g]? = some (.cells cur 80 (0, 0)) := hkr.get hg (by simp)
   refine ⟨_, _, rfl, Or.inr ⟨g, off, Q4n ksz l, cur, ?_, hgd, ?_, by omega, by omega, ?_⟩, Or.inr ⟨g, off + Q4n ksz l * 3, cap - Q4n ksz l, cur, ?_, hgd, ?_, by omega, by omega, ?_⟩, fun _ hy => hy, fun _ hy => hy, hkr.drewN _⟩
   ·simp; omega
   ·simp; omega
   ·intro i e he
    rw [List.map_take, List.getElem?_take] at he
    split at he
    ·exact hcur i e he
    ·cases he
   ·simp
   ·simp; omega
   ·intro i e he
    rw [List.map_drop, List.getElem?_drop] at he
    have := hcur _ e he
    rw [show off + (Q4n ksz l + i) * 3 = off + Q4n ksz l * 3 + i * 3 by omega] at this
    exact this
theorem SL.Wd {w : World} {t : TypeId} {d : Nat} {v : Value} {es : List El} (h : SL w t d v es) : Wd d es := h.wd
def OW (w : World) (B : Nat) (t : TypeId) (d : Nat) (v : Value) (es : List El) : Prop := w.ownsRow B t d v es.length (fl es) /\ Wd d es
theorem OW.sl {w : World} {B : Nat} {t : TypeId} {d : Nat} {v : Value} {es : List El} (h : OW w B t d v es) : SL w t d v es := by
 obtain ⟨⟨_, ⟨rfl, h0⟩ | ⟨g, cap, cur, rfl, _, hh, h1, h2, h3, htk⟩⟩, hw⟩ := h
 ·exact Or.inl ⟨rfl, List.eq_nil_of_length_eq_zero h0⟩
 ·refine Or.inr ⟨g, 0, cap, cur, rfl, hh, h1, h2, by omega, ?_⟩
  intro i e he
  have hil : i < es.length := (List.getElem?_eq_some_iff.1 he).1
  refine ⟨hw e (List.mem_of_getElem? he), fun j u hj => ?_⟩
  have g1 := Q0z hw i e he j u hj
  have hjd : j < d := by rw [<- hw e (List.mem_of_getElem? he)]; exact (List.getElem?_eq_some_iff.1 hj).1
  have hb : (i + 1) * d <= es.length * d := Nat.mul_le_mul_right d hil
  rw [Nat.add_mul, Nat.one_mul] at hb
  rw [<- htk, List.getElem?_take, if_pos (by omega)] at g1
  rw [Nat.zero_add]
  simpa using g1
theorem SL.src {w : World} {t : TypeId} {d g off n cap : Nat} {es : List El} (h : SL w t d (.slice (some ⟨g, off, none⟩) n cap) es) (hd : 0 < d := by decide) : n = es.length /\ ∀ j u, (fl es)[j]? = some u -> w.cell? ((⟨g, off, none⟩ : Addr).add j) = some u := by
 have hw := h.Wd
 rcases h with ⟨h, _⟩ | ⟨g', off', cap', cur, e, hh, _, _, _, hc⟩
 ·cases h
 cases e
 refine ⟨rfl, ?_⟩
 intro j u hj
 have hjl : j < es.length * d := by have := (List.getElem?_eq_some_iff.1 hj).1; rwa [Q0y hw] at this
 obtain ⟨e, he⟩ : ∃ e, es[j / d]? = some e := ⟨_, List.getElem?_eq_getElem (Nat.div_lt_of_lt_mul (by rwa [Nat.mul_comm] at hjl))⟩
 obtain ⟨hed, c1⟩ := hc (j / d) e he
 have hjm := Nat.mod_lt j hd
 have ej : j = j / d * d + j % d := by rw [Nat.mul_comm]; exact (Nat.div_add_mod j d).symm
 obtain ⟨u', hu'⟩ : ∃ u', e[j % d]? = some u' := ⟨_, List.getElem?_eq_getElem (by omega)⟩
 have f1 := Q0z hw (j / d) e he _ _ hu'
 rw [<- ej, hj] at f1
 have f2 := c1 _ _ hu'
 rw [Nat.add_assoc, <- ej] at f2
 rw [add_lit, cell_of_row _ _ _ _ _ _ hh, f2, f1]
theorem itp : (prog.info? 122).map (fun i => (i.zero, i.size, i.bytes)) = some (some (.agg #[.string ⟨#[]⟩, .string ⟨#[]⟩]), 2, 32) := by kernel_rfl
theorem itk : (prog.info? 80).map (fun i => (i.zero, i.size, i.bytes)) = some (some (.agg #[.string ⟨#[]⟩, .int .i64 0, .nilIface]), 3, 40) := by kernel_rfl
theorem Q5w (W : World) : (binOp .eql 116 (.slice none 0 0) (.slice none 0 0)).run prog W = .ok (.bool true) W := by kernel_rfl
theorem Q5x (a : Addr) (n c : Nat) (W : World) : (binOp .eql 116 (.slice (some a) n c) (.slice none 0 0)).run prog W = .ok (.bool false) W := by kernel_rfl
theorem Q5y (W : World) : (binOp .eql 168 (.slice none 0 0) (.slice none 0 0)).run prog W = .ok (.bool true) W := by kernel_rfl
theorem Q5z (a : Addr) (n c : Nat) (W : World) : (binOp .eql 168 (.slice (some a) n c) (.slice none 0 0)).run prog W = .ok (.bool false) W := by kernel_rfl
def Q5A (t : TypeId) (d : Nat) (es : List El) (w : World) (e : Ending) (w' : World) : Prop := ∃ v, e = .returned v /\ OW w' w.heap.size t d v es /\ Kept [] w w'
theorem Q5B (vl : Value) (es : List El) (w : World) (h : SL w 122 2 vl es) (h1 : One 2 es) (hl : es.length <= 50000) : Calls prog 112 #[vl] w (Q5A 122 2 es w) := by
 obtain ⟨ie, hie, hz1, hz2, hz3⟩ := info_parts itp
 have h' := h
 rcases h' with ⟨rfl, rfl⟩ | ⟨g, off, cap, cur, rfl, hg, _, _, _, _⟩
 ·have hn := Q5w
  go_enter func112, ntmps112
  go_wp2
  go_ret
  exact ⟨_, rfl, ⟨World.ownsRow_nil _ _ _ _, by simp [Wd]⟩, Kept.refl _ _⟩
 ·have k1 := (Kept.refl [] w).alloc (.cells #[] 122)
  have own1 : (w.alloc (.cells #[] 122)).ownsRow w.heap.size 122 2 (.slice (some ⟨w.heap.size, 0, none⟩) 0 0) 0 [] := ⟨rfl, Or.inr ⟨w.heap.size, 0, #[], rfl, Nat.le_refl _, heap_alloc_new _ _, Nat.le_refl _, by unfold maxLen; omega, rfl, rfl⟩⟩
  have hsrc := (h.kept k1).src.2
  have hn := Q5x
  go_enter func112, ntmps112
  go_wp2_with (first
   | (at_builtin; refine wpList_append_own _ rfl (.tmp 5) (.tmp 6) 116 rfl w.heap.size 122 ie _ 2 32 underlying116 hie hz1 hz2 hz3 rfl (by decide) (.slice (some ⟨w.heap.size, 0, none⟩) 0 0) 0 [] rfl own1 ⟨g, off, none⟩ es.length cap (fl es) rfl (Q0y h1.wd) hsrc h1.fl (by unfold maxLen; omega) (by omega) (by simp) ?_; intro v3 w3 own3 gr3 _; have k3 := Q1x gr3 [w.heap.size] (by intro x hx; cases hx; simp)))
  go_ret
  refine ⟨_, rfl, ?_, k1.trans2 k3 (by intro x hx; simp at hx; exact Or.inr (by omega))⟩
  have := own3
  rw [Nat.zero_add, List.nil_append] at this
  exact ⟨this, h1.wd⟩
theorem Q5C (vl : Value) (es : List El) (w : World) (h : SL w 80 3 vl es) (h1 : One 3 es) (hl : es.length <= 50000) : Calls prog 263 #[vl] w (Q5A 80 3 es w) := by
 obtain ⟨ie, hie, hz1, hz2, hz3⟩ := info_parts itk
 have h' := h
 rcases h' with ⟨rfl, rfl⟩ | ⟨g, off, cap, cur, rfl, hg, _, _, _, _⟩
 ·have hn := Q5y
  go_enter func263, ntmps263
  go_wp2
  go_ret
  exact ⟨_, rfl, ⟨World.ownsRow_nil _ _ _ _, by simp [Wd]⟩, Kept.refl _ _⟩
 ·have k1 := (Kept.refl [] w).alloc (.cells #[] 80)
  have own1 : (w.alloc (.cells #[] 80)).ownsRow w.heap.size 80 3 (.slice (some ⟨w.heap.size, 0, none⟩) 0 0) 0 [] := ⟨rfl, Or.inr ⟨w.heap.size, 0, #[], rfl, Nat.le_refl _, heap_alloc_new _ _, Nat.le_refl _, by unfold maxLen; omega, rfl, rfl⟩⟩
  have hsrc := (h.kept k1).src.2
  have hn := Q5z
  go_enter func263, ntmps263
  go_wp2_with (first
   | (at_builtin; refine wpList_append_own _ rfl (.tmp 5) (.tmp 6) 168 rfl w.heap.size 80 ie _ 3 40 underlying168 hie hz1 hz2 hz3 rfl (by decide) (.slice (some ⟨w.heap.size, 0, none⟩) 0 0) 0 [] rfl own1 ⟨g, off, none⟩ es.length cap (fl es) rfl (Q0y h1.wd) hsrc h1.fl (by unfold maxLen; omega) (by omega) (by simp) ?_; intro v3 w3 own3 gr3 _; have k3 := Q1x gr3 [w.heap.size] (by intro x hx; cases hx; simp)))
  go_ret
  refine ⟨_, rfl, ?_, k1.trans2 k3 (by intro x hx; simp at hx; exact Or.inr (by omega))⟩
  have := own3
  rw [Nat.zero_add, List.nil_append] at this
  exact ⟨this, h1.wd⟩
theorem Q5D {zc : Array Value} {n : Nat} (h0 : 0 < zc.size) (h1 : ∀ u ∈ zc.toList, u.oneCell' = true) : ∀ u ∈ (Builtin.zeroCells zc n).toList, u.oneCell' = true := by
 intro u hu
 obtain ⟨i, hi⟩ := List.mem_iff_getElem?.1 hu
 simp only [Builtin.zeroCells, Array.getElem?_toList] at hi
 rw [Array.getElem?_map] at hi
 cases hr : (Array.range (n * zc.size))[i]? with
 | none => rw [hr] at hi; cases hi
 | some x =>
  rw [hr] at hi
  simp only [Option.map_some, Option.some.injEq] at hi
  subst hi
  have hlt : x % zc.size < zc.size := Nat.mod_lt _ h0
  rw [getElem!_pos zc _ hlt]
  exact h1 _ (by simp)
theorem Q5E {P : Program} (w : World) (t e : TypeId) (z : Value) (ht : P.underlying t = some (.slice e)) (hv : ∀ w, (zeroValue e).run P w = .ok z w) (k : Nat) (hk : z.cells.size = k) (hk0 : 0 < k) (h1 : ∀ u ∈ z.cells.toList, u.oneCell' = true) (g o n c : Nat) (cur : List Value) (tg : TypeId)
  (hg : w.heap[g]? = some (.cells cur.toArray tg (0, 0))) (hfit : o + n * k <= cur.length) :
  ∃ W zs, zs.length = n * k /\ (∀ ty, (Builtin.clear_ #[t] ty #[.slice (some ⟨g, o, none⟩) n c]).run P w = .ok (.tuple #[]) W) /\ W.heap[g]? = some (.cells (splice cur o zs).toArray tg (0, 0)) /\ Kept [g] w W := by
 cases n with
 | zero =>
  refine ⟨w, [], by simp, ?_, by simpa [splice] using hg, Kept.refl _ _⟩
  intro ty; simp [Builtin.clear_, run_underlying ht]
 | succ n =>
  have hzl : (Builtin.zeroCells z.cells (n + 1)).toList.length = (n + 1) * k := by rw [Array.length_toList, size_zeroCells, hk]
  have hst := run_storeCells_at P g o tg (Builtin.zeroCells z.cells (n + 1)).toList 0 cur.toArray w hg (by rw [hzl]; simpa using hfit) (Q5D (by omega) h1)
  simp only [Nat.add_zero] at hst
  refine ⟨_, _, hzl, ?_, setRow_heap w g _ _ tg _ hg, (Kept.refl _ _).setRow (Or.inl (by simp)) _⟩
  intro ty; simp [Builtin.clear_, run_underlying ht, hv, hst, splice]
end Go.Proofs.YtcklgafpgdhnaaaGreatDoor
