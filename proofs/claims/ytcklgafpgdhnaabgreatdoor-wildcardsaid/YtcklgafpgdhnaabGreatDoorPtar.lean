import Derived.Test.YtcklgafpgdhnaabGreatDoorPtaj
import Derived.Test.YtcklgafpgdhnaabGreatDoorPtao
import Derived.Shelf.Abstract
set_option maxRecDepth 100000
set_option maxHeartbeats 4000000
open List renaming getElem_toArray → zA, getElem_cons_succ → zB, getElem_cons_zero → zC, setIfInBounds_toArray → zD, set_cons_succ → zE, set_cons_zero → zF
namespace Go.Proofs.YtcklgafpgdhnaabGreatDoor
open Go.RowKit


theorem takeWhile_len {α : Type} (p : α → Bool) (l : List α) : ∀ (m : Nat), m ≤ l.length → (∀ x q, l[x]? = some q → (x < m ↔ p q = true)) → (l.takeWhile p).length = m := by
 induction l with
 | nil => intro m hm _; simp at hm; subst hm; rfl
 | cons a r ih =>
  intro m hm h
  cases m with
  | zero =>
   have := h 0 a rfl
   have hf : p a = false := by
    cases hp : p a with
    | false => rfl
    | true => exact absurd (this.2 hp) (by omega)
   rw [List.takeWhile_cons, hf]; rfl
  | succ m =>
   have ht : p a = true := (h 0 a rfl).1 (by omega)
   rw [List.takeWhile_cons, ht]
   simp only [if_true, List.length_cons]
   rw [ih m (by simp at hm; omega) fun x q hq => by
    have := h (x + 1) q (by simpa using hq)
    rw [← this]; omega]

theorem Rise.lt {keys : List ByteArray} (h : Rise keys) {i j : Nat} {a b : ByteArray} (hi : keys[i]? = some a) (hj : keys[j]? = some b) (hij : i < j) : bl a b = true := by
 have hi' := List.getElem?_eq_some_iff.1 hi
 have hj' := List.getElem?_eq_some_iff.1 hj
 have := List.pairwise_iff_getElem.1 h i j hi'.1 hj'.1 hij
 rw [hi'.2, hj'.2] at this
 exact this
theorem bl_asym {a b : ByteArray} (h : bl a b = true) : bl b a = false := lt_ge h

theorem pos_le {keys : List ByteArray} {k : ByteArray} {i : Nat} {b : Bool} (hr : Rise keys) (hp : Pos keys k i) (hb : b = true ↔ keys[i]? = some k) :
  ∀ x q, keys[x]? = some q → (x < (if b then i + 1 else i) ↔ (!bl k q) = true) := by
 intro x q hq
 have hx := hp.2 x q hq
 have hxl : x < keys.length := (List.getElem?_eq_some_iff.1 hq).1
 cases b with
 | true =>
  have hk := hb.1 rfl
  rw [if_pos rfl]
  rcases Nat.lt_trichotomy x i with h | h | h
  ·simp [bl_asym (hx.1 h)]; omega
  ·subst h
   rw [hk] at hq; cases hq
   simp [bl_irrefl]
  ·have := hr.lt hk hq h
   simp [this]; omega
 | false =>
  simp only [Bool.false_eq_true, if_false]
  constructor
  ·intro h; simp [bl_asym (hx.1 h)]
  ·intro h
   simp at h
   rcases Nat.lt_or_ge x i with h' | h'
   ·exact h'
   exfalso
   have hn : ¬ bl q k = true := fun e => absurd (hx.2 e) (by omega)
   rcases bl_total q k with e | e | e
   ·exact hn e
   ·subst e
    rcases Nat.eq_or_lt_of_le h' with e | e
    ·subst e; exact absurd (hb.2 hq) (by simp)
    ·obtain ⟨c, hc⟩ : ∃ c, keys[i]? = some c := ⟨_, List.getElem?_eq_getElem (by omega)⟩
     have := (hp.2 i c hc).2 (hr.lt hc hq e)
     omega
   ·rw [h] at e; cases e

theorem kw_rise {h : Nat} {ks : List (Kid h)} (hk : KW h ks) : Rise (ks.map (·.1)) := by
 unfold Rise
 rw [List.pairwise_map]
 exact hk.ord.imp fun hb => hb.1
theorem srt_rise {l : List Pr} (hs : Srt l) : Rise (l.map (·.1)) := by
 unfold Rise
 rw [List.pairwise_map]
 exact hs

theorem way_pos {h : Nat} {ks : List (Kid h)} {k : ByteArray} {i : Nat} {b : Bool} (hk : KW h ks) (hp : Pos (ks.map (·.1)) k i) (hb : b = true ↔ (ks.map (·.1))[i]? = some k) :
  wayK ks k = if b then i else i - 1 := by
 have hle := pos_le (kw_rise hk) hp hb
 have hm : (if b then i + 1 else i) ≤ ks.length := by
  cases b with
  | true =>
   have := (List.getElem?_eq_some_iff.1 (hb.1 rfl)).1
   rw [List.length_map] at this
   rw [if_pos rfl]; omega
  | false => have := hp.1; rw [List.length_map] at this; simpa using this
 have := takeWhile_len (fun a : Kid h => !bl k a.1) ks _ hm fun x q hq => hle x q.1 (by rw [List.getElem?_map, hq]; rfl)
 unfold wayK
 rw [this]
 cases b <;> simp

theorem pos_parts {l : List Pr} {k : ByteArray} {i : Nat} (hp : Pos (l.map (·.1)) k i) : (∀ p ∈ l.take i, bl p.1 k = true) ∧ ∀ p ∈ l.drop i, bl p.1 k = false := by
 constructor
 ·intro p hpm
  obtain ⟨j, hj⟩ := List.mem_iff_getElem?.1 hpm
  rw [List.getElem?_take] at hj
  split at hj
  ·rename_i hlt
   exact (hp.2 j p.1 (by rw [List.getElem?_map, hj]; rfl)).1 hlt
  ·cases hj
 ·intro p hpm
  obtain ⟨j, hj⟩ := List.mem_iff_getElem?.1 hpm
  rw [List.getElem?_drop] at hj
  have := hp.2 (i + j) p.1 (by rw [List.getElem?_map, hj]; rfl)
  cases hb : bl p.1 k with
  | false => rfl
  | true => exact absurd (this.2 hb) (by omega)

theorem with_gt (k v : ByteArray) (B : List Pr) (h : ∀ p ∈ B, bl k p.1 = true) : withL k v B = (k, v) :: B := by
 have := with_app_gt k v [] B h
 simpa [withL, withGo] using this
theorem with_eq (k v u : ByteArray) (B : List Pr) (h : ∀ p ∈ B, bl k p.1 = true) : withL k v ((k, u) :: B) = (k, v) :: B := by
 have := with_app_gt k v [(k, u)] B h
 have e : withL k v [(k, u)] = [(k, v)] := by simp [withL, withGo, bl_irrefl, be_refl]
 rw [e] at this
 exact this

theorem split_pos {l : List Pr} {k : ByteArray} {i : Nat} {b : Bool} (hs : Srt l) (hp : Pos (l.map (·.1)) k i) (hb : b = true ↔ (l.map (·.1))[i]? = some k) :
  (b = true → ∃ u B, l.drop i = (k, u) :: B ∧ l.drop (i + 1) = B ∧ l[i]? = some (k, u) ∧ ∀ p ∈ B, bl k p.1 = true) ∧ (b = false → ∀ p ∈ l.drop i, bl k p.1 = true) := by
 have hpt := pos_parts hp
 constructor
 ·intro hbt
  have hk := hb.1 hbt
  rw [List.getElem?_map] at hk
  cases hl : l[i]? with
  | none => rw [hl] at hk; cases hk
  | some q =>
   rw [hl] at hk
   simp at hk
   obtain ⟨q1, q2⟩ := q
   simp at hk
   subst hk
   have hi := List.getElem?_eq_some_iff.1 hl
   have hd : l.drop i = (q1, q2) :: l.drop (i + 1) := by rw [List.drop_eq_getElem_cons hi.1, hi.2]
   refine ⟨q2, l.drop (i + 1), hd, rfl, rfl, ?_⟩
   intro p hpm
   have hsd : Srt (l.drop i) := List.Pairwise.sublist (List.drop_sublist i l) hs
   rw [hd] at hsd
   exact (List.pairwise_cons.1 hsd).1 p hpm
 ·intro hbf p hpm
  obtain ⟨j, hj⟩ := List.mem_iff_getElem?.1 hpm
  rw [List.getElem?_drop] at hj
  have hle := pos_le (srt_rise hs) hp hb (i + j) p.1 (by rw [List.getElem?_map, hj]; rfl)
  rw [hbf] at hle
  simp only [Bool.false_eq_true, if_false] at hle
  cases h : bl k p.1 with
  | true => rfl
  | false => rw [h] at hle; have := hle.2 rfl; omega

theorem with_pos {l : List Pr} {k v : ByteArray} {i : Nat} {b : Bool} (hs : Srt l) (hp : Pos (l.map (·.1)) k i) (hb : b = true ↔ (l.map (·.1))[i]? = some k) :
  withL k v l = l.take i ++ [(k, v)] ++ l.drop (if b then i + 1 else i) := by
 obtain ⟨h1, h2⟩ := split_pos hs hp hb
 conv => lhs; rw [← List.take_append_drop i l]
 rw [with_app_lt k v _ _ (pos_parts hp).1, List.append_assoc]
 cases b with
 | true =>
  obtain ⟨u, B, e, e2, _, hg⟩ := h1 rfl
  rw [e, with_eq k v u B hg, if_pos rfl, e2]; rfl
 | false =>
  rw [with_gt k v _ (h2 rfl)]; rfl

theorem without_pos {l : List Pr} {k : ByteArray} {i : Nat} {b : Bool} (hs : Srt l) (hp : Pos (l.map (·.1)) k i) (hb : b = true ↔ (l.map (·.1))[i]? = some k) :
  withoutL k l = if b then l.take i ++ l.drop (i + 1) else l := by
 obtain ⟨h1, h2⟩ := split_pos hs hp hb
 conv => lhs; rw [← List.take_append_drop i l]
 rw [without_app, without_lt k _ (pos_parts hp).1]
 cases b with
 | true =>
  obtain ⟨u, B, e, e2, _, hg⟩ := h1 rfl
  rw [e, if_pos rfl, e2]
  have : withoutL k ((k, u) :: B) = withoutL k B := by simp [withoutL, be_refl]
  rw [this, without_gt k B hg]
 | false =>
  rw [without_gt k _ (h2 rfl), List.take_append_drop]; rfl

theorem get_none (k : ByteArray) (l : List Pr) (h : ∀ p ∈ l, be p.1 k = false) : getL k l = none := by
 induction l with
 | nil => rfl
 | cons p r ih =>
  unfold getL
  rw [h p (by simp)]
  exact ih fun q hq => h q (by simp [hq])
theorem get_app (k : ByteArray) (A l : List Pr) (h : ∀ p ∈ A, be p.1 k = false) : getL k (A ++ l) = getL k l := by
 induction A with
 | nil => rfl
 | cons p r ih =>
  rw [List.cons_append]
  conv => lhs; unfold getL
  rw [h p (by simp)]
  exact ih fun q hq => h q (by simp [hq])
theorem get_app_r (k : ByteArray) (l B : List Pr) (h : ∀ p ∈ B, be p.1 k = false) : getL k (l ++ B) = getL k l := by
 induction l with
 | nil => exact get_none k B h
 | cons p r ih =>
  rw [List.cons_append]
  unfold getL
  rw [ih]
theorem get_pos {l : List Pr} {k : ByteArray} {i : Nat} {b : Bool} (hs : Srt l) (hp : Pos (l.map (·.1)) k i) (hb : b = true ↔ (l.map (·.1))[i]? = some k) :
  getL k l = if b then (l[i]?).map (·.2) else none := by
 obtain ⟨h1, h2⟩ := split_pos hs hp hb
 conv => lhs; rw [← List.take_append_drop i l]
 rw [get_app k _ _ fun p hp' => ne_of_lt ((pos_parts hp).1 p hp')]
 cases b with
 | true =>
  obtain ⟨u, B, e, _, e3, _⟩ := h1 rfl
  rw [e, if_pos rfl, e3]
  simp [getL, be_refl]
 | false =>
  rw [get_none k _ fun p hp' => by rw [be_comm]; exact ne_of_lt (h2 rfl p hp')]; rfl

def leafN (k : ByteArray) : (h : Nat) → Nd h → List Pr
 | 0, l => l
 | h + 1, ks => match (show List (Kid h) from ks)[wayK (h := h) ks k]? with
  | none => []
  | some a => leafN k h a.2
theorem leafN_succ (k : ByteArray) (h : Nat) (ks : List (Kid h)) (a : Kid h) (hg : ks[wayK ks k]? = some a) : leafN k (h + 1) ks = leafN k h a.2 := by
 show (match ks[wayK ks k]? with | none => [] | some a => leafN k h a.2) = _
 rw [hg]
theorem leaf_ok (k : ByteArray) : ∀ (h : Nat) (f : ByteArray) (n : Nd h), WFN h f n → ge k f → Srt (leafN k h n) ∧ getL k (leafN k h n) = getL k (flatN h n)
 | 0, _, _, hw, _ => ⟨hw.1, rfl⟩
 | h + 1, f, ks, hw, hk => by
  obtain ⟨⟨n0, x0, r0, e0⟩, hkw⟩ := (WFN_succ h f ks).1 hw
  obtain ⟨A, a, B, esp, hlen, hga, hB⟩ := way_split f n0 x0 r0 k (by rw [← e0]; exact hkw) hk
  rw [← e0] at esp hlen
  have hamem : List.Mem (α := Kid h) a ks := by rw [esp]; exact List.mem_append_right _ (by simp)
  have ih := leaf_ok k h a.1 a.2 (hkw.all a hamem) hga
  have hord := hkw.ord
  rw [esp] at hord
  obtain ⟨pA, pMB, pAMB⟩ := List.pairwise_append.1 hord
  have hAlt : ∀ p ∈ flatK h A, be p.1 k = false := by
   intro p hp
   obtain ⟨c, hc, hp⟩ := mem_flatK.1 hp
   exact ne_of_lt (lt_of_lt_ge ((pAMB c hc a (by simp)).2 p hp) hga)
  have hBgt : ∀ p ∈ flatK h B, be p.1 k = false := by
   intro p hp
   obtain ⟨c, hc, hp⟩ := mem_flatK.1 hp
   rw [be_comm]
   exact ne_of_lt (lt_of_lt_ge (hB c hc) (WFN.keys (hkw.all c (by rw [esp]; simp [hc])) p hp).1)
  have e1 : leafN k (h + 1) ks = leafN k h a.2 := leafN_succ k h ks a (by rw [← hlen, esp]; simp)
  have e2 : flatN (h + 1) ks = flatK h A ++ (flatN h a.2 ++ flatK h B) := by
   show flatK h ks = _
   rw [esp, flatK_append, flatK_append]
   simp [flatK]
  rw [e1, e2]
  exact ⟨ih.1, by rw [get_app k _ _ hAlt, get_app_r k _ _ hBgt]; exact ih.2⟩

def pK (keys : List ByteArray) (k : ByteArray) : Nat := (keys.takeWhile fun q => bl q k).length
def bK (keys : List ByteArray) (k : ByteArray) : Bool := decide (keys[pK keys k]? = some k)
theorem bK_iff (keys : List ByteArray) (k : ByteArray) : bK keys k = true ↔ keys[pK keys k]? = some k := by unfold bK; simp
theorem pos_pK {keys : List ByteArray} (hr : Rise keys) (k : ByteArray) : Pos keys k (pK keys k) := by
 have hpre : (keys.takeWhile fun q => bl q k) <+: keys := List.takeWhile_prefix _
 refine ⟨hpre.length_le, fun x q hq => ?_⟩
 have hxl := List.getElem?_eq_some_iff.1 hq
 obtain ⟨r, hr'⟩ := hpre
 constructor
 ·intro hx
  have : (keys.takeWhile fun q => bl q k)[x]? = some q := by
   rw [← hr', List.getElem?_append_left hx] at hq
   exact hq
  have hall := List.all_takeWhile (p := fun q => bl q k) (l := keys)
  rw [List.all_eq_true] at hall
  exact hall q (List.mem_of_getElem? this)
 ·intro hb
  rcases Nat.lt_or_ge x (pK keys k) with h | h
  ·exact h
  exfalso
  obtain ⟨c, hc⟩ : ∃ c, keys[pK keys k]? = some c := ⟨_, List.getElem?_eq_getElem (by have := hxl.1; omega)⟩
  have hcf : bl c k = false := by
   have := List.head?_dropWhile_not (p := fun q => bl q k) (l := keys)
   have hd : (keys.dropWhile fun q => bl q k).head? = some c := by
    have htd := List.takeWhile_append_dropWhile (p := fun q => bl q k) (l := keys)
    unfold pK at hc
    generalize keys.takeWhile (fun q => bl q k) = T at htd hc
    generalize keys.dropWhile (fun q => bl q k) = D at htd hc ⊢
    rw [← htd, List.getElem?_append_right (Nat.le_refl _), Nat.sub_self] at hc
    rw [← hc]
    cases D <;> rfl
   rw [hd] at this
   simpa using this
  rcases Nat.eq_or_lt_of_le h with e | e
  ·rw [e, hq] at hc; cases hc; rw [hb] at hcf; cases hcf
  ·have := bl_trans (hr.lt hc hq e) hb
   rw [this] at hcf; cases hcf
theorem find_det {keys : List ByteArray} {k : ByteArray} {w w' : World} {e : Ending} (h : FindR keys k w e w') : e = .returned (.tuple #[.int .i64 (pK keys k : Nat), .bool (bK keys k)]) ∧ Kept [] w w' := by
 obtain ⟨i, b, rfl, hp, hb, hk⟩ := h
 have hi : pK keys k = i := takeWhile_len (fun q => bl q k) keys i hp.1 hp.2
 have hbb : bK keys k = b := by
  unfold bK
  rw [hi]
  cases b with
  | true => simpa using hb.1 rfl
  | false => simpa using fun e => absurd (hb.2 e) (by simp)
 rw [hi, hbb]
 exact ⟨rfl, hk⟩

end Go.Proofs.YtcklgafpgdhnaabGreatDoor

namespace Go.Proofs.YtcklgafpgdhnaabGreatDoor
open Go.RowKit


def flt (lo hi : ByteArray) (l : List Pr) : List Pr := l.filter (inR lo hi)
theorem flt_app (lo hi : ByteArray) (A B : List Pr) : flt lo hi (A ++ B) = flt lo hi A ++ flt lo hi B := List.filter_append ..
theorem flt_lt (lo hi : ByteArray) (A : List Pr) (h : ∀ p ∈ A, bl p.1 lo = true) : flt lo hi A = [] := by
 unfold flt
 rw [List.filter_eq_nil_iff]
 intro p hp
 simp [inR, h p hp]
theorem flt_ge (lo hi : ByteArray) (A : List Pr) (h : ∀ p ∈ A, bl p.1 hi = false) : flt lo hi A = [] := by
 unfold flt
 rw [List.filter_eq_nil_iff]
 intro p hp
 simp [inR, h p hp]
theorem flt_in (lo hi : ByteArray) (A : List Pr) (h1 : ∀ p ∈ A, bl p.1 lo = false) (h2 : ∀ p ∈ A, bl p.1 hi = true) : flt lo hi A = A := by
 unfold flt
 rw [List.filter_eq_self]
 intro p hp
 simp [inR, h1 p hp, h2 p hp]

theorem ge_behind {l : List Pr} {hi : ByteArray} {j : Nat} {p : Pr} (hs : Srt l) (hj : l[j]? = some p) (hp : bl p.1 hi = false) : ∀ q ∈ l.drop j, bl q.1 hi = false := by
 intro q hq
 have hjl := List.getElem?_eq_some_iff.1 hj
 have hd : l.drop j = p :: l.drop (j + 1) := by rw [List.drop_eq_getElem_cons hjl.1, hjl.2]
 have hsd : Srt (l.drop j) := List.Pairwise.sublist (List.drop_sublist j l) hs
 rw [hd] at hsd hq
 rcases List.mem_cons.1 hq with rfl | hq
 ·exact hp
 ·have := (List.pairwise_cons.1 hsd).1 q hq
  exact ge_trans (lt_ge this) hp

theorem flt_upto {l : List Pr} {lo hi : ByteArray} {i j : Nat} (hp : Pos (l.map (·.1)) lo i) (hij : i ≤ j) (hlt : ∀ p ∈ (l.drop i).take (j - i), bl p.1 hi = true) :
  flt lo hi l = (l.drop i).take (j - i) ++ flt lo hi (l.drop j) := by
 obtain ⟨h1, h2⟩ := pos_parts hp
 conv => lhs; rw [← List.take_append_drop i l, ← List.take_append_drop (j - i) (l.drop i)]
 rw [flt_app, flt_app, flt_lt lo hi _ h1, List.nil_append, List.drop_drop, show i + (j - i) = j by omega, flt_in lo hi _ (fun p hp' => h2 p (List.mem_of_mem_take hp')) hlt]

theorem way_lt {h : Nat} {ks : List (Kid h)} {lo : ByteArray} (hk : KW h ks) : ∀ p ∈ flatK h (ks.take (wayK ks lo)), bl p.1 lo = true := by
 intro p hp
 obtain ⟨a, ha, hp⟩ := mem_flatK.1 hp
 obtain ⟨x, hx⟩ := List.mem_iff_getElem?.1 ha
 rw [List.getElem?_take] at hx
 split at hx
 ·rename_i hlt
  have hlt' : x + 1 < (ks.takeWhile fun a => !bl lo a.1).length := by unfold wayK at hlt; omega
  have hpre : (ks.takeWhile fun a => !bl lo a.1) <+: ks := List.takeWhile_prefix _
  obtain ⟨b, hb⟩ : ∃ b, (ks.takeWhile fun a => !bl lo a.1)[x + 1]? = some b := ⟨_, List.getElem?_eq_getElem hlt'⟩
  have hbl : bl lo b.1 = false := by
   have := List.all_takeWhile (p := fun a : Kid h => !bl lo a.1) (l := ks)
   rw [List.all_eq_true] at this
   have := this b (List.mem_of_getElem? hb)
   simpa using this
  have hb' : ks[x + 1]? = some b := by
   obtain ⟨r, hr⟩ := hpre
   rw [← hr, List.getElem?_append_left hlt']
   exact hb
  have hx' := List.getElem?_eq_some_iff.1 hx
  have hb'' := List.getElem?_eq_some_iff.1 hb'
  have hbef := List.pairwise_iff_getElem.1 hk.ord x (x + 1) hx'.1 hb''.1 (by omega)
  rw [hx'.2, hb''.2] at hbef
  exact lt_of_lt_ge (hbef.2 p hp) hbl
 ·cases hx

theorem kids_ge {h : Nat} {ks : List (Kid h)} {hi : ByteArray} {j : Nat} {a : Kid h} (hk : KW h ks) (hj : ks[j]? = some a) (ha : bl a.1 hi = false) : ∀ p ∈ flatK h (ks.drop j), bl p.1 hi = false := by
 intro p hp
 have hjl := List.getElem?_eq_some_iff.1 hj
 have hd : ks.drop j = a :: ks.drop (j + 1) := by rw [List.drop_eq_getElem_cons hjl.1, hjl.2]
 have hkd : KW h (ks.drop j) := hk.sub (List.drop_sublist j ks)
 rw [hd] at hp hkd
 obtain ⟨b, hb, hp⟩ := mem_flatK.1 hp
 have h1 := hkd.froms b hb
 have h2 := (WFN.keys (hkd.all b hb) p hp).1
 exact ge_trans h2 (ge_trans h1 ha)
theorem kids_behind {h : Nat} {ks : List (Kid h)} {hi : ByteArray} {j : Nat} {a : Kid h} (hk : KW h ks) (hj : ks[j]? = some a) {q : Pr} (hq : q ∈ flatN h a.2) (hqh : bl q.1 hi = false) : ∀ p ∈ flatK h (ks.drop (j + 1)), bl p.1 hi = false := by
 intro p hp
 have hjl := List.getElem?_eq_some_iff.1 hj
 have hd : ks.drop j = a :: ks.drop (j + 1) := by rw [List.drop_eq_getElem_cons hjl.1, hjl.2]
 have hkd : KW h (ks.drop j) := hk.sub (List.drop_sublist j ks)
 rw [hd] at hkd
 obtain ⟨b, hb, hp⟩ := mem_flatK.1 hp
 have h1 := ((List.pairwise_cons.1 hkd.ord).1 b hb).2 q hq
 have h2 := (WFN.keys (hkd.all b (by simp [hb])) p hp).1
 exact ge_trans h2 (ge_trans (lt_ge h1) hqh)

end Go.Proofs.YtcklgafpgdhnaabGreatDoor

namespace Go.Proofs.YtcklgafpgdhnaabGreatDoor
open Go.RowKit


def Disp (nm : String) (x : Value) (f : FuncId) (v : Value) : Prop :=
 ∃ t, x = .iface t v ∧ (∀ W, (Go.method 391 t v nm).run Tryz.prog W = .ok (f, v) W) ∧ ∀ (args : Array Value) (W : World), (callFunc f args).run Tryz.prog W = .ok (.enter f args) W

theorem dSizeL (p : Option Addr) (n c : Nat) : Disp "store/tree.size" (.iface 135 (.slice p n c)) 191 (.slice p n c) := ⟨_, rfl, fun _ => by kernel_rfl, fun _ _ => by kernel_rfl⟩
theorem dSizeB (p : Option Addr) (n c : Nat) : Disp "store/tree.size" (.iface 180 (.slice p n c)) 221 (.slice p n c) := ⟨_, rfl, fun _ => by kernel_rfl, fun _ _ => by kernel_rfl⟩

def Sm : (h : Nat) → Nd h → Prop
 | 0, l => (∀ p : Pr, List.Mem p l → okp p) ∧ List.length (α := Pr) l ≤ 1000
 | h + 1, ks => List.length (α := Kid h) ks ≤ 1000
theorem len_le_sum (l : List Pr) : l.length ≤ (l.map psz).sum := by
 induction l with
 | nil => simp
 | cons p r ih => have := psz_pos p; simp; omega
theorem Sm.of {h : Nat} {f : ByteArray} {n : Nd h} (hw : WFN h f n) (hs : sizeN h n ≤ 1000) : Sm h n := by
 cases h with
 | zero =>
  refine ⟨fun p hp => (hw.2 p hp).2, ?_⟩
  have := len_le_sum n
  have e : sizeN 0 n = (List.map psz n).sum := rfl
  omega
 | succ h =>
  have e : sizeN (h + 1) n = 11 * List.length (α := Kid h) n := rfl
  show List.length (α := Kid h) n ≤ 1000
  omega

theorem sum_ksz (xs : List KE) : (xs.map ksz).sum = 11 * xs.length := by
 induction xs with
 | nil => rfl
 | cons a r ih => simp [ih, ksz]; omega

theorem leafSize_any (v : Value) (l : List Pr) (w : World) (h : LF w v l) (hs : Sm 0 l) : Calls Tryz.prog 191 #[v] w fun e w' => e = .returned (.int .i64 (sizeN 0 l : Nat)) ∧ Kept [] w w' := by
 have HM : Hid (Calls _ _ _ _ _) := measP_any v l w h (by have := hs.2; omega) fun x hx => psz_le (hs.1 x hx)
 obtain ⟨p, c, ev⟩ := SL.shape h
 rw [List.length_map] at ev
 subst ev
 go_enter Tryz.func191, Tryz.ntmps191
 go_wp2_with (first | (go_at_call 196; refine HM.out.mono ?_; rintro e w1 ⟨rfl, hk1⟩))
 go_ret
 exact ⟨rfl, hk1⟩

theorem brSize_any (v : Value) (xs : List KE) (w : World) (h : SL w 75 3 v (xs.map ke)) (hl : xs.length ≤ 1000) (ho : ∀ x ∈ xs, ∃ t v, x.2 = .iface t v) : Calls Tryz.prog 221 #[v] w fun e w' => e = .returned (.int .i64 (11 * xs.length : Nat)) ∧ Kept [] w w' := by
 have HM : Hid (Calls _ _ _ _ _) := measK_any v xs w h (by omega) (fun x hx => by show 11 ≤ 22; omega) ho
 rw [sum_ksz] at HM
 obtain ⟨p, c, ev⟩ := SL.shape h
 rw [List.length_map] at ev
 subst ev
 go_enter Tryz.func221, Tryz.ntmps221
 go_wp2_with (first | (go_at_call 229; refine HM.out.mono ?_; rintro e w1 ⟨rfl, hk1⟩))
 go_ret
 exact ⟨rfl, hk1⟩

theorem ND.k {w W : World} {A : Nat → Prop} {h : Nat} {n : Nd h} {x : Value} (hx : ND w A h n x) (k : Kept [] w W) : ND W A h n x := ND.kept k (by simp) (fun _ h => h) hx
theorem F2.k {w W : World} {A : Nat → Prop} {h : Nat} {ks : List (Kid h)} {xs : List KE} (hx : F2 (KR w A h) ks xs) (k : Kept [] w W) : F2 (KR W A h) ks xs := hx.mono fun _ _ _ hr => KR.kept hr k (by simp) fun _ h => h

theorem size_nd {w : World} {A : Nat → Prop} {h : Nat} {n : Nd h} {x : Value} (hx : ND w A h n x) (hs : Sm h n) :
  ∃ f v, Disp "store/tree.size" x f v ∧ ∀ W, Kept [] w W → Calls Tryz.prog f #[v] W fun e w' => e = .returned (.int .i64 (sizeN h n : Nat)) ∧ Kept [] W w' := by
 cases h with
 | zero =>
  obtain ⟨v, rfl, hl, _⟩ := hx
  have HC := fun W k => leafSize_any v n W (hl.kept k) hs
  obtain ⟨p, c, ev⟩ := SL.shape hl
  subst ev
  exact ⟨_, _, dSizeL _ _ _, HC⟩
 | succ h =>
  obtain ⟨v, xs, rfl, hl, _, hf⟩ := ND_succ.1 hx
  have hlen : xs.length = List.length (α := Kid h) n := hf.1.symm
  have HC := fun W k => brSize_any v xs W (hl.kept k) (by rw [hlen]; exact hs) (kids_iface hf)
  rw [hlen] at HC
  obtain ⟨p, c, ev⟩ := SL.shape hl
  subst ev
  exact ⟨_, _, dSizeB _ _ _, HC⟩

end Go.Proofs.YtcklgafpgdhnaabGreatDoor

namespace Go.Proofs.YtcklgafpgdhnaabGreatDoor
open Go.RowKit

theorem dFirstL (p : Option Addr) (n c : Nat) : Disp "store/tree.first" (.iface 135 (.slice p n c)) 186 (.slice p n c) := ⟨_, rfl, fun _ => by kernel_rfl, fun _ _ => by kernel_rfl⟩
theorem dFirstB (p : Option Addr) (n c : Nat) : Disp "store/tree.first" (.iface 180 (.slice p n c)) 216 (.slice p n c) := ⟨_, rfl, fun _ => by kernel_rfl, fun _ _ => by kernel_rfl⟩
theorem dHalvesL (p : Option Addr) (n c : Nat) : Disp "store/tree.halves" (.iface 135 (.slice p n c)) 187 (.slice p n c) := ⟨_, rfl, fun _ => by kernel_rfl, fun _ _ => by kernel_rfl⟩
theorem dHalvesB (p : Option Addr) (n c : Nat) : Disp "store/tree.halves" (.iface 180 (.slice p n c)) 217 (.slice p n c) := ⟨_, rfl, fun _ => by kernel_rfl, fun _ _ => by kernel_rfl⟩
theorem dJoinedL (p : Option Addr) (n c : Nat) : Disp "store/tree.joined" (.iface 135 (.slice p n c)) 188 (.slice p n c) := ⟨_, rfl, fun _ => by kernel_rfl, fun _ _ => by kernel_rfl⟩
theorem dJoinedB (p : Option Addr) (n c : Nat) : Disp "store/tree.joined" (.iface 180 (.slice p n c)) 218 (.slice p n c) := ⟨_, rfl, fun _ => by kernel_rfl, fun _ _ => by kernel_rfl⟩

theorem stk' : (Tryz.prog.info? 75).map (·.size) = some 3 := by kernel_rfl

theorem leafFirst_any (v : Value) (q : Pr) (r : List Pr) (w : World) (h : LF w v (q :: r)) : Calls Tryz.prog 186 #[v] w fun e w' => e = .returned (.string q.1) ∧ Kept [] w w' := by
 obtain ⟨g, off, cap, cur, ev, hg, hc1, hc2, hc3, hcur⟩ := SL.at_ h (by simp)
 subst ev
 have hc := (hcur 0 (pe q) rfl).2 0 _ rfl
 have c1 : w.cell? ⟨g, off, none⟩ = some (.string q.1) := by rw [cell_of_row _ _ _ _ _ _ hg]; simpa using hc
 have hlt : 0 < (List.map pe (q :: r)).length := by simp
 generalize (List.map pe (q :: r)).length = m at hlt ⊢
 clear hcur hc
 go_enter Tryz.func186, Tryz.ntmps186
 go_wp2_with (first
  | (refine wpList_val rfl _ _ (exec_index 135 (.tmp 3) (.const (.int .i64 0)) rfl g off m cap 0 2 rfl rfl 138 Tryz.underlying135 stp hlt off (by omega)) ?_))
 go_ret
 exact ⟨rfl, Kept.refl _ _⟩

theorem brFirst_any (v : Value) (q : KE) (r : List KE) (w : World) (h : SL w 75 3 v ((q :: r).map ke)) : Calls Tryz.prog 216 #[v] w fun e w' => e = .returned (.string q.1) ∧ Kept [] w w' := by
 obtain ⟨g, off, cap, cur, ev, hg, hc1, hc2, hc3, hcur⟩ := SL.at_ h (by simp)
 subst ev
 have hc := (hcur 0 (ke q) rfl).2 0 _ rfl
 have c1 : w.cell? ⟨g, off, none⟩ = some (.string q.1) := by rw [cell_of_row _ _ _ _ _ _ hg]; simpa using hc
 have hlt : 0 < (List.map ke (q :: r)).length := by simp
 generalize (List.map ke (q :: r)).length = m at hlt ⊢
 clear hcur hc
 go_enter Tryz.func216, Tryz.ntmps216
 go_wp2_with (first
  | (refine wpList_val rfl _ _ (exec_index 180 (.tmp 3) (.const (.int .i64 0)) rfl g off m cap 0 3 rfl rfl 75 Tryz.underlying180 stk' hlt off (by omega)) ?_))
 go_ret
 exact ⟨rfl, Kept.refl _ _⟩

theorem leafHalves_any (v : Value) (l : List Pr) (w : World) (h : LF w v l) (hs : Sm 0 l) (h0 : halfI psz l < l.length) : Calls Tryz.prog 187 #[v] w fun e w' =>
  ∃ a b, e = .returned (.tuple #[.iface 135 a, .iface 135 b]) ∧ LF w' a (l.take (halfI psz l)) ∧ LF w' b (l.drop (halfI psz l)) ∧ (∀ y, a.ownBlock = some y → v.ownBlock = some y) ∧ (∀ y, b.ownBlock = some y → v.ownBlock = some y) ∧ Kept [] w w' := by
 have HM : Hid (Calls _ _ _ _ _) := halveP_any v l w h (by have := hs.2; omega) (fun x hx => psz_le (hs.1 x hx)) h0
 obtain ⟨p, c, ev⟩ := SL.shape h
 rw [List.length_map] at ev
 subst ev
 clear h hs h0
 go_enter Tryz.func187, Tryz.ntmps187
 go_wp2_with (first | (go_at_call 195; refine HM.out.mono ?_; rintro e w1 ⟨a, b, rfl, ha, hb, oa, ob, hk1⟩))
 go_ret2
 exact ⟨_, _, rfl, ha, hb, oa, ob, hk1⟩

theorem brHalves_any (v : Value) (l : List KE) (w : World) (h : SL w 75 3 v (l.map ke)) (hl : l.length ≤ 1000) (ho : ∀ x ∈ l, ∃ t v, x.2 = .iface t v) (h0 : halfI ksz l < l.length) : Calls Tryz.prog 217 #[v] w fun e w' =>
  ∃ a b, e = .returned (.tuple #[.iface 180 a, .iface 180 b]) ∧ SL w' 75 3 a ((l.take (halfI ksz l)).map ke) ∧ SL w' 75 3 b ((l.drop (halfI ksz l)).map ke) ∧ (∀ y, a.ownBlock = some y → v.ownBlock = some y) ∧ (∀ y, b.ownBlock = some y → v.ownBlock = some y) ∧ Kept [] w w' := by
 have HM : Hid (Calls _ _ _ _ _) := halveK_any v l w h (by omega) (fun x hx => by show 11 ≤ 22; omega) ho h0
 obtain ⟨p, c, ev⟩ := SL.shape h
 rw [List.length_map] at ev
 subst ev
 clear h hl ho h0
 go_enter Tryz.func217, Tryz.ntmps217
 go_wp2_with (first | (go_at_call 228; refine HM.out.mono ?_; rintro e w1 ⟨a, b, rfl, ha, hb, oa, ob, hk1⟩))
 go_ret2
 exact ⟨_, _, rfl, ha, hb, oa, ob, hk1⟩

theorem cut11 {α β : Type} (whole : Nat) : ∀ (part : Nat) (l : List α) (l' : List β), l.length = l'.length → cutI (fun _ : α => 11) whole part l = cutI (fun _ : β => 11) whole part l'
 | _, [], [], _ => rfl
 | _, [], _ :: _, h => by simp at h
 | _, _ :: _, [], h => by simp at h
 | part, _ :: r, _ :: r', h => by
  rw [cutI, cutI, cut11 whole (part + 11) r r' (by simpa using h)]
theorem sum11' {α : Type} (l : List α) : (l.map fun _ : α => 11).sum = 11 * l.length := by
 induction l with
 | nil => rfl
 | cons a r ih => simp [ih]; omega
theorem half11 {α β : Type} (l : List α) (l' : List β) (h : l.length = l'.length) : halfI (fun _ : α => 11) l = halfI (fun _ : β => 11) l' := by
 unfold halfI
 rw [sum11', sum11', h]
 exact cut11 _ _ _ _ h

def Hf : (h : Nat) → Nd h → Prop
 | 0, l => halfI psz l < List.length (α := Pr) l
 | h + 1, ks => halfI (fun _ : Kid h => 11) ks < List.length (α := Kid h) ks

theorem halves_nd {w : World} {A : Nat → Prop} {h : Nat} {n : Nd h} {x : Value} (hx : ND w A h n x) (hs : Sm h n) (h0 : Hf h n) :
  ∃ f v, Disp "store/tree.halves" x f v ∧ ∀ W, Kept [] w W → Calls Tryz.prog f #[v] W fun e w' => ∃ a b, e = .returned (.tuple #[a, b]) ∧ ND w' A h (halveN h n).1 a ∧ ND w' A h (halveN h n).2 b ∧ Kept [] W w' := by
 cases h with
 | zero =>
  obtain ⟨v, rfl, hl, hA⟩ := hx
  have HC := fun W k => leafHalves_any v n W (hl.kept k) hs h0
  obtain ⟨p, c, ev⟩ := SL.shape hl
  subst ev
  refine ⟨_, _, dHalvesL _ _ _, fun W k => (HC W k).mono ?_⟩
  rintro e w' ⟨a, b, rfl, ha, hb, oa, ob, hk⟩
  exact ⟨_, _, rfl, ⟨a, rfl, ha, fun y hy => hA y (oa y hy)⟩, ⟨b, rfl, hb, fun y hy => hA y (ob y hy)⟩, hk⟩
 | succ h =>
  obtain ⟨v, xs, rfl, hl, hA, hf⟩ := ND_succ.1 hx
  have hlen : xs.length = List.length (α := Kid h) n := hf.1.symm
  have hk11 : (ksz : KE → Nat) = fun _ => 11 := rfl
  have hhalf : halfI ksz xs = halfI (fun _ : Kid h => 11) n := by rw [hk11]; exact half11 (β := Kid h) xs n hlen
  have HC := fun W k => brHalves_any v xs W (hl.kept k) (by rw [hlen]; exact hs) (kids_iface hf) (by rw [hhalf, hlen]; exact h0)
  rw [hhalf] at HC
  obtain ⟨p, c, ev⟩ := SL.shape hl
  subst ev
  refine ⟨_, _, dHalvesB _ _ _, fun W k => (HC W k).mono ?_⟩
  rintro e w' ⟨a, b, rfl, ha, hb, oa, ob, hk⟩
  have hf' := (hf.k k).k hk
  exact ⟨_, _, rfl, ND_succ.2 ⟨a, _, rfl, ha, fun y hy => hA y (oa y hy), hf'.take _⟩, ND_succ.2 ⟨b, _, rfl, hb, fun y hy => hA y (ob y hy), hf'.drop _⟩, hk⟩

theorem first_nd {w : World} {A : Nat → Prop} {h : Nat} {n : Nd h} {x : Value} (hx : ND w A h n x) (h0 : 0 < sizeN h n) :
  ∃ f v, Disp "store/tree.first" x f v ∧ ∀ W, Kept [] w W → Calls Tryz.prog f #[v] W fun e w' => e = .returned (.string (firstN h n)) ∧ Kept [] W w' := by
 cases h with
 | zero =>
  obtain ⟨v, rfl, hl, hA⟩ := hx
  cases n with
  | nil => simp [sizeN] at h0
  | cons q r =>
   have HC := fun W k => leafFirst_any v q r W (hl.kept k)
   obtain ⟨p, c, ev⟩ := SL.shape hl
   subst ev
   exact ⟨_, _, dFirstL _ _ _, HC⟩
 | succ h =>
  obtain ⟨v, xs, rfl, hl, hA, hf⟩ := ND_succ.1 hx
  cases n with
  | nil => simp [sizeN] at h0
  | cons q r =>
   obtain ⟨y, hy, hr⟩ := hf.get (i := 0) (a := q) rfl
   cases xs with
   | nil => simp at hy
   | cons z zs =>
    simp at hy
    subst hy
    have HC := fun W k => brFirst_any v z zs W (hl.kept k)
    rw [hr.1.1] at HC
    obtain ⟨p, c, ev⟩ := SL.shape hl
    subst ev
    exact ⟨_, _, dFirstB _ _ _, HC⟩

end Go.Proofs.YtcklgafpgdhnaabGreatDoor

namespace Go.Proofs.YtcklgafpgdhnaabGreatDoor
open Go.RowKit

theorem exec_buildSlice2 {P : Program} {o : Oper} {a : Act} {w w' : World} (t : TypeId) (n : Nat) (x y : Operand) (ho : o.op = .buildSlice t n #[(0, x), (1, y)]) (vx vy : Value) (hx : a.eval x = vx) (hy : a.eval y = vy) (v : Value)
  (hrun : (Instr.buildSlice t n #[(0, vx), (1, vy)]).run P w = .ok v w') : (execOp a.eval o).run P w = .ok (.value v) w' := by
 simp [execOp, ho, hx, hy, hrun, Result.andThen]
theorem asrtL (v : Value) (w : World) : (Instr.typeAssert (.iface 135 v) 73 135 false).run Tryz.prog w = .ok v w := by kernel_rfl
theorem asrtB (v : Value) (w : World) : (Instr.typeAssert (.iface 180 v) 73 180 false).run Tryz.prog w = .ok v w := by kernel_rfl
theorem bs2L (p p' : Option Addr) (n c n' c' : Nat) (w : World) : (Instr.buildSlice 274 2 #[(0, .slice p n c), (1, .slice p' n' c')]).run Tryz.prog w = .ok (.slice (some ⟨w.heap.size, 0, none⟩) 2 2) (w.alloc (.cells #[.slice p n c, .slice p' n' c'] 135)) := by kernel_rfl
theorem bs2B (p p' : Option Addr) (n c n' c' : Nat) (w : World) : (Instr.buildSlice 276 2 #[(0, .slice p n c), (1, .slice p' n' c')]).run Tryz.prog w = .ok (.slice (some ⟨w.heap.size, 0, none⟩) 2 2) (w.alloc (.cells #[.slice p n c, .slice p' n' c'] 180)) := by kernel_rfl

theorem leafJoined_any (v v2 : Value) (l l2 : List Pr) (w : World) (h : LF w v l) (h2 : LF w v2 l2) (hl : l.length + l2.length ≤ 50000) : Calls Tryz.prog 188 #[v, .iface 135 v2] w fun e w' =>
  ∃ a, e = .returned (.iface 135 a) ∧ LF w' a (l ++ l2) ∧ (∀ y, a.ownBlock = some y → w.heap.size ≤ y) ∧ Kept [] w w' := by
 obtain ⟨p, c, ev⟩ := SL.shape h
 obtain ⟨p2, c2, ev2⟩ := SL.shape h2
 rw [List.length_map] at ev ev2
 have k1 := (Kept.refl [] w).alloc (.cells #[v, v2] 135)
 have HC : Hid (Calls _ _ _ _ _) := concP_any w.heap.size v v2 (l.map pe) (l2.map pe) (w.alloc (.cells #[v, v2] 135)) (heap_alloc_new _ _) (SL.kept h k1) (SL.kept h2 k1) (one_pe l) (one_pe l2) (by simpa using hl)
 subst ev
 subst ev2
 have hb := bs2L
 have ha := asrtL
 go_enter Tryz.func188, Tryz.ntmps188
 go_wp2_with (first
  | (go_at_call 233; refine HC.out.mono ?_; rintro e w1 ⟨a, rfl, how, hk1⟩))
 go_ret
 refine ⟨_, rfl, ?_, fun y hy => ?_, k1.trans hk1⟩
 ·have := how.sl
  rw [← List.map_append] at this
  exact this
 ·have := own_ge how.1 y (by rw [hy]; simp)
  simp at this
  omega

theorem brJoined_any (v v2 : Value) (l l2 : List KE) (w : World) (h : SL w 75 3 v (l.map ke)) (h2 : SL w 75 3 v2 (l2.map ke)) (o1 : ∀ x ∈ l, ∃ t v, x.2 = .iface t v) (o2 : ∀ x ∈ l2, ∃ t v, x.2 = .iface t v) (hl : l.length + l2.length ≤ 50000) : Calls Tryz.prog 218 #[v, .iface 180 v2] w fun e w' =>
  ∃ a, e = .returned (.iface 180 a) ∧ SL w' 75 3 a ((l ++ l2).map ke) ∧ (∀ y, a.ownBlock = some y → w.heap.size ≤ y) ∧ Kept [] w w' := by
 obtain ⟨p, c, ev⟩ := SL.shape h
 obtain ⟨p2, c2, ev2⟩ := SL.shape h2
 rw [List.length_map] at ev ev2
 have k1 := (Kept.refl [] w).alloc (.cells #[v, v2] 180)
 have HC : Hid (Calls _ _ _ _ _) := concK_any w.heap.size v v2 (l.map ke) (l2.map ke) (w.alloc (.cells #[v, v2] 180)) (heap_alloc_new _ _) (SL.kept h k1) (SL.kept h2 k1) (one_ke o1) (one_ke o2) (by simpa using hl)
 subst ev
 subst ev2
 have hb := bs2B
 have ha := asrtB
 go_enter Tryz.func218, Tryz.ntmps218
 go_wp2_with (first
  | (go_at_call 234; refine HC.out.mono ?_; rintro e w1 ⟨a, rfl, how, hk1⟩))
 go_ret
 refine ⟨_, rfl, ?_, fun y hy => ?_, k1.trans hk1⟩
 ·have := how.sl
  rw [← List.map_append] at this
  exact this
 ·have := own_ge how.1 y (by rw [hy]; simp)
  simp at this
  omega

theorem joined_nd {w : World} {A : Nat → Prop} {h : Nat} {n n2 : Nd h} {x x2 : Value} (hx : ND w A h n x) (hx2 : ND w A h n2 x2) (hs : Sm h n) (hs2 : Sm h n2) :
  ∃ f v, Disp "store/tree.joined" x f v ∧ ∀ W, Kept [] w W → Calls Tryz.prog f #[v, x2] W fun e w' => ∃ a, e = .returned a ∧ ND w' (fun y => A y ∨ w.heap.size ≤ y) h (joinN h n n2) a ∧ Kept [] W w' := by
 cases h with
 | zero =>
  obtain ⟨v, rfl, hl, hA⟩ := hx
  obtain ⟨v2, rfl, hl2, hA2⟩ := hx2
  have HC := fun W k => leafJoined_any v v2 n n2 W (hl.kept k) (hl2.kept k) (by have := hs.2; have := hs2.2; omega)
  obtain ⟨p, c, ev⟩ := SL.shape hl
  subst ev
  refine ⟨_, _, dJoinedL _ _ _, fun W k => (HC W k).mono ?_⟩
  rintro e w' ⟨a, rfl, ha, oa, hk⟩
  exact ⟨_, rfl, ⟨a, rfl, ha, fun y hy => Or.inr (Nat.le_trans k.size (oa y hy))⟩, hk⟩
 | succ h =>
  obtain ⟨v, xs, rfl, hl, hA, hf⟩ := ND_succ.1 hx
  obtain ⟨v2, xs2, rfl, hl2, hA2, hf2⟩ := ND_succ.1 hx2
  have hlen : xs.length = List.length (α := Kid h) n := hf.1.symm
  have hlen2 : xs2.length = List.length (α := Kid h) n2 := hf2.1.symm
  have HC := fun W k => brJoined_any v v2 xs xs2 W (hl.kept k) (hl2.kept k) (kids_iface hf) (kids_iface hf2) (by have : List.length (α := Kid h) n ≤ 1000 := hs; have : List.length (α := Kid h) n2 ≤ 1000 := hs2; omega)
  obtain ⟨p, c, ev⟩ := SL.shape hl
  subst ev
  refine ⟨_, _, dJoinedB _ _ _, fun W k => (HC W k).mono ?_⟩
  rintro e w' ⟨a, rfl, ha, oa, hk⟩
  have up : ∀ (ks : List (Kid h)) (ys : List KE), F2 (KR w A h) ks ys → F2 (KR w' (fun y => A y ∨ w.heap.size ≤ y) h) ks ys := fun ks ys hh => hh.mono fun _ _ _ hr => KR.kept hr (k.trans hk) (by simp) fun _ h => Or.inl h
  exact ⟨_, rfl, ND_succ.2 ⟨a, _, rfl, ha, fun y hy => Or.inr (Nat.le_trans k.size (oa y hy)), (up _ _ hf).append (up _ _ hf2)⟩, hk⟩

end Go.Proofs.YtcklgafpgdhnaabGreatDoor

namespace Go.Proofs.YtcklgafpgdhnaabGreatDoor
open Go.RowKit

theorem dLeafL (p : Option Addr) (n c : Nat) : Disp "store/tree.leaf" (.iface 135 (.slice p n c)) 190 (.slice p n c) := ⟨_, rfl, fun _ => by kernel_rfl, fun _ _ => by kernel_rfl⟩
theorem dLeafB (p : Option Addr) (n c : Nat) : Disp "store/tree.leaf" (.iface 180 (.slice p n c)) 220 (.slice p n c) := ⟨_, rfl, fun _ => by kernel_rfl, fun _ _ => by kernel_rfl⟩

def cntK (h : Nat) (ks : List (Kid h)) : Nat := (ks.map fun k => cntN h k.2).sum
theorem cntK_snoc (h : Nat) (ks : List (Kid h)) (j : Nat) (q : Kid h) (hq : ks[j]? = some q) : cntK h (ks.take (j + 1)) = cntK h (ks.take j) + cntN h q.2 := by
 unfold cntK
 rw [take_snoc ks j q hq]; simp
theorem cntK_le (h : Nat) (ks : List (Kid h)) (j : Nat) : cntK h (ks.take j) ≤ cntK h ks := by
 conv => rhs; rw [← List.take_append_drop j ks]
 unfold cntK
 rw [List.map_append, List.sum_append]
 omega
theorem ke_keys (xs : List KE) : (xs.map ke).map List.head? = (xs.map (·.1)).map fun q => some (Value.string q) := by
 rw [List.map_map, List.map_map]; rfl
theorem pe_keys (l : List Pr) : (l.map pe).map List.head? = (l.map (·.1)).map fun q => some (Value.string q) := by
 rw [List.map_map, List.map_map]; rfl

theorem brWay_any (h : Nat) (A : Nat → Prop) (v : Value) (xs : List KE) (ks : List (Kid h)) (k : ByteArray) (w : World) (hl : SL w 75 3 v (xs.map ke)) (hf : F2 (KR w A h) ks xs) (hk : KW h ks) (hkl : ks.length ≤ 1000) :
  Calls Tryz.prog 225 #[v, .string k] w fun e w' => e = .returned (.int .i64 (wayK ks k : Nat)) ∧ Kept [] w w' := by
 have hlen : (xs.map ke).length = ks.length := by rw [List.length_map, hf.1]
 have hpos := pos_pK (kw_rise hk) k
 have hway := way_pos hk hpos (bK_iff (ks.map (·.1)) k)
 have hcall := (findK_any v (xs.map ke) (ks.map (·.1)) k w hl (by rw [ke_keys, kids_keys hf]) (kw_rise hk) (by omega)).mono fun _ _ h => find_det h
 have hib := hpos.1
 rw [List.length_map] at hib
 obtain ⟨p, c, ev⟩ := hl.shape
 rw [List.length_map] at ev
 subst ev
 generalize pK (ks.map (·.1)) k = i at *
 generalize bK (ks.map (·.1)) k = b at *
 have HF : Hid (Calls _ _ _ _ _) := hcall
 have HW : Hid _ := hway
 clear hk hf hcall hway hpos
 cases b with
 | true =>
  go_enter Tryz.func225, Tryz.ntmps225
  go_wp2_with (first | (go_at_call 231; refine HF.out.mono ?_; rintro e w1 ⟨rfl, hk1⟩))
  go_ret
  exact ⟨by rw [HW.out]; rfl, hk1⟩
 | false =>
  rcases Nat.eq_zero_or_pos i with rfl | hi
  ·go_enter Tryz.func225, Tryz.ntmps225
   go_wp2_with (first | (go_at_call 231; refine HF.out.mono ?_; rintro e w1 ⟨rfl, hk1⟩))
   go_ret
   exact ⟨by rw [HW.out]; rfl, hk1⟩
  ·have hi' : (0 : Int) < (i : Int) := by omega
   go_enter Tryz.func225, Tryz.ntmps225
   go_wp2_with (first | (go_at_call 231; refine HF.out.mono ?_; rintro e w1 ⟨rfl, hk1⟩))
   go_ret
   refine ⟨?_, hk1⟩
   rw [HW.out]
   simp
   omega

theorem way_lt_len {h : Nat} {f : ByteArray} {ks : List (Kid h)} (k : ByteArray) (hw : WFN (h + 1) f ks) : wayK ks k < ks.length := by
 obtain ⟨⟨n0, x0, r0, e0⟩, _⟩ := (WFN_succ h f ks).1 hw
 have : (ks.takeWhile fun a => !bl k a.1).length ≤ ks.length := (List.takeWhile_prefix _).length_le
 have h1 : 0 < ks.length := by rw [e0]; simp
 unfold wayK
 omega

theorem leafLeaf_any (p : Option Addr) (n c : Nat) (k : ByteArray) (w : World) : Calls Tryz.prog 190 #[.slice p n c, .string k] w fun e w' => e = .returned (.slice p n c) ∧ Kept [] w w' := by
 go_enter Tryz.func190, Tryz.ntmps190
 go_wp2
 go_ret
 exact ⟨rfl, Kept.refl _ _⟩

def LeafOk (k : ByteArray) (h : Nat) : Prop := ∀ (w : World) (A : Nat → Prop) (f : ByteArray) (n : Nd h) (x : Value), ND w A h n x → WFN h f n → FullN h n → sizeN h n ≤ 1000 →
  ∃ f v, Disp "store/tree.leaf" x f v ∧ ∀ W, Kept [] w W → Calls Tryz.prog f #[v, .string k] W fun e w' => ∃ v', e = .returned v' ∧ LF w' v' (leafN k h n) ∧ Kept [] W w'

theorem brLeaf_any (k : ByteArray) (h : Nat) (IH : LeafOk k h) (A : Nat → Prop) (f0 : ByteArray) (v : Value) (xs : List KE) (ks : List (Kid h)) (w : World) (hl : SL w 75 3 v (xs.map ke)) (hf : F2 (KR w A h) ks xs) (hw : WFN (h + 1) f0 ks) (hfu : FullN (h + 1) ks) (hsz : ks.length ≤ 1000) :
  Calls Tryz.prog 220 #[v, .string k] w fun e w' => ∃ v', e = .returned v' ∧ LF w' v' (leafN k (h + 1) ks) ∧ Kept [] w w' := by
 have hlen : (xs.map ke).length = ks.length := by rw [List.length_map, hf.1]
 have hkw := ((WFN_succ h f0 ks).1 hw).2
 have HWy : Hid (Calls _ _ _ _ _) := brWay_any h A v xs ks k w hl hf hkw (by omega)
 have hlt := way_lt_len k hw
 obtain ⟨q, hq⟩ : ∃ q, ks[wayK ks k]? = some q := ⟨_, List.getElem?_eq_getElem hlt⟩
 have hqm := List.mem_of_getElem? hq
 have hqf := (FullN_succ h ks).1 hfu q hqm
 obtain ⟨y, hy, hr⟩ := hf.get hq
 have hleaf : leafN k (h + 1) ks = leafN k h q.2 := leafN_succ k h ks q hq
 obtain ⟨f, vv, ⟨t, ex, hm, he⟩, hcall⟩ := IH _ _ _ _ _ hr.2 (hkw.all q hqm) hqf.2 (by have := hqf.1.2; omega)
 obtain ⟨g, off, cap, cur, e, hg, hc1, hc2, hc3, hcur⟩ := hl.at_ (by omega)
 rw [hlen] at e
 subst e
 have hc := (hcur (wayK ks k) (ke y) (by rw [List.getElem?_map, hy]; rfl)).2
 simp only [ke, ex] at hc
 have hcell : ∀ W, Kept [] w W → W.cell? ⟨g, off + wayK ks k * 3 + 2, none⟩ = some (.iface t vv) := fun W kW => by rw [cell_of_row _ _ _ _ _ _ (kW.get hg (by simp))]; exact hc 2 _ rfl
 rw [hleaf]
 have HC : Hid (∀ W, Kept [] w W → _) := hcall
 have HCell : Hid _ := hcell
 generalize wayK ks k = i at *
 clear hcall hcell hcur hc hleaf hy hq hr hqf hqm hw hfu hf
 go_enter Tryz.func220, Tryz.ntmps220
 go_wp2_with (first
  | (go_at_call 225; refine HWy.out.mono ?_; rintro e w1 ⟨rfl, hk1⟩; have c1 := HCell.out w1 hk1)
  | (refine wpList_val rfl _ _ (exec_index 180 (.tmp 5) (.tmp 8) rfl g off ks.length cap i 3 rfl rfl 75 Tryz.underlying180 stk' hlt (off + i * 3) rfl) ?_)
  | (go_at_fn f; refine (HC.out _ hk1).mono ?_; rintro e w2 ⟨v2, rfl, hl2, hk2⟩))
 go_ret
 exact ⟨_, rfl, hl2, hk1.trans hk2⟩

theorem leaf_nd (k : ByteArray) : ∀ h, LeafOk k h
 | 0 => by
  intro w A f n x hx _ _ _
  obtain ⟨v, rfl, hl, hA⟩ := hx
  have hl' := hl
  obtain ⟨p, c, ev⟩ := SL.shape hl
  subst ev
  refine ⟨_, _, dLeafL _ _ _, fun W kW => (leafLeaf_any _ _ _ k W).mono ?_⟩
  rintro e w' ⟨rfl, hk⟩
  exact ⟨_, rfl, (hl'.kept kW).kept hk, hk⟩
 | h + 1 => by
  intro w A f n x hx hw hfu hs
  obtain ⟨v, xs, rfl, hl, hA, hf⟩ := ND_succ.1 hx
  have hsz : List.length (α := Kid h) n ≤ 1000 := by have : 11 * List.length (α := Kid h) n ≤ 1000 := hs; omega
  have HC := fun W kW => brLeaf_any k h (leaf_nd k h) A f v xs n W (hl.kept kW) (hf.k kW) hw hfu hsz
  obtain ⟨p, c, ev⟩ := SL.shape hl
  subst ev
  exact ⟨_, _, dLeafB _ _ _, HC⟩

end Go.Proofs.YtcklgafpgdhnaabGreatDoor

namespace Go.Proofs.YtcklgafpgdhnaabGreatDoor
open Go.RowKit

def LeafR (v : Value) (l : List Pr) (w : World) (e : Ending) (w' : World) : Prop := ∃ v', e = .returned v' ∧ LF w' v' l ∧ (∀ y, v'.ownBlock = some y → v.ownBlock = some y ∨ w.heap.size ≤ y) ∧ Kept [] w w'

theorem leafWithout_any (v : Value) (l : List Pr) (k : ByteArray) (w : World) (h : LF w v l) (hs : Srt l) (hl : l.length ≤ 1000) (hh : (getL k l).isSome = true) : Calls Tryz.prog 90 #[v, .string k] w (LeafR v (withoutL k l) w) := by
 have hpos := pos_pK (srt_rise hs) k
 have hres := without_pos hs hpos (bK_iff (l.map (·.1)) k)
 have hbi := bK_iff (l.map (·.1)) k
 have hgp := get_pos hs hpos hbi
 have hcall := (findP_any v (l.map pe) (l.map (·.1)) k w h (pe_keys l) (srt_rise hs) (by simp; omega)).mono fun _ _ h => find_det h
 have hib := hpos.1
 rw [List.length_map] at hib
 have hlen : (l.map pe).length = l.length := List.length_map _
 have h' := h
 obtain ⟨p, c, ev⟩ := SL.shape h'
 rw [hlen] at ev
 subst ev
 generalize pK (l.map (·.1)) k = i at *
 generalize bK (l.map (·.1)) k = b at *
 have HF : Hid (Calls _ _ _ _ _) := hcall
 have HR : Hid _ := hres
 clear hcall hres hpos
 cases b with
 | false =>
  rw [hgp] at hh
  simp at hh
 | true =>
  have hil : i < l.length := by
   have := (List.getElem?_eq_some_iff.1 (hbi.1 rfl)).1
   rwa [List.length_map] at this
  have HCl : Hid (∀ W, Kept [] w W → _) := fun W kW => cloneP_any _ (l.map pe) W (SL.kept h kW) (one_pe l) (by simp; omega)
  have hl2 : (l.map pe).length ≤ 50000 := by simp; omega
  have hi2 : i < (l.map pe).length := by simpa using hil
  have HD : Hid (∀ B vl W, OW W B 138 2 vl (l.map pe) → _) := fun B vl W ho => deleteP_any B vl (l.map pe) i W ho (one_pe l) hi2 hl2
  clear hbi hl2 hi2
  go_enter Tryz.func90, Tryz.ntmps90
  go_wp2_with (first
   | (go_at_call 83; refine HF.out.mono ?_; rintro e w1 ⟨rfl, hk1⟩)
   | (go_at_call 108; refine (HCl.out _ hk1).mono ?_; rintro e w2 ⟨v2, rfl, ho2, hk2⟩)
   | (go_at_call 114; refine (HD.out _ _ _ ho2).mono ?_; rintro e w3 ⟨v3, rfl, ho3, hk3⟩))
  go_ret
  have k3 : Kept [] w w3 := (hk1.trans hk2).trans2 hk3 fun y hy => Or.inr (Nat.le_trans hk1.size (own_ge ho2.1 y hy))
  refine ⟨v3, rfl, ?_, fun y hy => Or.inr ?_, k3⟩
  ·have := ho3.sl
   rw [← List.map_take, ← List.map_drop, ← List.map_append] at this
   rw [HR.out]
   exact this
  ·have := own_ge ho3.1 y (by rw [hy]; simp)
   exact Nat.le_trans hk1.size this

theorem replP_eq (B : Nat) (vl : Value) (es : List El) (i : Nat) (w : World) (h : OW w B 138 2 vl es) (h1 : One 2 es) (hi : i ≤ es.length) (hl : es.length ≤ 50000) (hBw : B ≤ w.heap.size)
  (gv off cv : Nat) (vs : List El) (hv : SL w 138 2 (.slice (some ⟨gv, off, none⟩) vs.length cv) vs) (hv1 : One 2 vs) (hv0 : 0 < vs.length) (hv2 : vs.length ≤ 1000) (hap : vl.ownBlock ≠ some gv) :
  Calls Tryz.prog 107 #[vl, .int .i64 i, .int .i64 i, .slice (some ⟨gv, off, none⟩) vs.length cv] w (OwnR B 138 2 vl (es.take i ++ vs ++ es.drop i) w) := by
 have HI : Hid (Calls _ _ _ _ _) := insP_any B vl es i w h h1 hi hl hBw gv off cv vs hv hv1 hv0 hv2 hap
 obtain ⟨ie, hie, hz1, hz2, hz3⟩ := info_parts itp
 obtain ⟨p, c, rfl⟩ := h.sl.shape
 have hc : es.length ≤ c := by
  obtain ⟨_, ⟨e, h0⟩ | ⟨g, cap, cur, e, _, _, h1, _⟩⟩ := h.1
  ·injection e with e1 e2 e3; omega
  ·injection e with e1 e2 e3; omega
 have hic : i ≤ c := by omega
 obtain ⟨rs, hrs⟩ : ∃ rs, rs = (if c = i then p else p.map (·.add (i * 2))) := ⟨_, rfl⟩
 obtain ⟨rc, hrc⟩ : ∃ rc, rc = c - i := ⟨_, rfl⟩
 have hsl : ∀ W : World, (Instr.sliceAt 135 (.slice p es.length c) (some (.int .i64 (i : Int))) (some (.int .i64 (i : Int))) none).run Tryz.prog W = .ok (.slice rs 0 rc) W := by
  intro W
  rw [hrs, hrc]
  simp [Instr.sliceAt, Instr.slice, run_underlying Tryz.underlying135, Instr.sliceBounds, Instr.sliceBound, asIntOf, sizeOf, typeInfo, hie, hz2, hic]
 clear hrs hrc
 go_enter Tryz.func107, Tryz.ntmps107
 go_wp2_with (first | (go_at_call 122; refine HI.out.mono ?_; rintro e w3 ⟨v3, rfl, ho3, hk3⟩))
 go_ret
 exact ⟨_, rfl, ho3, hk3⟩

end Go.Proofs.YtcklgafpgdhnaabGreatDoor
