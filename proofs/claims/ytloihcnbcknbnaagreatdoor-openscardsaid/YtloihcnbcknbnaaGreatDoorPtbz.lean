import Derived.Test.YtloihcnbcknbnaaGreatDoorPtbx
import Derived.Test.YtloihcnbcknbnaaGreatDoorPtby
import Derived.Test.YtloihcnbcknbnaaGreatDoorPtbq
import Derived.Test.YtloihcnbcknbnaaGreatDoorPtbm
namespace Go.Proofs.YtloihcnbcknbnaaGreatDoor

/-! how many pairs a tree of so many nodes holds -/
theorem sum_ge3 (l : List Pr) (h : ∀ p ∈ l, okp p) : 3 * l.length ≤ (l.map psz).sum := by
  induction l with
  | nil => simp
  | cons p r ih =>
    have h1 := ih fun q hq => h q (by simp [hq])
    have h2 := (h p (by simp)).1
    simp only [List.map_cons, List.sum_cons, List.length_cons]
    have h3 : psz p = 2 + p.1.size + p.2.size := rfl
    omega
theorem flat_cnt : ∀ (h : Nat) (f : ByteArray) (n : Nd h), WFN h f n → FullN h n → sizeN h n ≤ 122 → (flatN h n).length ≤ 41 * cntN h n
  | 0, f, l, hw, _, hs => by
    have h1 := sum_ge3 l fun p hp => (hw.2 p hp).2
    have hs' : (List.map psz l).sum ≤ 122 := hs
    show List.length (α := Pr) l ≤ 41 * 1
    omega
  | h + 1, f, ks, hw, hf, _ => by
    obtain ⟨_, hk⟩ := (WFN_succ h f ks).1 hw
    have hf' := (FullN_succ h ks).1 hf
    have key : ∀ (l : List (Kid h)), (∀ a ∈ l, WFN h a.1 a.2 ∧ Rt h a.2 ∧ FullN h a.2) → (flatK h l).length ≤ 41 * (List.map (fun k : Kid h => cntN h k.2) l).sum := by
      intro l
      induction l with
      | nil => intro _; simp [flatK]
      | cons a r ih =>
        intro hl
        have h1 := ih fun b hb => hl b (by simp [hb])
        obtain ⟨ha, hr, hff⟩ := hl a (by simp)
        have h2 := flat_cnt h a.1 a.2 ha hff hr.2
        rw [flatK_cons, List.length_append]
        simp only [List.map_cons, List.sum_cons]
        omega
    have h1 := key ks fun a ha => ⟨hk.all a ha, hf' a ha⟩
    show (flatK h ks).length ≤ 41 * (1 + (List.map (fun k : Kid h => cntN h k.2) ks).sum)
    omega
theorem flatT_cnt (t : Tr) (ht : TW t) : (flatT t).length ≤ 41 * cntT t := flat_cnt t.h nil8 t.n ht.wf ht.full ht.hi

end Go.Proofs.YtloihcnbcknbnaaGreatDoor

namespace Go.Proofs.YtloihcnbcknbnaaGreatDoor
open Go.RowKit

theorem vb_new (w : World) (x : Nat) (k : ByteArray) : Bx2 w.heap.size (w.heap.size + 1) x k ((((w.alloc (.cells #[.pointer (some ⟨x, 0, none⟩)] 27)).alloc (.cells #[.string k] 9)).alloc (.cells #[.string ⟨#[]⟩] 9)).alloc (.cells #[.bool false] 4)) ∧ VB (w.heap.size + 1 + 1) (w.heap.size + 1 + 1 + 1) ⟨#[]⟩ false ((((w.alloc (.cells #[.pointer (some ⟨x, 0, none⟩)] 27)).alloc (.cells #[.string k] 9)).alloc (.cells #[.string ⟨#[]⟩] 9)).alloc (.cells #[.bool false] 4)) ∧ Kept [] w ((((w.alloc (.cells #[.pointer (some ⟨x, 0, none⟩)] 27)).alloc (.cells #[.string k] 9)).alloc (.cells #[.string ⟨#[]⟩] 9)).alloc (.cells #[.bool false] 4)) := by
  have h2 := bx2_new w x k
  have ka := fun (W : World) (o : Obj) => (Kept.refl [] W).alloc o
  have z2 := heap_alloc_new ((w.alloc (.cells #[.pointer (some ⟨x, 0, none⟩)] 27)).alloc (.cells #[.string k] 9)) (.cells #[.string ⟨#[]⟩] 9)
  have z3 := heap_alloc_new (((w.alloc (.cells #[.pointer (some ⟨x, 0, none⟩)] 27)).alloc (.cells #[.string k] 9)).alloc (.cells #[.string ⟨#[]⟩] 9)) (.cells #[.bool false] 4)
  simp only [World.size_alloc] at z2 z3
  exact ⟨(h2.k (ka _ _)).k (ka _ _), ⟨(ka _ _).get z2 (by simp), z3⟩, ((((Kept.refl [] w).alloc _).alloc _).alloc _).alloc _⟩
theorem get_mem {k v : ByteArray} : ∀ {l : List Pr}, getL k l = some v → ∃ p ∈ l, p.2 = v
  | [], h => by simp [getL] at h
  | p :: r, h => by
    unfold getL at h
    split at h
    · cases h; exact ⟨p, by simp, rfl⟩
    · obtain ⟨q, hq, e⟩ := get_mem h
      exact ⟨q, by simp [hq], e⟩
theorem get_size (t : Tr) (ht : TW t) (k : ByteArray) : ((getL k (flatT t)).getD ⟨#[]⟩).size ≤ 1000 := by
  cases h : getL k (flatT t) with
  | none => show (⟨#[]⟩ : ByteArray).size ≤ 1000; decide
  | some v =>
    obtain ⟨p, hp, rfl⟩ := get_mem h
    have := (ht.wf.keys p hp).2.2.2
    show p.2.size ≤ 1000
    omega
theorem Get_yes (x v a n : Nat) (r : Value) (t : Tr) (k : ByteArray) (w : World) (h : Rec x v a n r t w) (ht : TW t) (hk : keyOk k) :
    Calls Tryz.prog 18 #[.pointer (some ⟨x, 0, none⟩), .string k] w fun e w' => ∃ err, e = .returned (.tuple #[.string ((getL k (flatT t)).getD ⟨#[]⟩), .bool (getL k (flatT t)).isSome, err]) ∧ err = .nilIface ∧ Kept [] w w' := by
  obtain ⟨hb, hv, k4⟩ := vb_new w x k
  refine Get_of x k _ _ (fun err _ => err = .nilIface) (fun _ _ _ h _ => h) (get_size t ht k) w fun b => ?_
  refine catch_yes b _ _ (fun _ _ => by kernel_rfl) [w.heap.size + 1 + 1, w.heap.size + 1 + 1 + 1] _ _ ?_ (fun W W' T h1 h2 h3 => h1.err h2 h3) fun W kW => ?_
  · intro y hy
    simp at hy
    rw [World.size_alloc, World.size_alloc, World.size_alloc, World.size_alloc]
    omega
  · exact Get1_yes _ _ _ _ x v a n r t k W (hb.k kW) (hv.k kW) (by omega) ((h.k k4).k kW) ht hk
theorem Get_closed (x : Nat) (k : ByteArray) (w : World) (h : Shut x w) :
    Calls Tryz.prog 18 #[.pointer (some ⟨x, 0, none⟩), .string k] w fun e w' => ∃ err, e = .returned (.tuple #[.string ⟨#[]⟩, .bool false, err]) ∧ Chain w' err 5 ∧ Kept [] w w' := by
  obtain ⟨hb, hv, k4⟩ := vb_new w x k
  refine Get_of x k _ _ (fun err W => Chain W err 5) (fun _ _ _ h k => h.k k) (by decide) w fun b => ?_
  refine (catch_no b _ _ (fun _ _ => by kernel_rfl) 5 (VB (w.heap.size + 1 + 1) (w.heap.size + 1 + 1 + 1) ⟨#[]⟩ false) _ (fun W W' T h1 h2 h3 => h1.err h2 h3) fun W kW => ?_).mono fun e w' ⟨err, h1, h2, h3⟩ => ⟨err, h1, h2, h3.mono (by simp)⟩
  exact Get1_closed _ _ _ _ x k W (hb.k kW) (hv.k kW) (kW.get (k4.get h (by simp)) (by simp))
theorem Get_key (x v a n : Nat) (r : Value) (t : Tr) (k : ByteArray) (w : World) (h : Rec x v a n r t w) (hk : ¬ keyOk k) :
    Calls Tryz.prog 18 #[.pointer (some ⟨x, 0, none⟩), .string k] w fun e w' => ∃ err, e = .returned (.tuple #[.string ⟨#[]⟩, .bool false, err]) ∧ Chain w' err 1 ∧ Kept [] w w' := by
  obtain ⟨hb, hv, k4⟩ := vb_new w x k
  refine Get_of x k _ _ (fun err W => Chain W err 1) (fun _ _ _ h k => h.k k) (by decide) w fun b => ?_
  refine (catch_no b _ _ (fun _ _ => by kernel_rfl) 1 (VB (w.heap.size + 1 + 1) (w.heap.size + 1 + 1 + 1) ⟨#[]⟩ false) _ (fun W W' T h1 h2 h3 => h1.err h2 h3) fun W kW => ?_).mono fun e w' ⟨err, h1, h2, h3⟩ => ⟨err, h1, h2, h3.mono (by simp)⟩
  exact Get1_key _ _ _ _ x k W (hb.k kW) (hv.k kW) ((h.k k4).k kW) hk

end Go.Proofs.YtloihcnbcknbnaaGreatDoor

namespace Go.Proofs.YtloihcnbcknbnaaGreatDoor
open Go.RowKit

/-- a store of this program -/
def SIs (w : World) (s : Sx) : Prop := s.fp = [s.x] ∧ 8 ≤ s.n ∧ s.n ≤ 400 ∧ s.l.length ≤ 10000 ∧ (if s.cl then Shut s.x w else ∃ v r t, Rec s.x v s.a s.n r t w ∧ TW t ∧ flatT t = s.l)
theorem SIs.tag {w : World} {s : Sx} (h : SIs w s) : Tg w s.x 76 := by
  obtain ⟨_, _, _, _, h⟩ := h
  split at h
  · exact ⟨_, _, h⟩
  · obtain ⟨v, r, t, h, _⟩ := h
    exact ⟨_, _, h.row⟩
theorem LT.tags {w : World} {y : Nat} (h : LT w y) : ∃ t ∈ lawTags, Tg w y t := by
  obtain ⟨cs, t, fr, h1, h2⟩ := h
  exact ⟨t, h2, _, _, h1⟩
theorem not_TT {w : World} {y : Nat} {t : TypeId} (h : Tg w y t) (h1 : t ≠ 114) (h2 : t ≠ 152) : ¬ TT w y := fun hh => hh.elim (fun e => h1 (h.ne e)) (fun e => h2 (h.ne e))
theorem law_out {t : TypeId} (h : t ∈ lawTags) : t ≠ 157 ∧ t ≠ 114 ∧ t ≠ 152 ∧ t ≠ 76 := by
  unfold lawTags at h
  revert t
  decide
theorem SIs.kept {w w' : World} {s : Sx} {S : List Nat} (h : SIs w s) (k : Kept S w w') (hS : ∀ y ∈ S, y ∉ s.fp) (hT : ∀ y ∈ S, LT w y ∨ ∃ s', SIs w s' ∧ y ∈ s'.fp) : SIs w' s := by
  obtain ⟨h1, h2, h3, h4, h5⟩ := h
  have hx : s.x ∉ S := fun hm => hS _ hm (by rw [h1]; simp)
  refine ⟨h1, h2, h3, h4, ?_⟩
  split at h5
  · rename_i hc
    rw [if_pos hc]
    exact k.get h5 hx
  · rename_i hc
    rw [if_neg hc]
    obtain ⟨v, r, t, hr, ht, hf⟩ := h5
    refine ⟨v, r, t, hr.kept k hx fun y hy => ?_, ht, hf⟩
    rcases hT y hy with hl | ⟨s', hs', hm⟩
    · obtain ⟨ty, hty, hg⟩ := hl.tags
      obtain ⟨a1, a2, a3, _⟩ := law_out hty
      exact ⟨fun e => a1 (hg.ne e), not_TT hg a2 a3⟩
    · have hg := hs'.tag
      rw [hs'.1] at hm
      simp at hm
      rw [← hm] at hg
      exact ⟨fun e => by have := hg.ne e; revert this; decide, not_TT hg (by decide) (by decide)⟩
theorem SIs.k {w w' : World} {s : Sx} (h : SIs w s) (k : Kept [] w w') : SIs w' s := h.kept k (by simp) (by simp)
/-- the same store, behind a call -/
def Sx.to (s : Sx) (cl : Bool) (l : List Pr) : Sx := { s with cl := cl, l := l, mo := max s.mo l.length }
theorem aft_to {s : Sx} {L : List UInt8} {c wr t : Int} {w w' : World} {cl : Bool} {l : List Pr} (h : SIs w s) (hd : Dev w s.a s.g s.n L c wr t) (k : Kept [s.x] w w') (h' : SIs w' (s.to cl l)) : Aft SIs s (s.to cl l) L wr t w w' := by
  have h1 : s.a ∉ [s.x] := fun hm => by
    simp at hm
    have := h.tag.ne ⟨_, _, by rw [← hm]; exact hd.d⟩
    revert this; decide
  have h2 : s.g ∉ [s.x] := fun hm => by
    simp at hm
    have := h.tag.ne ⟨_, _, by rw [← hm]; exact hd.b⟩
    revert this; decide
  exact ⟨rfl, rfl, rfl, rfl, rfl, ⟨c, hd.kept k h1 h2⟩, h', k.mono (by rw [h.1]; simp), fun _ h => Or.inl h⟩
theorem aft_same {s : Sx} {L : List UInt8} {c wr t : Int} {w w' : World} (h : SIs w s) (hd : Dev w s.a s.g s.n L c wr t) (k : Kept [] w w') : Aft SIs s (s.to s.cl s.l) L wr t w w' :=
  aft_to h hd (k.mono (by simp)) (h.k k)
theorem fp_ok {w : World} {s : Sx} (h : SIs w s) : ∀ y ∈ s.fp, ∃ o, w.heap[y]? = some o ∧ ∀ cs t fr, o = .cells cs t fr → t ∉ lawTags := by
  intro y hy
  obtain ⟨cs, fr, hx⟩ := h.tag
  rw [h.1] at hy
  simp at hy
  subst hy
  refine ⟨_, hx, ?_⟩
  rintro cs' t' fr' e hm
  cases e
  exact (law_out hm).2.2.2 rfl
theorem chg_closed (k v : ByteArray) : chg true false k v = 5 := rfl
theorem chg_key {k v : ByteArray} (h : ¬ keyOk k) : chg false false k v = 1 := by
  unfold chg
  unfold keyOk at h
  rw [if_neg (by simp), if_neg (by simp), if_pos h]
theorem chg_value {k v : ByteArray} (h : keyOk k) (hv : ¬ v.size ≤ 12) : chg false false k v = 2 := by
  unfold chg
  unfold keyOk at h
  rw [if_neg (by simp), if_neg (by simp), if_neg (by simpa using h), if_pos (by omega)]
theorem chg_fine {k v : ByteArray} (h : keyOk k) (hv : v.size ≤ 12) : chg false false k v = 0 := by
  unfold chg
  unfold keyOk at h
  rw [if_neg (by simp), if_neg (by simp), if_neg (by simpa using h), if_neg (by omega)]
theorem with_len (k v : ByteArray) (l : List Pr) : (withL k v l).length ≤ l.length + 1 := by
  have key : ∀ (b : Bool) (l : List Pr), (withGo k v b l).length ≤ l.length + 1 := by
    intro b l
    induction l generalizing b with
    | nil => cases b <;> simp [withGo_nil]
    | cons p r ih =>
      cases b with
      | true => rw [withGo_true]; exact Nat.le_succ_of_le (List.length_filter_le _ _)
      | false =>
        have := ih false
        have h2 : (withGo k v true r).length ≤ r.length := by rw [withGo_true]; exact List.length_filter_le _ _
        rw [withGo_cons]
        cases bl p.1 k <;> cases be p.1 k <;> simp <;> omega
  exact key false l

theorem St_zero (N : Nat) (h : 1024 ≤ N) : St 0 (List.replicate N 0) := by
  have key : ∀ i, i ≤ 1 → (blockOf (List.replicate N 0) i).take 32 = List.replicate 32 0 := by
    intro i hi
    unfold blockOf
    rw [List.drop_replicate, List.take_replicate, List.take_replicate]
    congr 1
    omega
  exact Or.inl ⟨rfl, key 0 (by omega), key 1 (by omega)⟩
theorem TW_nil : TW ⟨0, ([] : List Pr)⟩ := ⟨⟨List.Pairwise.nil, fun p hp => by cases hp⟩, trivial, by decide, fun h => by cases h⟩
/-- the stores of this program -/
def stores : Iface where
  SI := SIs
  DS k L := 1024 ≤ L.length → St k L
  ds0 n h := St_zero (n * 128) (by rw [List.length_replicate] at h; exact h)
  fmt w a g n k L c wr t h h8 h4 hk hs := PFormat_of a w _ ((Format_fits a g n k L c wr t w h h8 h4 hk (hs (by have := h.l; omega))).mono fun e w' ⟨h1, h2, h3⟩ => ⟨_, h1, h1, h2.elim fun L' h => h.elim fun c' h => h.elim fun wr' h => ⟨L', c', wr', h.1, fun _ => h.2⟩, h3⟩)
  fmtNo w a g n L c wr t h hn := PFormat_of a w _ ((Format_no a n n _ _ c wr t w h.d hn).mono fun e w' ⟨err, h1, h2, _, h3⟩ => ⟨_, h1, err, h1, Tl.chain h2, h3⟩)
  opn w a g n k L c wr t h h8 h4 hk0 hk hs := POpen_of a w _ ((Open_fits a g n k L c wr t w h h8 h4 hk hk0 (hs (by have := h.l; omega))).mono fun e w' ⟨st, v, c', h1, h2, h3, h5, h6, h7⟩ =>
    ⟨_, _, h1, ⟨st, a, g, n, [st], false, [], 0⟩, h1, ⟨rfl, h8, h4, by simp, by
      rw [if_neg (by simp)]
      exact ⟨v, .nilIface, ⟨0, ([] : List Pr)⟩, ⟨h2, h3, Or.inl ⟨rfl, rfl⟩⟩, TW_nil, rfl⟩⟩, rfl, rfl, rfl, rfl, rfl, rfl, by simp; exact h5, ⟨c', h6⟩, h7⟩)
  opnNone w a g n L c wr t h h8 h4 hs := POpen_of a w _ ((Open_none a g n L c wr t w h h8 h4 (hs (by have := h.l; omega))).mono fun e w' ⟨err, h1, h2, h3, h5⟩ => ⟨_, _, h1, err, h1, Tl.chain h2, h3, h5⟩)
  opnNo w a g n L c wr t h hn := POpen_of a w _ ((Open_no a n n _ _ c wr t w h.d hn).mono fun e w' ⟨err, h1, h2, _, h3⟩ => ⟨_, _, h1, err, h1, Tl.chain h2, h3⟩)
  kept h k h1 h2 := SIs.kept h k h1 h2
  fp h := fp_ok h
  get w s L c wr t k h hd := by
    have h0 := h
    obtain ⟨_, _, _, _, hc⟩ := h0
    cases e : s.cl with
    | true =>
      rw [e, if_pos rfl] at hc
      refine (Get_closed s.x k w hc).mono ?_
      rintro _ w' ⟨err, rfl, h1, h2⟩
      exact ⟨_, _, _, err, rfl, aft_same h hd h2, by simp [Sx.to, e], rfl, by simp; exact Tl.chain h1⟩
    | false =>
      rw [e, if_neg (by simp)] at hc
      obtain ⟨v, r, tr, hr, ht, hf⟩ := hc
      by_cases hk : keyOk k
      · refine (Get_yes s.x v s.a s.n r tr k w hr ht hk).mono ?_
        rintro _ w' ⟨err, rfl, h1, h2⟩
        rw [hf]
        exact ⟨_, _, _, err, rfl, aft_same h hd h2, by simp [Sx.to, e], rfl, by simp [hk, h1]⟩
      · refine (Get_key s.x v s.a s.n r tr k w hr hk).mono ?_
        rintro _ w' ⟨err, rfl, h1, h2⟩
        exact ⟨_, _, _, err, rfl, aft_same h hd h2, by simp [Sx.to, e], rfl, by simp [hk]; exact Tl.chain h1⟩
  scan w s L c wr t lo hi m h hd := by
    have h0 := h
    obtain ⟨_, _, _, h10, hc⟩ := h0
    cases e : s.cl with
    | true =>
      rw [e, if_pos rfl] at hc
      refine (Scan_closed s.x lo hi m w hc).mono ?_
      rintro _ w' ⟨err, rfl, h1, h2⟩
      exact ⟨_, _, err, rfl, aft_same h hd h2, by simp [Sx.to, e], rfl, by simp; exact Tl.chain h1⟩
    | false =>
      rw [e, if_neg (by simp)] at hc
      obtain ⟨v, r, tr, hr, ht, hf⟩ := hc
      refine (Scan_open s.x v s.a s.n r tr lo hi m ht (by rw [hf]; exact h10) w hr).mono ?_
      rintro _ w' ⟨vv, rfl, h1, h2, h3⟩
      rw [hf] at h1
      exact ⟨_, vv, .nilIface, rfl, aft_same h hd h3, by simp [Sx.to, e], rfl, by simp; exact ⟨h1, h2⟩⟩
  put w s L c wr t k y h hd := by
    have h0 := h
    obtain ⟨hfp, h8, h4, h10, hc⟩ := h0
    cases e : s.cl with
    | true =>
      rw [e, if_pos rfl] at hc
      refine (Put_closed s.x k y w hc).mono ?_
      rintro _ w' ⟨err, rfl, ⟨h1, _⟩, h2⟩
      exact ⟨_, err, 5, rfl, aft_same h hd h2, by simp [Sx.to, e], Tl.chain h1, by rw [chg_closed, if_pos (by decide)]; exact ⟨rfl, rfl⟩⟩
    | false =>
      rw [e, if_neg (by simp)] at hc
      obtain ⟨v, r, tr, hr, ht, hf⟩ := hc
      by_cases hk : keyOk k
      · by_cases hy : y.size ≤ 12
        · obtain ⟨htw, hfl⟩ := chgT_ok (op_with k y hk hy) tr ht
          rw [hf] at hfl
          rw [chg_fine hk hy]
          have hcb := cntT_le _ htw
          have hwl := with_len k y s.l
          rw [hfl] at hcb
          by_cases hroom : (s.n - 2) / 2 < cntT (chgT (withL k y) k tr)
          · refine (Put_room s.x v s.a s.n r tr k y w hr ht hk hy h8 h4 (by omega) hroom).mono ?_
            rintro _ w' ⟨err, rfl, ⟨h1, _⟩, h2⟩
            have hno := no_room _ htw s.n s.mo h8 hroom
            rw [hfl] at hno
            exact ⟨_, err, 3, rfl, aft_same h hd h2, by simp [Sx.to, e], Tl.chain h1, by rw [if_neg (by simp)]; exact Or.inr ⟨rfl, rfl, hno⟩⟩
          · refine (Put_yes s.x v s.a s.n r tr k y w hr ht hk hy h8 h4 hroom).mono ?_
            rintro _ w' ⟨err, rfl, ⟨rfl, r', h1⟩, h2⟩
            have hfc := flatT_cnt _ htw
            rw [hfl] at hfc
            exact ⟨s.to false (withL k y s.l), .nilIface, 0, rfl, aft_to h hd h2 ⟨hfp, h8, h4, by show (withL k y s.l).length ≤ 10000; omega, by
              show (if false = true then _ else _)
              rw [if_neg (by simp)]
              exact ⟨v, r', _, h1, htw, hfl⟩⟩, rfl, Tl.nil _, by rw [if_neg (by simp)]; exact Or.inl ⟨rfl, rfl⟩⟩
        · rw [chg_value hk hy]
          refine (Put_value s.x v s.a s.n r tr k y w hr hk hy).mono ?_
          rintro _ w' ⟨err, rfl, ⟨h1, _⟩, h2⟩
          exact ⟨_, err, 2, rfl, aft_same h hd h2, by simp [Sx.to, e], Tl.chain h1, by rw [if_pos (by decide)]; exact ⟨rfl, rfl⟩⟩
      · rw [chg_key hk]
        refine (Put_key s.x v s.a s.n r tr k y w hr hk).mono ?_
        rintro _ w' ⟨err, rfl, ⟨h1, _⟩, h2⟩
        exact ⟨_, err, 1, rfl, aft_same h hd h2, by simp [Sx.to, e], Tl.chain h1, by rw [if_pos (by decide)]; exact ⟨rfl, rfl⟩⟩
  del w s L c wr t k h hd := by
    have h0 := h
    obtain ⟨hfp, h8, h4, h10, hc⟩ := h0
    cases e : s.cl with
    | true =>
      rw [e, if_pos rfl] at hc
      refine (Delete_closed s.x k w hc).mono ?_
      rintro _ w' ⟨err, rfl, ⟨h1, _⟩, h2⟩
      exact ⟨_, err, rfl, aft_same h hd h2, by simp [Sx.to, e], by rw [chg_closed, if_pos (by decide)]; exact ⟨Tl.chain h1, rfl⟩⟩
    | false =>
      rw [e, if_neg (by simp)] at hc
      obtain ⟨v, r, tr, hr, ht, hf⟩ := hc
      by_cases hk : keyOk k
      · obtain ⟨htw, hfl⟩ := chgT_ok (op_without k) tr ht
        rw [hf] at hfl
        rw [chg_fine hk (by decide)]
        refine (Delete_yes s.x v s.a s.n r tr k w hr ht hk).mono ?_
        rintro _ w' ⟨err, rfl, ⟨rfl, r', h1⟩, h2⟩
        have hle : (withoutL k s.l).length ≤ s.l.length := List.length_filter_le _ _
        exact ⟨s.to false (withoutL k s.l), .nilIface, rfl, aft_to h hd h2 ⟨hfp, h8, h4, by show (withoutL k s.l).length ≤ 10000; omega, by
          show (if false = true then _ else _)
          rw [if_neg (by simp)]
          exact ⟨v, r', _, h1, htw, hfl⟩⟩, rfl, by rw [if_neg (by simp)]; exact ⟨Tl.nil _, rfl⟩⟩
      · rw [chg_key hk]
        refine (Delete_key s.x v s.a s.n r tr k w hr hk).mono ?_
        rintro _ w' ⟨err, rfl, ⟨h1, _⟩, h2⟩
        exact ⟨_, err, rfl, aft_same h hd h2, by simp [Sx.to, e], by rw [if_pos (by decide)]; exact ⟨Tl.chain h1, rfl⟩⟩
  close w s L c wr t h hd := by
    have h0 := h
    obtain ⟨hfp, h8, h4, h10, hc⟩ := h0
    cases e : s.cl with
    | true =>
      rw [e, if_pos rfl] at hc
      refine (Close_no s.x w hc).mono ?_
      rintro _ w' ⟨err, rfl, ⟨h1, _⟩, h2⟩
      exact ⟨_, err, rfl, aft_same h hd h2, by simp [Sx.to, e], rfl, by simp; exact Tl.chain h1⟩
    | false =>
      rw [e, if_neg (by simp)] at hc
      obtain ⟨v, r, tr, hr, ht, hf⟩ := hc
      refine (Close_yes s.x v s.a s.n r tr w hr).mono ?_
      rintro _ w' ⟨err, rfl, ⟨rfl, h1⟩, h2⟩
      exact ⟨s.to true s.l, .nilIface, rfl, aft_to h hd h2 ⟨hfp, h8, h4, h10, by
        show (if true = true then _ else _)
        rw [if_pos rfl]
        exact h1⟩, rfl, rfl, by simp; exact Tl.nil _⟩
end Go.Proofs.YtloihcnbcknbnaaGreatDoor
