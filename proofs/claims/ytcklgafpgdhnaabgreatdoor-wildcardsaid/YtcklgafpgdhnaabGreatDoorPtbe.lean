import Derived.Test.YtcklgafpgdhnaabGreatDoorPtat
import Derived.Test.YtcklgafpgdhnaabGreatDoorPtbc
import Derived.Test.YtcklgafpgdhnaabGreatDoorPtbd
import Derived.Test.YtcklgafpgdhnaabGreatDoorPtaz
import Derived.Test.YtcklgafpgdhnaabGreatDoorPtaf
import Derived.Maps.OwnSet
import Derived.LoopN
set_option maxRecDepth 100000
set_option maxHeartbeats 4000000
open List renaming getElem_toArray → zA, getElem_cons_succ → zB, getElem_cons_zero → zC, setIfInBounds_toArray → zD, set_cons_succ → zE, set_cons_zero → zF
namespace Go.Proofs.YtcklgafpgdhnaabGreatDoor
open Go.RowKit

structure KA (A : Nat → Prop) (w w' : World) : Prop where
 size : w.heap.size ≤ w'.heap.size
 row : ∀ (y : Nat) (cs : Array Value) (t : TypeId) (fr : Nat × Nat), A y → t ∉ [65, 80, 82] → w.heap[y]? = some (.cells cs t fr) → w'.heap[y]? = some (.cells cs t fr)
theorem KA.refl (A : Nat → Prop) (w : World) : KA A w w := ⟨Nat.le_refl _, fun _ _ _ _ _ _ h => h⟩
theorem KA.trans {A : Nat → Prop} {a b c : World} (h : KA A a b) (g : KA A b c) : KA A a c := ⟨Nat.le_trans h.size g.size, fun y cs t fr hA ht hy => g.row y cs t fr hA ht (h.row y cs t fr hA ht hy)⟩
theorem KA.mono {A A' : Nat → Prop} {a b : World} (h : KA A a b) (hA : ∀ y, A' y → A y) : KA A' a b := ⟨h.size, fun y cs t fr ha ht hy => h.row y cs t fr (hA y ha) ht hy⟩
theorem KA.of {A : Nat → Prop} {S : List Nat} {w w' : World} (k : Kept S w w') (hS : ∀ y ∈ S, ¬ A y) : KA A w w' := ⟨k.size, fun y _ _ _ ha _ hy => k.get hy fun hm => hS y hm ha⟩
theorem KA.k0 {A : Nat → Prop} {w w' : World} (k : Kept [] w w') : KA A w w' := KA.of k (by simp)
theorem KA.new {A : Nat → Prop} {S : List Nat} {w w1 w' : World} (h : KA A w w1) (k : Kept S w1 w') (hS : ∀ y ∈ S, w.heap.size ≤ y) : KA A w w' :=
 ⟨Nat.le_trans h.size k.size, fun y cs t fr ha ht hy => k.get (h.row y cs t fr ha ht hy) fun hm => by have := hS y hm; have := lt_heap hy; omega⟩
theorem SL.ka {A : Nat → Prop} {w w' : World} {t : TypeId} {d : Nat} {v : Value} {es : List El} (h : SL w t d v es) (ht : t ∉ [65, 80, 82]) (hA : ∀ b, v.ownBlock = some b → A b) (k : KA A w w') : SL w' t d v es := by
 rcases h with h | ⟨g, off, cap, cur, rfl, hh, r⟩
 ·exact Or.inl h
 ·exact Or.inr ⟨g, off, cap, cur, rfl, k.row _ _ _ _ (hA g rfl) ht hh, r⟩
theorem ND.ka {A : Nat → Prop} {w w' : World} (k : KA A w w') : ∀ {h : Nat} {n : Nd h} {x : Value}, ND w A h n x → ND w' A h n x
 | 0, _, _, ⟨v, e, hl, hb⟩ => ⟨v, e, SL.ka hl (by decide) hb k, hb⟩
 | _ + 1, _, _, ⟨v, es, e, hl, hb, hf⟩ => ⟨v, es, e, SL.ka hl (by decide) hb k, hb, hf.mono fun _ _ _ hr => ⟨hr.1, ND.ka k hr.2⟩⟩
theorem ND.amono {A A' : Nat → Prop} {w : World} {h : Nat} {n : Nd h} {x : Value} (hx : ND w A h n x) (hA : ∀ y, A y → A' y) : ND w A' h n x := ND.kept (Kept.refl [] w) (by simp) hA hx

def CgR {α β σ : Type} (f : α → σ → Option (β × σ)) (Po : (Nat → Prop) → β → KE → World → Prop) (I : σ → World → Prop) (J : Bool → Ending → World → Prop) (s : σ) (a : α) (A : Nat → Prop) (W : World) (en : Ending) (W' : World) : Prop :=
 ((∃ b s' e', f a s = some (b, s') ∧ en = .returned (.agg #[.string e'.1, .int .i64 (e'.3 : Nat), e'.2]) ∧ Po (fun y => A y ∨ W.heap.size ≤ y) b e' W' ∧ I s' W') ∨ ∃ b, J b en W' ∧ (b = true → f a s = none)) ∧ KA Tru W W'
structure Cgr {α β σ : Type} (fid : FuncId) (c : Value) (f : α → σ → Option (β × σ)) (Pi : (Nat → Prop) → α → KE → World → Prop) (Po : (Nat → Prop) → β → KE → World → Prop) (I : σ → World → Prop) (J : Bool → Ending → World → Prop) (B : Nat) : Prop where
 en : ∀ (args : Array Value) (W : World), (callFunc fid args).run Tryz.prog W = .ok (.enter fid args) W
 call : ∀ (s : σ) (a : α) (e : KE) (A : Nat → Prop) (W : World), I s W → Pi A a e W → B ≤ W.heap.size → (∀ y, A y → y < W.heap.size) → Calls Tryz.prog fid #[.agg #[.string e.1, .int .i64 (e.3 : Nat), e.2], c] W (CgR f Po I J s a A W)
 fresh : ∀ (s : σ) (W W' : World) (S : List Nat), I s W → Kept S W W' → (∀ y ∈ S, B ≤ y ∧ Tg W y 75) → I s W'
 pika : ∀ (A : Nat → Prop) (a : α) (e : KE) (W W' : World), Pi A a e W → KA A W W' → Pi A a e W'
 poka : ∀ (A : Nat → Prop) (b : β) (e : KE) (W W' : World), Po A b e W → KA A W W' → Po A b e W'
 pomono : ∀ (A A' : Nat → Prop) (b : β) (e : KE) (W : World), Po A b e W → (∀ y, A y → A' y) → Po A' b e W
 pish : ∀ (A : Nat → Prop) (a : α) (e : KE) (W : World), Pi A a e W → e.2 = .nilIface ∨ ∃ t v, e.2 = .iface t v
 posh : ∀ (A : Nat → Prop) (b : β) (e : KE) (W : World), Po A b e W → ∃ t v, e.2 = .iface t v
 jp : ∀ (b : Bool) (en : Ending) (W : World), J b en W → ∃ c, en = .panicked c
def WthR {α β σ : Type} (f : α → σ → Option (β × σ)) (Po : (Nat → Prop) → β → KE → World → Prop) (I : σ → World → Prop) (J : Bool → Ending → World → Prop) (s : σ) (al : List α) (A : Nat → Prop) (w : World) (en : Ending) (W' : World) : Prop :=
 ((∃ bs s' v' ys, mapO f al s = some (bs, s') ∧ en = .returned (.iface 180 v') ∧ SL W' 75 3 v' (List.map ke ys) ∧ (∀ b, v'.ownBlock = some b → w.heap.size ≤ b) ∧ F2 (fun b e => Po (fun y => A y ∨ w.heap.size ≤ y) b e W') bs ys ∧ I s' W') ∨ ∃ b, J b en W' ∧ (b = true → mapO f al s = none)) ∧ KA Tru w W'

theorem fl_setE {d : Nat} {es : List El} (h : Wd d es) (j : Nat) (e : El) (hj : j < es.length) (he : e.length = d) : splice (fl es) (j * d) e = fl (es.set j e) := by
 have e1 : es.set j e = es.take j ++ e :: es.drop (j + 1) := by rw [List.set_eq_take_append_cons_drop, if_pos hj]
 rw [e1, fl_append, fl_cons]
 unfold splice
 rw [fl_take h, he, show j * d + d = (j + 1) * d by rw [Nat.add_mul]; omega, fl_drop h]
theorem zkid (w : World) : (Instr.alloc 75 true (.tuple #[])).run Tryz.prog w = .ok (.pointer (some ⟨w.heap.size, 0, none⟩)) (w.alloc (.cells #[.string ⟨#[]⟩, .int .i64 0, .nilIface] 75)) := by kernel_rfl
theorem one3f {r : Value} (f : ByteArray) (i : Int) (hr : r.oneCell' = true) : ∀ u ∈ [Value.string f, .int .i64 i, r], u.oneCell' = true := by
 intro u hu
 simp at hu
 rcases hu with rfl | rfl | rfl
 ·rfl
 ·rfl
 ·exact hr
theorem one_ke' {xs : List KE} (h : ∀ x ∈ xs, x.2 = .nilIface ∨ ∃ t v, x.2 = .iface t v) : One 3 (xs.map ke) := by
 intro e he
 obtain ⟨x, hx, rfl⟩ := List.mem_map.1 he
 rcases h x hx with hv | ⟨t, v, hv⟩ <;> exact ⟨rfl, by intro u hu; simp [ke, hv] at hu; rcases hu with rfl | rfl | rfl <;> rfl⟩
theorem wd_ke (xs : List KE) : Wd 3 (xs.map ke) := by
 intro e he
 obtain ⟨x, _, rfl⟩ := List.mem_map.1 he
 rfl
def WtI {α β σ : Type} (f : α → σ → Option (β × σ)) (Po : (Nat → Prop) → β → KE → World → Prop) (I : σ → World → Prop) (s : σ) (al : List α) (xs : List KE) (A : Nat → Prop) (w : World) (v2 : Value) (i : Value) (wr : World) : Prop :=
 ∃ (j : Nat) (bs : List β) (sj : σ) (ys : List KE), j ≤ xs.length ∧ i = .int .i64 j ∧ ys.length = j ∧ mapO f (al.take j) s = some (bs, sj) ∧ OW wr w.heap.size 75 3 v2 ((ys ++ xs.drop j).map ke) ∧ F2 (fun b e => Po (fun y => A y ∨ (w.heap.size ≤ y ∧ v2.ownBlock ≠ some y)) b e wr) bs ys ∧ I sj wr ∧ KA Tru w wr

theorem withB_any {α β σ : Type} {fid : FuncId} {c : Value} {f : α → σ → Option (β × σ)} {Pi : (Nat → Prop) → α → KE → World → Prop} {Po : (Nat → Prop) → β → KE → World → Prop} {I : σ → World → Prop} {J : Bool → Ending → World → Prop} {B : Nat} (hc : Cgr fid c f Pi Po I J B)
  (v : Value) (xs : List KE) (al : List α) (s : σ) (A : Nat → Prop) (w : World) (hl : SL w 75 3 v (xs.map ke)) (hA : ∀ y, A y → y < w.heap.size) (hvA : ∀ b, v.ownBlock = some b → A b) (hf : F2 (fun a e => Pi A a e w) al xs) (hI : I s w) (hB : B ≤ w.heap.size) (hlen : xs.length ≤ 1000) :
  Calls Tryz.prog 223 #[v, .func (.func fid) #[] #[c]] w (WthR f Po I J s al A w) := by
 obtain ⟨pv, cv, ev⟩ := hl.shape
 rw [List.length_map] at ev
 subst ev
 have hsh : ∀ x ∈ xs, x.2 = .nilIface ∨ ∃ t v, x.2 = .iface t v := by
  intro x hx
  obtain ⟨i, hi⟩ := List.mem_iff_getElem?.1 hx
  have hl : i < al.length := by rw [hf.1]; exact (List.getElem?_eq_some_iff.1 hi).1
  exact hc.pish _ _ _ _ (hf.2 i _ x (List.getElem?_eq_getElem hl) hi)
 have HCl : Hid (Calls _ _ _ _ _) := cloneK_any (.slice pv xs.length cv) (xs.map ke) w hl (one_ke' hsh) (by rw [List.length_map]; omega)
 have hen := hc.en
 have hlk : ∀ j wr, KA Tru w wr → j < xs.length → ∃ g off x a, pv = some ⟨g, off, none⟩ ∧ xs[j]? = some x ∧ al[j]? = some a ∧ Pi A a x wr ∧ (x.2 = .nilIface ∨ ∃ t v, x.2 = .iface t v) ∧ (loadVar 75 ⟨g, off + j * 3, none⟩).run Tryz.prog wr = .ok (.agg #[.string x.1, .int .i64 (x.3 : Nat), x.2]) wr := by
  intro j wr hk hj
  obtain ⟨g, off, cap, cur, e, hg, hc1, hc2, hc3, hcur⟩ := (SL.ka hl (by decide) hvA (hk.mono fun _ _ => trivial)).at_ (by rw [List.length_map]; omega)
  rw [List.length_map] at e
  cases e
  obtain ⟨x, hx⟩ : ∃ x, xs[j]? = some x := ⟨_, List.getElem?_eq_getElem hj⟩
  obtain ⟨a, ha⟩ : ∃ a, al[j]? = some a := ⟨_, List.getElem?_eq_getElem (by rw [hf.1]; exact hj)⟩
  refine ⟨g, off, x, a, rfl, hx, ha, hc.pika _ _ _ _ _ (hf.2 j a x ha hx) (hk.mono fun _ _ => trivial), hsh x (List.mem_of_getElem? hx), ?_⟩
  exact load2 (P := Tryz.prog) (ty := 75) _ hg (hcur j (ke x) (by rw [List.getElem?_map, hx]; rfl)) Tryz.underlying75 stk
 have HLk : Hid _ := hlk
 have HI : Hid (I s w) := hI
 have HC : Hid (Cgr fid c f Pi Po I J B) := hc
 have hal := hf.1
 clear hlk hI hf hl hc hvA hsh
 go_enter Tryz.func223, Tryz.ntmps223
 go_wp2_with (go_at_call 226; refine HCl.out.mono ?_; rintro e w2 ⟨v2, rfl, ho2, hk2⟩; obtain ⟨p2, c2, ev2⟩ := owns_slice ho2.1; rw [List.length_map] at ev2; subst ev2)
 have HO2 : Hid _ := ho2
 clear ho2
 go_loopw [12] (fun i wr => WtI f Po I s al xs A w (.slice p2 xs.length c2) i wr) (fun i _ => xs.length - (intOf i).toNat)
 case atStart =>
  refine ⟨0, [], s, [], Nat.zero_le _, rfl, rfl, rfl, HO2.out, F2.nil, HC.out.fresh _ _ _ [] HI.out hk2 (by simp), KA.k0 hk2⟩
 case round =>
  obtain ⟨j, bs, sj, ys, hj, rfl, hyl, hmo, how, hpo, hIj, hKw⟩ := hrel
  by_cases hlt : j < xs.length
  ·have hlt' : (j : Int) < (xs.length : Int) := by omega
   obtain ⟨g, off, x, a, epv, hx, ha, hpi, hsx, hld⟩ := HLk.out j wr hKw hlt
   subst epv
   have hx1 : x.2.oneCell' = true := by rcases hsx with e | ⟨_, _, e⟩ <;> rw [e] <;> rfl
   have HCall : Hid (∀ W, Kept [] wr W → Calls Tryz.prog fid #[.agg #[.string x.1, .int .i64 (x.3 : Nat), x.2], c] W (CgR f Po I J sj a A W)) := fun W hk => HC.out.call sj a x A W (HC.out.fresh _ _ _ [] hIj hk (by simp)) (HC.out.pika _ _ _ _ _ hpi (KA.k0 hk)) (by have := hKw.size; have := hk.size; omega) (fun y hy => by have := hA y hy; have := hKw.size; have := hk.size; omega)
   obtain ⟨g2, cap2, cur2, ev2, hB2, hg2, hd1, hd2, hd3, htk2⟩ := how.open (by rw [List.length_map, List.length_append, List.length_drop]; omega)
   have hml : ((ys ++ xs.drop j).map ke).length = xs.length := by rw [List.length_map, List.length_append, List.length_drop]; omega
   rw [hml] at ev2 hd1 htk2
   cases ev2
   have HPo : Hid (F2 _ _ _) := hpo
   clear hsx hpi hpo how hIj HLk HO2
   go_wp2_with (first
    | (refine wpList_val rfl _ _ (exec_index 180 (.tmp 10) (.tmp 12) rfl g off xs.length cv j 3 rfl rfl 75 Tryz.underlying180 stk hlt (off + j * 3) rfl) ?_)
    | (refine wpList_load_seg rfl 75 (.tmp 15) rfl ⟨g, off + j * 3, none⟩ rfl _ hld ?_)
    | (refine wpList_alloc_d rfl 7 rfl 75 rfl _ (zkid _) ?_; intro w3 n3 k3 hs3)
    | (refine wpList_store_k rfl 75 (.tmp 7) (.tmp 16) rfl wr.heap.size #[.string x.1, .int .i64 (x.3 : Nat), x.2] rfl rfl 75 _ n3 stk rfl (all_of (one3f _ _ hx1)) ?_; intro w4 n4 k4)
    | (refine wpList_load_row rfl 75 (.tmp 7) rfl wr.heap.size rfl 75 #[.string x.1, .int .i64 (x.3 : Nat), x.2] (0, 0) _ n4 Tryz.underlying75 rfl stk ?_))
   have K4 : Kept [] wr w4 := k3.trans2 k4 (by intro y hy; simp at hy; subst hy; exact Or.inr (Nat.le_refl _))
   have hg4 : Rw w4 g2 75 cur2 := hg2.kept K4 (by simp)
   refine (HCall.out w4 K4).mono ?_
   rintro e w5 ⟨⟨b, s', e', hfa, rfl, hpo', hI'⟩ | ⟨b, hJ, hb⟩, hKA5⟩
   ·have hg5 : Rw w5 g2 75 cur2 := hKA5.row _ _ _ _ trivial (by decide) hg4
    obtain ⟨te, ve, ee⟩ := HC.out.posh _ _ _ _ hpo'
    have ho' : e'.2.oneCell' = true := by rw [ee]; rfl
    have hcl : j * 3 + 3 ≤ cur2.length := by rw [hd3]; omega
    have hst := run_storeVar_seg (P := Tryz.prog) w5 g2 (j * 3) 75 75 cur2 (ke e') hg5 (by rw [stk]; rfl) (by show j * 3 + 3 ≤ cur2.length; exact hcl) (one3f _ _ ho')
    have k6 : Kept [g2] w5 (w5.setRow g2 (splice cur2 (j * 3) (ke e')).toArray) := (Kept.refl _ _).setRow (Or.inl (by simp)) _
    have hg6 : Rw (w5.setRow g2 (splice cur2 (j * 3) (ke e')).toArray) g2 75 (splice cur2 (j * 3) (ke e')) := setRow_heap _ _ _ _ _ _ hg5
    have HE : Hid (_ ∧ _) := ⟨hpo', hI'⟩
    clear hpo' hI' ee
    generalize w5.setRow g2 (splice cur2 (j * 3) (ke e')).toArray = w6 at *
    have hst' : (storeVar 75 ⟨g2, j * 3, none⟩ (.agg #[.string e'.1, .int .i64 (e'.3 : Nat), e'.2])).run Tryz.prog w5 = .ok () w6 := hst
    go_wp2_with (first
     | (refine wpList_val rfl _ _ (exec_index 180 (.tmp 17) (.tmp 18) rfl g2 0 xs.length c2 j 3 rfl rfl 75 Tryz.underlying180 stk hlt (j * 3) (by omega)) ?_)
     | (refine wpList_skip rfl _ (exec_store 75 (.tmp 22) (.tmp 21) rfl ⟨g2, j * 3, none⟩ rfl _ rfl hst') ?_))
    have hw5 : wr.heap.size ≤ w5.heap.size := Nat.le_trans K4.size hKA5.size
    have hKr4 := K4.size
    have hg2r := lt_heap hg2
    have hset : (ys ++ xs.drop j).set j e' = (ys ++ [e']) ++ xs.drop (j + 1) := by
     have hd : xs.drop j = xs[j] :: xs.drop (j + 1) := List.drop_eq_getElem_cons hlt
     rw [List.set_append_right _ _ (by omega), hyl, Nat.sub_self, hd, zF, List.append_assoc]
     rfl
    have htk6 : (splice cur2 (j * 3) (ke e')).take (xs.length * 3) = fl (((ys ++ [e']) ++ xs.drop (j + 1)).map ke) := by
     rw [take_splice htk2 (by show j * 3 + 3 ≤ xs.length * 3; omega) (by rw [hd3]; exact Nat.mul_le_mul_right 3 hd1), fl_setE (wd_ke _) j (ke e') (by rw [hml]; exact hlt) rfl, ← List.map_set, hset]
    have hl6 : (splice cur2 (j * 3) (ke e')).length = c2 * 3 := by rw [length_splice _ _ _ (by show j * 3 + 3 ≤ cur2.length; exact hcl), hd3]
    have hA6 : KA (fun y => A y ∨ (w.heap.size ≤ y ∧ (Value.slice (some ⟨g2, 0, none⟩) xs.length c2).ownBlock ≠ some y)) w5 w6 := KA.of k6 (by
     intro y hy
     simp at hy
     subst hy
     rintro (h1 | ⟨_, h1⟩)
     ·have := hA y h1; omega
     ·exact h1 rfl)
    go_roundw
    case rel =>
     refine ⟨j + 1, bs ++ [b], s', ys ++ [e'], by omega, by go_num, by simp [hyl], ?_, ?_, ?_, HC.out.fresh _ _ _ [g2] HE.out.2 k6 (by intro y hy; simp at hy; subst hy; exact ⟨by omega, _, _, hg5⟩), ?_⟩
     ·rw [take_snoc al j a ha, mapO_snoc, hmo]
      simp only [hfa]
     ·exact OW.close (wd_ke _) hB2 hg6 (by rw [List.length_map, List.length_append, List.length_append, List.length_drop]; simp; omega) hd1 hd2 hl6 htk6
     ·refine F2.append (HPo.out.mono fun b' _ e'' hp => HC.out.poka _ _ _ _ _ (HC.out.poka _ _ _ _ _ (HC.out.poka _ _ _ _ _ hp (KA.k0 K4)) (hKA5.mono fun _ _ => trivial)) hA6) (F2.one (HC.out.poka _ _ _ _ _ (HC.out.pomono _ _ _ _ _ HE.out.1 ?_) hA6))
      rintro y (h1 | h1)
      ·exact Or.inl h1
      ·refine Or.inr ⟨by have := hKw.size; omega, ?_⟩
       intro e
       simp [Value.ownBlock] at e
       omega
     ·exact ((hKw.trans (KA.k0 K4)).trans hKA5).new k6 (by intro y hy; simp at hy; subst hy; exact hB2)
    case measure => simp [intOf]; omega
   ·obtain ⟨ch, rfl⟩ := HC.out.jp _ _ _ hJ
    refine ⟨rfl, Or.inr ⟨b, hJ, fun hbt => ?_⟩, (hKw.trans (KA.k0 K4)).trans hKA5⟩
    have e : al = al.take j ++ (a :: al.drop (j + 1)) := by
     have hj' := (List.getElem?_eq_some_iff.1 ha)
     conv => lhs; rw [← List.take_append_drop j al, List.drop_eq_getElem_cons hj'.1, hj'.2]
    rw [e]
    exact mapO_break f _ _ a s sj bs hmo (hb hbt)
  ·have hge : ¬ (j : Int) < (xs.length : Int) := by omega
   have ej : j = xs.length := by omega
   subst ej
   have HF : Hid (F2 _ _ _) := hpo
   have HIj : Hid (I sj wr) := hIj
   have HOw : Hid (OW _ _ _ _ _ _) := how
   clear hpo hIj how HLk HO2
   go_wp2
   go_ret
   rw [← hal, List.take_length] at hmo
   refine ⟨Or.inl ⟨bs, sj, _, ys, hmo, rfl, ?_, ?_, HF.out.mono fun b _ e hp => HC.out.pomono _ _ _ _ _ hp fun y hy => hy.imp id fun h => h.1, HIj.out⟩, hKw⟩
   ·have := HOw.out.sl
    rw [List.drop_length, List.append_nil] at this
    exact this
   ·intro y hy
    exact (HOw.out.1.lt y hy).1

end Go.Proofs.YtcklgafpgdhnaabGreatDoor

namespace Go.Proofs.YtcklgafpgdhnaabGreatDoor
open Go.RowKit

def SpM (w : World) (b : Nat) (us : List Nat) : Prop :=
 ∃ (m : Nat) (D : DataW Unit), w.ownsMap Tryz.prog 3 unitElem b m D ∧ m ≤ us.length ∧ ∀ i : Nat, Maps.has D (.int .i64 i) = decide (i ∈ us)
theorem SpM.kept {S : List Nat} {w w' : World} {b : Nat} {us : List Nat} (h : SpM w b us) (k : Kept S w w') (hb : b ∉ S) : SpM w' b us := by
 obtain ⟨m, D, h1, h2⟩ := h
 refine ⟨m, D, ?_, h2⟩
 have hlt := h1.lt
 obtain ⟨es, clock, hh, r⟩ := h1
 exact ⟨es, clock, by rw [k.block b hlt hb]; exact hh, r⟩
theorem SpM.lt {w : World} {b : Nat} {us : List Nat} (h : SpM w b us) : b < w.heap.size := by
 obtain ⟨m, D, h1, _⟩ := h
 exact h1.lt
theorem SpM.ne {w : World} {b : Nat} {us : List Nat} (h : SpM w b us) {y : Nat} {cs : Array Value} {t : TypeId} {fr : Nat × Nat} (hy : w.heap[y]? = some (.cells cs t fr)) : y ≠ b := by
 rintro rfl
 obtain ⟨m, D, ⟨es, clock, hh, _⟩, _⟩ := h
 rw [hy] at hh
 cases hh
theorem kl : Maps.Keyed Tryz.prog 3 := Maps.int_keyed Tryz.underlying3
theorem kwf (i : Nat) (hi : i < 70000) : keyOf Tryz.prog 3 (.int .i64 (i : Int)) = some (.int .i64 i) := Maps.keyOf_int_mk Tryz.underlying3 (by simp [Lit.wf, show IntKind.i64.min = -9223372036854775808 from rfl, show IntKind.i64.max = 9223372036854775807 from rfl]; omega)
theorem zunit (w : World) : (zeroValue 154).run Tryz.prog w = .ok (.agg #[]) w := by kernel_rfl
theorem SpM.made (w : World) : SpM (w.alloc (.map #[] 0)) w.heap.size [] :=
 ⟨0, .map [], World.ownsMap_made w _ _ _, Nat.le_refl _, fun i => by simp [Maps.has]⟩
theorem SpM.look {w : World} {b : Nat} {us : List Nat} (h : SpM w b us) (i : Nat) (hi : i < 70000) : (Instr.lookup 106 (.map (some b)) (.int .i64 (i : Int)) true).run Tryz.prog w = .ok (.tuple #[.agg #[], .bool (decide (i ∈ us))]) w := by
 obtain ⟨m, D, h1, h2, h3⟩ := h
 obtain ⟨v, ps, hr, hv⟩ := h1.look_ok kl Tryz.underlying106 (zunit w) unitElem_mk (kwf i hi)
 obtain ⟨rfl, _⟩ := unitElem_inv hv
 rw [← h3 i]
 exact hr
theorem SpM.put {w : World} {b : Nat} {us : List Nat} (h : SpM w b us) (i : Nat) (hi : i < 70000) (hl : us.length < 70000) : ∃ w', (Instr.mapUpdate 106 (.map (some b)) (.int .i64 (i : Int)) (.agg #[])).run Tryz.prog w = .ok () w' ∧ SpM w' b (i :: us) ∧ Kept [b] w w' := by
 obtain ⟨m, D, h1, h2, h3⟩ := h
 obtain ⟨w', hr, ho, ht⟩ := h1.store kl Tryz.underlying106 (by unfold maxLen; omega) (kwf i hi) unitElem_mk
 refine ⟨w', hr, ⟨m + 1, _, ho, by simp; omega, ?_⟩, ?_⟩
 ·intro j
  by_cases e : j = i
  ·subst e
   rw [Maps.has_put_same h1.isMap (by simp [WideAt.IsKeyLit])]
   simp
  ·rw [Maps.has_put_other (by simpa using fun h => e (by omega))]
   rw [h3 j]
   simp [e]
 ·exact grown_kept ht.grown [b] (by intro y hy; cases hy; simp)

theorem sspace : (Tryz.prog.info? 108).map (·.size) = some 2 := by kernel_rfl
def spv (n b : Nat) : Array Value := #[.int .i64 n, .map (some b)]

theorem inUse_any (n b : Nat) (us : List Nat) (i : Nat) (w : World) (h : SpM w b us) (hi : i < 70000) :
  Calls Tryz.prog 92 #[.agg #[.int .i64 n, .map (some b)], .int .i64 i] w fun e w' => e = .returned (.bool (decide (i ∈ us))) ∧ Kept [] w w' := by
 have k1 := (Kept.refl [] w).alloc (.cells #[.int .i64 n, .map (some b)] 108)
 have hl := (h.kept k1 (by simp)).look i hi
 go_enter Tryz.func92, Tryz.ntmps92
 go_wp2
 go_ret
 exact ⟨rfl, ((Kept.refl _ _).alloc _).alloc _⟩

end Go.Proofs.YtcklgafpgdhnaabGreatDoor
