import Derived.Test.YtcklgafpgdhnaabGreatDoorPqao
import Derived.Test.YtcklgafpgdhnaabGreatDoorPqaw
import Derived.Test.YtcklgafpgdhnaabGreatDoorPqaq
set_option maxRecDepth 100000
set_option maxHeartbeats 4000000
open Go.Proofs.Tryz
open List renaming set_cons_zero → zF
namespace Go.Proofs.YtcklgafpgdhnaabGreatDoor
open Go.RowKit
structure KA (A : Nat -> Prop) (w w' : World) : Prop where
 size : w.heap.size <= w'.heap.size
 row : ∀ (y : Nat) (cs : Array Value) (t : TypeId) (fr : Nat × Nat), A y -> t ∉ [65, 80, 82] -> w.heap[y]? = some (.cells cs t fr) -> w'.heap[y]? = some (.cells cs t fr)
theorem KA.refl (A : Nat -> Prop) (w : World) : KA A w w := ⟨Nat.le_refl _, fun _ _ _ _ _ _ h => h⟩
theorem KA.trans {A : Nat -> Prop} {a b c : World} (h : KA A a b) (g : KA A b c) : KA A a c := ⟨Nat.le_trans h.size g.size, fun y cs t fr hA ht hy => g.row y cs t fr hA ht (h.row y cs t fr hA ht hy)⟩
theorem KA.mono {A A' : Nat -> Prop} {a b : World} (h : KA A a b) (hA : ∀ y, A' y -> A y) : KA A' a b := ⟨h.size, fun y cs t fr ha ht hy => h.row y cs t fr (hA y ha) ht hy⟩
theorem KA.of {A : Nat -> Prop} {S : List Nat} {w w' : World} (k : y5 S w w') (hS : ∀ y ∈ S, ¬ A y) : KA A w w' := ⟨k.size, fun y _ _ _ ha _ hy => k.get hy fun hm => hS y hm ha⟩
theorem KA.k0 {A : Nat -> Prop} {w w' : World} (k : y5 [] w w') : KA A w w' := KA.of k (by simp)
theorem KA.new {A : Nat -> Prop} {S : List Nat} {w w1 w' : World} (h : KA A w w1) (k : y5 S w1 w') (hS : ∀ y ∈ S, w.heap.size <= y) : KA A w w' :=
 ⟨Nat.le_trans h.size k.size, fun y cs t fr ha ht hy => k.get (h.row y cs t fr ha ht hy) fun hm => by have := hS y hm; have := yt hy; omega⟩
theorem SL.ka {A : Nat -> Prop} {w w' : World} {t : TypeId} {d : Nat} {v : Value} {es : List El} (h : SL w t d v es) (ht : t ∉ [65, 80, 82]) (hA : ∀ b, v.ownBlock = some b -> A b) (k : KA A w w') : SL w' t d v es := by
 rcases h with h | ⟨g, off, cap, cur, rfl, hh, r⟩
 ·exact Or.inl h
 ·exact Or.inr ⟨g, off, cap, cur, rfl, k.row _ _ _ _ (hA g rfl) ht hh, r⟩
theorem ND.ka {A : Nat -> Prop} {w w' : World} (k : KA A w w') : ∀ {h : Nat} {n : Nd h} {x : Value}, ND w A h n x -> ND w' A h n x
 | 0, _, _, ⟨v, e, hl, hb⟩ => ⟨v, e, SL.ka hl (by decide) hb k, hb⟩
 | _ + 1, _, _, ⟨v, es, e, hl, hb, hf⟩ => ⟨v, es, e, SL.ka hl (by decide) hb k, hb, hf.mono fun _ _ _ hr => ⟨hr.1, ND.ka k hr.2⟩⟩
theorem ND.amono {A A' : Nat -> Prop} {w : World} {h : Nat} {n : Nd h} {x : Value} (hx : ND w A h n x) (hA : ∀ y, A y -> A' y) : ND w A' h n x := ND.kept (y5.refl [] w) (by simp) hA hx
def CgR {α β σ : Type} (f : α -> σ -> Option (β × σ)) (Po : (Nat -> Prop) -> β -> KE -> World -> Prop) (I : σ -> World -> Prop) (J : Bool -> Ending -> World -> Prop) (s : σ) (a : α) (A : Nat -> Prop) (W : World) (en : Ending) (W' : World) : Prop :=
 ((∃ b s' e', f a s = some (b, s') /\ en = .returned (.agg #[.string e'.1, .int .i64 (e'.3 : Nat), e'.2]) /\ Po (fun y => A y \/ W.heap.size <= y) b e' W' /\ I s' W') \/ ∃ b, J b en W' /\ (b = true -> f a s = none)) /\ KA Tru W W'
structure Cgr {α β σ : Type} (fid : FuncId) (c : Value) (f : α -> σ -> Option (β × σ)) (Pi : (Nat -> Prop) -> α -> KE -> World -> Prop) (Po : (Nat -> Prop) -> β -> KE -> World -> Prop) (I : σ -> World -> Prop) (J : Bool -> Ending -> World -> Prop) (B : Nat) : Prop where
 en : ∀ (args : Array Value) (W : World), (callFunc fid args).run prog W = .ok (.enter fid args) W
 call : ∀ (s : σ) (a : α) (e : KE) (A : Nat -> Prop) (W : World), I s W -> Pi A a e W -> B <= W.heap.size -> (∀ y, A y -> y < W.heap.size) -> Calls prog fid #[.agg #[.string e.1, .int .i64 (e.3 : Nat), e.2], c] W (CgR f Po I J s a A W)
 fresh : ∀ (s : σ) (W W' : World) (S : List Nat), I s W -> y5 S W W' -> (∀ y ∈ S, B <= y /\ Tg W y 75) -> I s W'
 pika : ∀ (A : Nat -> Prop) (a : α) (e : KE) (W W' : World), Pi A a e W -> KA A W W' -> Pi A a e W'
 poka : ∀ (A : Nat -> Prop) (b : β) (e : KE) (W W' : World), Po A b e W -> KA A W W' -> Po A b e W'
 pomono : ∀ (A A' : Nat -> Prop) (b : β) (e : KE) (W : World), Po A b e W -> (∀ y, A y -> A' y) -> Po A' b e W
 pish : ∀ (A : Nat -> Prop) (a : α) (e : KE) (W : World), Pi A a e W -> e.2 = .nilIface \/ ∃ t v, e.2 = .iface t v
 posh : ∀ (A : Nat -> Prop) (b : β) (e : KE) (W : World), Po A b e W -> ∃ t v, e.2 = .iface t v
 jp : ∀ (b : Bool) (en : Ending) (W : World), J b en W -> ∃ c, en = .panicked c
def WthR {α β σ : Type} (f : α -> σ -> Option (β × σ)) (Po : (Nat -> Prop) -> β -> KE -> World -> Prop) (I : σ -> World -> Prop) (J : Bool -> Ending -> World -> Prop) (s : σ) (al : List α) (A : Nat -> Prop) (w : World) (en : Ending) (W' : World) : Prop :=
 ((∃ bs s' v' ys, gP f al s = some (bs, s') /\ en = .returned (.iface 180 v') /\ SL W' 75 3 v' (List.map ke ys) /\ (∀ b, v'.ownBlock = some b -> w.heap.size <= b) /\ F2 (fun b e => Po (fun y => A y \/ w.heap.size <= y) b e W') bs ys /\ I s' W') \/ ∃ b, J b en W' /\ (b = true -> gP f al s = none)) /\ KA Tru w W'
theorem Q7D {d : Nat} {es : List El} (h : Wd d es) (j : Nat) (e : El) (hj : j < es.length) (he : e.length = d) : splice (fl es) (j * d) e = fl (es.set j e) := by
 have e1 : es.set j e = es.take j ++ e :: es.drop (j + 1) := by rw [List.set_eq_take_append_cons_drop, if_pos hj]
 rw [e1, yW, jq]
 unfold splice
 rw [Q04 h, he, show j * d + d = (j + 1) * d by rw [Nat.add_mul]; omega, Q05 h]
theorem jP (w : World) : (Instr.alloc 75 true (.tuple #[])).run prog w = .ok (.pointer (some ⟨w.heap.size, 0, none⟩)) (w.alloc (.cells #[.string ⟨#[]⟩, .int .i64 0, .nilIface] 75)) := by kernel_rfl
theorem qQ {r : Value} (f : ByteArray) (i : Int) (hr : r.oneCell' = true) : ∀ u ∈ [Value.string f, .int .i64 i, r], u.oneCell' = true := by
 intro u hu
 simp at hu
 rcases hu with rfl | rfl | rfl
 ·rfl
 ·rfl
 ·exact hr
theorem Q7E {xs : List KE} (h : ∀ x ∈ xs, x.2 = .nilIface \/ ∃ t v, x.2 = .iface t v) : One 3 (xs.map ke) := by
 intro e he
 obtain ⟨x, hx, rfl⟩ := List.mem_map.1 he
 rcases h x hx with hv | ⟨t, v, hv⟩ <;> exact ⟨rfl, by intro u hu; simp [ke, hv] at hu; rcases hu with rfl | rfl | rfl <;> rfl⟩
theorem Q7F (xs : List KE) : Wd 3 (xs.map ke) := by
 intro e he
 obtain ⟨x, _, rfl⟩ := List.mem_map.1 he
 rfl
def WtI {α β σ : Type} (f : α -> σ -> Option (β × σ)) (Po : (Nat -> Prop) -> β -> KE -> World -> Prop) (I : σ -> World -> Prop) (s : σ) (al : List α) (xs : List KE) (A : Nat -> Prop) (w : World) (v2 : Value) (i : Value) (wr : World) : Prop :=
 ∃ (j : Nat) (bs : List β) (sj : σ) (ys : List KE), j <= xs.length /\ i = .int .i64 j /\ ys.length = j /\ gP f (al.take j) s = some (bs, sj) /\ OW wr w.heap.size 75 3 v2 ((ys ++ xs.drop j).map ke) /\ F2 (fun b e => Po (fun y => A y \/ (w.heap.size <= y /\ v2.ownBlock ≠ some y)) b e wr) bs ys /\ I sj wr /\ KA Tru w wr
theorem Q7G {α β σ : Type} {fid : FuncId} {c : Value} {f : α -> σ -> Option (β × σ)} {Pi : (Nat -> Prop) -> α -> KE -> World -> Prop} {Po : (Nat -> Prop) -> β -> KE -> World -> Prop} {I : σ -> World -> Prop} {J : Bool -> Ending -> World -> Prop} {B : Nat} (hc : Cgr fid c f Pi Po I J B)
  (v : Value) (xs : List KE) (al : List α) (s : σ) (A : Nat -> Prop) (w : World) (hl : SL w 75 3 v (xs.map ke)) (hA : ∀ y, A y -> y < w.heap.size) (hvA : ∀ b, v.ownBlock = some b -> A b) (hf : F2 (fun a e => Pi A a e w) al xs) (hI : I s w) (hB : B <= w.heap.size) (hlen : xs.length <= 1000) :
  Calls prog 223 #[v, .func (.func fid) #[] #[c]] w (WthR f Po I J s al A w) := by
 obtain ⟨pv, cv, ev⟩ := hl.shape
 rw [List.length_map] at ev
 subst ev
 have hsh : ∀ x ∈ xs, x.2 = .nilIface \/ ∃ t v, x.2 = .iface t v := by
  intro x hx
  obtain ⟨i, hi⟩ := List.mem_iff_getElem?.1 hx
  have hl : i < al.length := by rw [hf.1]; exact (List.getElem?_eq_some_iff.1 hi).1
  exact hc.pish _ _ _ _ (hf.2 i _ x (List.getElem?_eq_getElem hl) hi)
 have HCl : Hid (Calls _ _ _ _ _) := Q3E (.slice pv xs.length cv) (xs.map ke) w hl (Q7E hsh) (by rw [List.length_map]; omega)
 have hen := hc.en
 have hlk : ∀ j wr, KA Tru w wr -> j < xs.length -> ∃ g off x a, pv = some ⟨g, off, none⟩ /\ xs[j]? = some x /\ al[j]? = some a /\ Pi A a x wr /\ (x.2 = .nilIface \/ ∃ t v, x.2 = .iface t v) /\ (loadVar 75 ⟨g, off + j * 3, none⟩).run prog wr = .ok (.agg #[.string x.1, .int .i64 (x.3 : Nat), x.2]) wr := by
  intro j wr hk hj
  obtain ⟨g, off, cap, cur, e, hg, hc1, hc2, hc3, hcur⟩ := (SL.ka hl (by decide) hvA (hk.mono fun _ _ => trivial)).at_ (by rw [List.length_map]; omega)
  rw [List.length_map] at e
  cases e
  obtain ⟨x, hx⟩ : ∃ x, xs[j]? = some x := ⟨_, List.getElem?_eq_getElem hj⟩
  obtain ⟨a, ha⟩ : ∃ a, al[j]? = some a := ⟨_, List.getElem?_eq_getElem (by rw [hf.1]; exact hj)⟩
  refine ⟨g, off, x, a, rfl, hx, ha, hc.pika _ _ _ _ _ (hf.2 j a x ha hx) (hk.mono fun _ _ => trivial), hsh x (List.mem_of_getElem? hx), ?_⟩
  exact gG (P := prog) (ty := 75) _ hg (hcur j (ke x) (by rw [List.getElem?_map, hx]; rfl)) underlying75 stk
 have HLk : Hid _ := hlk
 have HI : Hid (I s w) := hI
 have HC : Hid (Cgr fid c f Pi Po I J B) := hc
 have hal := hf.1
 clear hlk hI hf hl hc hvA hsh
 go_enter func223, ntmps223
 go_wp2_with (go_at_call 226; refine HCl.out.mono ?_; rintro e w2 ⟨v2, rfl, ho2, hk2⟩; obtain ⟨p2, c2, ev2⟩ := qF ho2.1; rw [List.length_map] at ev2; subst ev2)
 have HO2 : Hid _ := ho2
 clear ho2
 go_loopw [12] (fun i wr => WtI f Po I s al xs A w (.slice p2 xs.length c2) i wr) (fun i _ => xs.length - (intOf i).toNat)
 case atStart =>
  refine ⟨0, [], s, [], Nat.zero_le _, rfl, rfl, rfl, HO2.out, F2.nil, HC.out.fresh _ _ _ [] HI.out hk2 (by simp), KA.k0 hk2⟩
 case round =>
  obtain ⟨j, bs, sj, ys, hj, rfl, hyl, hmo, how, hpo, hIj, hKw⟩ := hrel
  by_cases hlt : j < xs.length
  ·have hlt' : (j : Int) < (xs.length : Int) := by omega
   obtain ⟨g, off, x, a, epv, hx, ha, hpi, hsx, hld⟩ := HLk.out j wr hKw hlt
   subst epv
   have hx1 : x.2.oneCell' = true := by rcases hsx with e | ⟨_, _, e⟩ <;> rw [e] <;> rfl
   have HCall : Hid (∀ W, y5 [] wr W -> Calls prog fid #[.agg #[.string x.1, .int .i64 (x.3 : Nat), x.2], c] W (CgR f Po I J sj a A W)) := fun W hk => HC.out.call sj a x A W (HC.out.fresh _ _ _ [] hIj hk (by simp)) (HC.out.pika _ _ _ _ _ hpi (KA.k0 hk)) (by have := hKw.size; have := hk.size; omega) (fun y hy => by have := hA y hy; have := hKw.size; have := hk.size; omega)
   obtain ⟨g2, cap2, cur2, ev2, hB2, hg2, hd1, hd2, hd3, htk2⟩ := how.open (by rw [List.length_map, List.length_append, List.length_drop]; omega)
   have hml : ((ys ++ xs.drop j).map ke).length = xs.length := by rw [List.length_map, List.length_append, List.length_drop]; omega
   rw [hml] at ev2 hd1 htk2
   cases ev2
   have HPo : Hid (F2 _ _ _) := hpo
   clear hsx hpi hpo how hIj HLk HO2
   go_wp2_with (first
    | (refine y8 rfl _ _ (ya 180 (.tmp 10) (.tmp 12) rfl g off xs.length cv j 3 rfl rfl 75 underlying180 stk hlt (off + j * 3) rfl) ?_)
    | (refine ye rfl 75 (.tmp 15) rfl ⟨g, off + j * 3, none⟩ rfl _ hld ?_)
    | (refine yc rfl 7 rfl 75 rfl _ (jP _) ?_; intro w3 n3 k3 hs3)
    | (refine yb rfl 75 (.tmp 7) (.tmp 16) rfl wr.heap.size #[.string x.1, .int .i64 (x.3 : Nat), x.2] rfl rfl 75 _ n3 stk rfl (yU (qQ _ _ hx1)) ?_; intro w4 n4 k4)
    | (refine wpList_load_row rfl 75 (.tmp 7) rfl wr.heap.size rfl 75 #[.string x.1, .int .i64 (x.3 : Nat), x.2] (0, 0) _ n4 underlying75 rfl stk ?_))
   have K4 : y5 [] wr w4 := k3.trans2 k4 (by intro y hy; simp at hy; subst hy; exact Or.inr (Nat.le_refl _))
   have hg4 : Rw w4 g2 75 cur2 := hg2.kept K4 (by simp)
   refine (HCall.out w4 K4).mono ?_
   rintro e w5 ⟨⟨b, s', e', hfa, rfl, hpo', hI'⟩ | ⟨b, hJ, hb⟩, hKA5⟩
   ·have hg5 : Rw w5 g2 75 cur2 := hKA5.row _ _ _ _ trivial (by decide) hg4
    obtain ⟨te, ve, ee⟩ := HC.out.posh _ _ _ _ hpo'
    have ho' : e'.2.oneCell' = true := by rw [ee]; rfl
    have hcl : j * 3 + 3 <= cur2.length := by rw [hd3]; omega
    have hst := yE (P := prog) w5 g2 (j * 3) 75 75 cur2 (ke e') hg5 (by rw [stk]; rfl) (by show j * 3 + 3 <= cur2.length; exact hcl) (qQ _ _ ho')
    have k6 : y5 [g2] w5 (w5.setRow g2 (splice cur2 (j * 3) (ke e')).toArray) := (y5.refl _ _).setRow (Or.inl (by simp)) _
    have hg6 : Rw (w5.setRow g2 (splice cur2 (j * 3) (ke e')).toArray) g2 75 (splice cur2 (j * 3) (ke e')) := setRow_heap _ _ _ _ _ _ hg5
    have HE : Hid (_ /\ _) := ⟨hpo', hI'⟩
    clear hpo' hI' ee
    generalize w5.setRow g2 (splice cur2 (j * 3) (ke e')).toArray = w6 at *
    have hst' : (storeVar 75 ⟨g2, j * 3, none⟩ (.agg #[.string e'.1, .int .i64 (e'.3 : Nat), e'.2])).run prog w5 = .ok () w6 := hst
    go_wp2_with (first
     | (refine y8 rfl _ _ (ya 180 (.tmp 17) (.tmp 18) rfl g2 0 xs.length c2 j 3 rfl rfl 75 underlying180 stk hlt (j * 3) (by omega)) ?_)
     | (refine qM rfl _ (yH 75 (.tmp 22) (.tmp 21) rfl ⟨g2, j * 3, none⟩ rfl _ rfl hst') ?_))
    have hw5 : wr.heap.size <= w5.heap.size := Nat.le_trans K4.size hKA5.size
    have hKr4 := K4.size
    have hg2r := yt hg2
    have hset : (ys ++ xs.drop j).set j e' = (ys ++ [e']) ++ xs.drop (j + 1) := by
     have hd : xs.drop j = xs[j] :: xs.drop (j + 1) := List.drop_eq_getElem_cons hlt
     rw [List.set_append_right _ _ (by omega), hyl, Nat.sub_self, hd, zF, List.append_assoc]
     rfl
    have htk6 : (splice cur2 (j * 3) (ke e')).take (xs.length * 3) = fl (((ys ++ [e']) ++ xs.drop (j + 1)).map ke) := by
     rw [QY htk2 (by show j * 3 + 3 <= xs.length * 3; omega) (by rw [hd3]; exact Nat.mul_le_mul_right 3 hd1), Q7D (Q7F _) j (ke e') (by rw [hml]; exact hlt) rfl, <- List.map_set, hset]
    have hl6 : (splice cur2 (j * 3) (ke e')).length = c2 * 3 := by rw [length_splice _ _ _ (by show j * 3 + 3 <= cur2.length; exact hcl), hd3]
    have hA6 : KA (fun y => A y \/ (w.heap.size <= y /\ (Value.slice (some ⟨g2, 0, none⟩) xs.length c2).ownBlock ≠ some y)) w5 w6 := KA.of k6 (by
     intro y hy
     simp at hy
     subst hy
     rintro (h1 | ⟨_, h1⟩)
     ·have := hA y h1; omega
     ·exact h1 rfl)
    go_roundw
    case rel =>
     refine ⟨j + 1, bs ++ [b], s', ys ++ [e'], by omega, by go_num, by simp [hyl], ?_, ?_, ?_, HC.out.fresh _ _ _ [g2] HE.out.2 k6 (by intro y hy; simp at hy; subst hy; exact ⟨by omega, _, _, hg5⟩), ?_⟩
     ·rw [qr al j a ha, Q7w, hmo]
      simp only [hfa]
     ·exact OW.close (Q7F _) hB2 hg6 (by rw [List.length_map, List.length_append, List.length_append, List.length_drop]; simp; omega) hd1 hd2 hl6 htk6
     ·refine F2.append (HPo.out.mono fun b' _ e'' hp => HC.out.poka _ _ _ _ _ (HC.out.poka _ _ _ _ _ (HC.out.poka _ _ _ _ _ hp (KA.k0 K4)) (hKA5.mono fun _ _ => trivial)) hA6) (F2.one (HC.out.poka _ _ _ _ _ (HC.out.pomono _ _ _ _ _ HE.out.1 ?_) hA6))
      rintro y (h1 | h1)
      ·exact Or.inl h1
      ·refine Or.inr ⟨by have := hKw.size; omega, ?_⟩
       intro e
       simp [Value.ownBlock] at e
       omega
     ·exact ((hKw.trans (KA.k0 K4)).trans hKA5).new k6 (by intro y hy; simp at hy; subst hy; exact hB2)
    case measure => simp [intOf]; omega
   ·obtain ⟨ch, rfl⟩ := HC.out.jp _ _ _ hJ
    refine ⟨rfl, Or.inr ⟨b, hJ, fun hbt => ?_⟩, (hKw.trans (KA.k0 K4)).trans hKA5⟩
    have e : al = al.take j ++ (a :: al.drop (j + 1)) := by
     have hj' := (List.getElem?_eq_some_iff.1 ha)
     conv => lhs; rw [<- List.take_append_drop j al, List.drop_eq_getElem_cons hj'.1, hj'.2]
    rw [e]
    exact Q7x f _ _ a s sj bs hmo (hb hbt)
  ·have hge : ¬ (j : Int) < (xs.length : Int) := by omega
   have ej : j = xs.length := by omega
   subst ej
   have HF : Hid (F2 _ _ _) := hpo
   have HIj : Hid (I sj wr) := hIj
   have HOw : Hid (OW _ _ _ _ _ _) := how
   clear hpo hIj how HLk HO2
   go_wp2
   go_ret
   rw [<- hal, List.take_length] at hmo
   refine ⟨Or.inl ⟨bs, sj, _, ys, hmo, rfl, ?_, ?_, HF.out.mono fun b _ e hp => HC.out.pomono _ _ _ _ _ hp fun y hy => hy.imp id fun h => h.1, HIj.out⟩, hKw⟩
   ·have := HOw.out.sl
    rw [List.drop_length, List.append_nil] at this
    exact this
   ·intro y hy
    exact (HOw.out.1.lt y hy).1
theorem Q7H : 291 + Made.depth = 391 := by kernel_rfl
theorem QO {o : Oper} {a : Act} {w : World} (x : Operand) (nm : String) (ho : o.op = .call { callee := .invoke x nm, args := #[], argTypes := #[] }) (t : TypeId) (v : Value) (hx : a.eval x = .iface t v) (f : FuncId) (hm : (Go.method 391 t v nm).run prog w = .ok (f, v) w) (he : (callFunc f #[v]).run prog w = .ok (.enter f #[v]) w) :
  (execOp a.eval o).run prog w = .ok (.enter f #[v]) w := by
 simp [execOp, ho, hx, resolve, invoke, callMethod, Q7H, hm, he]
theorem Q7I {P : Program} {o : Oper} {a : Act} {w : World} (x y : Operand) (t : TypeId) (ho : o.op = .call { callee := .value x, args := #[y], argTypes := #[t] }) (f : FuncId) (cs : Array Value) (hx : a.eval x = .func (.func f) #[] cs) (vy : Value) (hy : a.eval y = vy) (he : (callFunc f (#[vy] ++ cs)).run P w = .ok (.enter f (#[vy] ++ cs)) w) :
  (execOp a.eval o).run P w = .ok (.enter f (#[vy] ++ cs)) w := by
 simp [execOp, ho, hx, hy, resolve, invoke, Deferred.ofValue, he]
def CkN : (h : Nat) -> Nd h -> Prop
 | 0, l => jX (.leaf l)
 | h + 1, ks => 11 * List.length (α := Kid h) ks <= 122 /\ ∀ k : Kid h, List.Mem k ks -> k.1.size <= 8 /\ k.3 < 65536 /\ (k.3 = 0 -> CkN h k.2)
def CkK (h : Nat) (k : Kid h) : Prop := k.1.size <= 8 /\ k.3 < 65536 /\ (k.3 = 0 -> CkN h k.2)
theorem Q7J {h : Nat} {ks : List (Kid h)} : CkN (h + 1) ks ↔ 11 * ks.length <= 122 /\ ∀ k ∈ ks, CkK h k := Iff.rfl
theorem Q7K {α β σ : Type} {f : α -> σ -> β × σ} {T : σ -> σ -> Prop} (ht : ∀ a s, T s (f a s).2) (h0 : ∀ s, T s s) (htr : ∀ a b c, T a b -> T b c -> T a c) {G : α -> β -> σ -> Prop} (hG : ∀ a s s', T (f a s).2 s' -> G a (f a s).1 s') : ∀ {l : List α} {s : σ} {b : β}, b ∈ (j7 f l s).1 -> T s (j7 f l s).2 /\ ∃ a ∈ l, G a b (j7 f l s).2 := by
 have hT : ∀ (l : List α) (s : σ), T s (j7 f l s).2 := by
  intro l
  induction l with
  | nil => intro s; exact h0 s
  | cons x l ih => intro s; exact htr _ _ _ (ht x s) (ih _)
 intro l
 induction l with
 | nil => intro s b hb; cases hb
 | cons x l ih =>
  intro s b hb
  refine ⟨hT _ _, ?_⟩
  rcases List.mem_cons.1 hb with rfl | hb
  ·exact ⟨x, by simp, hG x s _ (hT l _)⟩
  ·obtain ⟨_, a, ha, hg⟩ := ih hb
   exact ⟨a, by simp [ha], hg⟩
theorem Q7L (h : Nat) (k : Kid h) (s : Ls) : Stp s (qh h k s).2 := by
 unfold qh
 split
 ·exact (QM h k.2 s).1.step _
 ·exact .refl s
theorem Stp.us {s s' : Ls} (h : Stp s s') : ∀ b ∈ s.us, b ∈ s'.us := by
 induction h with
 | refl => exact fun _ h => h
 | step _ B ih => exact fun b hb => by simp [Ls.step, ih b hb]
theorem Q7M (h : Nat) (n : Nd h) (s : Ls) (hc : CkN h n) (hu : ∀ u ∈ (qa h n s).2.us, u < 65536) : jX (nbN h (qa h n s).1) := by
 cases h with
 | zero => exact hc
 | succ h =>
  have key : ∀ (ks : List (Kid h)), (11 * ks.length <= 122 /\ ∀ k ∈ ks, CkK h k) -> (∀ u ∈ (j7 (qh h) ks s).2.us, u < 65536) -> jX (.branch ((j7 (qh h) ks s).1.map fun k : Kid h => (k.1, k.3))) := by
   intro ks hc hu
   refine ⟨?_, by rw [List.length_map, Q5R]; exact hc.1⟩
   intro q hq
   obtain ⟨k', hk', rfl⟩ := List.mem_map.1 hq
   obtain ⟨_, k, hk, h1, h2⟩ := Q7K (T := Stp) (fun a s => Q7L h a s) Stp.refl (fun _ _ _ => Stp.trans) (G := fun (k k' : Kid h) s' => k'.1 = k.1 /\ (k'.3 = k.3 \/ k'.3 ∈ s'.us)) (by
    intro a s s' hs
    unfold qh at hs ⊢
    split
    ·rename_i e
     rw [if_pos e] at hs
     exact ⟨rfl, Or.inr (hs.us _ (by simp [Ls.step]))⟩
    ·exact ⟨rfl, Or.inl rfl⟩) hk'
   have := hc.2 k hk
   refine ⟨by show k'.1.size <= 8; rw [h1]; exact this.1, ?_⟩
   rcases h2 with e | e
   ·show k'.3 < 65536
    rw [e]
    exact this.2.1
   ·exact hu _ e
  exact key n (Q7J.1 hc) hu
def Bd (N : Nat) (s : Ls) : Prop := ∀ u ∈ s.us, u < N
instance (N : Nat) (s : Ls) : Decidable (Bd N s) := by unfold Bd; infer_instance
theorem Bd.back {N : Nat} {s s' : Ls} (h : Bd N s') (hs : Stp s s') : Bd N s := fun u hu => h u (hs.us u hu)
theorem Q7N {α β : Type} {f : α -> Ls -> β × Ls} (hf : ∀ a s, Stp s (f a s).2) : ∀ (l : List α) (s : Ls), Stp s (j7 f l s).2
 | [], s => .refl s
 | x :: l, s => (hf x s).trans (Q7N hf l _)
def bdF {α β : Type} (N : Nat) (f : α -> Ls -> β × Ls) (a : α) (s : Ls) : Option (β × Ls) := if Bd N (f a s).2 then some (f a s) else none
theorem Q7O {α β : Type} {N : Nat} {f : α -> Ls -> β × Ls} (hf : ∀ a s, Stp s (f a s).2) : ∀ (l : List α) (s : Ls), (∀ r, gP (bdF N f) l s = some r -> r = j7 f l s) /\ (gP (bdF N f) l s = none -> ¬ Bd N (j7 f l s).2)
 | [], s => ⟨fun r h => by cases h; rfl, fun h => by cases h⟩
 | x :: l, s => by
  have ih := Q7O (N := N) hf l (f x s).2
  simp only [gP, j7, bdF]
  by_cases hb : Bd N (f x s).2
  ·simp only [if_pos hb]
   constructor
   ·intro r h
    split at h
    ·cases h
    ·rename_i bs s2 e
     cases h
     have := ih.1 _ e
     rw [<- this]
   ·intro h
    split at h
    ·rename_i e
     exact ih.2 e
    ·cases h
  ·simp only [if_neg hb]
   exact ⟨fun r h => (by cases h), fun _ h => hb (h.back (Q7N hf l _))⟩
structure Lyr (fid : FuncId) (c1 c2 : Value) (N : Nat) (I : Ls -> World -> Prop) (J : Bool -> Ending -> World -> Prop) (B : Nat) : Prop where
 en : ∀ (args : Array Value) (W : World), (callFunc fid args).run prog W = .ok (.enter fid args) W
 call : ∀ (s : Ls) (b : List UInt8) (W : World), I s W -> b.length = 128 -> B <= W.heap.size -> Calls prog fid #[.agg (u8s b).toArray, c1, c2] W fun e W' => ((e = .returned (.int .i64 (tk s.us : Nat)) /\ I (s.step b) W') \/ ∃ x, J x e W' /\ (x = true -> ¬ tk s.us < N)) /\ KA Tru W W'
 fresh : ∀ (s : Ls) (W W' : World) (S : List Nat), I s W -> y5 S W W' -> (∀ y ∈ S, B <= y /\ Tg W y 75) -> I s W'
 bnd : ∀ (s : Ls) (W : World), I s W -> Bd N s
 nb : N <= 65536
 jp : ∀ (x : Bool) (e : Ending) (W : World), J x e W -> ∃ c, e = .panicked c
def lfv (fid : FuncId) (c1 c2 : Value) : Value := .func (.func fid) #[] #[c1, c2]
def LdR (N : Nat) (I : Ls -> World -> Prop) (J : Bool -> Ending -> World -> Prop) (h : Nat) (s : Ls) (k : Kid h) (A : Nat -> Prop) (W : World) (e : Ending) (W' : World) : Prop :=
 ((∃ x', e = .returned (.agg #[.string k.1, .int .i64 ((qh h k s).1.3 : Nat), x']) /\ ND W' (fun y => A y \/ W.heap.size <= y) h (qh h k s).1.2 x' /\ I (qh h k s).2 W') \/ ∃ x, J x e W' /\ (x = true -> ¬ Bd N (qh h k s).2)) /\ KA Tru W W'
def LdOk (fid : FuncId) (c1 c2 : Value) (N : Nat) (I : Ls -> World -> Prop) (J : Bool -> Ending -> World -> Prop) (B : Nat) (h : Nat) : Prop :=
 ∀ (s : Ls) (k : Kid h) (x : Value) (A : Nat -> Prop) (W : World), ND W A h k.2 x -> (∀ y, A y -> y < W.heap.size) -> CkK h k -> I s W -> B <= W.heap.size -> Calls prog 94 #[.agg #[.string k.1, .int .i64 (k.3 : Nat), x], lfv fid c1 c2] W (LdR N I J h s k A W)
end Go.Proofs.YtcklgafpgdhnaabGreatDoor
