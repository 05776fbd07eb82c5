import Derived.Test.YtcklgafpgdhnaabGreatDoorPqao
import Derived.LoopN
import Derived.Test.YtcklgafpgdhnaabGreatDoorPqag
set_option maxRecDepth 100000
set_option maxHeartbeats 4000000
open Go.Proofs.Tryz
namespace Go.Proofs.YtcklgafpgdhnaabGreatDoor
open Go.RowKit
def gB : (h : Nat) -> Nd h -> List Nat
 | 0, _ => []
 | h + 1, ks => List.flatMap (fun k : Kid h => k.3 :: gB h k.2) ks
def qW (h : Nat) (k : Kid h) : List Nat := k.3 :: gB h k.2
theorem Q5G (h : Nat) (ks : List (Kid h)) : gB (h + 1) ks = ks.flatMap (qW h) := rfl
theorem Q5H : ∀ (h : Nat) (n : Nd h), (gB h n).length + 1 = gm h n
 | 0, _ => rfl
 | h + 1, ks => by
  have : ∀ L : List (Kid h), (L.flatMap (qW h)).length = (L.map fun k => gm h k.2).sum := by
   intro L
   induction L with
   | nil => rfl
   | cons a r ih =>
    have := Q5H h a.2
    rw [List.flatMap_cons, List.length_append, ih, List.map_cons, List.sum_cons, qW, List.length_cons]
    omega
  have e := this ks
  show (List.flatMap (qW h) ks).length + 1 = 1 + (List.map (fun k : Kid h => gm h k.2) ks).sum
  omega
structure Vis (fid : FuncId) (c : Value) (S : List Nat) (I : List Nat -> World -> Prop) (Ok : List Nat -> Prop) (A : Nat -> Prop) (w : World) : Prop where
 en : ∀ (args : Array Value) (W : World), (callFunc fid args).run prog W = .ok (.enter fid args) W
 call : ∀ (seen : List Nat) (W : World) (f : ByteArray) (p : Nat) (x : Value), Ok (seen ++ [p]) -> I seen W -> Calls prog fid #[.agg #[.string f, .int .i64 p, x], c] W fun e W' => e = .returned (.tuple #[]) /\ I (seen ++ [p]) W' /\ y5 S W W'
 fresh : ∀ (seen : List Nat) (W W' : World), I seen W -> y5 [] W W' -> I seen W'
 k : ∀ (seen : List Nat) (W : World), I seen W -> y5 S w W
 lt : ∀ y ∈ S, y < w.heap.size
 no : ∀ y ∈ S, ¬ A y
 pre : ∀ l m : List Nat, Ok (l ++ m) -> Ok l
theorem Q5I (p : Option Addr) (n c : Nat) : qY "store/tree.kids" (.iface 135 (.slice p n c)) 189 (.slice p n c) := ⟨_, rfl, fun _ => by kernel_rfl, fun _ _ => by kernel_rfl⟩
theorem Q5J (p : Option Addr) (n c : Nat) : qY "store/tree.kids" (.iface 180 (.slice p n c)) 219 (.slice p n c) := ⟨_, rfl, fun _ => by kernel_rfl, fun _ _ => by kernel_rfl⟩
theorem QL (v : Value) (w : World) : Calls prog 189 #[v] w fun e w' => e = .returned (.slice none 0 0) /\ w' = w := by
 go_enter func189, ntmps189
 go_wp2
 go_ret
 exact ⟨rfl, rfl⟩
theorem Q5K (p : Option Addr) (n c : Nat) (w : World) : Calls prog 219 #[.slice p n c] w fun e w' => e = .returned (.slice p n c) /\ w' = w := by
 go_enter func219, ntmps219
 go_wp2
 go_ret
 exact ⟨rfl, rfl⟩
def Q5L (S : List Nat) (I : List Nat -> World -> Prop) (l : List Nat) (W : World) (e : Ending) (W' : World) : Prop := e = .returned (.tuple #[]) /\ I l W' /\ y5 S W W'
def Q5M (fid : FuncId) (c : Value) (S : List Nat) (I : List Nat -> World -> Prop) (Ok : List Nat -> Prop) (A : Nat -> Prop) (w : World) (h : Nat) : Prop :=
 ∀ (seen : List Nat) (f : ByteArray) (p : Nat) (n : Nd h) (x : Value) (W : World), ND w A h n x -> (∀ z, A z -> z < w.heap.size) -> gm h n <= 1000000 -> Ok (seen ++ (p :: gB h n)) -> I seen W -> Calls prog 109 #[.agg #[.string f, .int .i64 p, x], .func (.func fid) #[] #[c]] W (Q5L S I (seen ++ (p :: gB h n)) W)
theorem Q5N {fid : FuncId} {c : Value} {S : List Nat} {I : List Nat -> World -> Prop} {Ok : List Nat -> Prop} {A : Nat -> Prop} {w : World} (hv : Vis fid c S I Ok A w) : Q5M fid c S I Ok A w 0 := by
 intro seen f p n x W hx _ _ hok hI
 obtain ⟨v, rfl, hl, _⟩ := hx
 obtain ⟨pp, cc, ev⟩ := SL.shape hl
 subst ev
 obtain ⟨t, ex, hm, he⟩ := Q5I pp (List.map pe n).length cc
 cases ex
 have hen := hv.en
 have k1 := (y5.refl [] W).alloc (.cells #[.string f, .int .i64 p, .iface 135 (.slice pp (List.map pe n).length cc)] 75)
 have n1 := heap_alloc_new W (.cells #[.string f, .int .i64 p, .iface 135 (.slice pp (List.map pe n).length cc)] 75)
 have HC : Hid (Calls _ _ _ _ _) := hv.call seen _ f p (.iface 135 (.slice pp (List.map pe n).length cc)) hok (hv.fresh _ _ _ hI k1)
 have hWs := (hv.k _ _ hI).size
 have hno : W.heap.size ∉ S := fun hm => by have := hv.lt _ hm; omega
 have HE : Hid (seen ++ (p :: gB 0 n) = seen ++ [p]) := rfl
 generalize (List.map pe n).length = m at *
 clear hv hI hl hok
 go_enter func109, ntmps109
 go_wp2_with (first
  | (go_at_fn fid; refine HC.out.mono ?_; rintro e w1 ⟨rfl, hI1, hk1⟩; have n1' := hk1.get n1 hno; have c1 : w1.cell? ⟨W.heap.size, 2, none⟩ = some (.iface 135 (.slice pp m cc)) := y6 n1' rfl)
  | (go_at_call 189; refine (QL _ _).mono ?_; rintro e w' ⟨rfl, rfl⟩))
 refine wp_loop_rounds 1 ?_
 rw [rounds_succ]
 go_wp2
 go_end0
 exact ⟨rfl, by rw [HE.out]; exact hI1, (k1.mono (by simp)).trans hk1⟩
theorem Q5O {a : Nat} : ∀ {l : List Nat}, a ∈ l -> a <= l.sum
 | [], h => by cases h
 | b :: r, h => by
  rw [List.sum_cons]
  rcases List.mem_cons.1 h with rfl | h
  ·omega
  ·have := Q5O h
   omega
def WlI (S : List Nat) (I : List Nat -> World -> Prop) (h : Nat) (seen : List Nat) (p : Nat) (ks : List (Kid h)) (W : World) (i : Value) (wr : World) : Prop :=
 ∃ j : Nat, j <= ks.length /\ i = .int .i64 j /\ I (seen ++ (p :: (ks.take j).flatMap (qW h))) wr /\ y5 S W wr
theorem Q5P {fid : FuncId} {c : Value} {S : List Nat} {I : List Nat -> World -> Prop} {Ok : List Nat -> Prop} {A : Nat -> Prop} {w : World} (hv : Vis fid c S I Ok A w) (h : Nat) (IH : Q5M fid c S I Ok A w h) (seen : List Nat) (f : ByteArray) (p : Nat) (ks : List (Kid h)) (x : Value) (W : World) (hx : ND w A (h + 1) ks x) (hAb : ∀ z, A z -> z < w.heap.size) (hcnt : 1 + (ks.map fun k => gm h k.2).sum <= 1000000) (hok : Ok (seen ++ (p :: ks.flatMap (qW h)))) (hI : I seen W) :
  Calls prog 109 #[.agg #[.string f, .int .i64 p, x], .func (.func fid) #[] #[c]] W (Q5L S I (seen ++ (p :: ks.flatMap (qW h))) W) := by
 obtain ⟨v, xs, rfl, hl, hA, hf⟩ := qE.1 hx
 have hlen : (xs.map ke).length = ks.length := by rw [List.length_map, hf.1]
 obtain ⟨pp, cc, ev⟩ := hl.shape
 rw [hlen] at ev
 subst ev
 have hsum : ∀ (j : Nat) (q : Kid h), ks[j]? = some q -> gm h q.2 <= 1000000 := by
  intro j q hq
  have h2 : gm h q.2 ∈ ks.map fun k => gm h k.2 := List.mem_map.2 ⟨q, List.mem_of_getElem? hq, rfl⟩
  have h3 := Q5O h2
  omega
 have hkl : ks.length <= 1000000 := by
  have h2 : ∀ L : List (Kid h), L.length <= (L.map fun k => gm h k.2).sum := by
   intro L
   induction L with
   | nil => simp
   | cons a r ih =>
    have := Q5H h a.2
    rw [List.length_cons, List.map_cons, List.sum_cons]
    omega
  have := h2 ks
  omega
 obtain ⟨t, ex, hm, he⟩ := Q5J pp (ks.length) cc
 cases ex
 have hen := hv.en
 have k1 := (y5.refl [] W).alloc (.cells #[.string f, .int .i64 p, .iface 180 (.slice pp (ks.length) cc)] 75)
 have n1 := heap_alloc_new W (.cells #[.string f, .int .i64 p, .iface 180 (.slice pp (ks.length) cc)] 75)
 have HC : Hid (Calls _ _ _ _ _) := hv.call seen _ f p (.iface 180 (.slice pp (ks.length) cc)) (hv.pre _ (ks.flatMap (qW h)) (by rw [List.append_assoc]; exact hok)) (hv.fresh _ _ _ hI k1)
 have hWs := (hv.k _ _ hI).size
 have hno : W.heap.size ∉ S := fun hm => by have := hv.lt _ hm; omega
 have HKid : Hid (∀ wr j, j < ks.length -> (∃ l, I l wr) -> ∃ g off q y, pp = some ⟨g, off, none⟩ /\ ks[j]? = some q /\ ND w A h q.2 y /\ (∃ ty vy, y = .iface ty vy) /\ (loadVar 75 ⟨g, off + j * 3, none⟩).run prog wr = .ok (.agg #[.string q.1, .int .i64 q.3, y]) wr) := by
  intro wr j hj hex
  obtain ⟨l, hIl⟩ := hex
  have hlr := SL.keptS hl (hv.k _ _ hIl) (fun b hb hm => hv.no b hm (hA b hb))
  obtain ⟨q, hq⟩ : ∃ q, ks[j]? = some q := ⟨_, List.getElem?_eq_getElem hj⟩
  obtain ⟨z, hz, hr⟩ := hf.get hq
  obtain ⟨g, off, cap, cur, e, hg, hc1, hc2, hc3, hcur⟩ := hlr.at_ (by rw [hlen]; omega)
  rw [hlen] at e
  cases e
  refine ⟨g, off, q, z.2, rfl, hq, hr.2, hr.2.iface, ?_⟩
  have hld := gG (P := prog) (ty := 75) _ hg (hcur j (ke z) (by rw [List.getElem?_map, hz]; rfl)) underlying75 jB
  rw [<- hr.1.1, <- hr.1.2]
  exact hld
 have HFr := hv.fresh
 have HOk : Hid (∀ j, Ok (seen ++ (p :: (ks.take j).flatMap (qW h)))) := fun j => hv.pre _ ((ks.drop j).flatMap (qW h)) (by rw [List.append_assoc, List.cons_append, <- List.flatMap_append, List.take_append_drop]; exact hok)
 have HIH : Hid (Q5M fid c S I Ok A w h) := IH
 have HE : Hid (∀ j, ks[j]? = none \/ ∃ q, ks[j]? = some q /\ seen ++ (p :: (ks.take (j + 1)).flatMap (qW h)) = (seen ++ (p :: (ks.take j).flatMap (qW h))) ++ (q.3 :: gB h q.2)) := by
  intro j
  cases hq : ks[j]? with
  | none => exact Or.inl rfl
  | some q =>
   refine Or.inr ⟨q, rfl, ?_⟩
   rw [qr _ j q hq, List.flatMap_append]
   simp [qW]
 have HE0 : Hid (seen ++ (p :: (ks.take 0).flatMap (qW h)) = seen ++ [p]) := by show _ = _; simp
 have HE1 : Hid (seen ++ (p :: (ks.take (ks.length)).flatMap (qW h)) = seen ++ (p :: ks.flatMap (qW h))) := by show _ = _; rw [List.take_length]
 have HSum : Hid _ := hsum
 have HSn : Hid (∀ wr, y5 S W wr -> wr.heap.size ∉ S) := fun wr hk hm => by have := hv.lt _ hm; have := hk.size; omega
 generalize hm0 : ks.length = m at *
 clear hv hI hl hf hA hx IH hsum hcnt hlen hok
 go_enter func109, ntmps109
 go_wp2_with (first
  | (go_at_fn fid; refine HC.out.mono ?_; rintro e w1 ⟨rfl, hI1, hk1⟩; have n1' := hk1.get n1 hno; have c1 : w1.cell? ⟨W.heap.size, 2, none⟩ = some (.iface 180 (.slice pp m cc)) := y6 n1' rfl)
  | (go_at_call 219; refine (Q5K _ _ _ _).mono ?_; rintro e w' ⟨rfl, rfl⟩))
 go_loopw [13] (fun i wr => WlI S I h seen p ks W i wr) (fun i _ => m - (intOf i).toNat)
 case atStart => exact ⟨0, Nat.zero_le _, rfl, by rw [HE0.out]; exact hI1, (k1.mono (by simp)).trans hk1⟩
 case round =>
  obtain ⟨j, hj, rfl, hIr, hkr⟩ := hrel
  rw [hm0] at hj
  by_cases hlt : j < m
  ·have hlt' : (j : Int) < (m : Int) := by omega
   obtain ⟨g, off, q, y, epp, hq, hnd, ⟨ty, vy, ey⟩, hld⟩ := HKid.out wr j hlt ⟨_, hIr⟩
   have hnx : seen ++ (p :: (ks.take (j + 1)).flatMap (qW h)) = (seen ++ (p :: (ks.take j).flatMap (qW h))) ++ (q.3 :: gB h q.2) := by
    rcases HE.out j with e | ⟨q', e, hh⟩
    ·rw [hq] at e; cases e
    ·rw [hq] at e; cases e; exact hh
   have hcq := HSum.out j q hq
   have k3 := (y5.refl [] wr).alloc (.cells #[.string q.1, .int .i64 q.3, y] 75)
   have HW : Hid (Calls _ _ _ _ _) := HIH.out (seen ++ (p :: (ks.take j).flatMap (qW h))) q.1 q.3 q.2 y _ hnd hAb hcq (by rw [<- hnx]; exact HOk.out (j + 1)) (HFr _ _ _ hIr k3)
   rw [<- hnx] at HW
   have HIr : Hid _ := hIr
   subst epp
   subst ey
   obtain ⟨lx, hlx⟩ : ∃ lx, lx = seen ++ (p :: (ks.take (j + 1)).flatMap (qW h)) := ⟨_, rfl⟩
   rw [<- hlx] at HW
   have HL : Hid (lx = seen ++ (p :: (ks.take (j + 1)).flatMap (qW h))) := hlx
   clear hIr hnd hcq hq hlx hnx
   go_wp2_with (first
    | (refine y8 rfl _ _ (ya 177 (.tmp 11) (.tmp 13) rfl g off m cc j 3 rfl rfl 75 underlying177 jB hlt (off + j * 3) rfl) ?_)
    | (refine ye rfl 75 (.tmp 15) rfl ⟨g, off + j * 3, none⟩ rfl _ hld ?_)
    | (go_at_call 109; refine HW.out.mono ?_; rintro e w3 ⟨rfl, hI3, hk3⟩))
   go_roundw
   case rel => exact ⟨j + 1, by rw [hm0]; omega, by go_num, by rw [<- HL.out]; exact hI3, hkr.trans ((k3.mono (by simp)).trans hk3)⟩
   case measure => simp [intOf]; omega
  ·have hge : ¬ (j : Int) < (m : Int) := by omega
   have ej : j = m := by omega
   subst ej
   rw [HE1.out] at hIr
   have HI2 : Hid _ := hIr
   clear hIr
   go_wp2
   go_end0
   exact ⟨rfl, HI2.out, hkr⟩
theorem Q5Q {fid : FuncId} {c : Value} {S : List Nat} {I : List Nat -> World -> Prop} {Ok : List Nat -> Prop} {A : Nat -> Prop} {w : World} (hv : Vis fid c S I Ok A w) : ∀ h, Q5M fid c S I Ok A w h
 | 0 => Q5N hv
 | h + 1 => fun seen f p n x W hx hAb hcnt hok hI => Q5P hv h (Q5Q hv h) seen f p n x W hx hAb hcnt hok hI
def j7 {α β σ : Type} (f : α -> σ -> β × σ) : List α -> σ -> List β × σ
 | [], s => ([], s)
 | x :: l, s => ((f x s).1 :: (j7 f l (f x s).2).1, (j7 f l (f x s).2).2)
theorem Q5R {α β σ : Type} (f : α -> σ -> β × σ) (l : List α) : ∀ s : σ, (j7 f l s).1.length = l.length := by
 induction l with
 | nil => intro s; rfl
 | cons y l ih => intro s; simp [j7, ih]
def nbN : (h : Nat) -> Nd h -> Nb
 | 0, l => .leaf l
 | h + 1, ks => .branch (List.map (fun k : Kid h => (k.1, k.3)) ks)
def tkF (us : List Nat) : Nat -> Nat -> Nat
 | 0, i => i
 | f + 1, i => if i ∈ us then tkF us f (i + 1) else i
def mxs (us : List Nat) : Nat := us.foldr (fun a b => max a b) 0
theorem Q5S {us : List Nat} {i : Nat} (h : i ∈ us) : i <= mxs us := by
 induction us with
 | nil => cases h
 | cons a r ih =>
  have e : mxs (a :: r) = max a (mxs r) := rfl
  rw [e]
  rcases List.mem_cons.1 h with rfl | h
  ·omega
  ·have := ih h
   omega
def tk (us : List Nat) : Nat := tkF us (mxs us + 1) 0
theorem Q5T (us : List Nat) : ∀ f i, mxs us + 1 <= f + i -> tkF us f i ∉ us
 | 0, i, h => fun hm => by have := Q5S hm; simp only [tkF] at this; omega
 | f + 1, i, h => by
  rw [tkF]
  split
  ·exact Q5T us f (i + 1) (by omega)
  ·assumption
theorem Q5U (us : List Nat) : tk us ∉ us := Q5T us _ _ (by omega)
theorem Q5V (us : List Nat) : ∀ f i, (∀ j, j < i -> j ∈ us) -> ∀ j, j < tkF us f i -> j ∈ us
 | 0, _, h, j, hj => h j hj
 | f + 1, i, h, j, hj => by
  rw [tkF] at hj
  split at hj
  ·rename_i hi
   refine Q5V us f (i + 1) (fun j hj => ?_) j hj
   by_cases e : j = i
   ·rw [e]; exact hi
   ·exact h j (by omega)
  ·exact h j hj
theorem Q5W (us : List Nat) {j : Nat} (h : j < tk us) : j ∈ us := Q5V us _ 0 (by omega) j h
theorem Q5X {us : List Nat} {i : Nat} (h1 : i ∉ us) (h2 : ∀ j, j < i -> j ∈ us) : tk us = i := by
 rcases Nat.lt_trichotomy (tk us) i with h | h | h
 ·exact absurd (h2 _ h) (Q5U us)
 ·exact h
 ·exact absurd (Q5W us h) h1
theorem Q5Y : ∀ (n : Nat) (us : List Nat), (∀ j, j < n -> j ∈ us) -> n <= us.length
 | 0, _, _ => Nat.zero_le _
 | n + 1, us, h => by
  have hn := h n (by omega)
  have := Q5Y n (us.erase n) fun j hj => (List.mem_erase_of_ne (by omega)).2 (h j (by omega))
  rw [List.length_erase_of_mem hn] at this
  have : 0 < us.length := List.length_pos_of_mem hn
  omega
theorem Q5Z {us : List Nat} {n : Nat} (h : us.length < n) : tk us < n := by
 rcases Nat.lt_or_ge (tk us) n with h' | h'
 ·exact h'
 ·have := Q5Y n us fun j hj => Q5W us (by omega)
  omega
structure Ls where
 us : List Nat
 ws : List (Nat × List UInt8)
def Ls.step (s : Ls) (B : List UInt8) : Ls := ⟨tk s.us :: s.us, s.ws ++ [(tk s.us, B)]⟩
def qa : (h : Nat) -> Nd h -> Ls -> Nd h × Ls
 | 0, l, s => (l, s)
 | h + 1, ks, s => j7 (fun (k : Kid h) (s : Ls) => if k.3 = 0 then (⟨k.1, (qa h k.2 s).1, tk (qa h k.2 s).2.us⟩, (qa h k.2 s).2.step (j3 (nbN h (qa h k.2 s).1))) else (k, s)) ks s
def qh (h : Nat) (k : Kid h) (s : Ls) : Kid h × Ls := if k.3 = 0 then (⟨k.1, (qa h k.2 s).1, tk (qa h k.2 s).2.us⟩, (qa h k.2 s).2.step (j3 (nbN h (qa h k.2 s).1))) else (k, s)
theorem jC {h : Nat} {k : Kid h} (e : k.3 ≠ 0) (s : Ls) : qh h k s = (k, s) := by rw [qh, if_neg e]
theorem Qu {h : Nat} {k : Kid h} (e : k.3 = 0) (s : Ls) : qh h k s = (⟨k.1, (qa h k.2 s).1, tk (qa h k.2 s).2.us⟩, (qa h k.2 s).2.step (j3 (nbN h (qa h k.2 s).1))) := by rw [qh, if_pos e]
def erN : (h : Nat) -> Nd h -> Nd h
 | 0, l => l
 | h + 1, ks => List.map (fun k : Kid h => (⟨k.1, erN h k.2, 0⟩ : Kid h)) ks
def erK (h : Nat) (k : Kid h) : Kid h := ⟨k.1, erN h k.2, 0⟩
theorem Q60 : ∀ (h : Nat) (n : Nd h), yN h (erN h n) = yN h n
 | 0, _ => rfl
 | h + 1, ks => by
  have : ∀ L : List (Kid h), (L.map (erK h)).flatMap (fun k => yN h k.2) = L.flatMap fun k => yN h k.2 := by
   intro L
   rw [List.flatMap_map]
   congr 1
   funext k
   exact Q60 h k.2
  exact this ks
theorem Q61 : ∀ (h : Nat) (n : Nd h), yl h (erN h n) = yl h n
 | 0, _ => rfl
 | h + 1, ks => by
  have : ∀ L : List (Kid h), 11 * (L.map (erK h)).length = 11 * L.length := by
   intro L
   rw [List.length_map]
  exact this ks
theorem Q62 : ∀ (h : Nat) (n : Nd h), gm h (erN h n) = gm h n
 | 0, _ => rfl
 | h + 1, ks => by
  have : ∀ L : List (Kid h), 1 + ((L.map (erK h)).map fun k => gm h k.2).sum = 1 + (L.map fun k => gm h k.2).sum := by
   intro L
   rw [List.map_map]
   congr 3
   funext k
   exact Q62 h k.2
  exact this ks
theorem Q63 : ∀ (h : Nat) (n : Nd h), qO h (erN h n) = qO h n
 | 0, _ => rfl
 | _ + 1, _ => rfl
theorem Q64 (h : Nat) (a b : Kid h) : Bef h (erK h a) (erK h b) ↔ Bef h a b := by unfold Bef erK; rw [Q60]
theorem Q65 : ∀ (h : Nat) (f : ByteArray) (n : Nd h), WFN h f (erN h n) ↔ WFN h f n
 | 0, _, _ => Iff.rfl
 | h + 1, f, (ks : List (Kid h)) => by
  refine (yF h f (ks.map (erK h))).trans (Iff.trans ?_ (yF h f ks).symm)
  constructor
  ·rintro ⟨⟨n, x, r, e⟩, ho, ha⟩
   refine ⟨?_, ?_, fun a hm => (Q65 h a.1 a.2).1 (ha _ (List.mem_map.2 ⟨a, hm, rfl⟩))⟩
   ·cases ks with
    | nil => cases e
    | cons a r' =>
     rw [List.map_cons] at e
     have e1 := (List.cons.inj e).1
     refine ⟨a.2, a.3, r', ?_⟩
     have e2 : a.1 = f := congrArg qI.fr e1
     rw [<- e2]
   ·exact (List.pairwise_map.1 ho).imp fun {a b} hab => (Q64 h a b).1 hab
  ·rintro ⟨⟨n, x, r, e⟩, ho, ha⟩
   refine ⟨⟨erN h n, 0, r.map (erK h), by rw [e]; rfl⟩, List.pairwise_map.2 (ho.imp fun {a b} hab => (Q64 h a b).2 hab), ?_⟩
   intro a hm
   obtain ⟨b, hb, rfl⟩ := List.mem_map.1 hm
   exact (Q65 h b.1 b.2).2 (ha b hb)
theorem Q66 : ∀ (h : Nat) (n : Nd h), q7 h (erN h n) ↔ q7 h n
 | 0, _ => Iff.rfl
 | h + 1, (ks : List (Kid h)) => by
  refine (yM h (ks.map (erK h))).trans (Iff.trans ?_ (yM h ks).symm)
  constructor
  ·intro H a hm
   have := H _ (List.mem_map.2 ⟨a, hm, rfl⟩)
   unfold Rt erK at this
   rw [Q61] at this
   exact ⟨this.1, (Q66 h a.2).1 this.2⟩
  ·intro H a hm
   obtain ⟨b, hb, rfl⟩ := List.mem_map.1 hm
   have := H b hb
   unfold Rt erK
   rw [Q61]
   exact ⟨this.1, (Q66 h b.2).2 this.2⟩
theorem Q67 : ∀ (h : Nat) (n : Nd h) (s : Ls), erN h (qa h n s).1 = erN h n
 | 0, _, _ => rfl
 | h + 1, (ks : List (Kid h)), s => by
  have hk : ∀ (k : Kid h) (s : Ls), erK h (qh h k s).1 = erK h k := by
   intro k s
   unfold qh
   split
   ·unfold erK
    rw [Q67 h k.2 s]
   ·rfl
  have : ∀ (L : List (Kid h)) (s : Ls), (j7 (qh h) L s).1.map (erK h) = L.map (erK h) := by
   intro L
   induction L with
   | nil => intro s; rfl
   | cons a r ih => intro s; simp only [j7, List.map_cons, hk, ih]
  exact this ks s
theorem Q68 {h : Nat} {n n' : Nd h} (e : erN h n' = erN h n) : yN h n' = yN h n /\ yl h n' = yl h n /\ gm h n' = gm h n /\ qO h n' = qO h n /\ (∀ f, WFN h f n -> WFN h f n') /\ (q7 h n -> q7 h n') :=
 ⟨by rw [<- Q60 h n', e, Q60], by rw [<- Q61 h n', e, Q61], by rw [<- Q62 h n', e, Q62], by rw [<- Q63 h n', e, Q63], fun f hw => (Q65 h f n').1 (by rw [e]; exact (Q65 h f n).2 hw), fun hf => (Q66 h n').1 (by rw [e]; exact (Q66 h n).2 hf)⟩
def frN : (h : Nat) -> Nd h -> Nat
 | 0, _ => 0
 | h + 1, ks => (List.map (fun k : Kid h => if k.3 = 0 then 1 + frN h k.2 else 0) ks).sum
inductive Stp : Ls -> Ls -> Prop
 | refl (s : Ls) : Stp s s
 | step {s s' : Ls} (h : Stp s s') (B : List UInt8) : Stp s (s'.step B)
theorem Stp.trans {a b c : Ls} (h : Stp a b) (g : Stp b c) : Stp a c := by
 induction g with
 | refl => exact h
 | step _ B ih => exact ih.step B
theorem QM : ∀ (h : Nat) (n : Nd h) (s : Ls), Stp s (qa h n s).2 /\ (qa h n s).2.ws.length = s.ws.length + frN h n
 | 0, _, s => ⟨.refl s, by simp [qa, frN]⟩
 | h + 1, ks, s => by
  have hk : ∀ (k : Kid h) (s : Ls), Stp s (qh h k s).2 /\ (qh h k s).2.ws.length = s.ws.length + (if k.3 = 0 then 1 + frN h k.2 else 0) := by
   intro k s
   unfold qh
   obtain ⟨h1, h2⟩ := QM h k.2 s
   split
   ·refine ⟨h1.step _, ?_⟩
    simp only [Ls.step, List.length_append, h2, List.length_singleton]
    omega
   ·exact ⟨.refl s, by simp⟩
  have : ∀ (L : List (Kid h)) (s : Ls), Stp s (j7 (qh h) L s).2 /\ (j7 (qh h) L s).2.ws.length = s.ws.length + (L.map fun k : Kid h => if k.3 = 0 then 1 + frN h k.2 else 0).sum := by
   intro L
   induction L with
   | nil => intro s; exact ⟨.refl s, by simp [j7]⟩
   | cons a r ih =>
    intro s
    obtain ⟨h1, h2⟩ := hk a s
    obtain ⟨h3, h4⟩ := ih (qh h a s).2
    refine ⟨h1.trans h3, ?_⟩
    simp only [j7, List.map_cons, List.sum_cons]
    omega
  exact this ks s
def TkI (us : List Nat) (w : World) (i : Value) (wr : World) : Prop := ∃ j : Nat, i = .int .i64 j /\ (∀ k, k < j -> k ∈ us) /\ y5 [] w wr
def TkR (n b : Nat) (us : List Nat) (w : World) (e : Ending) (w' : World) : Prop :=
 (tk us < n /\ e = .returned (.int .i64 (tk us : Nat)) /\ SpM w' b (tk us :: us) /\ y5 [b] w w') \/ (n <= tk us /\ Thr 3 e w' /\ y5 [] w w')
theorem Q69 (n b : Nat) (us : List Nat) (w : World) (h : SpM w b us) (hu : ∀ u ∈ us, u < 1000) (hl : us.length < 70000) : Calls prog 63 #[.agg #[.int .i64 n, .map (some b)]] w (TkR n b us w) := by
 have k1 := (y5.refl [] w).alloc (.cells #[.int .i64 n, .map (some b)] 108)
 have n1 := heap_alloc_new w (.cells #[.int .i64 n, .map (some b)] 108)
 have HI : Hid (∀ (j : Nat) (W : World), j < 70000 -> SpM W b us -> Calls prog 92 #[.agg #[.int .i64 n, .map (some b)], .int .i64 j] W fun e w' => e = .returned (.bool (decide (j ∈ us))) /\ y5 [] W w') := fun j W hj hW => Q2c n b us j W hW hj
 have HS : Hid (SpM w b us) := h
 have hb := h.lt
 clear h
 go_enter func63, ntmps63
 go_wp2_with fail
 go_loopw [3] (fun i wr => TkI us (w.alloc (.cells #[.int .i64 n, .map (some b)] 108)) i wr) (fun i _ => mxs us + 1 - (intOf i).toNat)
 case atStart => exact ⟨0, rfl, by omega, y5.refl _ _⟩
 case round =>
  obtain ⟨j, rfl, hbel, hkr⟩ := hrel
  have hj : j < 70000 := by
   cases j with
   | zero => omega
   | succ j => have := hu j (hbel j (by omega)); omega
  have nr := hkr.get n1 (by simp)
  have HC : Hid (Calls _ _ _ _ _) := HI.out j wr hj ((HS.out.kept k1 (by simp)).kept hkr (by simp))
  by_cases hm : j ∈ us
  ·have hd : decide (j ∈ us) = true := by simpa using hm
   rw [hd] at HC
   have hmx := Q5S hm
   go_wp2_with (first
    | (refine wpList_load_row rfl 108 (.tmp 1) rfl w.heap.size rfl 108 #[.int .i64 n, .map (some b)] (0, 0) _ nr underlying108 rfl jT ?_)
    | (go_at_call 92; refine HC.out.mono ?_; rintro e w2 ⟨rfl, hk2⟩))
   go_roundw
   case rel =>
    refine ⟨j + 1, by go_num, ?_, hkr.trans hk2⟩
    intro k hk
    by_cases e : k = j
    ·rw [e]; exact hm
    ·exact hbel k (by omega)
   case measure => simp [intOf]; omega
  ·have hd : decide (j ∈ us) = false := by simpa using hm
   rw [hd] at HC
   have ej := Q5X hm hbel
   by_cases hlt : n <= j
   ·have g1 : (n : Int) <= j := by omega
    go_wp2_with (first
     | (refine wpList_load_row rfl 108 (.tmp 1) rfl w.heap.size rfl 108 #[.int .i64 n, .map (some b)] (0, 0) _ nr underlying108 rfl jT ?_)
     | (go_at_call 92; refine HC.out.mono ?_; rintro e w2 ⟨rfl, hk2⟩; have c2 : w2.cell? ⟨w.heap.size, 0, none⟩ = some (.int .i64 n) := y6 (hk2.get nr (by simp)) rfl)
     | (go_at_call 46; refine (QD _ _ _).mono ?_; rintro e w4 ⟨ht, hk4⟩; obtain ⟨f, o, rfl, hf⟩ := ht.ex))
    exact ⟨rfl, Or.inr ⟨by omega, ht, ((k1.trans hkr).trans hk2).trans hk4⟩⟩
   ·have g1 : ¬ (n : Int) <= j := by omega
    have HU : Hid (∀ W, SpM W b us -> Calls prog 60 #[.agg #[.int .i64 n, .map (some b)], .int .i64 j] W fun e w' => e = .returned (.tuple #[]) /\ SpM w' b (j :: us) /\ y5 [b] W w') := fun W hW => Q2d n b us j W hW hj hl (by omega) hm
    have HE : Hid (tk us = j) := ej
    clear ej
    go_wp2_with (first
     | (refine wpList_load_row rfl 108 (.tmp 1) rfl w.heap.size rfl 108 #[.int .i64 n, .map (some b)] (0, 0) _ nr underlying108 rfl jT ?_)
     | (go_at_call 92; refine HC.out.mono ?_; rintro e w2 ⟨rfl, hk2⟩; have n2 := hk2.get nr (by simp); have c2 : w2.cell? ⟨w.heap.size, 0, none⟩ = some (.int .i64 n) := y6 n2 rfl; have s2 := (((HS.out.kept k1 (by simp)).kept hkr (by simp)).kept hk2 (by simp)))
     | (refine wpList_load_row rfl 108 (.tmp 1) rfl w.heap.size rfl 108 #[.int .i64 n, .map (some b)] (0, 0) _ n2 underlying108 rfl jT ?_)
     | (go_at_call 60; refine (HU.out _ s2).mono ?_; rintro e w3 ⟨rfl, s3, hk3⟩))
    go_ret
    refine Or.inl ?_
    rw [HE.out]
    exact ⟨by omega, rfl, s3, (((k1.trans hkr).trans hk2).mono (by simp)).trans hk3⟩
end Go.Proofs.YtcklgafpgdhnaabGreatDoor
