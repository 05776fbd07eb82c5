import Derived.Test.YtcklgafpgdhnaaaGreatDoorPsan
import Derived.LoopN
set_option maxRecDepth 100000
set_option maxHeartbeats 4000000
open Go.Proofs.Tryz
open List renaming set_cons_succ → zE, set_cons_zero → zF
namespace Go.Proofs.YtcklgafpgdhnaaaGreatDoor
open Go.RowKit
theorem Q87 (es : List El) (hw : Wd 3 es) (i : Nat) (e : El) (u : Value) (h : es[i]? = some e) : fl (es.set i (e.set 2 u)) = (fl es).set (i * 3 + 2) u := by
 induction es generalizing i with
 | nil => simp at h
 | cons x r ih =>
  have hx : x.length = 3 := hw x (by simp)
  cases i with
  | zero =>
   simp at h; subst h
   rw [zF, Q0x, Q0x, List.set_append_left _ _ (by omega)]
  | succ i =>
   rw [zE, Q0x, Q0x, ih hw.tl i (by simpa using h), List.set_append_right _ _ (by omega), show (i + 1) * 3 + 2 - x.length = i * 3 + 2 by omega]
theorem OW.set2 {w : World} {B : Nat} {t : TypeId} {es : List El} (hw : Wd 3 es) {g n cap : Nat} {cur : List Value} (hB : B <= g) (hg : Rw w g t cur) (hn : n = es.length) (h1 : n <= cap) (h2 : cap <= maxLen) (h3 : cur.length = cap * 3) (htk : cur.take (n * 3) = fl es) (i : Nat) (e : El) (he : es[i]? = some e) (u : Value) :
  OW (w.setCell ⟨g, i * 3 + 2, none⟩ u) B t 3 (.slice (some ⟨g, 0, none⟩) n cap) (es.set i (e.set 2 u)) /\ Kept [g] w (w.setCell ⟨g, i * 3 + 2, none⟩ u) := by
 have hs := Q03 (i := i * 3 + 2) u hg
 have hw' : Wd 3 (es.set i (e.set 2 u)) := by
  intro x hx
  rcases List.mem_or_eq_of_mem_set hx with hx | hx
  ·exact hw x hx
  ·rw [hx, List.length_set]
   exact hw e (List.mem_of_getElem? he)
 refine ⟨OW.close (cur := cur.set (i * 3 + 2) u) hw' hB ?_ (by simp [hn]) h1 h2 (by simp [h3]) ?_, (Kept.refl _ _).setCell (Or.inl (by simp)) _⟩
 ·unfold Rw
  rw [hs]
  simp
 ·rw [List.take_set, htk, Q87 es hw i e u he]
theorem Q88 {h : Nat} {A : Nat -> Prop} {v2 : Value} {xs : List KE} {ks : List (Kid h)} {i : Nat} {q : Kid h} {n' : Nd h} {y : KE} {w w1 w2 w3 : World} {a : Value} {g2 cap2 : Nat} {cur : List Value}
  (hf : F2 (KR w A h) ks xs) (hAb : ∀ z, A z -> z < w.heap.size) (hq : ks[i]? = some q) (hy : xs[i]? = some y) (hkl : ks.length <= 1000) (hloose : Q4L h (ks.set i ⟨q.1, n', q.3⟩) i)
  (k1 : Kept [] w w1) (k2 : Kept [] w1 w2) (k3 : Kept [] w2 w3) (hB : w1.heap.size <= g2) (hg : Rw w2 g2 80 cur) (hc1 : ks.length <= cap2) (hc2 : cap2 <= maxLen) (hc3 : cur.length = cap2 * 3) (htk : cur.take (ks.length * 3) = fl (xs.map ke))
  (hn3 : ND w3 (fun z => A z \/ w2.heap.size <= z) h n' a) (hv2 : v2 = .slice (some ⟨g2, 0, none⟩) ks.length cap2) :
  Calls prog 264 #[v2, .int .i64 i] (w3.setCell ⟨g2, i * 3 + 2, none⟩ a) fun e w5 => ∃ v5 xs5, e = .returned v5 /\ SL w5 80 3 v5 (xs5.map ke) /\ (∀ z, v5.ownBlock = some z -> w.heap.size <= z) /\ F2 (KR w5 (fun z => A z \/ w.heap.size <= z) h) (Q4I h (ks.set i ⟨q.1, n', q.3⟩) i) xs5 /\ Kept [] w w5 := by
 subst hv2
 have hlen : (xs.map ke).length = ks.length := by rw [List.length_map, hf.1]
 have hg2 : g2 < w2.heap.size := (Array.getElem?_eq_some_iff.1 hg).1
 have hg3 : Rw w3 g2 80 cur := hg.kept k3 (by simp)
 have hye := (hf.2 i q y hq hy).1
 obtain ⟨ho4, k4⟩ := OW.set2 (B := w1.heap.size) (Q6x (Q6w hf)).wd hB hg3 hlen.symm hc1 hc2 hc3 htk i (ke y) (by rw [List.getElem?_map, hy]; rfl) a
 have es4 : (xs.map ke).set i ((ke y).set 2 a) = (xs.set i ⟨y.1, a, y.3⟩).map ke := by rw [List.map_set]; rfl
 rw [es4] at ho4
 have s1 := k1.size
 have s2 := k2.size
 have s3 := k3.size
 have s4 := k4.size
 have hnA : ∀ z ∈ [g2], ¬ (A z \/ w2.heap.size <= z) := by
  intro z hz
  simp at hz
  subst hz
  rintro (h1 | h1)
  ·have := hAb _ h1; omega
  ·omega
 have up : F2 (KR (w3.setCell ⟨g2, i * 3 + 2, none⟩ a) (fun z => A z \/ w2.heap.size <= z) h) ks xs := hf.mono fun _ _ _ hr => KR.kept (KR.kept hr ((k1.trans k2).trans k3) (by simp) fun _ h => Or.inl h) k4 hnA fun _ h => h
 have hnew : KR (w3.setCell ⟨g2, i * 3 + 2, none⟩ a) (fun z => A z \/ w2.heap.size <= z) h ⟨q.1, n', q.3⟩ ⟨y.1, a, y.3⟩ := ⟨hye, ND.kept k4 hnA (fun _ h => h) hn3⟩
 refine (Q7W ho4 (by omega) (up.set i hnew) (fun z hz e => hnA g2 (by simp) (by cases e; exact hz)) (by simpa using hkl) i hloose).mono ?_
 rintro e w5 ⟨v5, xs5, rfl, ho5, hf5, hk5⟩
 refine ⟨v5, xs5, rfl, ho5.sl, fun z hz => ?_, ?_, ?_⟩
 ·have := Q3I ho5.1 z (by rw [hz]; simp)
  omega
 ·refine hf5.mono fun _ _ _ hr => KR.kept hr (Kept.refl [] _) (by simp) ?_
  rintro z ((h1 | h1) | h1)
  ·exact Or.inl h1
  ·exact Or.inr (by omega)
  ·exact Or.inr (by omega)
 ·have k45 : Kept [g2] w3 w5 := k4.trans hk5
  exact ((k1.trans k2).trans k3).trans2 k45 fun z hz => Or.inr (by simp at hz; subst hz; omega)
def Q89 (F : List Pr -> List Pr) (Q : List Pr -> Prop) (k : ByteArray) (fid : FuncId) (cap : Value) (h : Nat) : Prop := ∀ (w : World) (A : Nat -> Prop) (f : ByteArray) (n : Nd h) (x : Value), ND w A h n x -> (∀ y, A y -> y < w.heap.size) -> WFN h f n -> Q4j h n -> ge k f -> (0 < h -> 22 <= Q4a h n) -> Q4a h n <= 122 -> Cl F Q fid cap w -> Q (Q6P k h n) ->
  ∃ fn v, Disp "store/tree.changed" x fn v /\ Calls prog fn #[v, .string k, .func (.func fid) #[] #[cap]] w fun e w' => ∃ a, e = .returned a /\ ND w' (fun y => A y \/ w.heap.size <= y) h (chgN F k h n) a /\ Kept [] w w'
theorem Q8a {F : List Pr -> List Pr} {Q : List Pr -> Prop} {k : ByteArray} {fid : FuncId} {cap : Value} (hF : OpAt F k) (h : Nat) (IH : Q89 F Q k fid cap h) {A : Nat -> Prop} {v : Value} {xs : List KE} {f : ByteArray} {ks : List (Kid h)} {w : World} (hl : SL w 80 3 v (xs.map ke)) (hf : F2 (KR w A h) ks xs) (hAb : ∀ y, A y -> y < w.heap.size)
  (hw : WFN (h + 1) f ks) (hfu : Q4j (h + 1) ks) (hk : ge k f) (h22 : 22 <= 11 * ks.length) (hsz : 11 * ks.length <= 122) (hc : Cl F Q fid cap w) (hQ : Q (Q6P k (h + 1) ks)) :
  Calls prog 251 #[v, .string k, .func (.func fid) #[] #[cap]] w fun e w5 => ∃ v5 xs5, e = .returned (.iface 168 v5) /\ SL w5 80 3 v5 (xs5.map ke) /\ (∀ z, v5.ownBlock = some z -> w.heap.size <= z) /\ F2 (KR w5 (fun z => A z \/ w.heap.size <= z) h) (chgN F k (h + 1) ks) xs5 /\ Kept [] w w5 := by
 obtain ⟨q, hq, hqm, hgq, hloose, hres⟩ := Q83 hF h f ks hw hfu hk (fun _ => h22)
 have hkw := ((Q4i h f ks).1 hw).2
 have hqf := (Q4k h ks).1 hfu q hqm
 have hlt : wayK ks k < ks.length := (List.getElem?_eq_some_iff.1 hq).1
 have hlen : (xs.map ke).length = ks.length := by rw [List.length_map, hf.1]
 have HWy : Hid (Calls _ _ _ _ _) := Q7z h A v xs ks k w hl hf hkw (by omega)
 obtain ⟨y, hy, hr⟩ := hf.get hq
 have HCl : Hid (∀ W, Kept [] w W -> _) := fun W kW => Q5C v (xs.map ke) W (hl.kept kW) (Q6x (Q6w hf)) (by omega)
 have HIH : Hid (∀ W, Kept [] w W -> _) := fun W kW => IH W A q.1 q.2 y.2 (ND.k hr.2 kW) (fun z hz => Nat.lt_of_lt_of_le (hAb z hz) kW.size) (hkw.all q hqm) hqf.2 hgq (fun _ => by have := hqf.1.1; omega) hqf.1.2 (hc.k kW) (by rw [Q6Q k h ks q hq] at hQ; exact hQ)
 obtain ⟨g, off, cp, cur, ev, hg, hc1, hc2, hc3, hcur⟩ := hl.at_ (by omega)
 rw [hlen] at ev
 have hcl := (hcur (wayK ks k) (ke y) (by rw [List.getElem?_map, hy]; rfl)).2
 have HCell : Hid (∀ W, Kept [] w W -> W.cell? ⟨g, off + wayK ks k * 3 + 2, none⟩ = some y.2) := fun W kW => by rw [cell_of_row _ _ _ _ _ _ (kW.get hg (by simp))]; exact hcl 2 _ rfl
 have HT : Hid (∀ w1 w2 w3 a g2 cap2 cur (v2 : Value) n', n' = chgN F k h q.2 -> Kept [] w w1 -> Kept [] w1 w2 -> Kept [] w2 w3 -> w1.heap.size <= g2 -> Rw w2 g2 80 cur -> ks.length <= cap2 -> cap2 <= maxLen -> cur.length = cap2 * 3 -> cur.take (ks.length * 3) = fl (xs.map ke) -> ND w3 (fun z => A z \/ w2.heap.size <= z) h n' a -> v2 = .slice (some ⟨g2, 0, none⟩) ks.length cap2 -> _) := fun w1 w2 w3 a g2 cap2 cur v2 n' en k1 k2 k3 hB hg c1 c2 c3 htk hn hv => Q88 hf hAb hq hy (by omega) (by rw [en]; exact hloose) k1 k2 k3 hB hg c1 c2 c3 htk hn hv
 have HR : Hid _ := hres
 have hOpen : ∀ W B vl, OW W B 80 3 vl (xs.map ke) -> ∃ g cap cur, vl = .slice (some ⟨g, 0, none⟩) ks.length cap /\ B <= g /\ Rw W g 80 cur /\ ks.length <= cap /\ cap <= maxLen /\ cur.length = cap * 3 /\ cur.take (ks.length * 3) = fl (xs.map ke) := by
  intro W B vl ho
  have := ho.open (by omega)
  rw [hlen] at this
  exact this
 have HO : Hid _ := hOpen
 have hCell2 : ∀ (W : World) (g2 : Nat) (cap2 : Nat) (cur : List Value), Rw W g2 80 cur -> cur.take (ks.length * 3) = fl (xs.map ke) -> W.cell? ⟨g2, wayK ks k * 3 + 2, none⟩ = some y.2 := by
  intro W g2 cap2 cur hg htk
  have := Q0z (Q6x (Q6w hf)).wd (wayK ks k) (ke y) (by rw [List.getElem?_map, hy]; rfl) 2 y.2 rfl
  rw [<- htk, List.getElem?_take, if_pos (by omega)] at this
  rw [cell_of_row _ _ _ _ _ _ hg]
  simpa using this
 have HC2 : Hid _ := hCell2
 subst ev
 have hbd : ks.length <= 1000 := by omega
 generalize wayK ks k = i at *
 generalize ks.length = m at *
 clear hcl hcur hq hqm hgq hloose hres hkw hqf hlen hy hr hw hfu hk h22 hsz hc hl hf hOpen hCell2 hQ
 go_enter func251, ntmps251
 go_wp2_with (first
  | (go_at_call 262; refine HWy.out.mono ?_; rintro e w1 ⟨rfl, hk1⟩)
  | (go_at_call 263; refine (HCl.out _ hk1).mono ?_; rintro e w2 ⟨v2, rfl, ho2, hk2⟩; obtain ⟨g2, cap2, cur2, ev2, hB2, hg2, hd1, hd2, hd3, htk2⟩ := HO.out w2 _ v2 ho2; obtain ⟨fn, vv, ⟨t, ex, hm, he⟩, hcall⟩ := HIH.out w2 (hk1.trans hk2); have c1 := HCell.out w2 (hk1.trans hk2); rw [ex] at c1; subst ev2; have HCall : Hid (Calls _ _ _ _ _) := hcall; clear hcall ho2; have HTK : Hid _ := htk2; clear htk2)
  | (refine Q04 rfl _ _ (Q0v 168 (.tmp 16) (.tmp 17) rfl g off m cp i 3 rfl rfl 80 underlying168 stk' hlt (off + i * 3) rfl) ?_)
  | (go_at_fn fn; refine HCall.out.mono ?_; rintro e w3 ⟨a, rfl, hn3, hk3⟩; have hg3 : Rw w3 g2 80 cur2 := hg2.kept hk3 (by simp); have c3 := HC2.out w3 g2 cap2 cur2 hg3 HTK.out; rw [ex] at c3; have fz : w3.frozen? ⟨g2, i * 3 + 2, none⟩ = false := frozen_of_row _ _ _ _ _ hg3; obtain ⟨ta, va, ea⟩ := hn3.iface; have HN3 : Hid _ := hn3; clear hn3; subst ea)
  | (refine Q04 rfl _ _ (Q0v 168 (.tmp 14) (.tmp 15) rfl g2 0 m cap2 i 3 rfl rfl 80 underlying168 stk' hlt (i * 3) (by omega)) ?_)
  | (go_at_call 264; refine (HT.out w1 w2 w3 _ g2 cap2 cur2 _ _ rfl hk1 hk2 hk3 hB2 hg2 hd1 hd2 hd3 HTK.out HN3.out rfl).mono ?_; rintro e w5 ⟨v5, xs5, rfl, hl5, ho5, hf5, hk5⟩; obtain ⟨p5, c5, ev5⟩ := hl5.shape; rw [List.length_map] at ev5; subst ev5))
 go_ret
 exact ⟨_, xs5, rfl, hl5, ho5, by rw [HR.out]; exact hf5, hk5⟩
theorem Q8b {F : List Pr -> List Pr} {Q : List Pr -> Prop} {k : ByteArray} {fid : FuncId} {cap : Value} (hF : OpAt F k) : ∀ h, Q89 F Q k fid cap h
 | 0 => by
  intro w A f n x hx hAb hw hfu hk h22 hsz hc hQ
  obtain ⟨v, rfl, hl, hA⟩ := hx
  have hlen := (Sm.of hw (by omega)).2
  have HC := Q86 hc v n k hl hw.1 hlen hQ
  obtain ⟨p, c, ev⟩ := SL.shape hl
  subst ev
  refine ⟨_, _, Q84 _ _ _, HC.mono ?_⟩
  rintro e w' ⟨v', rfl, hl', ho', hk'⟩
  exact ⟨_, rfl, ⟨v', rfl, hl', fun y hy => (ho' y hy).imp (hA y) id⟩, hk'⟩
 | h + 1 => by
  intro w A f n x hx hAb hw hfu hk h22 hsz hc hQ
  obtain ⟨v, xs, rfl, hl, hA, hf⟩ := Q6u.1 hx
  have HC := Q8a hF h (Q8b hF h) hl hf hAb hw hfu hk (h22 (by omega)) hsz hc hQ
  obtain ⟨p, c, ev⟩ := SL.shape hl
  subst ev
  refine ⟨_, _, Q85 _ _ _, HC.mono ?_⟩
  rintro e w' ⟨v', xs', rfl, hl', ho', hf', hk'⟩
  exact ⟨_, rfl, Q6u.2 ⟨v', xs', rfl, hl', fun y hy => Or.inr (ho' y hy), hf'⟩, hk'⟩
def preN : (h : Nat) -> Nd h -> List Nat
 | 0, _ => []
 | h + 1, ks => List.flatMap (fun k : Kid h => k.3 :: preN h k.2) ks
def preK (h : Nat) (k : Kid h) : List Nat := k.3 :: preN h k.2
theorem Q8c : ∀ (h : Nat) (n : Nd h), (preN h n).length + 1 = cntN h n
 | 0, _ => rfl
 | h + 1, ks => by
  have : ∀ L : List (Kid h), (L.flatMap (preK h)).length = (L.map fun k => cntN h k.2).sum := by
   intro L
   induction L with
   | nil => rfl
   | cons a r ih =>
    have := Q8c h a.2
    rw [List.flatMap_cons, List.length_append, ih, List.map_cons, List.sum_cons, preK, List.length_cons]
    omega
  have e := this ks
  show (List.flatMap (preK h) ks).length + 1 = 1 + (List.map (fun k : Kid h => cntN h k.2) ks).sum
  omega
structure Vis (fid : FuncId) (c : Value) (S : List Nat) (I : List Nat -> World -> Prop) (Ok : List Nat -> Prop) (A : Nat -> Prop) (w : World) : Prop where
 en : ∀ (args : Array Value) (W : World), (callFunc fid args).run prog W = .ok (.enter fid args) W
 call : ∀ (seen : List Nat) (W : World) (f : ByteArray) (p : Nat) (x : Value), Ok (seen ++ [p]) -> I seen W -> Calls prog fid #[.agg #[.string f, .int .i64 p, x], c] W fun e W' => e = .returned (.tuple #[]) /\ I (seen ++ [p]) W' /\ Kept S W W'
 fresh : ∀ (seen : List Nat) (W W' : World), I seen W -> Kept [] W W' -> I seen W'
 k : ∀ (seen : List Nat) (W : World), I seen W -> Kept S w W
 lt : ∀ y ∈ S, y < w.heap.size
 no : ∀ y ∈ S, ¬ A y
 pre : ∀ l m : List Nat, Ok (l ++ m) -> Ok l
theorem Q8d (p : Option Addr) (n c : Nat) : Disp "store/tree.kids" (.iface 116 (.slice p n c)) 237 (.slice p n c) := ⟨_, rfl, fun _ => by kernel_rfl, fun _ _ => by kernel_rfl⟩
theorem Q8e (p : Option Addr) (n c : Nat) : Disp "store/tree.kids" (.iface 168 (.slice p n c)) 256 (.slice p n c) := ⟨_, rfl, fun _ => by kernel_rfl, fun _ _ => by kernel_rfl⟩
theorem Q8f (v : Value) (w : World) : Calls prog 237 #[v] w fun e w' => e = .returned (.slice none 0 0) /\ w' = w := by
 go_enter func237, ntmps237
 go_wp2
 go_ret
 exact ⟨rfl, rfl⟩
theorem Q8g (p : Option Addr) (n c : Nat) (w : World) : Calls prog 256 #[.slice p n c] w fun e w' => e = .returned (.slice p n c) /\ w' = w := by
 go_enter func256, ntmps256
 go_wp2
 go_ret
 exact ⟨rfl, rfl⟩
def Q8h (S : List Nat) (I : List Nat -> World -> Prop) (l : List Nat) (W : World) (e : Ending) (W' : World) : Prop := e = .returned (.tuple #[]) /\ I l W' /\ Kept S W W'
def Q8i (fid : FuncId) (c : Value) (S : List Nat) (I : List Nat -> World -> Prop) (Ok : List Nat -> Prop) (A : Nat -> Prop) (w : World) (h : Nat) : Prop :=
 ∀ (seen : List Nat) (f : ByteArray) (p : Nat) (n : Nd h) (x : Value) (W : World), ND w A h n x -> (∀ z, A z -> z < w.heap.size) -> cntN h n <= 1000000 -> Ok (seen ++ (p :: preN h n)) -> I seen W -> Calls prog 126 #[.agg #[.string f, .int .i64 p, x], .func (.func fid) #[] #[c]] W (Q8h S I (seen ++ (p :: preN h n)) W)
theorem Q8j {fid : FuncId} {c : Value} {S : List Nat} {I : List Nat -> World -> Prop} {Ok : List Nat -> Prop} {A : Nat -> Prop} {w : World} (hv : Vis fid c S I Ok A w) : Q8i fid c S I Ok A w 0 := by
 intro seen f p n x W hx _ _ hok hI
 obtain ⟨v, rfl, hl, _⟩ := hx
 obtain ⟨pp, cc, ev⟩ := SL.shape hl
 subst ev
 obtain ⟨t, ex, hm, he⟩ := Q8d pp (List.map pe n).length cc
 cases ex
 have hen := hv.en
 have k1 := (Kept.refl [] W).alloc (.cells #[.string f, .int .i64 p, .iface 116 (.slice pp (List.map pe n).length cc)] 80)
 have n1 := heap_alloc_new W (.cells #[.string f, .int .i64 p, .iface 116 (.slice pp (List.map pe n).length cc)] 80)
 have HC : Hid (Calls _ _ _ _ _) := hv.call seen _ f p (.iface 116 (.slice pp (List.map pe n).length cc)) hok (hv.fresh _ _ _ hI k1)
 have hWs := (hv.k _ _ hI).size
 have hno : W.heap.size ∉ S := fun hm => by have := hv.lt _ hm; omega
 have HE : Hid (seen ++ (p :: preN 0 n) = seen ++ [p]) := rfl
 generalize (List.map pe n).length = m at *
 clear hv hI hl hok
 go_enter func126, ntmps126
 go_wp2_with (first
  | (go_at_fn fid; refine HC.out.mono ?_; rintro e w1 ⟨rfl, hI1, hk1⟩; have n1' := hk1.get n1 hno; have c1 : w1.cell? ⟨W.heap.size, 2, none⟩ = some (.iface 116 (.slice pp m cc)) := Q02 n1' rfl)
  | (go_at_call 237; refine (Q8f _ _).mono ?_; rintro e w' ⟨rfl, rfl⟩))
 refine wp_loop_rounds 1 ?_
 rw [rounds_succ]
 go_wp2
 go_end0
 exact ⟨rfl, by rw [HE.out]; exact hI1, (k1.mono (by simp)).trans hk1⟩
theorem Q8k {a : Nat} : ∀ {l : List Nat}, a ∈ l -> a <= l.sum
 | [], h => by cases h
 | b :: r, h => by
  rw [List.sum_cons]
  rcases List.mem_cons.1 h with rfl | h
  ·omega
  ·have := Q8k h
   omega
def WlI (S : List Nat) (I : List Nat -> World -> Prop) (h : Nat) (seen : List Nat) (p : Nat) (ks : List (Kid h)) (W : World) (i : Value) (wr : World) : Prop :=
 ∃ j : Nat, j <= ks.length /\ i = .int .i64 j /\ I (seen ++ (p :: (ks.take j).flatMap (preK h))) wr /\ Kept S W wr
theorem Q8l {fid : FuncId} {c : Value} {S : List Nat} {I : List Nat -> World -> Prop} {Ok : List Nat -> Prop} {A : Nat -> Prop} {w : World} (hv : Vis fid c S I Ok A w) (h : Nat) (IH : Q8i fid c S I Ok A w h) (seen : List Nat) (f : ByteArray) (p : Nat) (ks : List (Kid h)) (x : Value) (W : World) (hx : ND w A (h + 1) ks x) (hAb : ∀ z, A z -> z < w.heap.size) (hcnt : 1 + (ks.map fun k => cntN h k.2).sum <= 1000000) (hok : Ok (seen ++ (p :: ks.flatMap (preK h)))) (hI : I seen W) :
  Calls prog 126 #[.agg #[.string f, .int .i64 p, x], .func (.func fid) #[] #[c]] W (Q8h S I (seen ++ (p :: ks.flatMap (preK h))) W) := by
 obtain ⟨v, xs, rfl, hl, hA, hf⟩ := Q6u.1 hx
 have hlen : (xs.map ke).length = ks.length := by rw [List.length_map, hf.1]
 obtain ⟨pp, cc, ev⟩ := hl.shape
 rw [hlen] at ev
 subst ev
 have hsum : ∀ (j : Nat) (q : Kid h), ks[j]? = some q -> cntN h q.2 <= 1000000 := by
  intro j q hq
  have h2 : cntN h q.2 ∈ ks.map fun k => cntN h k.2 := List.mem_map.2 ⟨q, List.mem_of_getElem? hq, rfl⟩
  have h3 := Q8k h2
  omega
 have hkl : ks.length <= 1000000 := by
  have h2 : ∀ L : List (Kid h), L.length <= (L.map fun k => cntN h k.2).sum := by
   intro L
   induction L with
   | nil => simp
   | cons a r ih =>
    have := Q8c h a.2
    rw [List.length_cons, List.map_cons, List.sum_cons]
    omega
  have := h2 ks
  omega
 obtain ⟨t, ex, hm, he⟩ := Q8e pp (ks.length) cc
 cases ex
 have hen := hv.en
 have k1 := (Kept.refl [] W).alloc (.cells #[.string f, .int .i64 p, .iface 168 (.slice pp (ks.length) cc)] 80)
 have n1 := heap_alloc_new W (.cells #[.string f, .int .i64 p, .iface 168 (.slice pp (ks.length) cc)] 80)
 have HC : Hid (Calls _ _ _ _ _) := hv.call seen _ f p (.iface 168 (.slice pp (ks.length) cc)) (hv.pre _ (ks.flatMap (preK h)) (by rw [List.append_assoc]; exact hok)) (hv.fresh _ _ _ hI k1)
 have hWs := (hv.k _ _ hI).size
 have hno : W.heap.size ∉ S := fun hm => by have := hv.lt _ hm; omega
 have HKid : Hid (∀ wr j, j < ks.length -> (∃ l, I l wr) -> ∃ g off q y, pp = some ⟨g, off, none⟩ /\ ks[j]? = some q /\ ND w A h q.2 y /\ (∃ ty vy, y = .iface ty vy) /\ (loadVar 80 ⟨g, off + j * 3, none⟩).run prog wr = .ok (.agg #[.string q.1, .int .i64 q.3, y]) wr) := by
  intro wr j hj hex
  obtain ⟨l, hIl⟩ := hex
  have hlr := SL.keptS hl (hv.k _ _ hIl) (fun b hb hm => hv.no b hm (hA b hb))
  obtain ⟨q, hq⟩ : ∃ q, ks[j]? = some q := ⟨_, List.getElem?_eq_getElem hj⟩
  obtain ⟨z, hz, hr⟩ := hf.get hq
  obtain ⟨g, off, cap, cur, e, hg, hc1, hc2, hc3, hcur⟩ := hlr.at_ (by rw [hlen]; omega)
  rw [hlen] at e
  cases e
  refine ⟨g, off, q, z.2, rfl, hq, hr.2, hr.2.iface, ?_⟩
  have hld := Q56 (P := prog) (ty := 80) _ hg (hcur j (ke z) (by rw [List.getElem?_map, hz]; rfl)) underlying80 stk'
  rw [<- hr.1.1, <- hr.1.2]
  exact hld
 have HFr := hv.fresh
 have HOk : Hid (∀ j, Ok (seen ++ (p :: (ks.take j).flatMap (preK h)))) := fun j => hv.pre _ ((ks.drop j).flatMap (preK h)) (by rw [List.append_assoc, List.cons_append, <- List.flatMap_append, List.take_append_drop]; exact hok)
 have HIH : Hid (Q8i fid c S I Ok A w h) := IH
 have HE : Hid (∀ j, ks[j]? = none \/ ∃ q, ks[j]? = some q /\ seen ++ (p :: (ks.take (j + 1)).flatMap (preK h)) = (seen ++ (p :: (ks.take j).flatMap (preK h))) ++ (q.3 :: preN h q.2)) := by
  intro j
  cases hq : ks[j]? with
  | none => exact Or.inl rfl
  | some q =>
   refine Or.inr ⟨q, rfl, ?_⟩
   rw [Q17 _ j q hq, List.flatMap_append]
   simp [preK]
 have HE0 : Hid (seen ++ (p :: (ks.take 0).flatMap (preK h)) = seen ++ [p]) := by show _ = _; simp
 have HE1 : Hid (seen ++ (p :: (ks.take (ks.length)).flatMap (preK h)) = seen ++ (p :: ks.flatMap (preK h))) := by show _ = _; rw [List.take_length]
 have HSum : Hid _ := hsum
 have HSn : Hid (∀ wr, Kept S W wr -> wr.heap.size ∉ S) := fun wr hk hm => by have := hv.lt _ hm; have := hk.size; omega
 generalize hm0 : ks.length = m at *
 clear hv hI hl hf hA hx IH hsum hcnt hlen hok
 go_enter func126, ntmps126
 go_wp2_with (first
  | (go_at_fn fid; refine HC.out.mono ?_; rintro e w1 ⟨rfl, hI1, hk1⟩; have n1' := hk1.get n1 hno; have c1 : w1.cell? ⟨W.heap.size, 2, none⟩ = some (.iface 168 (.slice pp m cc)) := Q02 n1' rfl)
  | (go_at_call 256; refine (Q8g _ _ _ _).mono ?_; rintro e w' ⟨rfl, rfl⟩))
 go_loopw [13] (fun i wr => WlI S I h seen p ks W i wr) (fun i _ => m - (intOf i).toNat)
 case atStart => exact ⟨0, Nat.zero_le _, rfl, by rw [HE0.out]; exact hI1, (k1.mono (by simp)).trans hk1⟩
 case round =>
  obtain ⟨j, hj, rfl, hIr, hkr⟩ := hrel
  rw [hm0] at hj
  by_cases hlt : j < m
  ·have hlt' : (j : Int) < (m : Int) := by omega
   obtain ⟨g, off, q, y, epp, hq, hnd, ⟨ty, vy, ey⟩, hld⟩ := HKid.out wr j hlt ⟨_, hIr⟩
   have hnx : seen ++ (p :: (ks.take (j + 1)).flatMap (preK h)) = (seen ++ (p :: (ks.take j).flatMap (preK h))) ++ (q.3 :: preN h q.2) := by
    rcases HE.out j with e | ⟨q', e, hh⟩
    ·rw [hq] at e; cases e
    ·rw [hq] at e; cases e; exact hh
   have hcq := HSum.out j q hq
   have k3 := (Kept.refl [] wr).alloc (.cells #[.string q.1, .int .i64 q.3, y] 80)
   have HW : Hid (Calls _ _ _ _ _) := HIH.out (seen ++ (p :: (ks.take j).flatMap (preK h))) q.1 q.3 q.2 y _ hnd hAb hcq (by rw [<- hnx]; exact HOk.out (j + 1)) (HFr _ _ _ hIr k3)
   rw [<- hnx] at HW
   have HIr : Hid _ := hIr
   subst epp
   subst ey
   obtain ⟨lx, hlx⟩ : ∃ lx, lx = seen ++ (p :: (ks.take (j + 1)).flatMap (preK h)) := ⟨_, rfl⟩
   rw [<- hlx] at HW
   have HL : Hid (lx = seen ++ (p :: (ks.take (j + 1)).flatMap (preK h))) := hlx
   clear hIr hnd hcq hq hlx hnx
   go_wp2_with (first
    | (refine Q04 rfl _ _ (Q0v 165 (.tmp 11) (.tmp 13) rfl g off m cc j 3 rfl rfl 80 underlying165 stk' hlt (off + j * 3) rfl) ?_)
    | (refine Q0t rfl 80 (.tmp 15) rfl ⟨g, off + j * 3, none⟩ rfl _ hld ?_)
    | (go_at_call 126; refine HW.out.mono ?_; rintro e w3 ⟨rfl, hI3, hk3⟩))
   go_roundw
   case rel => exact ⟨j + 1, by rw [hm0]; omega, by go_num, by rw [<- HL.out]; exact hI3, hkr.trans ((k3.mono (by simp)).trans hk3)⟩
   case measure => simp [intOf]; omega
  ·have hge : ¬ (j : Int) < (m : Int) := by omega
   have ej : j = m := by omega
   subst ej
   rw [HE1.out] at hIr
   have HI2 : Hid _ := hIr
   clear hIr
   go_wp2
   go_end0
   exact ⟨rfl, HI2.out, hkr⟩
theorem Q8m {fid : FuncId} {c : Value} {S : List Nat} {I : List Nat -> World -> Prop} {Ok : List Nat -> Prop} {A : Nat -> Prop} {w : World} (hv : Vis fid c S I Ok A w) : ∀ h, Q8i fid c S I Ok A w h
 | 0 => Q8j hv
 | h + 1 => fun seen f p n x W hx hAb hcnt hok hI => Q8l hv h (Q8m hv h) seen f p n x W hx hAb hcnt hok hI
end Go.Proofs.YtcklgafpgdhnaaaGreatDoor
