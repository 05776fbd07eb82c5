import Derived.Test.YtcklgafpgdhnaabGreatDoorPtbg
set_option maxRecDepth 100000
set_option maxHeartbeats 4000000
open List renaming getElem_toArray → zA, getElem_cons_succ → zB, getElem_cons_zero → zC, setIfInBounds_toArray → zD, set_cons_succ → zE, set_cons_zero → zF
namespace Go.Proofs.YtcklgafpgdhnaabGreatDoor
open Go.RowKit

theorem exec_box1 {P : Program} {o : Oper} {a : Act} {w : World} (t : TypeId) (x : Operand) (ho : o.op = .box t x) (v : Value) (hx : a.eval x = v) (hv : v.cells = #[v]) :
  (execOp a.eval o).run P w = .ok (.value (.pointer (some ⟨w.heap.size, 0, none⟩))) (w.alloc (.cells #[v] t)) := by
 simp [execOp, ho, hx, Instr.box, newVar, newRow, hv]
theorem snode : (Tryz.prog.info? 73).map (·.size) = some 1 := by kernel_rfl
theorem dWithL (p : Option Addr) (n c : Nat) : Disp "store/tree.with" (.iface 135 (.slice p n c)) 193 (.slice p n c) := ⟨_, rfl, fun _ => by kernel_rfl, fun _ _ => by kernel_rfl⟩
theorem dWithB (p : Option Addr) (n c : Nat) : Disp "store/tree.with" (.iface 180 (.slice p n c)) 223 (.slice p n c) := ⟨_, rfl, fun _ => by kernel_rfl, fun _ _ => by kernel_rfl⟩
theorem leafWithK_any (p : Option Addr) (n c : Nat) (g : Value) (w : World) : Calls Tryz.prog 193 #[.slice p n c, g] w fun e w' => e = .returned (.iface 135 (.slice p n c)) ∧ w' = w := by
 go_enter Tryz.func193, Tryz.ntmps193
 go_wp2
 go_ret
 exact ⟨rfl, rfl⟩
theorem enters_kidLaid (args : Array Value) (w : World) : (callFunc 94 args).run Tryz.prog w = .ok (.enter 94 args) w := enters Tryz.func94 (by kernel_rfl) (by kernel_rfl) args w
theorem enters_kidLaid1 (args : Array Value) (w : World) : (callFunc 116 args).run Tryz.prog w = .ok (.enter 116 args) w := enters Tryz.func116 (by kernel_rfl) (by kernel_rfl) args w

theorem laid_old {fid : FuncId} {c1 c2 : Value} {I : Ls → World → Prop} {J : Ending → World → Prop} {B : Nat} (hL : Lyr fid c1 c2 I J B) {h : Nat} (s : Ls) (k : Kid h) (x : Value) (A : Nat → Prop) (w : World) (hx : ND w A h k.2 x) (hI : I s w) (hne : k.3 ≠ 0) : Calls Tryz.prog 94 #[.agg #[.string k.1, .int .i64 (k.3 : Nat), x], lfv fid c1 c2] w (LdR I J h s k A w) := by
 have hx1 : x.oneCell' = true := by obtain ⟨t, v, rfl⟩ := hx.iface; rfl
 have hne' : ¬ (k.3 : Int) = 0 := by omega
 have HX : Hid (ND w A h k.2 x) := hx
 have HI : Hid (I s w) := hI
 clear hx hI
 go_enter Tryz.func94, Tryz.ntmps94
 go_wp2_with (first
  | (refine wpList_new rfl _ _ (exec_box 75 (.tmp 0) rfl #[.string k.1, .int .i64 (k.3 : Nat), x] rfl) ?_; intro w1 n1 q1 hs1; have HS1 : Hid _ := hs1; clear hs1)
  | (refine wpList_new rfl _ _ (exec_box1 113 (.tmp 1) rfl (lfv fid c1 c2) rfl rfl) ?_; intro w2 n2 q2 hs2; have HS2 : Hid _ := hs2; clear hs2)
  | (refine wpList_alloc_d rfl 4 rfl 75 rfl _ (zkid _) ?_; intro w3 n3 q3 hs3; have HS3 : Hid _ := hs3; clear hs3; have m3 := q3.get (q2.get n1 (by simp)) (by simp); have c31 : w3.cell? ⟨w.heap.size, 1, none⟩ = some (.int .i64 (k.3 : Nat)) := cellAt m3 rfl)
  | (refine wpList_load_row rfl 75 (.tmp 2) rfl w.heap.size rfl 75 #[.string k.1, .int .i64 (k.3 : Nat), x] (0, 0) _ m3 Tryz.underlying75 rfl stk ?_)
  | (refine wpList_store_k rfl 75 (.tmp 4) (.tmp 19) rfl w2.heap.size #[.string k.1, .int .i64 (k.3 : Nat), x] rfl rfl 75 _ n3 stk rfl (all_of (one3f _ _ hx1)) ?_; intro w4 n4 q4))
 refine bodyPost_ret (results_cell_row rfl _ w4 w2.heap.size 75 _ (0, 0) _ rfl n4 Tryz.underlying75 rfl stk) rfl ?_
 have K4 : Kept [] w w4 := ((q1.trans q2).trans q3).trans2 q4 (by intro y hy; simp at hy; subst hy; have := HS1.out; have := HS2.out; exact Or.inr (by omega))
 refine ⟨Or.inl ⟨x, ?_, ?_, ?_⟩, KA.k0 K4⟩
 ·rw [layK_old hne]
 ·rw [layK_old hne]
  exact ND.kept K4 (by simp) (fun _ h => Or.inl h) HX.out
 ·rw [layK_old hne]
  exact hL.fresh _ _ _ [] HI.out K4 (by simp)

def LvI (I : Ls → World → Prop) (lf : Value) (r : Nat) (s : Ls) (W : World) : Prop := I s W ∧ W.heap[r]? = some (.cells #[lf] 113 (0, 0))
theorem laid_cgr {fid : FuncId} {c1 c2 : Value} {I : Ls → World → Prop} {J : Ending → World → Prop} {B : Nat} (hL : Lyr fid c1 c2 I J B) {h : Nat} (IH : LdOk fid c1 c2 I J B h) (r : Nat) :
  Cgr (α := Kid h) (β := Kid h) (σ := Ls) 116 (.pointer (some ⟨r, 0, none⟩)) (fun k s => some (layK h k s)) (fun A k e W => KR W A h k e ∧ CkK h k) (fun A k e W => KR W A h k e) (LvI I (lfv fid c1 c2) r) (fun b e W => b = false ∧ J e W) B where
 en := enters_kidLaid1
 call := by
  intro s k e A w hI hp hB hA
  obtain ⟨⟨⟨e1, e3⟩, hx⟩, hc⟩ := hp
  obtain ⟨fr, nd, pl⟩ := e
  simp only at e1 e3 hx ⊢
  subst e1 e3
  have hx1 : nd.oneCell' = true := by obtain ⟨t, v, rfl⟩ := hx.iface; rfl
  have HI : Hid (I s w) := hI.1
  have hr := hI.2
  have HC : Hid (∀ W, Kept [] w W → Calls Tryz.prog 94 #[.agg #[.string k.1, .int .i64 (k.3 : Nat), nd], lfv fid c1 c2] W (LdR I J h s k A W)) := fun W kW => IH s k nd A W (ND.kept kW (by simp) (fun _ h => h) hx) (fun y hy => Nat.lt_of_lt_of_le (hA y hy) kW.size) hc (hL.fresh _ _ _ [] hI.1 kW (by simp)) (Nat.le_trans hB kW.size)
  have hsh := hx.iface
  clear hI hx
  go_enter Tryz.func116, Tryz.ntmps116
  go_wp2_with (first
   | (refine wpList_new rfl _ _ (exec_box 75 (.tmp 0) rfl #[.string k.1, .int .i64 (k.3 : Nat), nd] rfl) ?_; intro w1 n1 q1 hs1; have HS1 : Hid _ := hs1; clear hs1)
   | (refine wpList_alloc_d rfl 3 rfl 75 rfl _ (zkid _) ?_; intro w2 n2 q2 hs2; have HS2 : Hid _ := hs2; clear hs2; have m2 := q2.get n1 (by simp); have r2 := q2.get (q1.get hr (by simp)) (by simp); have c2' : w2.cell? ⟨r, 0, none⟩ = some (lfv fid c1 c2) := cellAt r2 rfl)
   | (refine wpList_load_row rfl 75 (.tmp 2) rfl w.heap.size rfl 75 #[.string k.1, .int .i64 (k.3 : Nat), nd] (0, 0) _ m2 Tryz.underlying75 rfl stk ?_))
  refine (HC.out w2 (q1.trans q2)).mono ?_
  rintro e w3 ⟨⟨x', rfl, hn3, hI3⟩ | hJ, hK3⟩
  ·have hx3 : x'.oneCell' = true := by obtain ⟨t, v, rfl⟩ := hn3.iface; rfl
   have n23 := hK3.row _ _ _ _ trivial (by decide) n2
   have r3 := hK3.row _ _ _ _ trivial (by decide) r2
   have HN : Hid (_ ∧ _) := ⟨hn3, hI3⟩
   clear hn3 hI3
   go_wp2_with (refine wpList_store_k rfl 75 (.tmp 3) (.tmp 6) rfl w1.heap.size #[.string k.1, .int .i64 ((layK h k s).1.3 : Nat), x'] rfl rfl 75 _ n23 stk rfl (all_of (one3f _ _ hx3)) ?_; intro w4 n4 q4)
   refine bodyPost_ret (results_cell_row rfl _ w4 w1.heap.size 75 _ (0, 0) _ rfl n4 Tryz.underlying75 rfl stk) rfl ?_
   have hs := hK3.size
   have hs1 := HS1.out
   have hs2 := HS2.out
   have fr4 : (layK h k s).1.1 = k.1 := by unfold layK; split <;> rfl
   refine ⟨Or.inl ⟨(layK h k s).1, (layK h k s).2, ⟨k.1, x', (layK h k s).1.3⟩, rfl, rfl, ⟨⟨fr4.symm, rfl⟩, ?_⟩, hL.fresh _ _ _ [w1.heap.size] HN.out.2 q4 (by intro y hy; simp at hy; subst hy; exact ⟨by omega, _, _, n23⟩), q4.get r3 (by simp; intro e; subst e; rw [n23] at r3; cases r3)⟩, (((KA.k0 (q1.trans q2)).trans hK3).new q4 (by intro y hy; simp at hy; subst hy; omega))⟩
   refine ND.kept q4 ?_ ?_ HN.out.1
   ·intro y hy
    simp at hy
    subst hy
    rintro (h1 | h1)
    ·have := hA _ h1; omega
    ·omega
   ·rintro y (h1 | h1)
    ·exact Or.inl h1
    ·exact Or.inr (by omega)
  ·obtain ⟨ch, rfl⟩ := hL.jp _ _ hJ
   exact ⟨rfl, Or.inr ⟨false, ⟨rfl, hJ⟩, by simp⟩, (KA.k0 (q1.trans q2)).trans hK3⟩
 fresh := by
  intro s W W' S hI hk hS
  refine ⟨hL.fresh _ _ _ S hI.1 hk hS, hk.get hI.2 fun hm => ?_⟩
  have := (hS r hm).2.ne ⟨_, _, hI.2⟩
  revert this
  decide
 pika := fun A k e W W' hp hk => ⟨⟨hp.1.1, ND.ka hk hp.1.2⟩, hp.2⟩
 poka := fun A k e W W' hp hk => ⟨hp.1, ND.ka hk hp.2⟩
 pomono := fun A A' k e W hp hA => ⟨hp.1, hp.2.amono hA⟩
 pish := fun A k e W hp => Or.inr hp.1.2.iface
 posh := fun A k e W hp => hp.2.iface
 jp := fun b e W hj => hL.jp _ _ hj.2

def LwR (I : Ls → World → Prop) (J : Ending → World → Prop) (h : Nat) (s : Ls) (n : Nd h) (A : Nat → Prop) (W : World) (e : Ending) (W' : World) : Prop :=
 ((∃ x', e = .returned x' ∧ ND W' (fun y => A y ∨ W.heap.size ≤ y) h (layN h n s).1 x' ∧ I (layN h n s).2 W') ∨ J e W') ∧ KA Tru W W'
theorem laid_with {fid : FuncId} {c1 c2 : Value} {I : Ls → World → Prop} {J : Ending → World → Prop} {B : Nat} (hL : Lyr fid c1 c2 I J B) : ∀ {h : Nat}, (∀ h', h = h' + 1 → LdOk fid c1 c2 I J B h') → ∀ (s : Ls) (n : Nd h) (x : Value) (A : Nat → Prop) (w : World) (r : Nat), ND w A h n x → (∀ y, A y → y < w.heap.size) → CkN h n → LvI I (lfv fid c1 c2) r s w → B ≤ w.heap.size →
  ∃ fn v, Disp "store/tree.with" x fn v ∧ Calls Tryz.prog fn #[v, .func (.func 116) #[] #[.pointer (some ⟨r, 0, none⟩)]] w (LwR (LvI I (lfv fid c1 c2) r) J h s n A w)
 | 0, _, s, n, x, A, w, r, hx, hA, hc, hI, hB => by
  have hx0 := hx
  obtain ⟨v, rfl, hl, _⟩ := hx
  obtain ⟨p, c, ev⟩ := SL.shape hl
  subst ev
  refine ⟨_, _, dWithL _ _ _, (leafWithK_any p _ c _ w).mono ?_⟩
  rintro e w' ⟨rfl, rfl⟩
  exact ⟨Or.inl ⟨_, rfl, hx0.amono fun _ h => Or.inl h, hI⟩, KA.refl _ _⟩
 | h + 1, IH, s, (n : List (Kid h)), x, A, w, r, hx, hA, hc, hI, hB => by
  obtain ⟨v, xs, rfl, hl, hvA, hf⟩ := ND_succ.1 hx
  have hck := CkN_succ.1 hc
  have HC := withB_any (laid_cgr hL (IH h rfl) r) v xs n s A w hl hA hvA ⟨hf.1, fun i a b ha hb => ⟨hf.2 i a b ha hb, hck.2 a (List.mem_of_getElem? ha)⟩⟩ hI hB (by rw [← hf.1]; omega)
  obtain ⟨p, c, ev⟩ := SL.shape hl
  subst ev
  refine ⟨_, _, dWithB _ _ _, HC.mono ?_⟩
  rintro e w' ⟨⟨bs, s', v', ys, hm, rfl, hl', ho', hf', hI'⟩ | ⟨b, hJ, _⟩, hK⟩
  ·rw [mapO_some] at hm
   simp only [Option.some.injEq] at hm
   have e1 : (layN (h + 1) n s).1 = bs := congrArg Prod.fst hm
   have e2 : (layN (h + 1) n s).2 = s' := congrArg Prod.snd hm
   refine ⟨Or.inl ⟨_, rfl, ?_, by rw [e2]; exact hI'⟩, hK⟩
   rw [e1]
   exact ND_succ.2 ⟨v', ys, rfl, hl', fun y hy => Or.inr (ho' y hy), hf'⟩
  ·exact ⟨Or.inr hJ.2, hK⟩

end Go.Proofs.YtcklgafpgdhnaabGreatDoor

namespace Go.Proofs.YtcklgafpgdhnaabGreatDoor
open Go.RowKit

def kx (k : ByteArray × Nat) : KE := ⟨k.1, .nilIface, k.2⟩
def pk0 (k : ByteArray × Nat) : El := ke (kx k)
def TiI {α : Type} (t : List UInt8 → Option (α × List UInt8)) (el : α → El) (T : TypeId) (d n q g g2 : Nat) (B : List UInt8) (w : World) (i : Value) (wr : World) : Prop :=
 ∃ (j : Nat) (l : List α) (R : List UInt8) (cur : List Value), j ≤ n ∧ i = .int .i64 (j : Nat) ∧ tMany t j ((B.drop 2).take 122) = some (l, R) ∧ Rst wr q g B R ∧ Rw wr g2 T cur ∧ cur.length = n * d ∧ cur.take (j * d) = fl (l.map el) ∧ Kept [] w wr
def TiR {α : Type} (t : List UInt8 → Option (α × List UInt8)) (el : α → El) (T : TypeId) (d n : Nat) (B : List UInt8) (w : World) (e : Ending) (w' : World) : Prop :=
 (match tMany t n ((B.drop 2).take 122) with
  | some (l, _) => ∃ v, e = .returned v ∧ SL w' T d v (l.map el) ∧ ∀ b, v.ownBlock = some b → w.heap.size ≤ b
  | none => Thr 7 e w') ∧ Kept [] w w'
theorem wd_pe (l : List Pr) : Wd 2 (l.map pe) := by
 intro e he
 obtain ⟨x, _, rfl⟩ := List.mem_map.1 he
 rfl
theorem wd_pk (l : List (ByteArray × Nat)) : Wd 3 (l.map pk0) := by
 intro e he
 obtain ⟨x, _, rfl⟩ := List.mem_map.1 he
 rfl
theorem rst_new {w : World} {q g : Nat} {B : List UInt8} (hv : w.heap[q]? = some (.cells #[.slice (some ⟨g, 2, none⟩) 122 126] 217 (0, 0))) (hb : w.heap[g]? = some (.cells (u8s B).toArray 80 (0, 0))) (hl : B.length = 128) : Rst w q g B ((B.drop 2).take 122) := by
 have e : ((B.drop 2).take 122).length = 122 := by rw [List.length_take, List.length_drop]; omega
 exact ⟨by rw [e]; exact hv, hb, hl, by omega, by rw [e]⟩
theorem mk_takeP (n : Nat) (hn : n ≤ 255) : ∃ new : List Value, new.length = n * 2 ∧ ∀ W : World, (Instr.makeSlice 134 (.int .i64 (n : Nat)) (.int .i64 (n : Nat))).run Tryz.prog W = .ok (.slice (some ⟨W.heap.size, 0, none⟩) n n) (W.alloc (.cells new.toArray 138)) := by
 obtain ⟨ie, hie, hz1, hz2, hz3⟩ := info_parts itp
 refine ⟨(madeCells (Value.agg #[.string ⟨#[]⟩, .string ⟨#[]⟩]).cells (n * 2)).toList, by rw [Array.length_toList, size_madeCells], fun W => ?_⟩
 have := run_make (P := Tryz.prog) W 134 138 ie _ Tryz.underlying134 hie hz1 .i64 .i64 (n : Int) (n : Int) (by omega) (by omega) (by rw [hz3]; omega) (by omega)
 rw [this, hz2]
 simp only [Int.toNat_natCast, Array.toArray_toList]
theorem takeP_any (g n : Nat) (B : List UInt8) (w : World) (hb : w.heap[g]? = some (.cells (u8s B).toArray 80 (0, 0))) (hl : B.length = 128) (hn : n ≤ 255) :
  Calls Tryz.prog 137 #[.slice (some ⟨g, 2, none⟩) 122 126, .int .i64 (n : Nat), .func (.func 138) #[] #[]] w (TiR tPair pe 138 2 n B w) := by
 obtain ⟨new, hnew, hmk⟩ := mk_takeP n hn
 have HTk : Hid (∀ R W, Rst W w.heap.size g B R → Calls Tryz.prog 138 #[.pointer (some ⟨w.heap.size, 0, none⟩)] W (TkE w.heap.size g B encQ (tPair R) W)) := fun R W hW => takePair_any w.heap.size g B R W hW
 have hen : ∀ (args : Array Value) (W : World), (callFunc 138 args).run Tryz.prog W = .ok (.enter 138 args) W := fun _ _ => by kernel_rfl
 have HM : Hid _ := hmk
 clear hmk
 go_enter Tryz.func137, Tryz.ntmps137
 go_wp2_with (first
  | (refine wpList_new rfl _ _ (exec_box1 217 (.tmp 0) rfl (.slice (some ⟨g, 2, none⟩) 122 126) rfl rfl) ?_; intro w1 n1 q1 hs1; have HS1 : Hid _ := hs1; clear hs1)
  | (at_make; refine wpList_make_k rfl _ _ _ rfl _ _ rfl rfl _ _ (HM.out w1) ?_; intro w2 n2 q2 hs2; have HS2 : Hid _ := hs2; clear hs2))
 have r2 : Rst w2 w.heap.size g B ((B.drop 2).take 122) := rst_new (q2.get n1 (by simp)) (q2.get (q1.get hb (by simp)) (by simp)) hl
 have K2 := q1.trans q2
 have n2' : Rw w2 w1.heap.size 138 new := n2
 have HR2 : Hid (Rst w2 w.heap.size g B ((B.drop 2).take 122)) := r2
 clear r2 n1 n2 q1 q2
 go_loopw [13] (fun i wr => TiI tPair pe 138 2 n w.heap.size g w1.heap.size B w i wr) (fun i _ => n - (intOf i).toNat)
 case atStart => exact ⟨0, [], _, new, Nat.zero_le _, rfl, rfl, HR2.out, n2', hnew, by simp [fl], K2⟩
 case round =>
  obtain ⟨j, l, R, cur, hj, rfl, hm, hr, hg, hcl, htk, hk⟩ := hrel
  have hll := tMany_len hm
  by_cases hlt : j < n
  ·have hlt' : (j : Int) < (n : Int) := by omega
   have HC := HTk.out R wr hr
   cases hx : tPair R with
   | none =>
    rw [hx] at HC
    have HC' : Hid (Calls _ _ _ _ _) := HC
    have HE : Hid (tMany tPair n ((B.drop 2).take 122) = none) := by
     show _ = _
     have := tMany_break tPair j ((B.drop 2).take 122) R l hm hx (n - (j + 1))
     rw [show j + 1 + (n - (j + 1)) = n by omega] at this
     exact this
    clear HC hr
    go_wp2_with fail
    refine HC'.out.mono ?_
    rintro e w3 ⟨ht, k3⟩
    obtain ⟨f, o, rfl, hf⟩ := Thr.ex ht
    refine ⟨rfl, ?_, hk.trans2 k3 (by intro y hy; simp at hy; subst hy; exact Or.inr (Nat.le_refl _))⟩
    rw [HE.out]
    exact ht
   | some z =>
    obtain ⟨x, R'⟩ := z
    rw [hx] at HC
    have HC' : Hid (Calls _ _ _ _ _) := HC
    have HE : Hid (tMany tPair (j + 1) ((B.drop 2).take 122) = some (l ++ [x], R')) := by
     show _ = _
     rw [tMany_snoc, hm]
     simp only [hx]
    clear HC hr
    go_wp2_with fail
    refine HC'.out.mono ?_
    rintro e w3 ⟨⟨rfl, r3⟩, k3⟩
    have hs1 := HS1.out
    have hg3 : Rw w3 w1.heap.size 138 cur := hg.kept k3 (by simp; omega)
    have hfit : j * 2 + 2 ≤ cur.length := by rw [hcl]; omega
    have hst := run_storeVar_seg (P := Tryz.prog) w3 w1.heap.size (j * 2) 138 138 cur [.string x.1, .string x.2] hg3 (by rw [stp]; rfl) (by show j * 2 + 2 ≤ cur.length; exact hfit) (one2p x)
    have k4 : Kept [w1.heap.size] w3 (w3.setRow w1.heap.size (splice cur (j * 2) [.string x.1, .string x.2]).toArray) := (Kept.refl _ _).setRow (Or.inl (by simp)) _
    have hg4 : Rw (w3.setRow w1.heap.size (splice cur (j * 2) [.string x.1, .string x.2]).toArray) w1.heap.size 138 (splice cur (j * 2) [.string x.1, .string x.2]) := setRow_heap _ _ _ _ _ _ hg3
    generalize w3.setRow w1.heap.size (splice cur (j * 2) [.string x.1, .string x.2]).toArray = w4 at *
    have hst' : (storeVar 138 ⟨w1.heap.size, j * 2, none⟩ (encQ x)).run Tryz.prog w3 = .ok () w4 := hst
    have HRF : Hid (Rst w4 w.heap.size g B R') := ⟨k4.get r3.v (by simp; omega), k4.get r3.b (by simp; exact ne_tag r3.b hg3 (by decide)), r3.l, r3.r, r3.e⟩
    clear r3 hs1
    simp only [encQ]
    go_wp2_with (first
     | (refine wpList_val rfl _ _ (exec_index 134 (.tmp 16) (.tmp 17) rfl w1.heap.size 0 n n j 2 rfl rfl 138 Tryz.underlying134 stp hlt (j * 2) (by omega)) ?_)
     | (refine wpList_skip rfl _ (exec_store 138 (.tmp 20) (.tmp 19) rfl ⟨w1.heap.size, j * 2, none⟩ rfl (.agg (List.toArray [.string x.1, .string x.2])) rfl hst') ?_))
    have hs1 := HS1.out
    have htk' : (splice cur (j * 2) [.string x.1, .string x.2]).take ((j + 1) * 2) = fl ((l ++ [x]).map pe) := by
     rw [List.map_append, fl_append, ← htk]
     have e1 : (cur.take (j * 2)).length = j * 2 := by rw [List.length_take]; omega
     unfold splice
     rw [List.take_append, e1, List.take_of_length_le (l := cur.take (j * 2)) (by omega), show (j + 1) * 2 - j * 2 = 2 by omega]
     congr 1
    go_roundw
    case rel => exact ⟨j + 1, l ++ [x], R', _, by omega, by go_num, HE.out, HRF.out, hg4, by rw [length_splice _ _ _ (by show j * 2 + 2 ≤ cur.length; exact hfit), hcl], htk', (hk.trans2 k3 (by intro y hy; simp at hy; subst hy; exact Or.inr (Nat.le_refl _))).trans2 k4 (by intro y hy; simp at hy; subst hy; exact Or.inr (by omega))⟩
    case measure => simp [intOf]; omega
  ·have hge : ¬ (j : Int) < (n : Int) := by omega
   have ej : j = n := by omega
   subst ej
   have HM2 : Hid (tMany tPair j ((B.drop 2).take 122) = some (l, R)) := hm
   clear hm hr
   go_wp2
   go_ret
   have hs1 := HS1.out
   refine ⟨?_, hk⟩
   rw [HM2.out]
   refine ⟨_, rfl, ?_, ?_⟩
   ·have := OW.close (B := w.heap.size) (w := wr) (wd_pe l) (by omega) hg (by rw [List.length_map, hll]) (Nat.le_refl _) (by unfold maxLen; omega) hcl htk
    exact this.sl
   ·intro b hb
    simp [Value.ownBlock] at hb
    omega

theorem mk_takeK (n : Nat) (hn : n ≤ 255) : ∃ new : List Value, new.length = n * 3 ∧ ∀ W : World, (Instr.makeSlice 177 (.int .i64 (n : Nat)) (.int .i64 (n : Nat))).run Tryz.prog W = .ok (.slice (some ⟨W.heap.size, 0, none⟩) n n) (W.alloc (.cells new.toArray 75)) := by
 obtain ⟨ie, hie, hz1, hz2, hz3⟩ := info_parts itk
 refine ⟨(madeCells (Value.agg #[.string ⟨#[]⟩, .int .i64 0, .nilIface]).cells (n * 3)).toList, by rw [Array.length_toList, size_madeCells], fun W => ?_⟩
 have := run_make (P := Tryz.prog) W 177 75 ie _ Tryz.underlying177 hie hz1 .i64 .i64 (n : Int) (n : Int) (by omega) (by omega) (by rw [hz3]; omega) (by omega)
 rw [this, hz2]
 simp only [Int.toNat_natCast, Array.toArray_toList]
theorem takeK_any (g n : Nat) (B : List UInt8) (w : World) (hb : w.heap[g]? = some (.cells (u8s B).toArray 80 (0, 0))) (hl : B.length = 128) (hn : n ≤ 255) :
  Calls Tryz.prog 139 #[.slice (some ⟨g, 2, none⟩) 122 126, .int .i64 (n : Nat), .func (.func 140) #[] #[]] w (TiR tKid pk0 75 3 n B w) := by
 obtain ⟨new, hnew, hmk⟩ := mk_takeK n hn
 have HTk : Hid (∀ R W, Rst W w.heap.size g B R → Calls Tryz.prog 140 #[.pointer (some ⟨w.heap.size, 0, none⟩)] W (TkE w.heap.size g B encK (tKid R) W)) := fun R W hW => takeKid_any w.heap.size g B R W hW
 have hen : ∀ (args : Array Value) (W : World), (callFunc 140 args).run Tryz.prog W = .ok (.enter 140 args) W := fun _ _ => by kernel_rfl
 have HM : Hid _ := hmk
 clear hmk
 go_enter Tryz.func139, Tryz.ntmps139
 go_wp2_with (first
  | (refine wpList_new rfl _ _ (exec_box1 217 (.tmp 0) rfl (.slice (some ⟨g, 2, none⟩) 122 126) rfl rfl) ?_; intro w1 n1 q1 hs1; have HS1 : Hid _ := hs1; clear hs1)
  | (at_make; refine wpList_make_k rfl _ _ _ rfl _ _ rfl rfl _ _ (HM.out w1) ?_; intro w2 n2 q2 hs2; have HS2 : Hid _ := hs2; clear hs2))
 have r2 : Rst w2 w.heap.size g B ((B.drop 2).take 122) := rst_new (q2.get n1 (by simp)) (q2.get (q1.get hb (by simp)) (by simp)) hl
 have K2 := q1.trans q2
 have n2' : Rw w2 w1.heap.size 75 new := n2
 have HR2 : Hid (Rst w2 w.heap.size g B ((B.drop 2).take 122)) := r2
 clear r2 n1 n2 q1 q2
 go_loopw [13] (fun i wr => TiI tKid pk0 75 3 n w.heap.size g w1.heap.size B w i wr) (fun i _ => n - (intOf i).toNat)
 case atStart => exact ⟨0, [], _, new, Nat.zero_le _, rfl, rfl, HR2.out, n2', hnew, by simp [fl], K2⟩
 case round =>
  obtain ⟨j, l, R, cur, hj, rfl, hm, hr, hg, hcl, htk, hk⟩ := hrel
  have hll := tMany_len hm
  by_cases hlt : j < n
  ·have hlt' : (j : Int) < (n : Int) := by omega
   have HC := HTk.out R wr hr
   cases hx : tKid R with
   | none =>
    rw [hx] at HC
    have HC' : Hid (Calls _ _ _ _ _) := HC
    have HE : Hid (tMany tKid n ((B.drop 2).take 122) = none) := by
     show _ = _
     have := tMany_break tKid j ((B.drop 2).take 122) R l hm hx (n - (j + 1))
     rw [show j + 1 + (n - (j + 1)) = n by omega] at this
     exact this
    clear HC hr
    go_wp2_with fail
    refine HC'.out.mono ?_
    rintro e w3 ⟨ht, k3⟩
    obtain ⟨f, o, rfl, hf⟩ := Thr.ex ht
    refine ⟨rfl, ?_, hk.trans2 k3 (by intro y hy; simp at hy; subst hy; exact Or.inr (Nat.le_refl _))⟩
    rw [HE.out]
    exact ht
   | some z =>
    obtain ⟨x, R'⟩ := z
    rw [hx] at HC
    have HC' : Hid (Calls _ _ _ _ _) := HC
    have HE : Hid (tMany tKid (j + 1) ((B.drop 2).take 122) = some (l ++ [x], R')) := by
     show _ = _
     rw [tMany_snoc, hm]
     simp only [hx]
    clear HC hr
    go_wp2_with fail
    refine HC'.out.mono ?_
    rintro e w3 ⟨⟨rfl, r3⟩, k3⟩
    have hs1 := HS1.out
    have hg3 : Rw w3 w1.heap.size 75 cur := hg.kept k3 (by simp; omega)
    have hfit : j * 3 + 3 ≤ cur.length := by rw [hcl]; omega
    have hst := run_storeVar_seg (P := Tryz.prog) w3 w1.heap.size (j * 3) 75 75 cur [.string x.1, .int .i64 (x.2 : Nat), .nilIface] hg3 (by rw [stk]; rfl) (by show j * 3 + 3 ≤ cur.length; exact hfit) (one3f _ _ rfl)
    have k4 : Kept [w1.heap.size] w3 (w3.setRow w1.heap.size (splice cur (j * 3) [.string x.1, .int .i64 (x.2 : Nat), .nilIface]).toArray) := (Kept.refl _ _).setRow (Or.inl (by simp)) _
    have hg4 : Rw (w3.setRow w1.heap.size (splice cur (j * 3) [.string x.1, .int .i64 (x.2 : Nat), .nilIface]).toArray) w1.heap.size 75 (splice cur (j * 3) [.string x.1, .int .i64 (x.2 : Nat), .nilIface]) := setRow_heap _ _ _ _ _ _ hg3
    generalize w3.setRow w1.heap.size (splice cur (j * 3) [.string x.1, .int .i64 (x.2 : Nat), .nilIface]).toArray = w4 at *
    have hst' : (storeVar 75 ⟨w1.heap.size, j * 3, none⟩ (encK x)).run Tryz.prog w3 = .ok () w4 := hst
    have HRF : Hid (Rst w4 w.heap.size g B R') := ⟨k4.get r3.v (by simp; omega), k4.get r3.b (by simp; exact ne_tag r3.b hg3 (by decide)), r3.l, r3.r, r3.e⟩
    clear r3 hs1
    simp only [encK]
    go_wp2_with (first
     | (refine wpList_val rfl _ _ (exec_index 177 (.tmp 16) (.tmp 17) rfl w1.heap.size 0 n n j 3 rfl rfl 75 Tryz.underlying177 stk hlt (j * 3) (by omega)) ?_)
     | (refine wpList_skip rfl _ (exec_store 75 (.tmp 20) (.tmp 19) rfl ⟨w1.heap.size, j * 3, none⟩ rfl (.agg (List.toArray [.string x.1, .int .i64 (x.2 : Nat), .nilIface])) rfl hst') ?_))
    have hs1 := HS1.out
    have htk' : (splice cur (j * 3) [.string x.1, .int .i64 (x.2 : Nat), .nilIface]).take ((j + 1) * 3) = fl ((l ++ [x]).map pk0) := by
     rw [List.map_append, fl_append, ← htk]
     have e1 : (cur.take (j * 3)).length = j * 3 := by rw [List.length_take]; omega
     unfold splice
     rw [List.take_append, e1, List.take_of_length_le (l := cur.take (j * 3)) (by omega), show (j + 1) * 3 - j * 3 = 3 by omega]
     congr 1
    go_roundw
    case rel => exact ⟨j + 1, l ++ [x], R', _, by omega, by go_num, HE.out, HRF.out, hg4, by rw [length_splice _ _ _ (by show j * 3 + 3 ≤ cur.length; exact hfit), hcl], htk', (hk.trans2 k3 (by intro y hy; simp at hy; subst hy; exact Or.inr (Nat.le_refl _))).trans2 k4 (by intro y hy; simp at hy; subst hy; exact Or.inr (by omega))⟩
    case measure => simp [intOf]; omega
  ·have hge : ¬ (j : Int) < (n : Int) := by omega
   have ej : j = n := by omega
   subst ej
   have HM2 : Hid (tMany tKid j ((B.drop 2).take 122) = some (l, R)) := hm
   clear hm hr
   go_wp2
   go_ret
   have hs1 := HS1.out
   refine ⟨?_, hk⟩
   rw [HM2.out]
   refine ⟨_, rfl, ?_, ?_⟩
   ·have := OW.close (B := w.heap.size) (w := wr) (wd_pk l) (by omega) hg (by rw [List.length_map, hll]) (Nat.le_refl _) (by unfold maxLen; omega) hcl htk
    exact this.sl
   ·intro b hb
    simp [Value.ownBlock] at hb
    omega

end Go.Proofs.YtcklgafpgdhnaabGreatDoor
