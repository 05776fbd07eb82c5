import Derived.Test.YtcklgafpgdhnaabGreatDoorPqaz
import Derived.Test.YtcklgafpgdhnaabGreatDoorPqbb
import Derived.Test.YtcklgafpgdhnaabGreatDoorPqat
import Derived.Test.YtcklgafpgdhnaabGreatDoorPqab
set_option maxRecDepth 100000
set_option maxHeartbeats 4000000
open Go.Proofs.Tryz
open Go.Act renaming put → zP
open List renaming getElem_toArray → zA, getElem_cons_succ → zB, getElem_cons_zero → zC, setIfInBounds_toArray → zD, set_cons_succ → zE, set_cons_zero → zF
namespace Go.Proofs.YtcklgafpgdhnaabGreatDoor
open Go.RowKit
theorem LyI.frs {a : Nat} {bv : Value} {n : Nat} {cv0 : Value} {b : Nat} {D : Dv} {us0 : List Nat} {w0 : World} {s : Ls} {W W' : World} {S : List Nat} (hI : LyI a bv n cv0 b D us0 w0 s W) (k : y5 S W W') (hS : ∀ y ∈ S, w0.heap.size <= y /\ ∃ t, t ∉ [65, 80, 82] /\ Tg W y t) : LyI a bv n cv0 b D us0 w0 s W' := by
  refine ⟨hI.sp.kept k ?_, hI.us, hI.nd, hI.ln, hI.sub, hI.fr, ?_, hI.kp.trans2 k fun y hy => Or.inr (hS y hy).1⟩
  · intro hm
    obtain ⟨_, t, _, cs, fr, hy⟩ := hS b hm
    exact hI.sp.ne hy rfl
  · obtain ⟨cv, D1, hd, h2, h3⟩ := hI.dq
    refine ⟨cv, D1, hd.kept k ?_, h2, h3⟩
    intro y hy hm
    obtain ⟨_, t, ht, cs, fr, hh⟩ := hS y hm
    exact hd.no hh ht hy
theorem Q8s {x v : Nat} {c : Hd} {t : Tr} {r : Value} {w : World} (h : ja x v c t r w) : (loadVar 77 ⟨x, 4, none⟩).run prog w = .ok (.agg #[.string ⟨#[]⟩, .int .i64 (c.lt.pl : Nat), c.lr]) w := by
  refine yV (P := prog) w x 4 79 77 (qk c v t r).toList [.string ⟨#[]⟩, .int .i64 (c.lt.pl : Nat), c.lr] (0, 0) _ h underlying77 rfl stT ?_
  intro j u hu
  rcases j with _ | _ | _ | j
  · simpa [qk] using hu
  · simpa [qk] using hu
  · simpa [qk] using hu
  · simp at hu
theorem Q8t {x v : Nat} {c : Hd} {t : Tr} {r : Value} {w : World} (h : ja x v c t r w) : (loadVar 71 ⟨x, 2, none⟩).run prog w = .ok (.agg #[.int .u64 (c.tu : Nat), .int .i64 (c.ro : Nat)]) w := by
  refine yV (P := prog) w x 2 79 71 (qk c v t r).toList [.int .u64 (c.tu : Nat), .int .i64 (c.ro : Nat)] (0, 0) _ h underlying71 rfl (by kernel_rfl) ?_
  intro j u hu
  rcases j with _ | _ | j
  · simpa [qk] using hu
  · simpa [qk] using hu
  · simp at hu
theorem Q8u {q n b : Nat} {w : World} (h : w.heap[q]? = some (.cells #[.int .i64 n, .map (some b)] 108 (0, 0))) : (loadVar 108 ⟨q, 0, none⟩).run prog w = .ok (.agg #[.int .i64 n, .map (some b)]) w := run_loadVar_row w q 108 108 _ (0, 0) _ h underlying108 rfl jT
theorem Q8v {o : Oper} {a : Act} {w : World} (fn : Fn) (x : Operand) (ho : o.op = .makeFunc fn #[x] #[]) (v : Value) (hx : a.eval x = v) : (execOp a.eval o).run prog w = .ok (.value (.func fn #[v] #[])) w := by
  simp [execOp, ho, hx, Q6Y]
theorem Q8w (n b : Nat) : (#[.int .i64 n, .map (some b)] : Array Value).all (·.oneCell') = true := yU (l := [.int .i64 n, .map (some b)]) (by intro u hu; simp at hu; rcases hu with rfl | rfl <;> rfl)
theorem Q8x (w : World) : (Instr.alloc 108 true (.tuple #[])).run prog w = .ok (.pointer (some ⟨w.heap.size, 0, none⟩)) (w.alloc (.cells #[.int .i64 0, .map none] 108)) := by kernel_rfl
theorem Q8y (args : Array Value) (w : World) : (callFunc 59 args).run prog w = .ok (.enter 59 args) w := qA func59 (by kernel_rfl) (by kernel_rfl) args w
theorem QR (args : Array Value) (w : World) : (callFunc 65 args).run prog w = .ok (.enter 65 args) w := qA func65 (by kernel_rfl) (by kernel_rfl) args w
theorem Q8z (args : Array Value) (w : World) : (callFunc 66 args).run prog w = .ok (.enter 66 args) w := qA func66 (by kernel_rfl) (by kernel_rfl) args w
theorem Q8A (args : Array Value) (w : World) : (callFunc 67 args).run prog w = .ok (.enter 67 args) w := qA func67 (by kernel_rfl) (by kernel_rfl) args w
theorem Q8B (p : Nat) (r : Value) (w : World) : Calls prog 65 #[.agg #[.string ⟨#[]⟩, .int .i64 (p : Nat), r]] w fun e w' => e = .returned (.int .i64 p) /\ y5 [] w w' := by
  go_enter func65, ntmps65
  go_wp2
  go_ret
  exact ⟨rfl, (y5.refl _ _).alloc _⟩
def usL (t : Tr) : List Nat := (qU t).reverse ++ [1, 0]
structure LyP (c : Hd) (t : Tr) (n : Nat) : Prop where
  nd : (usL c.lt).Nodup
  lt : ∀ p ∈ qU c.lt, p < n
  ck : CkK t.h ⟨yp, t.n, t.pl⟩
def FrW (lt : Tr) (n : Nat) (ws : List (Nat × List UInt8)) : Prop := (∀ p ∈ ws, p.1 ∉ usL lt /\ p.1 < n /\ p.2.length = 128) /\ ws.length <= n
def yw (c : Hd) (t : Tr) : Tr × Ls := QW t ⟨usL c.lt, []⟩
def CvN (cv cv' : Value) (m : Nat) : Prop := ∀ y, cv'.ownBlock = some y -> cv.ownBlock = some y \/ m <= y
theorem CvN.trans {cv cv' cv2 : Value} {m m' : Nat} (h : CvN cv cv' m) (g : CvN cv' cv2 m') (hm : m <= m') : CvN cv cv2 m := fun y hy => (g y hy).elim (h y) fun h2 => Or.inr (Nat.le_trans hm h2)
def Q8C (x v a n : Nat) (bv cv : Value) (c : Hd) (t : Tr) (D : Dv) (w : World) (W : World) : Prop :=
  ∃ r' cv' D' tu' ro', DQ W a bv n cv' D' /\ Rec x v a n ⟨c.s, tu', ro', (yw c t).1, r'⟩ r' (yw c t).1 W /\ (y5 (x :: ym a bv cv) w W /\ CvN cv cv' w.heap.size) /\ FrW c.lt n (yw c t).2.ws /\ (∀ u ∈ (yw c t).2.us, u < n) /\
    (((yw c t).1.pl = c.lt.pl /\ tu' = c.tu /\ ro' = c.ro /\ Wrs D (yw c t).2.ws D') \/ ((yw c t).1.pl ≠ c.lt.pl /\ tu' = nxt c.tu /\ ro' = (yw c t).1.pl /\ ∃ D1 D2 D3, Wrs D (yw c t).2.ws D1 /\ Fl D1 D2 /\ Wn D2 (nxt c.tu % 2) (blk (nxt c.tu) (yw c t).1.pl) D3 /\ Fl D3 D'))
def Q8D (x v a n : Nat) (bv cv : Value) (c : Hd) (r : Value) (t : Tr) (D : Dv) (w : World) (e : Ending) (W : World) : Prop :=
  ∃ cv' D' tu' ro', DQ W a bv n cv' D' /\ Rec x v a n ⟨c.s, tu', ro', c.lt, c.lr⟩ r t W /\ (y5 (x :: ym a bv cv) w W /\ CvN cv cv' w.heap.size) /\
    ((∃ ws D1, FrW c.lt n ws /\ Wrs D ws D1 /\ ((Er D1 D' /\ Thr 6 e W) \/ (D' = D1 /\ Thr 3 e W /\ ¬ Bd n (yw c t).2))) \/
     (Thr 6 e W /\ FrW c.lt n (yw c t).2.ws /\ ∃ D1 D2, Wrs D (yw c t).2.ws D1 /\ Fl D1 D2 /\ (Er D2 D' \/ ∃ D3, Wn D2 (nxt c.tu % 2) (blk (nxt c.tu) (yw c t).1.pl) D3 /\ Er D3 D')))
def LayR (x v a n : Nat) (bv cv : Value) (c : Hd) (r : Value) (t : Tr) (D : Dv) (w : World) (e : Ending) (W : World) : Prop :=
  (e = .returned (.tuple #[]) /\ Q8C x v a n bv cv c t D w W) \/ Q8D x v a n bv cv c r t D w e W
def S4 (rs rn x v : Nat) (c : Hd) (t : Tr) (r : Value) (pl' : Nat) (r' : Value) (W : World) : Prop := W.heap[rs]? = some (.cells #[.pointer (some ⟨x, 0, none⟩)] 24 (0, 0)) /\ ja x v c t r W /\ W.heap[rn]? = some (.cells #[.string ⟨#[]⟩, .int .i64 (pl' : Nat), r'] 77 (0, 0))
theorem Q8E {q pl' : Nat} {r' : Value} {w : World} (h : w.heap[q]? = some (.cells #[.string ⟨#[]⟩, .int .i64 (pl' : Nat), r'] 77 (0, 0))) : (loadVar 77 ⟨q, 0, none⟩).run prog w = .ok (.agg #[.string ⟨#[]⟩, .int .i64 (pl' : Nat), r']) w := run_loadVar_row w q 77 77 _ (0, 0) _ h underlying77 rfl jI
theorem Q8F {o : Oper} {a : Act} {w : World} (x y : Operand) (ho : o.op = .binOp .neq 3 x y 3) (m k : Nat) (hx : a.eval x = .int .i64 (m : Int)) (hy : a.eval y = .int .i64 (k : Int)) : (execOp a.eval o).run prog w = .ok (.value (.bool (decide (m ≠ k)))) w := by
  have hr : (binOp .neq 3 (.int .i64 m) (.int .i64 k)).run prog w = .ok (.bool (!decide ((m : Int) = (k : Int)))) w := rfl
  have hg : (eqGuard .neq 3 x y (.int .i64 m) (.int .i64 k)).run prog w = .ok () w := by simp [eqGuard]
  have e : (!decide ((m : Int) = (k : Int))) = decide (m ≠ k) := by
    by_cases h : m = k
    · simp [h]
    · have h' : ¬ (m : Int) = (k : Int) := by omega
      simp [h, h']
  rw [e] at hr
  simp [execOp, ho, hx, hy, hr, hg]
def S8 (rs rn x pl' : Nat) (r' : Value) (W : World) : Prop := W.heap[rs]? = some (.cells #[.pointer (some ⟨x, 0, none⟩)] 24 (0, 0)) /\ W.heap[rn]? = some (.cells #[.string ⟨#[]⟩, .int .i64 (pl' : Nat), r'] 77 (0, 0))
theorem Q8G {x v a n : Nat} {C : Hd} {t T' : Tr} {r r' : Value} {pl' : Nat} {W y : World} (hv : Vol W v a n) (htv : TV W Tru T' r') (hrx : ja x v C t r W) (k : y5 [x] W y) (hs : 1 <= C.s /\ C.s <= 3) (hpl : pl' = T'.pl)
    (hy : y.heap[x]? = some (.cells (splice (splice (qk C v t r).toList (0 + 4) [.string ⟨#[]⟩, .int .i64 (pl' : Nat), r']) (0 + 7) [.string ⟨#[]⟩, .int .i64 (pl' : Nat), r']).toArray 79 (0, 0))) : Rec x v a n ⟨C.s, C.tu, C.ro, T', r'⟩ r' T' y := by
  have hn : ∀ z ∈ [x], ¬ TT W z := by
    intro z hz
    simp at hz
    subst hz
    rintro (⟨cs, fr, hh⟩ | ⟨cs, fr, hh⟩)
    · exact yP hrx hh (by decide) rfl
    · exact yP hrx hh (by decide) rfl
  have htv' : TV y Tru T' r' := TV.kept htv.tags k hn fun _ _ => trivial
  subst hpl
  exact ⟨hy, k.get hv (by simp; exact yP hv hrx (by decide)), hs, htv', htv'⟩
theorem Q8H {c : Hd} {t : Tr} {n : Nat} (hc : CkK t.h ⟨yp, t.n, t.pl⟩) (hn : n <= 1000) (hu : ∀ u ∈ (yw c t).2.us, u < n) : (yw c t).1.pl < 65536 := by
  unfold yw at *
  unfold QW at *
  split
  · exact hc.2.1
  · rename_i hne
    rw [if_neg hne] at hu
    by_cases hz : t.pl = 0
    · rw [Qu (k := ⟨yp, t.n, t.pl⟩) hz] at hu ⊢
      have := hu _ (List.mem_cons_self ..)
      simp only at this ⊢
      omega
    · rw [jC (k := ⟨yp, t.n, t.pl⟩) hz]
      exact hc.2.1
def S2 (rs rb x v n b : Nat) (c : Hd) (t : Tr) (r : Value) (W : World) : Prop := W.heap[rs]? = some (.cells #[.pointer (some ⟨x, 0, none⟩)] 24 (0, 0)) /\ ja x v c t r W /\ W.heap[rb]? = some (.cells #[.int .i64 n, .map (some b)] 108 (0, 0))
theorem Q8I (x v a n : Nat) (bv cv : Value) (c : Hd) (r : Value) (t : Tr) (D : Dv) (w : World) (hR : Rec x v a n c r t w) (hd : DQ w a bv n cv D) (hP : LyP c t n) (hn8 : 8 <= n) (hn : n <= 400) (hq : D.q.length <= 800000) (htu : (nxt c.tu : Int) < 18446744073709551616) (hT : qc D \/ Tab w) :
    Calls prog 36 #[.pointer (some ⟨x, 0, none⟩)] w (LayR x v a n bv cv c r t D w) := by
  have hmf := Q6Y
  have c1 : ∀ w1, y5 [] w w1 -> w1.cell? ⟨x, 1, none⟩ = some (.pointer (some ⟨v, 0, none⟩)) := fun w1 k => y6 (k.get hR.row (by simp)) rfl
  have HVS : Hid (∀ W, y5 [] w W -> Calls prog 58 #[.pointer (some ⟨v, 0, none⟩)] W fun e w' => e = .returned (.int .i64 n) /\ y5 [] W w') := fun W k => Zr v a n W (k.get hR.vol (by simp))
  have HC1 : Hid _ := c1
  have HR : Hid (Rec x v a n c r t w) := hR
  have HD : Hid (DQ w a bv n cv D) := hd
  have HP : Hid (LyP c t n) := hP
  have HT : Hid (qc D \/ Tab w) := hT
  have HU : Hid ((nxt c.tu : Int) < 18446744073709551616 /\ D.q.length <= 800000) := ⟨htu, hq⟩
  clear c1 hR hd hP hT htu hq
  go_enter func36, ntmps36
  go_wp2_with (first
    | (refine yK rfl _ _ (gY 24 (.tmp 0) rfl (.pointer (some ⟨x, 0, none⟩)) rfl rfl) ?_; intro w1 n1 q1 hs1; have HS1 : Hid _ := hs1; clear hs1; have c10 : w1.cell? ⟨w.heap.size, 0, none⟩ = some (.pointer (some ⟨x, 0, none⟩)) := y6 n1 rfl; have c11 := HC1.out w1 q1)
    | (go_at_call 58; refine (HVS.out w1 q1).mono ?_; rintro e w2 ⟨rfl, q2⟩)
    | (go_at_call 57; refine (Q2g n w2 hn8).mono ?_; rintro e w3 ⟨b, rfl, sp3, hb3, q3⟩)
    | (refine yc rfl 2 rfl 108 rfl _ (Q8x _) ?_; intro w4 n4 q4 hs4; have HS4 : Hid _ := hs4; clear hs4)
    | (refine yb rfl 108 (.tmp 2) (.tmp 9) rfl w3.heap.size #[.int .i64 n, .map (some b)] rfl rfl 108 _ n4 jT rfl (Q8w _ _) ?_; intro w5 n5 q5))
  have hR := HR.out
  have hd := HD.out
  have hP := HP.out
  have hT := HT.out
  have hq := HU.out.2
  have hs1 := HS1.out
  have hz2 := q2.size
  have hz3 := q3.size
  have K4 : y5 [] w w4 := ((q1.trans q2).trans q3).trans q4
  have K5 : y5 [] w w5 := K4.trans2 q5 (by intro y hy; simp at hy; subst hy; exact Or.inr (by omega))
  have hz5 := K5.size
  have rs5 := q5.get (q4.get (q3.get (q2.get n1 (by simp)) (by simp)) (by simp)) (by simp; omega)
  have sp5 : SpM w5 b [1, 0] := (sp3.kept q4 (by simp)).kept q5 (by simp; have := sp3.lt; omega)
  have hR5 := hR.k K5
  have hS : S2 w.heap.size w3.heap.size x v n b c t r w5.drew := ⟨rs5, hR5.row, n5⟩
  have hbw : w.heap.size <= b := by omega
  have hpl : (qU c.lt).length <= n := by
    have := gF n (qU c.lt).reverse (List.nodup_append.1 hP.nd).1 (fun u hu => hP.lt u (List.mem_reverse.1 hu))
    rwa [List.length_reverse] at this
  have HB : Hid (Calls _ _ _ _ _) := Q88 n b [1, 0] c.lt c.lr w5.drew (TV.tags (hR5.lv.k (y5.refl [] w5).drew)) (sp5.kept (y5.refl [] w5).drew (by simp)) hP.nd hP.lt (by omega) (by simp; omega)
  clear q1 q2 q3 q4 q5 n1 n4 n5 rs5 c10 c11 sp3 hR5
  go_wp2_with fail
  refine yj (S2 w.heap.size w3.heap.size x v n b c t r) (by kernel_rfl) ?_
  refine hu 0 (.pointer (some ⟨x, 0, none⟩)) rfl (fun W hW => y9 24 (.tmp 1) rfl ⟨w.heap.size, 0, none⟩ rfl _ (yh underlying24 rfl (y6 hW.1 rfl))) hS ?_
  simp only [zP, zA, zC, zD, zE, zF]
  refine hu 1 (.pointer (some ⟨x, 0, none⟩)) rfl (fun W hW => by rfl) hS ?_
  simp only [zP, zA, zB, zC, zD, zE, zF]
  refine hu 2 (.pointer (some ⟨x, 0 + 4, none⟩)) rfl (fun W hW => yv 79 (.tmp 11) 3 rfl x 0 rfl 4 (by rfl)) hS ?_
  simp only [zP, zA, zB, zC, zD, zE, zF]
  refine hu 3 (.agg #[.string ⟨#[]⟩, .int .i64 (c.lt.pl : Nat), c.lr]) rfl (fun W hW => y9 77 (.tmp 12) rfl ⟨x, 0 + 4, none⟩ rfl _ (Q8s hW.2.1)) hS ?_
  simp only [zP, zA, zB, zC, zD, zE, zF]
  refine hu 4 (.agg #[.int .i64 n, .map (some b)]) rfl (fun W hW => y9 108 (.tmp 2) rfl ⟨w3.heap.size, 0, none⟩ rfl _ (Q8u hW.2.2)) hS ?_
  simp only [zP, zA, zB, zC, zD, zE, zF]
  refine hu 5 (.func (.func 60) #[.agg #[.int .i64 n, .map (some b)]] #[]) rfl (fun W hW => Q8v (.func 60) (.tmp 14) rfl _ rfl) hS ?_
  simp only [zP, zA, zB, zC, zD, zE, zF]
  refine yf (i := 6) (by kernel_rfl) (yo rfl (by rfl) 59 #[.agg #[.string ⟨#[]⟩, .int .i64 (c.lt.pl : Nat), c.lr], .func (.func 60) #[.agg #[.int .i64 n, .map (some b)]] #[]] (yk _ _ _ rfl _ (by simp [Act.eval]) (Q8y _ _)) _ HB.out ?_)
  rintro e w6 ⟨rfl, sp6, k6⟩
  have nb : ∀ {y : Nat} {cs : Array Value} {t : TypeId} {fr : Nat × Nat}, w5.heap[y]? = some (.cells cs t fr) -> y ∉ [b] := by
    intro y cs t fr hy hm
    simp at hm
    exact sp5.ne hy hm
  have hS6 : S2 w.heap.size w3.heap.size x v n b c t r w6 := ⟨k6.get (w := w5.drew) hS.1 (nb hS.1), k6.get (w := w5.drew) hS.2.1 (nb hS.2.1), k6.get (w := w5.drew) hS.2.2 (nb hS.2.2)⟩
  have K6 : y5 [] w w6 := K5.drew.trans2 k6 (by intro y hy; simp at hy; subst hy; exact Or.inr hbw)
  refine ⟨_, rfl, hS6, ?_⟩
  simp only [zP, zA, zB, zC, zD, zE, zF]
  refine wpAnyH_done (by kernel_rfl) ?_ _
  have hR6 := hR.k K6
  have hd6 := hd.k0 K6
  have hT6 : qc D \/ Tab w6 := hT.imp id fun h => h.k K6
  have hI6 : LyI a bv n cv b D (usL c.lt) w6 ⟨usL c.lt, []⟩ w6 := by
    refine ⟨sp6, ?_, hP.nd, Nat.zero_le _, fun _ h => h, by simp, ⟨cv, D, hd6, Wrs.nil D, fun _ h => Or.inl h⟩, y5.refl _ _⟩
    intro u hu
    rcases List.mem_append.1 hu with hu | hu
    · exact hP.lt u (List.mem_reverse.1 hu)
    · simp at hu; omega
  have hL := Q82 x v a n w3.heap.size w.heap.size b bv cv D (usL c.lt) (usL c.lt) w6 c t r hS6.2.2 hS6.1 hS6.2.1 hR6.vol hd6 sp6 (by omega) (by omega) hT6
  have HTL : Hid (Calls _ _ _ _ _) := Q86 hL ⟨usL c.lt, []⟩ t r w6 hR6.tv hP.ck hI6 (Nat.le_refl _) (fun s W W' S hI k hS => LyI.frs hI k fun y hy => ⟨(hS y hy).1, _, by decide, (hS y hy).2⟩)
  have HNo : Hid (∀ {y : Nat} {cs : Array Value} {t : TypeId} {fr : Nat × Nat}, w6.heap[y]? = some (.cells cs t fr) -> t ∉ [65, 80, 82] -> y ∉ b :: ym a bv cv) := by
    intro y cs t fr hy ht hm
    rcases List.mem_cons.1 hm with rfl | hm
    · exact sp6.ne hy rfl
    · exact hd6.no hy ht hm
  have HSub : Hid (∀ y ∈ b :: ym a bv cv, y ∈ x :: ym a bv cv \/ w.heap.size <= y) := by
    intro y hy
    rcases List.mem_cons.1 hy with rfl | hy
    · exact Or.inr hbw
    · exact Or.inl (List.mem_cons_of_mem _ hy)
  have c60 : w6.cell? ⟨w.heap.size, 0, none⟩ = some (.pointer (some ⟨x, 0, none⟩)) := y6 hS6.1 rfl
  have hld6 := Q8i hS6.2.1
  clear hS HB sp5 nb k6 hI6
  go_wp2_with (first
    | (refine ye rfl 77 (.tmp 19) rfl ⟨x, 7, none⟩ rfl _ hld6 ?_))
  refine HTL.out.mono ?_
  rintro e w7 ⟨⟨r', rfl, tv7, hI7⟩ | ⟨bx, hJ, hbx⟩, hK7⟩
  rotate_left
  · obtain ⟨ws, cv', D1, D', hdq, hwr, hcase, hfr, hcv, hkp⟩ := hJ
    have hR7 : Rec x v a n c r t w7 := hR6.kept hkp (HNo.out hS6.2.1 (by decide)) fun y hy => ⟨fun ⟨cs, fr, hh⟩ => HNo.out hh (by decide) hy, fun ht => by rcases ht with ⟨cs, fr, hh⟩ | ⟨cs, fr, hh⟩ <;> exact HNo.out hh (by decide) hy⟩
    have K7 : y5 (x :: ym a bv cv) w w7 := (K6.mono (by simp)).trans2 hkp (HSub.out)
    have FIN : ∀ en, (Er D1 D' /\ Thr 6 en w7 \/ D' = D1 /\ Thr 3 en w7 /\ ¬ Bd n (yw c t).2) -> LayR x v a n bv cv c r t D w en w7 := fun en hc => Or.inr ⟨cv', D', c.tu, c.ro, hdq, hR7, ⟨K7, fun y hy => (hcv y hy).imp id fun h => Nat.le_trans K6.size h⟩, Or.inl ⟨ws, D1, hfr, hwr, hc⟩⟩
    rcases hcase with ⟨_, her, hth⟩ | ⟨hbt, her, hth⟩
    · obtain ⟨f, o, rfl, hf⟩ := hth.ex
      exact ⟨rfl, FIN _ (Or.inl ⟨her, hth⟩)⟩
    · obtain ⟨f, o, rfl, hf⟩ := hth.ex
      exact ⟨rfl, FIN _ (Or.inr ⟨her, hth, hbx hbt⟩)⟩
  have hr1 := tv7.one
  have HX : Hid (TV w7 Tru (yw c t).1 r' /\ LyI a bv n cv b D (usL c.lt) w6 (yw c t).2 w7) := ⟨tv7, hI7⟩
  have rs7 := hK7.row _ _ _ _ trivial (by decide) hS6.1
  have rx7 := hK7.row _ _ _ _ trivial (by decide) hS6.2.1
  have hz7 := hK7.size
  obtain ⟨pl', epl⟩ : ∃ pl', pl' = (yw c t).1.pl := ⟨_, rfl⟩
  have hpl7 : (QW t ⟨usL c.lt, []⟩).1.pl = pl' := epl.symm
  rw [hpl7]
  have HPl : Hid (pl' = (yw c t).1.pl) := epl
  clear tv7 hI7 hpl7 epl
  go_wp2_with (first
    | (refine yc rfl 3 rfl 77 rfl _ (Q85 _) ?_; intro w8 n8 q8 hs8; have HS8 : Hid _ := hs8; clear hs8)
    | (refine yb rfl 77 (.tmp 3) (.tmp 22) rfl w7.heap.size #[.string yp, .int .i64 (pl' : Nat), r'] rfl rfl 77 _ n8 jI rfl (yU (qQ _ _ hr1)) ?_; intro w9 n9 q9))
  have hk9 : y5 [] w7 w9 := q8.trans2 q9 (by intro y hy; simp at hy; subst hy; exact Or.inr (Nat.le_refl _))
  have rs9 := hk9.get rs7 (by simp)
  have rx9 : ja x v c t r w9 := hk9.get rx7 (by simp)
  have rn9 : w9.heap[w7.heap.size]? = some (.cells #[.string ⟨#[]⟩, .int .i64 (pl' : Nat), r'] 77 (0, 0)) := n9
  have hX9 : TV w9 Tru (yw c t).1 r' /\ LyI a bv n cv b D (usL c.lt) w6 (yw c t).2 w9 := ⟨HX.out.1.k hk9, LyI.frs HX.out.2 hk9 (by simp)⟩
  have hK9 : KA Tru w6 w9 := hK7.trans (KA.k0 hk9)
  clear hk9 q8 q9 n8 n9 rs7 rx7 HX hK7
  have hS9 : S4 w.heap.size w7.heap.size x v c t r pl' r' w9.drew := ⟨rs9, rx9, rn9⟩
  go_wp2_with fail
  refine yj (S4 w.heap.size w7.heap.size x v c t r pl' r') (by kernel_rfl) ?_
  refine hu 0 (.agg #[.string ⟨#[]⟩, .int .i64 (pl' : Nat), r']) rfl (fun W hW => y9 77 (.tmp 3) rfl ⟨w7.heap.size, 0, none⟩ rfl _ (Q8E hW.2.2)) hS9 ?_
  simp only [zP, zA, zC, zD, zE, zF]
  refine hu 2 (.pointer (some ⟨x, 0, none⟩)) rfl (fun W hW => y9 24 (.tmp 1) rfl ⟨w.heap.size, 0, none⟩ rfl _ (yh underlying24 rfl (y6 hW.1 rfl))) hS9 ?_
  simp only [zP, zA, zB, zC, zD, zE, zF]
  refine hu 3 (.pointer (some ⟨x, 0, none⟩)) rfl (fun W hW => by rfl) hS9 ?_
  simp only [zP, zA, zB, zC, zD, zE, zF]
  refine hu 4 (.pointer (some ⟨x, 0 + 4, none⟩)) rfl (fun W hW => yv 79 (.tmp 26) 3 rfl x 0 rfl 4 (by rfl)) hS9 ?_
  simp only [zP, zA, zB, zC, zD, zE, zF]
  refine hu 5 (.agg #[.string ⟨#[]⟩, .int .i64 (c.lt.pl : Nat), c.lr]) rfl (fun W hW => y9 77 (.tmp 27) rfl ⟨x, 0 + 4, none⟩ rfl _ (Q8s hW.2.1)) hS9 ?_
  simp only [zP, zA, zB, zC, zD, zE, zF]
  refine yf (i := 1) (by kernel_rfl) (yo rfl (by rfl) 65 #[.agg #[.string ⟨#[]⟩, .int .i64 (pl' : Nat), r']] (yk _ _ _ rfl _ (by simp [Act.eval]) (QR _ _)) _ (Q8B pl' r' _) ?_)
  rintro e wa ⟨rfl, ka⟩
  have hSa : S4 w.heap.size w7.heap.size x v c t r pl' r' wa := ⟨ka.get hS9.1 (by simp), ka.get hS9.2.1 (by simp), ka.get hS9.2.2 (by simp)⟩
  refine ⟨_, rfl, hSa, ?_⟩
  simp only [zP, zA, zB, zC, zD, zE, zF]
  refine yf (i := 6) (by kernel_rfl) (yo rfl (by rfl) 65 #[.agg #[.string ⟨#[]⟩, .int .i64 (c.lt.pl : Nat), c.lr]] (yk _ _ _ rfl _ (by simp [Act.eval]) (QR _ _)) _ (Q8B c.lt.pl c.lr _) ?_)
  rintro e wb ⟨rfl, kb⟩
  have hSb : S4 w.heap.size w7.heap.size x v c t r pl' r' wb := ⟨kb.get hSa.1 (by simp), kb.get hSa.2.1 (by simp), kb.get hSa.2.2 (by simp)⟩
  refine ⟨_, rfl, hSb, ?_⟩
  simp only [zP, zA, zB, zC, zD, zE, zF]
  refine yf (i := 7) (by kernel_rfl) (yy rfl (by rfl) (.bool (decide (pl' ≠ c.lt.pl))) _ (Q8F (.tmp 24) (.tmp 29) rfl pl' c.lt.pl rfl rfl) ⟨hSb, ?_⟩)
  simp only [zP, zA, zB, zC, zD, zE, zF]
  have Kb : y5 [] w9 wb := ((y5.refl [] w9).drew.trans ka).trans kb
  have hXb : TV wb Tru (yw c t).1 r' /\ LyI a bv n cv b D (usL c.lt) w6 (yw c t).2 wb := ⟨hX9.1.k Kb, LyI.frs hX9.2 Kb (by simp)⟩
  clear hS9 hSa ka kb rs9 rx9 rn9 hX9
  have hkpb := hXb.2.kp
  have hRb : Rec x v a n c r t wb := hR6.kept hkpb (HNo.out hS6.2.1 (by decide)) fun y hy => ⟨fun ⟨cs, fr, hh⟩ => HNo.out hh (by decide) hy, fun ht => by rcases ht with ⟨cs, fr, hh⟩ | ⟨cs, fr, hh⟩ <;> exact HNo.out hh (by decide) hy⟩
  have KWb : y5 (x :: ym a bv cv) w wb := (K6.mono (by simp)).trans2 hkpb HSub.out
  obtain ⟨cvb, Db, hdb, hwb, hcvb⟩ := hXb.2.dq
  have HCVb : Hid (CvN cv cvb w.heap.size) := fun y hy => (hcvb y hy).imp id fun h => Nat.le_trans K6.size h
  have hfrb : FrW c.lt n (yw c t).2.ws := ⟨hXb.2.fr, by have h1 := hXb.2.ln; have h2 := gF n _ hXb.2.nd hXb.2.us; omega⟩
  have husb := hXb.2.us
  have hqb : Db.q.length <= 1000000 := by
    have h1 := hXb.2.ln
    have h2 := gF n _ hXb.2.nd hXb.2.us
    rw [hwb.q, List.length_append]
    omega
  have hpls := Q8H hP.ck (by omega) husb
  rw [<- HPl.out] at hpls
  have hzw6 := K6.size
  have HTVb : Hid (TV wb Tru (yw c t).1 r') := hXb.1
  have HRb : Hid (Rec x v a n c r t wb) := hRb
  have hvb : Vol wb v a n := hRb.vol
  have hTb : qc Db \/ Tab wb := hT6.imp hwb.good.2 fun h => h.ka (hK9.trans (KA.k0 Kb))
  clear hXb hRb hkpb hR6 hR hd hd6 hT hT6 hL hld6 c60 sp6
  by_cases hroot : pl' = c.lt.pl
  · rw [show decide (pl' ≠ c.lt.pl) = false from decide_eq_false (by simpa using hroot)]
    refine wpAnyH_done (by kernel_rfl) ?_ _
    have hrs := hSb.1
    have hrx := hSb.2.1
    have hrn := hSb.2.2
    clear hSb
    go_wp2_with fail
    have hS8 : S8 w.heap.size w7.heap.size x pl' r' wb.drew := ⟨hrs, hrn⟩
    refine yj (S8 w.heap.size w7.heap.size x pl' r') (by kernel_rfl) ?_
    refine hu 0 (.pointer (some ⟨x, 0, none⟩)) rfl (fun W hW => y9 24 (.tmp 1) rfl ⟨w.heap.size, 0, none⟩ rfl _ (yh underlying24 rfl (y6 hW.1 rfl))) hS8 ?_
    simp only [zP, zA, zC, zD, zE, zF]
    refine hu 1 (.pointer (some ⟨x, 0, none⟩)) rfl (fun W hW => y9 24 (.tmp 1) rfl ⟨w.heap.size, 0, none⟩ rfl _ (yh underlying24 rfl (y6 hW.1 rfl))) hS8 ?_
    simp only [zP, zA, zB, zC, zD, zE, zF]
    refine hu 2 ((.agg #[.string ⟨#[]⟩, .int .i64 (pl' : Nat), r'])) rfl (fun W hW => y9 77 (.tmp 3) rfl ⟨w7.heap.size, 0, none⟩ rfl _ (Q8E hW.2)) hS8 ?_
    simp only [zP, zA, zB, zC, zD, zE, zF]
    refine hu 3 ((.agg #[.string ⟨#[]⟩, .int .i64 (pl' : Nat), r'])) rfl (fun W hW => y9 77 (.tmp 3) rfl ⟨w7.heap.size, 0, none⟩ rfl _ (Q8E hW.2)) hS8 ?_
    simp only [zP, zA, zB, zC, zD, zE, zF]
    refine hu 4 (.pointer (some ⟨x, 0, none⟩)) rfl (fun W hW => by rfl) hS8 ?_
    simp only [zP, zA, zB, zC, zD, zE, zF]
    refine hu 5 (.pointer (some ⟨x, 0 + 4, none⟩)) rfl (fun W hW => yv 79 (.tmp 59) 3 rfl x 0 rfl 4 (by rfl)) hS8 ?_
    simp only [zP, zA, zB, zC, zD, zE, zF]
    have hst1 := yE (P := prog) wb.drew x (0 + 4) 79 77 (qk c v t r).toList [.string ⟨#[]⟩, .int .i64 (pl' : Nat), r'] hrx jI (by show 4 + 3 <= 10; omega) (qQ _ _ hr1)
    have kx1 : y5 [x] wb (wb.drew.setRow x (splice (qk c v t r).toList (0 + 4) [.string ⟨#[]⟩, .int .i64 (pl' : Nat), r']).toArray) := ((y5.refl _ _).drew).setRow (Or.inl (by simp)) _
    have hx1 : (wb.drew.setRow x (splice (qk c v t r).toList (0 + 4) [.string ⟨#[]⟩, .int .i64 (pl' : Nat), r']).toArray).heap[x]? = some (.cells (splice (qk c v t r).toList (0 + 4) [.string ⟨#[]⟩, .int .i64 (pl' : Nat), r']).toArray 79 (0, 0)) := setRow_heap _ _ _ _ _ _ hrx
    have rs1 := kx1.get hrs (by simp; exact yP hrs hrx (by decide))
    have rn1 := kx1.get hrn (by simp; exact yP hrn hrx (by decide))
    generalize wb.drew.setRow x (splice (qk c v t r).toList (0 + 4) [.string ⟨#[]⟩, .int .i64 (pl' : Nat), r']).toArray = y1 at *
    refine yf (i := 6) (by kernel_rfl) (qo rfl rfl y1 (yH 77 (.tmp 60) (.tmp 57) rfl ⟨x, 0 + 4, none⟩ rfl (.agg #[.string ⟨#[]⟩, .int .i64 (pl' : Nat), r']) rfl hst1) ⟨⟨rs1, rn1⟩, ?_⟩)
    simp only [zP, zA, zC, zB]
    have hSy : S8 w.heap.size w7.heap.size x pl' r' y1 := ⟨rs1, rn1⟩
    refine hu 7 (.pointer (some ⟨x, 0, none⟩)) rfl (fun W hW => by rfl) hSy ?_
    simp only [zP, zA, zB, zC, zD, zE, zF]
    refine hu 8 (.pointer (some ⟨x, 0 + 7, none⟩)) rfl (fun W hW => yv 79 (.tmp 61) 4 rfl x 0 rfl 7 (by rfl)) hSy ?_
    simp only [zP, zA, zB, zC, zD, zE, zF]
    have hst2 := yE (P := prog) y1 x (0 + 7) 79 77 (splice (qk c v t r).toList (0 + 4) [.string ⟨#[]⟩, .int .i64 (pl' : Nat), r']) [.string ⟨#[]⟩, .int .i64 (pl' : Nat), r'] hx1 jI (by show 7 + 3 <= 10; omega) (qQ _ _ hr1)
    have kx2 : y5 [x] y1 (y1.setRow x (splice (splice (qk c v t r).toList (0 + 4) [.string ⟨#[]⟩, .int .i64 (pl' : Nat), r']) (0 + 7) [.string ⟨#[]⟩, .int .i64 (pl' : Nat), r']).toArray) := (y5.refl _ _).setRow (Or.inl (by simp)) _
    have hx2 : (y1.setRow x (splice (splice (qk c v t r).toList (0 + 4) [.string ⟨#[]⟩, .int .i64 (pl' : Nat), r']) (0 + 7) [.string ⟨#[]⟩, .int .i64 (pl' : Nat), r']).toArray).heap[x]? = some (.cells (splice (splice (qk c v t r).toList (0 + 4) [.string ⟨#[]⟩, .int .i64 (pl' : Nat), r']) (0 + 7) [.string ⟨#[]⟩, .int .i64 (pl' : Nat), r']).toArray 79 (0, 0)) := setRow_heap _ _ _ _ _ _ hx1
    have rs2 := kx2.get rs1 (by simp; exact yP rs1 hx1 (by decide))
    have rn2 := kx2.get rn1 (by simp; exact yP rn1 hx1 (by decide))
    generalize y1.setRow x (splice (splice (qk c v t r).toList (0 + 4) [.string ⟨#[]⟩, .int .i64 (pl' : Nat), r']) (0 + 7) [.string ⟨#[]⟩, .int .i64 (pl' : Nat), r']).toArray = y2 at *
    refine yf (i := 9) (by kernel_rfl) (qo rfl rfl y2 (yH 77 (.tmp 62) (.tmp 58) rfl ⟨x, 0 + 7, none⟩ rfl (.agg #[.string ⟨#[]⟩, .int .i64 (pl' : Nat), r']) rfl hst2) ⟨⟨rs2, rn2⟩, ?_⟩)
    simp only [zP, zA, zC, zB]
    refine wpAnyH_done (by kernel_rfl) ?_ _
    have KX : y5 [x] wb y2 := kx1.trans kx2
    have HX2 : Hid (y2.heap[x]? = _) := hx2
    clear hSy hst1 hst2 rs1 rn1 rs2 rn2 kx1 kx2 hx1 hx2 hS8
    go_wp2
    go_end0
    refine Or.inl ⟨rfl, r', cvb, Db, c.tu, c.ro, hdb.k1 KX (hdb.no hrx (by decide)), Q8G hvb HTVb.out hrx KX HRb.out.st HPl.out HX2.out, ⟨KWb.trans2 KX (by intro y hy; simp at hy; subst hy; exact Or.inl (by simp)), HCVb.out⟩, hfrb, husb, Or.inl ⟨by rw [<- HPl.out]; exact hroot, rfl, rfl, hwb⟩⟩
  · rw [show decide (pl' ≠ c.lt.pl) = true from decide_eq_true hroot]
    refine wpAnyH_done (by kernel_rfl) ?_ _
    have cb0 : wb.cell? ⟨w.heap.size, 0, none⟩ = some (.pointer (some ⟨x, 0, none⟩)) := y6 hSb.1 rfl
    have cb1 : wb.cell? ⟨x, 1, none⟩ = some (.pointer (some ⟨v, 0, none⟩)) := y6 hSb.2.1 rfl
    have HSb : Hid (S4 w.heap.size w7.heap.size x v c t r pl' r' wb) := hSb
    clear hSb
    go_wp2_with fail
    refine (ZN v a bv n cvb Db wb hvb hdb (by omega) hqb).mono ?_
    rintro e wc ⟨cvc, Dc, hdc, kc, hcvc, hcase⟩
    have KAc := hdb.ka kc
    have hRc : Rec x v a n c r t wc := HRb.out.kept kc (hdb.no HSb.out.2.1 (by decide)) fun y hy => ⟨fun ⟨cs, fr, hh⟩ => hdb.no hh (by decide) hy, fun ht => by rcases ht with ⟨cs, fr, hh⟩ | ⟨cs, fr, hh⟩ <;> exact hdb.no hh (by decide) hy⟩
    have KWc : y5 (x :: ym a bv cv) w wc := KWb.trans2 kc (by
      intro y hy
      rcases Qz hcvb y hy with e | e
      · exact Or.inl (List.mem_cons_of_mem _ e)
      · exact Or.inr (by omega))
    rcases hcase with ⟨hfl, rfl⟩ | ⟨her, hth⟩
    rotate_left
    · obtain ⟨f, o, rfl, hf⟩ := hth.ex
      exact ⟨rfl, Or.inr ⟨cvc, Dc, c.tu, c.ro, hdc, hRc, ⟨KWc, HCVb.out.trans hcvc KWb.size⟩, Or.inl ⟨_, Db, hfrb, hwb, Or.inl ⟨her, hth⟩⟩⟩⟩
    have hSc : S4 w.heap.size w7.heap.size x v c t r pl' r' wc.drew := ⟨KAc.row _ _ _ _ trivial (by decide) HSb.out.1, KAc.row _ _ _ _ trivial (by decide) HSb.out.2.1, KAc.row _ _ _ _ trivial (by decide) HSb.out.2.2⟩
    have htvc : TV wc Tru (yw c t).1 r' := TV.kept HTVb.out.tags kc (fun y hy ht => by rcases ht with ⟨cs, fr, hh⟩ | ⟨cs, fr, hh⟩ <;> exact hdb.no hh (by decide) hy) fun _ _ => trivial
    have hTc : qc Dc \/ Tab wc := hTb.imp hfl.good.2 fun h => h.ka KAc
    have hcvc' : ∀ y, cvc.ownBlock = some y -> cv.ownBlock = some y \/ w.heap.size <= y := by
      intro y hy
      rcases hcvc y hy with e | e
      · rcases hcvb y e with e | e
        · exact Or.inl e
        · exact Or.inr (by omega)
      · have h1 := hK9.size
        have h2 := Kb.size
        exact Or.inr (by omega)
    have hqc : Dc.q.length = 0 := by rw [hfl.q]; rfl
    clear cb0 cb1 hdb kc hcvc hcvb hTb hqb
    go_wp2_with fail
    refine Q8 (S4 w.heap.size w7.heap.size x v c t r pl' r') 10 (by kernel_rfl) ?_
    refine kt (i := 0) (v := .pointer (some ⟨x, 0, none⟩)) rfl (by kernel_rfl) (by rfl) (fun W hW => y9 24 (.tmp 1) rfl ⟨w.heap.size, 0, none⟩ rfl _ (yh underlying24 rfl (y6 hW.1 rfl))) (fun _ _ _ h => h) hSc ?_
    simp only [zP, zA, zC, zD, zE, zF]
    refine kt (i := 1) (v := .pointer (some ⟨x, 0, none⟩)) rfl (by kernel_rfl) (by rfl) (fun W hW => y9 24 (.tmp 1) rfl ⟨w.heap.size, 0, none⟩ rfl _ (yh underlying24 rfl (y6 hW.1 rfl))) (fun _ _ _ h => h) hSc ?_
    simp only [zP, zA, zB, zC, zD, zE, zF]
    refine kt (i := 2) (v := .pointer (some ⟨x, 0, none⟩)) rfl (by kernel_rfl) (by rfl) (fun W hW => by rfl) (fun _ _ _ h => h) hSc ?_
    simp only [zP, zA, zB, zC, zD, zE, zF]
    refine kt (i := 3) (v := .pointer (some ⟨x, 0 + 2, none⟩)) rfl (by kernel_rfl) (by rfl) (fun W hW => yv 79 (.tmp 38) 2 rfl x 0 rfl 2 (by rfl)) (fun _ _ _ h => h) hSc ?_
    simp only [zP, zA, zB, zC, zD, zE, zF]
    refine kt (i := 4) (v := .agg #[.int .u64 (c.tu : Nat), .int .i64 (c.ro : Nat)]) rfl (by kernel_rfl) (by rfl) (fun W hW => y9 71 (.tmp 39) rfl ⟨x, 0 + 2, none⟩ rfl _ (Q8t hW.2.1)) (fun _ _ _ h => h) hSc ?_
    simp only [zP, zA, zB, zC, zD, zE, zF]
    refine kt (i := 5) (v := (.agg #[.string ⟨#[]⟩, .int .i64 (pl' : Nat), r'])) rfl (by kernel_rfl) (by rfl) (fun W hW => y9 77 (.tmp 3) rfl ⟨w7.heap.size, 0, none⟩ rfl _ (Q8E hW.2.2)) (fun _ _ _ h => h) hSc ?_
    simp only [zP, zA, zB, zC, zD, zE, zF]
    refine Qk (i := 6) (by kernel_rfl) (yo rfl (by rfl) 65 #[(.agg #[.string ⟨#[]⟩, .int .i64 (pl' : Nat), r'])] (yk _ _ _ rfl _ (by simp [Act.eval]) (QR _ _)) _ (Q8B pl' r' _) ?_)
    rintro e wd ⟨rfl, kd⟩
    have hSd : S4 w.heap.size w7.heap.size x v c t r pl' r' wd := ⟨kd.get hSc.1 (by simp), kd.get hSc.2.1 (by simp), kd.get hSc.2.2 (by simp)⟩
    refine ⟨_, rfl, fun _ => hSd, ?_⟩
    simp only [zP, zA, zB, zC, zD, zE, zF]
    refine Qk (i := 7) (by kernel_rfl) (yo rfl (by rfl) 66 #[.agg #[.int .u64 (c.tu : Nat), .int .i64 (c.ro : Nat)], .int .i64 (pl' : Nat)] (yk _ _ _ rfl _ (by simp [Act.eval]) (Q8z _ _)) _ (Q1a c.tu c.ro pl' _) ?_)
    rintro e we ⟨rfl, ke⟩
    have hSe : S4 w.heap.size w7.heap.size x v c t r pl' r' we := ⟨ke.get hSd.1 (by simp), ke.get hSd.2.1 (by simp), ke.get hSd.2.2 (by simp)⟩
    refine ⟨_, rfl, fun _ => hSe, ?_⟩
    simp only [zP, zA, zB, zC, zD, zE, zF]
    refine Qk (i := 8) (by kernel_rfl) (yy rfl (by rfl) (.pointer (some ⟨x, 0, none⟩)) we (by rfl) ⟨fun _ => hSe, ?_⟩)
    simp only [zP, zA, zB, zC, zD, zE, zF]
    refine kt (i := 9) (v := .pointer (some ⟨x, 0 + 2, none⟩)) rfl (by kernel_rfl) (by rfl) (fun W hW => yv 79 (.tmp 44) 2 rfl x 0 rfl 2 (by rfl)) (fun _ _ _ h => h) hSe ?_
    simp only [zP, zA, zB, zC, zD, zE, zF]
    have Ke : y5 [] wc we := ((y5.refl [] wc).drew.trans kd).trans ke
    have hst := yE (P := prog) we x (0 + 2) 79 71 (qk c v t r).toList [.int .u64 (nxt c.tu : Nat), .int .i64 (pl' : Nat)] hSe.2.1 (by kernel_rfl) (by show 2 + 2 <= 10; omega) (by intro u hu; simp at hu; rcases hu with rfl | rfl <;> rfl)
    have kf : y5 [x] we (we.setRow x (splice (qk c v t r).toList (0 + 2) [.int .u64 (nxt c.tu : Nat), .int .i64 (pl' : Nat)]).toArray) := (y5.refl _ _).setRow (Or.inl (by simp)) _
    have rxf : ja x v ⟨c.s, nxt c.tu, pl', c.lt, c.lr⟩ t r (we.setRow x (splice (qk c v t r).toList (0 + 2) [.int .u64 (nxt c.tu : Nat), .int .i64 (pl' : Nat)]).toArray) := setRow_heap _ _ _ _ _ _ hSe.2.1
    have rsf := kf.get hSe.1 (by simp; exact yP hSe.1 hSe.2.1 (by decide))
    have rnf := kf.get hSe.2.2 (by simp; exact yP hSe.2.2 hSe.2.1 (by decide))
    generalize we.setRow x (splice (qk c v t r).toList (0 + 2) [.int .u64 (nxt c.tu : Nat), .int .i64 (pl' : Nat)]).toArray = wf at *
    refine Qk (i := 10) (by kernel_rfl) (qo rfl rfl wf (yH 71 (.tmp 45) (.tmp 43) rfl ⟨x, 0 + 2, none⟩ rfl (.agg #[.int .u64 (nxt c.tu : Nat), .int .i64 (pl' : Nat)]) rfl hst) ⟨fun h => absurd rfl h, ?_⟩)
    simp only [zP, zA, zC, zB]
    refine Q7 (by kernel_rfl) ?_ _
    have kcf : y5 [x] wc wf := (Ke.mono (by simp)).trans kf
    have nxd : x ∉ ym a bv cvc := hdc.no hSc.2.1 (by decide)
    have hdf : DQ wf a bv n cvc Dc := hdc.k1 kcf nxd
    have hxTT : ∀ z ∈ [x], ¬ TT wc z := by
      intro z hz
      simp at hz
      subst hz
      rintro (⟨cs, fr, hh⟩ | ⟨cs, fr, hh⟩)
      · exact yP hSc.2.1 hh (by decide) rfl
      · exact yP hSc.2.1 hh (by decide) rfl
    have hvf : Vol wf v a n := kcf.get hRc.vol (by simp; exact yP hRc.vol hRc.row (by decide))
    have hRf : Rec x v a n ⟨c.s, nxt c.tu, pl', c.lt, c.lr⟩ r t wf := ⟨rxf, hvf, hRc.st, TV.kept hRc.lv.tags kcf hxTT fun _ _ => trivial, TV.kept hRc.tv.tags kcf hxTT fun _ _ => trivial⟩
    have htvf : TV wf Tru (yw c t).1 r' := TV.kept htvc.tags kcf hxTT fun _ _ => trivial
    have hTf : qc Dc \/ Tab wf := hTc.imp id fun h => h.kept kcf (by simp; exact h.ne hSc.2.1 (by decide))
    have KWf : y5 (x :: ym a bv cv) w wf := KWc.trans2 kcf (by intro y hy; simp at hy; subst hy; exact Or.inl (by simp))
    have hSf : S4 w.heap.size w7.heap.size x v ⟨c.s, nxt c.tu, pl', c.lt, c.lr⟩ t r pl' r' wf.drew := ⟨rsf, rxf, rnf⟩
    have HHL : Hid (Calls _ _ _ _ _) := Q6N v a bv n cvc Dc (nxt c.tu) pl' wf.drew hvf hdf.drew hn8 (by omega) (by omega) HU.out.1 (by omega) (hTf.imp id fun h => h.k (y5.refl [] wf).drew)
    have HRf : Hid (Rec x v a n ⟨c.s, nxt c.tu, pl', c.lt, c.lr⟩ r t wf) := hRf
    have HTVf : Hid (TV wf Tru (yw c t).1 r') := htvf
    clear hSc hSd hSe kd ke kf hst rsf rnf hRc hdc htvc hRf htvf Ke kcf hTf hTc hxTT
    go_wp2_with fail
    refine yj (S4 w.heap.size w7.heap.size x v ⟨c.s, nxt c.tu, pl', c.lt, c.lr⟩ t r pl' r') (by kernel_rfl) ?_
    refine hu 0 (.pointer (some ⟨x, 0, none⟩)) rfl (fun W hW => y9 24 (.tmp 1) rfl ⟨w.heap.size, 0, none⟩ rfl _ (yh underlying24 rfl (y6 hW.1 rfl))) hSf ?_
    simp only [zP, zA, zC, zD, zE, zF]
    refine hu 1 (.pointer (some ⟨x, 0, none⟩)) rfl (fun W hW => by rfl) hSf ?_
    simp only [zP, zA, zB, zC, zD, zE, zF]
    refine hu 2 (.pointer (some ⟨x, 0 + 1, none⟩)) rfl (fun W hW => yv 79 (.tmp 47) 1 rfl x 0 rfl 1 (by rfl)) hSf ?_
    simp only [zP, zA, zB, zC, zD, zE, zF]
    refine hu 3 (.pointer (some ⟨v, 0, none⟩)) rfl (fun W hW => y9 68 (.tmp 48) rfl ⟨x, 0 + 1, none⟩ rfl _ (yh underlying68 rfl (y6 hW.2.1 rfl))) hSf ?_
    simp only [zP, zA, zB, zC, zD, zE, zF]
    refine hu 4 (.pointer (some ⟨x, 0, none⟩)) rfl (fun W hW => y9 24 (.tmp 1) rfl ⟨w.heap.size, 0, none⟩ rfl _ (yh underlying24 rfl (y6 hW.1 rfl))) hSf ?_
    simp only [zP, zA, zB, zC, zD, zE, zF]
    refine hu 5 (.pointer (some ⟨x, 0, none⟩)) rfl (fun W hW => by rfl) hSf ?_
    simp only [zP, zA, zB, zC, zD, zE, zF]
    refine hu 6 (.pointer (some ⟨x, 0 + 2, none⟩)) rfl (fun W hW => yv 79 (.tmp 51) 2 rfl x 0 rfl 2 (by rfl)) hSf ?_
    simp only [zP, zA, zB, zC, zD, zE, zF]
    refine hu 7 (.agg #[.int .u64 (nxt c.tu : Nat), .int .i64 (pl' : Nat)]) rfl (fun W hW => y9 71 (.tmp 52) rfl ⟨x, 0 + 2, none⟩ rfl _ (Q8t hW.2.1)) hSf ?_
    simp only [zP, zA, zB, zC, zD, zE, zF]
    refine yf (i := 8) (by kernel_rfl) (gM rfl (by rfl) 67 #[.pointer (some ⟨v, 0, none⟩), .agg #[.int .u64 (nxt c.tu : Nat), .int .i64 (pl' : Nat)]] (yk _ _ _ rfl _ (by simp [Act.eval]) (Q8A _ _)) _ HHL.out ?_)
    rintro e wg ⟨cvg, Dg, hdg, kg, hcvg, hcase⟩
    have HCVg : Hid (CvN cv cvg w.heap.size) := CvN.trans (cv' := cvc) hcvc' hcvg KWf.size
    have kg' : y5 (ym a bv cvc) wf wg := (y5.refl _ _).drew.trans kg
    have KAg := hdf.ka kg'
    have hRg : Rec x v a n ⟨c.s, nxt c.tu, pl', c.lt, c.lr⟩ r t wg := HRf.out.kept kg' (hdf.no rxf (by decide)) fun y hy => ⟨fun ⟨cs, fr, hh⟩ => hdf.no hh (by decide) hy, fun ht => by rcases ht with ⟨cs, fr, hh⟩ | ⟨cs, fr, hh⟩ <;> exact hdf.no hh (by decide) hy⟩
    have KWg : y5 (x :: ym a bv cv) w wg := KWf.trans2 kg' (by
      intro y hy
      rcases Qz hcvc' y hy with e | e
      · exact Or.inl (List.mem_cons_of_mem _ e)
      · exact Or.inr e)
    rcases hcase with ⟨D3, hwn, hfl2, rfl⟩ | ⟨hth, hbad⟩
    rotate_left
    · obtain ⟨f, o, rfl, hf⟩ := hth.ex
      refine Or.inr ⟨_, rfl, rfl, Or.inr ⟨cvg, Dg, nxt c.tu, pl', hdg, hRg, ⟨KWg, HCVg.out⟩, Or.inr ⟨hth, hfrb, Db, Dc, hwb, hfl, ?_⟩⟩⟩
      rw [<- HPl.out]
      exact hbad
    have hSg : S4 w.heap.size w7.heap.size x v ⟨c.s, nxt c.tu, pl', c.lt, c.lr⟩ t r pl' r' wg := ⟨KAg.row _ _ _ _ trivial (by decide) hSf.1, KAg.row _ _ _ _ trivial (by decide) hSf.2.1, KAg.row _ _ _ _ trivial (by decide) hSf.2.2⟩
    have htvg : TV wg Tru (yw c t).1 r' := TV.kept HTVf.out.tags kg' (fun y hy ht => by rcases ht with ⟨cs, fr, hh⟩ | ⟨cs, fr, hh⟩ <;> exact hdf.no hh (by decide) hy) fun _ _ => trivial
    refine Or.inl ⟨_, rfl, hSg, ?_⟩
    simp only [zP, zA, zB, zC, zD, zE, zF]
    refine wpAnyH_done (by kernel_rfl) ?_ _
    have hrs := hSg.1
    have hrx := hSg.2.1
    have hrn := hSg.2.2
    have HTVg : Hid (TV wg Tru (yw c t).1 r') := htvg
    have HRg : Hid (Rec x v a n ⟨c.s, nxt c.tu, pl', c.lt, c.lr⟩ r t wg) := hRg
    clear hSg hSf htvg hRg kg kg' KAg hdf
    go_wp2_with fail
    have hS8 : S8 w.heap.size w7.heap.size x pl' r' wg.drew := ⟨hrs, hrn⟩
    refine yj (S8 w.heap.size w7.heap.size x pl' r') (by kernel_rfl) ?_
    refine hu 0 (.pointer (some ⟨x, 0, none⟩)) rfl (fun W hW => y9 24 (.tmp 1) rfl ⟨w.heap.size, 0, none⟩ rfl _ (yh underlying24 rfl (y6 hW.1 rfl))) hS8 ?_
    simp only [zP, zA, zC, zD, zE, zF]
    refine hu 1 (.pointer (some ⟨x, 0, none⟩)) rfl (fun W hW => y9 24 (.tmp 1) rfl ⟨w.heap.size, 0, none⟩ rfl _ (yh underlying24 rfl (y6 hW.1 rfl))) hS8 ?_
    simp only [zP, zA, zB, zC, zD, zE, zF]
    refine hu 2 ((.agg #[.string ⟨#[]⟩, .int .i64 (pl' : Nat), r'])) rfl (fun W hW => y9 77 (.tmp 3) rfl ⟨w7.heap.size, 0, none⟩ rfl _ (Q8E hW.2)) hS8 ?_
    simp only [zP, zA, zB, zC, zD, zE, zF]
    refine hu 3 ((.agg #[.string ⟨#[]⟩, .int .i64 (pl' : Nat), r'])) rfl (fun W hW => y9 77 (.tmp 3) rfl ⟨w7.heap.size, 0, none⟩ rfl _ (Q8E hW.2)) hS8 ?_
    simp only [zP, zA, zB, zC, zD, zE, zF]
    refine hu 4 (.pointer (some ⟨x, 0, none⟩)) rfl (fun W hW => by rfl) hS8 ?_
    simp only [zP, zA, zB, zC, zD, zE, zF]
    refine hu 5 (.pointer (some ⟨x, 0 + 4, none⟩)) rfl (fun W hW => yv 79 (.tmp 59) 3 rfl x 0 rfl 4 (by rfl)) hS8 ?_
    simp only [zP, zA, zB, zC, zD, zE, zF]
    have hst1 := yE (P := prog) wg.drew x (0 + 4) 79 77 (qk ⟨c.s, nxt c.tu, pl', c.lt, c.lr⟩ v t r).toList [.string ⟨#[]⟩, .int .i64 (pl' : Nat), r'] hrx jI (by show 4 + 3 <= 10; omega) (qQ _ _ hr1)
    have kx1 : y5 [x] wg (wg.drew.setRow x (splice (qk ⟨c.s, nxt c.tu, pl', c.lt, c.lr⟩ v t r).toList (0 + 4) [.string ⟨#[]⟩, .int .i64 (pl' : Nat), r']).toArray) := ((y5.refl _ _).drew).setRow (Or.inl (by simp)) _
    have hx1 : (wg.drew.setRow x (splice (qk ⟨c.s, nxt c.tu, pl', c.lt, c.lr⟩ v t r).toList (0 + 4) [.string ⟨#[]⟩, .int .i64 (pl' : Nat), r']).toArray).heap[x]? = some (.cells (splice (qk ⟨c.s, nxt c.tu, pl', c.lt, c.lr⟩ v t r).toList (0 + 4) [.string ⟨#[]⟩, .int .i64 (pl' : Nat), r']).toArray 79 (0, 0)) := setRow_heap _ _ _ _ _ _ hrx
    have rs1 := kx1.get hrs (by simp; exact yP hrs hrx (by decide))
    have rn1 := kx1.get hrn (by simp; exact yP hrn hrx (by decide))
    generalize wg.drew.setRow x (splice (qk ⟨c.s, nxt c.tu, pl', c.lt, c.lr⟩ v t r).toList (0 + 4) [.string ⟨#[]⟩, .int .i64 (pl' : Nat), r']).toArray = y1 at *
    refine yf (i := 6) (by kernel_rfl) (qo rfl rfl y1 (yH 77 (.tmp 60) (.tmp 57) rfl ⟨x, 0 + 4, none⟩ rfl (.agg #[.string ⟨#[]⟩, .int .i64 (pl' : Nat), r']) rfl hst1) ⟨⟨rs1, rn1⟩, ?_⟩)
    simp only [zP, zA, zC, zB]
    have hSy : S8 w.heap.size w7.heap.size x pl' r' y1 := ⟨rs1, rn1⟩
    refine hu 7 (.pointer (some ⟨x, 0, none⟩)) rfl (fun W hW => by rfl) hSy ?_
    simp only [zP, zA, zB, zC, zD, zE, zF]
    refine hu 8 (.pointer (some ⟨x, 0 + 7, none⟩)) rfl (fun W hW => yv 79 (.tmp 61) 4 rfl x 0 rfl 7 (by rfl)) hSy ?_
    simp only [zP, zA, zB, zC, zD, zE, zF]
    have hst2 := yE (P := prog) y1 x (0 + 7) 79 77 (splice (qk ⟨c.s, nxt c.tu, pl', c.lt, c.lr⟩ v t r).toList (0 + 4) [.string ⟨#[]⟩, .int .i64 (pl' : Nat), r']) [.string ⟨#[]⟩, .int .i64 (pl' : Nat), r'] hx1 jI (by show 7 + 3 <= 10; omega) (qQ _ _ hr1)
    have kx2 : y5 [x] y1 (y1.setRow x (splice (splice (qk ⟨c.s, nxt c.tu, pl', c.lt, c.lr⟩ v t r).toList (0 + 4) [.string ⟨#[]⟩, .int .i64 (pl' : Nat), r']) (0 + 7) [.string ⟨#[]⟩, .int .i64 (pl' : Nat), r']).toArray) := (y5.refl _ _).setRow (Or.inl (by simp)) _
    have hx2 : (y1.setRow x (splice (splice (qk ⟨c.s, nxt c.tu, pl', c.lt, c.lr⟩ v t r).toList (0 + 4) [.string ⟨#[]⟩, .int .i64 (pl' : Nat), r']) (0 + 7) [.string ⟨#[]⟩, .int .i64 (pl' : Nat), r']).toArray).heap[x]? = some (.cells (splice (splice (qk ⟨c.s, nxt c.tu, pl', c.lt, c.lr⟩ v t r).toList (0 + 4) [.string ⟨#[]⟩, .int .i64 (pl' : Nat), r']) (0 + 7) [.string ⟨#[]⟩, .int .i64 (pl' : Nat), r']).toArray 79 (0, 0)) := setRow_heap _ _ _ _ _ _ hx1
    have rs2 := kx2.get rs1 (by simp; exact yP rs1 hx1 (by decide))
    have rn2 := kx2.get rn1 (by simp; exact yP rn1 hx1 (by decide))
    generalize y1.setRow x (splice (splice (qk ⟨c.s, nxt c.tu, pl', c.lt, c.lr⟩ v t r).toList (0 + 4) [.string ⟨#[]⟩, .int .i64 (pl' : Nat), r']) (0 + 7) [.string ⟨#[]⟩, .int .i64 (pl' : Nat), r']).toArray = y2 at *
    refine yf (i := 9) (by kernel_rfl) (qo rfl rfl y2 (yH 77 (.tmp 62) (.tmp 58) rfl ⟨x, 0 + 7, none⟩ rfl (.agg #[.string ⟨#[]⟩, .int .i64 (pl' : Nat), r']) rfl hst2) ⟨⟨rs2, rn2⟩, ?_⟩)
    simp only [zP, zA, zC, zB]
    refine wpAnyH_done (by kernel_rfl) ?_ _
    have KX : y5 [x] wg y2 := kx1.trans kx2
    have HX2 : Hid (y2.heap[x]? = _) := hx2
    clear hSy hst1 hst2 rs1 rn1 rs2 rn2 kx1 kx2 hx1 hx2 hS8
    go_wp2
    go_end0
    refine Or.inl ⟨rfl, r', cvg, Dg, nxt c.tu, (yw c t).1.pl, hdg.k1 KX (hdg.no hrx (by decide)), ?_, ⟨KWg.trans2 KX (by intro y hy; simp at hy; subst hy; exact Or.inl (by simp)), HCVg.out⟩, hfrb, husb, Or.inr ⟨by rw [<- HPl.out]; exact hroot, rfl, rfl, Db, Dc, D3, hwb, hfl, ?_, hfl2⟩⟩
    · have := Q8G HRg.out.vol HTVg.out hrx KX HRg.out.st HPl.out HX2.out
      rw [<- HPl.out]
      exact this
    · rw [<- HPl.out]
      exact hwn
end Go.Proofs.YtcklgafpgdhnaabGreatDoor
