import Derived.Test.YtcklgafpgdhnaabGreatDoorPqba
import Derived.Test.YtcklgafpgdhnaabGreatDoorPqab
set_option maxRecDepth 100000
set_option maxHeartbeats 4000000
open Go.Proofs.Tryz
open Go.Act renaming put → zP
open List renaming getElem_toArray → zA, getElem_cons_succ → zB, getElem_cons_zero → zC, setIfInBounds_toArray → zD, set_cons_succ → zE, set_cons_zero → zF
namespace Go.Proofs.YtcklgafpgdhnaabGreatDoor
open Go.RowKit
theorem Zc (args : Array Value) (w : World) : (callFunc 42 args).run prog w = .ok (.enter 42 args) w := qA func42 (by kernel_rfl) (by kernel_rfl) args w
theorem j8 (args : Array Value) (w : World) : (callFunc 43 args).run prog w = .ok (.enter 43 args) w := qA func43 (by kernel_rfl) (by kernel_rfl) args w
theorem Qh (args : Array Value) (w : World) : (callFunc 44 args).run prog w = .ok (.enter 44 args) w := qA func44 (by kernel_rfl) (by kernel_rfl) args w
theorem QP (args : Array Value) (w : World) : (callFunc 45 args).run prog w = .ok (.enter 45 args) w := qA func45 (by kernel_rfl) (by kernel_rfl) args w
def Bx3 (b0 b1 b2 x : Nat) (k y : ByteArray) (W : World) : Prop := W.heap[b0]? = some (.cells #[.pointer (some ⟨x, 0, none⟩)] 24 (0, 0)) /\ W.heap[b1]? = some (.cells #[.string k] 9 (0, 0)) /\ W.heap[b2]? = some (.cells #[.string y] 9 (0, 0))
theorem Bx3.k {b0 b1 b2 x : Nat} {k y : ByteArray} {W W' : World} (h : Bx3 b0 b1 b2 x k y W) (kk : y5 [] W W') : Bx3 b0 b1 b2 x k y W' := ⟨kk.get h.1 (by simp), kk.get h.2.1 (by simp), kk.get h.2.2 (by simp)⟩
def ja (x v : Nat) (c : Hd) (t : Tr) (r : Value) (W : World) : Prop := W.heap[x]? = some (.cells (qk c v t r) 79 (0, 0))
def Zd (q : Nat) (t : Tr) (r : Value) (W : World) : Prop := W.heap[q]? = some (.cells #[.string ⟨#[]⟩, .int .i64 t.pl, r] 77 (0, 0))
def RowN (q : Nat) (W : World) : Prop := W.heap[q]? = some (.cells #[.string ⟨#[]⟩, .int .i64 0, .nilIface] 77 (0, 0))
theorem Q8i {x v : Nat} {c : Hd} {t : Tr} {r : Value} {w : World} (h : ja x v c t r w) : (loadVar 77 ⟨x, 7, none⟩).run prog w = .ok (.agg #[.string ⟨#[]⟩, .int .i64 t.pl, r]) w := by
 refine yV (P := prog) w x 7 79 77 (qk c v t r).toList [.string ⟨#[]⟩, .int .i64 t.pl, r] (0, 0) _ h underlying77 rfl stT ?_
 intro j u hu
 rcases j with _ | _ | _ | j
 ·simpa [qk] using hu
 ·simpa [qk] using hu
 ·simpa [qk] using hu
 ·simp at hu
theorem QQ {q : Nat} {t : Tr} {r : Value} {w : World} (h : Zd q t r w) : (loadVar 77 ⟨q, 0, none⟩).run prog w = .ok (.agg #[.string ⟨#[]⟩, .int .i64 t.pl, r]) w := by
 refine yV (P := prog) w q 0 77 77 [.string ⟨#[]⟩, .int .i64 t.pl, r] [.string ⟨#[]⟩, .int .i64 t.pl, r] (0, 0) _ h underlying77 rfl stT ?_
 intro j u hu
 rw [Nat.zero_add]
 exact hu
theorem Ze {o : Oper} {a : Act} {w : World} (ho : o.op = .alloc 77) : (execOp a.eval o).run prog w = .ok (.value (.pointer (some ⟨w.heap.size, 0, none⟩))) (w.alloc (.cells #[.string ⟨#[]⟩, .int .i64 0, .nilIface] 77)) := by
 have hz : (Instr.alloc 77 true (.tuple #[])).run prog w = .ok (.pointer (some ⟨w.heap.size, 0, none⟩)) (w.alloc (.cells #[.string ⟨#[]⟩, .int .i64 0, .nilIface] 77)) := by kernel_rfl
 unfold execOp
 simp only [ho, Sem.run_bind, hz, Result.andThen_ok, Sem.run_pure]
def PutE (x v a n : Nat) (c : Hd) (t' : Tr) (w : World) (e : Ending) (W : World) : Prop :=
 (¬ (n - 2) / 2 < qH t' /\ Ends [x] (fun W => ∃ r', Rec x v a n c r' t' W) w e W) \/ ((n - 2) / 2 < qH t' /\ Q24 3 [] Q6S w e W)
theorem Q8j {r : Value} (i : Int) (hr : r.oneCell' = true) : ∀ u ∈ [Value.string ⟨#[]⟩, .int .i64 i, r], u.oneCell' = true := by
 intro u hu
 simp at hu
 rcases hu with rfl | rfl | rfl
 ·rfl
 ·rfl
 ·exact hr
theorem Q8k {o : Oper} {a : Act} {w : World} (x y : Operand) (ho : o.op = .binOp .gtr 3 x y 3) (m n : Nat) (hx : a.eval x = .int .i64 m) (hy : a.eval y = .int .i64 n) :
  (execOp a.eval o).run prog w = .ok (.value (.bool (decide ((m : Int) > (n : Int))))) w := by
 have hr : (binOp .gtr 3 (.int .i64 m) (.int .i64 n)).run prog w = .ok (.bool (decide ((m : Int) > (n : Int)))) w := rfl
 have hg : (eqGuard .gtr 3 x y (.int .i64 m) (.int .i64 n)).run prog w = .ok () w := by simp [eqGuard]
 simp [execOp, ho, hx, hy, hr, hg]
theorem Q8l (b0 b1 b2 x v a n : Nat) (c : Hd) (r : Value) (t : Tr) (k y : ByteArray) (w : World) (hb : Bx3 b0 b1 b2 x k y w) (h : Rec x v a n c r t w) (ht : TW t) (hs : c.s = 1 \/ c.s = 2) (hk : jy k) (hy : y.size <= 12) (h8 : 8 <= n) (h4 : n <= 400) (hcb : qH (qP (yL k y) k t) <= 1000000) :
  Calls prog 39 #[.pointer (some ⟨b0, 0, none⟩), .pointer (some ⟨b1, 0, none⟩), .pointer (some ⟨b2, 0, none⟩)] w (PutE x v a n c (qP (yL k y) k t) w) := by
 have c0 : w.cell? ⟨b0, 0, none⟩ = some (.pointer (some ⟨x, 0, none⟩)) := y6 hb.1 rfl
 have HN : Hid (Calls _ _ _ _ _) := Qc x v c t r w hs h.row
 have HK : Hid (∀ W, Calls prog 40 #[.string k] W _) := fun W => Zb k W hk
 have HV : Hid (∀ W, Calls prog 41 #[.string y] W _) := fun W => Q7u y W hy
 have HD : Hid (∀ W, y5 [] w W -> _) := fun W kW => Q7o (h.k kW).tv.tags (fun y hy => TT.lt hy) ht k y hk hy
 have hks : k.size <= 8 := hk.2
 have HRc : Hid _ := h
 have HB : Hid _ := hb
 generalize qP (yL k y) k t = t' at *
 clear h hb
 go_enter func39, ntmps39
 go_wp2_with (first
  | (go_at_call 34; refine HN.out.mono ?_; rintro e w1 ⟨rfl, hk1⟩; have c1 : w1.cell? ⟨b1, 0, none⟩ = some (.string k) := y6 (Bx3.k HB.out hk1).2.1 rfl)
  | (go_at_call 40; refine (HK.out _).mono ?_; rintro e w2 ⟨rfl, hk2⟩; have c2 : w2.cell? ⟨b2, 0, none⟩ = some (.string y) := y6 (Bx3.k HB.out (hk1.trans hk2)).2.2 rfl)
  | (go_at_call 41; refine (HV.out _).mono ?_; rintro e w3 ⟨rfl, hk3⟩))
 have K3 : y5 [] w w3.drew := ((hk1.trans hk2).trans hk3).drew
 have hS : Bx3 b0 b1 b2 x k y w3.drew /\ ja x v c t r w3.drew := ⟨Bx3.k HB.out K3, (Rec.k HRc.out K3).row⟩
 have hR3 : Rec x v a n c r t w3.drew := Rec.k HRc.out K3
 refine yj (fun W => Bx3 b0 b1 b2 x k y W /\ ja x v c t r W) (by kernel_rfl) ?_
 refine hu 0 (.pointer (some ⟨x, 0, none⟩)) rfl (fun W hW => y9 24 (.tmp 0) rfl ⟨b0, 0, none⟩ rfl _ (yh underlying24 rfl (y6 hW.1.1 rfl))) hS ?_
 simp only [zP, zA, zC, zD, zE, zF]
 refine hu 1 (.pointer (some ⟨x, 0, none⟩)) rfl (fun W hW => by rfl) hS ?_
 simp only [zP, zA, zB, zC, zD, zE, zF]
 refine hu 2 (.pointer (some ⟨x, 0 + 7, none⟩)) rfl (fun W hW => yv 79 (.tmp 11) 4 rfl x (0) rfl 7 (by rfl)) hS ?_
 simp only [zP, zA, zB, zC, zD, zE, zF]
 refine hu 3 (.agg #[.string ⟨#[]⟩, .int .i64 t.pl, r]) rfl (fun W hW => y9 77 (.tmp 12) rfl ⟨x, 0 + 7, none⟩ rfl _ (Q8i hW.2)) hS ?_
 simp only [zP, zA, zB, zC, zD, zE, zF]
 refine hu 4 (.string k) rfl (fun W hW => y9 9 (.tmp 1) rfl ⟨b1, 0, none⟩ rfl _ (yh underlying9 rfl (y6 hW.1.2.1 rfl))) hS ?_
 simp only [zP, zA, zB, zC, zD, zE, zF]
 refine hu 5 (.string y) rfl (fun W hW => y9 9 (.tmp 2) rfl ⟨b2, 0, none⟩ rfl _ (yh underlying9 rfl (y6 hW.1.2.2 rfl))) hS ?_
 simp only [zP, zA, zB, zC, zD, zE, zF]
 refine hu 6 (.agg #[.string k, .string y]) rfl (fun W hW => ZM 52 (.tmp 14) (.tmp 15) 0 1 rfl _ _ _ rfl rfl (by kernel_rfl)) hS ?_
 simp only [zP, zA, zB, zC, zD, zE, zF]
 refine Q01 (i := 7) (j := 9) (by kernel_rfl) ?_ ?_
 ·refine yo rfl (by rfl) 43 #[.agg #[.string k, .string y]] (yk _ _ _ rfl _ (by simp [Act.eval]) (j8 _ _)) _ (Qy k y _ (by omega) (by omega)) ?_
  rintro e wf ⟨rfl, hkf⟩
  have hSf : Bx3 b0 b1 b2 x k y wf /\ ja x v c t r wf := ⟨hS.1.k hkf, hkf.get hS.2 (by simp)⟩
  refine ⟨_, rfl, hSf, ?_⟩
  simp only [zP, zA, zB, zC, zD, zE, zF]
  refine Q01 (i := 8) (j := 9) (by kernel_rfl) ?_ ?_
  ·refine yo rfl (by rfl) 42 #[.agg #[.string ⟨#[]⟩, .int .i64 t.pl, r], .agg #[.string k, .string y]] (yk _ _ _ rfl _ (by simp [Act.eval]) (Zc _ _)) _ (HD.out _ (K3.trans hkf)) ?_
   rintro e w4 ⟨r4, rfl, ht4, hk4⟩
   have hS4 : Bx3 b0 b1 b2 x k y w4 /\ ja x v c t r w4 := ⟨hSf.1.k hk4, hk4.get hSf.2 (by simp)⟩
   refine ⟨_, rfl, hS4, ?_⟩
   simp only [zP, zA, zB, zC, zD, zE, zF]
   obtain ⟨w5, ew5⟩ : ∃ w5, w5 = w4.alloc (.cells #[.string ⟨#[]⟩, .int .i64 0, .nilIface] 77) := ⟨_, rfl⟩
   have k5 : y5 [] w4 w5 := by rw [ew5]; exact (y5.refl [] w4).alloc _
   have hn5 : RowN w4.heap.size w5 := by rw [ew5]; exact heap_alloc_new _ _
   have hS5 : Bx3 b0 b1 b2 x k y w5 /\ ja x v c t r w5 := ⟨hS4.1.k k5, k5.get hS4.2 (by simp)⟩
   refine yf (i := 9) (by kernel_rfl) (yy rfl (by rfl) _ w5 (by rw [ew5]; exact Ze rfl) ⟨hS5, ?_⟩)
   simp only [zP, zA, zB, zC, zD, zE, zF]
   have ht5 := ht4.k k5
   have K05 : y5 [] w w5 := ((K3.trans hkf).trans hk4).trans k5
   obtain ⟨nb, enb⟩ : ∃ nb, nb = w4.heap.size := ⟨_, rfl⟩
   have hnbw : w.heap.size <= nb := by rw [enb]; exact ((K3.trans hkf).trans hk4).size
   rw [<- enb] at hn5 ⊢
   clear ew5 enb hS4 hSf k5 hk4 ht4
   have hst6 := yE (P := prog) w5 nb 0 77 77 [.string ⟨#[]⟩, .int .i64 0, .nilIface] [.string ⟨#[]⟩, .int .i64 t'.pl, r4] hn5 (by rw [stT]; rfl) (by simp) (Q8j _ ht5.one)
   obtain ⟨w6, ew6⟩ : ∃ w6, w6 = w5.setRow nb (splice [.string ⟨#[]⟩, .int .i64 0, .nilIface] 0 [.string ⟨#[]⟩, .int .i64 t'.pl, r4]).toArray := ⟨_, rfl⟩
   rw [<- ew6] at hst6
   have hnb : Tg w5 nb 77 := ⟨_, _, hn5⟩
   have k56 : y5 [nb] w5 w6 := by rw [ew6]; exact (y5.refl [nb] w5).setRow (Or.inl (by simp)) _
   have hn6 : Zd nb t' r4 w6 := by rw [ew6]; exact setRow_heap _ _ _ _ _ _ hn5
   have hB6 : Bx3 b0 b1 b2 x k y w6 := ⟨k56.get hS5.1.1 (by simp; intro e; subst e; have := hnb.ne ⟨_, _, hS5.1.1⟩; revert this; decide), k56.get hS5.1.2.1 (by simp; intro e; subst e; have := hnb.ne ⟨_, _, hS5.1.2.1⟩; revert this; decide), k56.get hS5.1.2.2 (by simp; intro e; subst e; have := hnb.ne ⟨_, _, hS5.1.2.2⟩; revert this; decide)⟩
   have hS6' : Bx3 b0 b1 b2 x k y w6 /\ ja x v c t r w6 := ⟨hB6, k56.get hS5.2 (by simp; intro e; subst e; have := hnb.ne ⟨_, _, hS5.2⟩; revert this; decide)⟩
   refine yf (i := 10) (by kernel_rfl) (qo rfl rfl w6 (yH 77 (.tmp 3) (.tmp 18) rfl ⟨nb, 0, none⟩ rfl _ rfl hst6) ⟨hS6', ?_⟩)
   simp only [zP, zA, zB, zC]
   refine wpAnyH_done (by kernel_rfl) ?_ _
   have K06 : y5 [] w w6 := K05.trans2 k56 fun z hz => Or.inr (by simp at hz; subst hz; exact hnbw)
   have ht6 : TV w6 (TT w5) t' r4 := TV.kept ht5.tags k56 (fun z hz => by simp at hz; subst hz; rintro (h1 | h1); (have := hnb.ne h1; revert this; decide); (have := hnb.ne h1; revert this; decide)) fun _ h => h
   clear hst6 ew6 hS5 hn5
   go_wp2_with fail
   have hS6 : Bx3 b0 b1 b2 x k y w6.drew /\ Zd nb t' r4 w6.drew := ⟨hS6'.1.k (y5.refl [] w6).drew, hn6⟩
   refine yj (fun W => Bx3 b0 b1 b2 x k y W /\ Zd nb t' r4 W) (by kernel_rfl) ?_
   refine hu 0 (.agg #[.string ⟨#[]⟩, .int .i64 t'.pl, r4]) rfl (fun W hW => y9 77 (.tmp 3) rfl ⟨nb, 0, none⟩ rfl _ (QQ hW.2)) hS6 ?_
   simp only [zP, zA, zC, zD, zE, zF]
   refine hu 2 (.pointer (some ⟨x, 0, none⟩)) rfl (fun W hW => y9 24 (.tmp 0) rfl ⟨b0, 0, none⟩ rfl _ (yh underlying24 rfl (y6 hW.1.1 rfl))) hS6 ?_
   simp only [zP, zA, zB, zC, zD, zE, zF]
   refine yf (i := 1) (by kernel_rfl) (yo rfl (by rfl) 44 #[.agg #[.string ⟨#[]⟩, .int .i64 t'.pl, r4]] (yk _ _ _ rfl _ (by simp [Act.eval]) (Qh _ _)) _ (Q6Z (ht6.k (y5.refl [] w6).drew) (fun z hz => Nat.lt_of_lt_of_le (TT.lt hz) k56.size) hcb) ?_)
   rintro e w7 ⟨rfl, hk7⟩
   have hS7 : Bx3 b0 b1 b2 x k y w7 /\ Zd nb t' r4 w7 := ⟨hS6.1.k hk7, hk7.get hS6.2 (by simp)⟩
   refine ⟨_, rfl, hS7, ?_⟩
   simp only [zP, zA, zB, zC, zD, zE, zF]
   have K07 : y5 [] w w7 := K06.drew.trans hk7
   have hR7 : Rec x v a n c r t w7 := Rec.k HRc.out K07
   refine yf (i := 3) (by kernel_rfl) (yo rfl (by rfl) 45 #[.pointer (some ⟨x, 0, none⟩)] (yk _ _ _ rfl _ (by simp [Act.eval]) (QP _ _)) _ (Q7v x v a n c t r _ hR7.row hR7.vol h8 h4) ?_)
   rintro e w8 ⟨rfl, hk8⟩
   have hS8 : Bx3 b0 b1 b2 x k y w8 /\ Zd nb t' r4 w8 := ⟨hS7.1.k hk8, hk8.get hS7.2 (by simp)⟩
   refine ⟨_, rfl, hS8, ?_⟩
   simp only [zP, zA, zB, zC, zD, zE, zF]
   have K08 : y5 [] w w8 := K07.trans hk8
   have hR8 : Rec x v a n c r t w8 := hR7.k hk8
   have ht8 : TV w8 (TT w5) t' r4 := (ht6.k (y5.refl [] w6).drew).k (hk7.trans hk8)
   refine yf (i := 4) (by kernel_rfl) (yy rfl (by rfl) (.bool (decide (((qH t' : Nat) : Int) > (((n - 2) / 2 : Nat) : Int)))) _ (Q8k (.tmp 20) (.tmp 22) rfl (qH t') ((n - 2) / 2) rfl rfl) ⟨hS8, ?_⟩)
   simp only [zP, zA, zB, zC, zD, zE, zF]
   by_cases hroom : (n - 2) / 2 < qH t'
   ·rw [show decide (((qH t' : Nat) : Int) > (((n - 2) / 2 : Nat) : Int)) = true from decide_eq_true (by omega)]
    refine wpAnyH_done (by kernel_rfl) ?_ _
    clear hS6' hn6 hS6 hS7 hS8
    go_wp2_with (first | (go_at_call 46; refine (Qn _ _ _).mono ?_; rintro e w9 ⟨f, o, rfl, h2, h3⟩))
    exact ⟨rfl, Or.inr ⟨hroom, f, o, rfl, h2, trivial, K08.trans h3⟩⟩
   rw [show decide (((qH t' : Nat) : Int) > (((n - 2) / 2 : Nat) : Int)) = false from decide_eq_false (by omega)]
   refine wpAnyH_done (by kernel_rfl) ?_ _
   have c8 : w8.cell? ⟨b0, 0, none⟩ = some (.pointer (some ⟨x, 0, none⟩)) := y6 hS8.1.1 rfl
   have hld8 := QQ hS8.2
   clear hS6' hn6 hS6 hS7 hS8
   obtain ⟨w9, hst9, hR9, hk9⟩ := hR8.set _ ht8
   go_wp2_with (first
    | (refine ye rfl 77 (.tmp 3) rfl ⟨nb, 0, none⟩ rfl _ hld8 ?_)
    | (refine qM rfl w9 (yH 77 (.tmp 28) (.tmp 26) rfl ⟨x, 7, none⟩ rfl _ rfl hst9) ?_))
   go_end0
   exact Or.inl ⟨hroom, rfl, ⟨r4, hR9⟩, (K08.mono (by simp)).trans hk9⟩
  ·obtain ⟨wa, ewa⟩ : ∃ wa, wa = wf.alloc (.cells #[.string ⟨#[]⟩, .int .i64 0, .nilIface] 77) := ⟨_, rfl⟩
   have ka : y5 [] wf wa := by rw [ewa]; exact (y5.refl [] wf).alloc _
   have hna : RowN wf.heap.size wa := by rw [ewa]; exact heap_alloc_new _ _
   have hSa : Bx3 b0 b1 b2 x k y wa /\ ja x v c t r wa := ⟨hSf.1.k ka, ka.get hSf.2 (by simp)⟩
   refine yy rfl (by rfl) _ wa (by rw [ewa]; exact Ze rfl) ⟨hSa, ?_⟩
   simp only [zP, zA, zB, zC, zD, zE, zF]
   refine yf (i := 8) (by kernel_rfl) (yo rfl (by rfl) 42 #[.agg #[.string ⟨#[]⟩, .int .i64 t.pl, r], .agg #[.string k, .string y]] (yk _ _ _ rfl _ (by simp [Act.eval]) (Zc _ _)) _ (HD.out _ ((K3.trans hkf).trans ka)) ?_)
   rintro e w5 ⟨r4, rfl, ht5, hk5⟩
   have hS5 : Bx3 b0 b1 b2 x k y w5 /\ ja x v c t r w5 := ⟨hSa.1.k hk5, hk5.get hSa.2 (by simp)⟩
   refine ⟨_, rfl, hS5, ?_⟩
   simp only [zP, zA, zB, zC, zD, zE, zF]
   have hn5 : RowN wf.heap.size w5 := hk5.get hna (by simp)
   have K05 : y5 [] w w5 := ((K3.trans hkf).trans ka).trans hk5
   obtain ⟨nb, enb⟩ : ∃ nb, nb = wf.heap.size := ⟨_, rfl⟩
   have hnbw : w.heap.size <= nb := by rw [enb]; exact (K3.trans hkf).size
   rw [<- enb] at hn5 ⊢
   clear ewa enb hSa hSf hna
   have hst6 := yE (P := prog) w5 nb 0 77 77 [.string ⟨#[]⟩, .int .i64 0, .nilIface] [.string ⟨#[]⟩, .int .i64 t'.pl, r4] hn5 (by rw [stT]; rfl) (by simp) (Q8j _ ht5.one)
   obtain ⟨w6, ew6⟩ : ∃ w6, w6 = w5.setRow nb (splice [.string ⟨#[]⟩, .int .i64 0, .nilIface] 0 [.string ⟨#[]⟩, .int .i64 t'.pl, r4]).toArray := ⟨_, rfl⟩
   rw [<- ew6] at hst6
   have hnb : Tg w5 nb 77 := ⟨_, _, hn5⟩
   have k56 : y5 [nb] w5 w6 := by rw [ew6]; exact (y5.refl [nb] w5).setRow (Or.inl (by simp)) _
   have hn6 : Zd nb t' r4 w6 := by rw [ew6]; exact setRow_heap _ _ _ _ _ _ hn5
   have hB6 : Bx3 b0 b1 b2 x k y w6 := ⟨k56.get hS5.1.1 (by simp; intro e; subst e; have := hnb.ne ⟨_, _, hS5.1.1⟩; revert this; decide), k56.get hS5.1.2.1 (by simp; intro e; subst e; have := hnb.ne ⟨_, _, hS5.1.2.1⟩; revert this; decide), k56.get hS5.1.2.2 (by simp; intro e; subst e; have := hnb.ne ⟨_, _, hS5.1.2.2⟩; revert this; decide)⟩
   have hS6' : Bx3 b0 b1 b2 x k y w6 /\ ja x v c t r w6 := ⟨hB6, k56.get hS5.2 (by simp; intro e; subst e; have := hnb.ne ⟨_, _, hS5.2⟩; revert this; decide)⟩
   refine yf (i := 10) (by kernel_rfl) (qo rfl rfl w6 (yH 77 (.tmp 3) (.tmp 18) rfl ⟨nb, 0, none⟩ rfl _ rfl hst6) ⟨hS6', ?_⟩)
   simp only [zP, zA, zB, zC]
   refine wpAnyH_done (by kernel_rfl) ?_ _
   have K06 : y5 [] w w6 := K05.trans2 k56 fun z hz => Or.inr (by simp at hz; subst hz; exact hnbw)
   have ht6 : TV w6 (TT w5) t' r4 := TV.kept ht5.tags k56 (fun z hz => by simp at hz; subst hz; rintro (h1 | h1); (have := hnb.ne h1; revert this; decide); (have := hnb.ne h1; revert this; decide)) fun _ h => h
   clear hst6 ew6 hS5 hn5
   go_wp2_with fail
   have hS6 : Bx3 b0 b1 b2 x k y w6.drew /\ Zd nb t' r4 w6.drew := ⟨hS6'.1.k (y5.refl [] w6).drew, hn6⟩
   refine yj (fun W => Bx3 b0 b1 b2 x k y W /\ Zd nb t' r4 W) (by kernel_rfl) ?_
   refine hu 0 (.agg #[.string ⟨#[]⟩, .int .i64 t'.pl, r4]) rfl (fun W hW => y9 77 (.tmp 3) rfl ⟨nb, 0, none⟩ rfl _ (QQ hW.2)) hS6 ?_
   simp only [zP, zA, zC, zD, zE, zF]
   refine hu 2 (.pointer (some ⟨x, 0, none⟩)) rfl (fun W hW => y9 24 (.tmp 0) rfl ⟨b0, 0, none⟩ rfl _ (yh underlying24 rfl (y6 hW.1.1 rfl))) hS6 ?_
   simp only [zP, zA, zB, zC, zD, zE, zF]
   refine yf (i := 1) (by kernel_rfl) (yo rfl (by rfl) 44 #[.agg #[.string ⟨#[]⟩, .int .i64 t'.pl, r4]] (yk _ _ _ rfl _ (by simp [Act.eval]) (Qh _ _)) _ (Q6Z (ht6.k (y5.refl [] w6).drew) (fun z hz => Nat.lt_of_lt_of_le (TT.lt hz) k56.size) hcb) ?_)
   rintro e w7 ⟨rfl, hk7⟩
   have hS7 : Bx3 b0 b1 b2 x k y w7 /\ Zd nb t' r4 w7 := ⟨hS6.1.k hk7, hk7.get hS6.2 (by simp)⟩
   refine ⟨_, rfl, hS7, ?_⟩
   simp only [zP, zA, zB, zC, zD, zE, zF]
   have K07 : y5 [] w w7 := K06.drew.trans hk7
   have hR7 : Rec x v a n c r t w7 := Rec.k HRc.out K07
   refine yf (i := 3) (by kernel_rfl) (yo rfl (by rfl) 45 #[.pointer (some ⟨x, 0, none⟩)] (yk _ _ _ rfl _ (by simp [Act.eval]) (QP _ _)) _ (Q7v x v a n c t r _ hR7.row hR7.vol h8 h4) ?_)
   rintro e w8 ⟨rfl, hk8⟩
   have hS8 : Bx3 b0 b1 b2 x k y w8 /\ Zd nb t' r4 w8 := ⟨hS7.1.k hk8, hk8.get hS7.2 (by simp)⟩
   refine ⟨_, rfl, hS8, ?_⟩
   simp only [zP, zA, zB, zC, zD, zE, zF]
   have K08 : y5 [] w w8 := K07.trans hk8
   have hR8 : Rec x v a n c r t w8 := hR7.k hk8
   have ht8 : TV w8 (TT w5) t' r4 := (ht6.k (y5.refl [] w6).drew).k (hk7.trans hk8)
   refine yf (i := 4) (by kernel_rfl) (yy rfl (by rfl) (.bool (decide (((qH t' : Nat) : Int) > (((n - 2) / 2 : Nat) : Int)))) _ (Q8k (.tmp 20) (.tmp 22) rfl (qH t') ((n - 2) / 2) rfl rfl) ⟨hS8, ?_⟩)
   simp only [zP, zA, zB, zC, zD, zE, zF]
   by_cases hroom : (n - 2) / 2 < qH t'
   ·rw [show decide (((qH t' : Nat) : Int) > (((n - 2) / 2 : Nat) : Int)) = true from decide_eq_true (by omega)]
    refine wpAnyH_done (by kernel_rfl) ?_ _
    clear hS6' hn6 hS6 hS7 hS8
    go_wp2_with (first | (go_at_call 46; refine (Qn _ _ _).mono ?_; rintro e w9 ⟨f, o, rfl, h2, h3⟩))
    exact ⟨rfl, Or.inr ⟨hroom, f, o, rfl, h2, trivial, K08.trans h3⟩⟩
   rw [show decide (((qH t' : Nat) : Int) > (((n - 2) / 2 : Nat) : Int)) = false from decide_eq_false (by omega)]
   refine wpAnyH_done (by kernel_rfl) ?_ _
   have c8 : w8.cell? ⟨b0, 0, none⟩ = some (.pointer (some ⟨x, 0, none⟩)) := y6 hS8.1.1 rfl
   have hld8 := QQ hS8.2
   clear hS6' hn6 hS6 hS7 hS8
   obtain ⟨w9, hst9, hR9, hk9⟩ := hR8.set _ ht8
   go_wp2_with (first
    | (refine ye rfl 77 (.tmp 3) rfl ⟨nb, 0, none⟩ rfl _ hld8 ?_)
    | (refine qM rfl w9 (yH 77 (.tmp 28) (.tmp 26) rfl ⟨x, 7, none⟩ rfl _ rfl hst9) ?_))
   go_end0
   exact Or.inl ⟨hroom, rfl, ⟨r4, hR9⟩, (K08.mono (by simp)).trans hk9⟩
 ·obtain ⟨wa, ewa⟩ : ∃ wa, wa = w3.drew.alloc (.cells #[.string ⟨#[]⟩, .int .i64 0, .nilIface] 77) := ⟨_, rfl⟩
  have ka : y5 [] w3.drew wa := by rw [ewa]; exact (y5.refl [] w3.drew).alloc _
  have hna : RowN w3.drew.heap.size wa := by rw [ewa]; exact heap_alloc_new _ _
  have hSa : Bx3 b0 b1 b2 x k y wa /\ ja x v c t r wa := ⟨hS.1.k ka, ka.get hS.2 (by simp)⟩
  refine yy rfl (by rfl) _ wa (by rw [ewa]; exact Ze rfl) ⟨hSa, ?_⟩
  simp only [zP, zA, zB, zC, zD, zE, zF]
  refine yf (i := 7) (by kernel_rfl) (yo rfl (by rfl) 43 #[.agg #[.string k, .string y]] (yk _ _ _ rfl _ (by simp [Act.eval]) (j8 _ _)) _ (Qy k y _ (by omega) (by omega)) ?_)
  rintro e wf ⟨rfl, hkf⟩
  have hSf : Bx3 b0 b1 b2 x k y wf /\ ja x v c t r wf := ⟨hSa.1.k hkf, hkf.get hSa.2 (by simp)⟩
  refine ⟨_, rfl, hSf, ?_⟩
  simp only [zP, zA, zB, zC, zD, zE, zF]
  refine yf (i := 8) (by kernel_rfl) (yo rfl (by rfl) 42 #[.agg #[.string ⟨#[]⟩, .int .i64 t.pl, r], .agg #[.string k, .string y]] (yk _ _ _ rfl _ (by simp [Act.eval]) (Zc _ _)) _ (HD.out _ ((K3.trans ka).trans hkf)) ?_)
  rintro e w5 ⟨r4, rfl, ht5, hk5⟩
  have hS5 : Bx3 b0 b1 b2 x k y w5 /\ ja x v c t r w5 := ⟨hSf.1.k hk5, hk5.get hSf.2 (by simp)⟩
  refine ⟨_, rfl, hS5, ?_⟩
  simp only [zP, zA, zB, zC, zD, zE, zF]
  have hn5 : RowN w3.drew.heap.size w5 := (hkf.trans hk5).get hna (by simp)
  have K05 : y5 [] w w5 := ((K3.trans ka).trans hkf).trans hk5
  obtain ⟨nb, enb⟩ : ∃ nb, nb = w3.drew.heap.size := ⟨_, rfl⟩
  have hnbw : w.heap.size <= nb := by rw [enb]; exact K3.size
  rw [<- enb] at hn5 ⊢
  clear ewa enb hSa hSf hna
  have hst6 := yE (P := prog) w5 nb 0 77 77 [.string ⟨#[]⟩, .int .i64 0, .nilIface] [.string ⟨#[]⟩, .int .i64 t'.pl, r4] hn5 (by rw [stT]; rfl) (by simp) (Q8j _ ht5.one)
  obtain ⟨w6, ew6⟩ : ∃ w6, w6 = w5.setRow nb (splice [.string ⟨#[]⟩, .int .i64 0, .nilIface] 0 [.string ⟨#[]⟩, .int .i64 t'.pl, r4]).toArray := ⟨_, rfl⟩
  rw [<- ew6] at hst6
  have hnb : Tg w5 nb 77 := ⟨_, _, hn5⟩
  have k56 : y5 [nb] w5 w6 := by rw [ew6]; exact (y5.refl [nb] w5).setRow (Or.inl (by simp)) _
  have hn6 : Zd nb t' r4 w6 := by rw [ew6]; exact setRow_heap _ _ _ _ _ _ hn5
  have hB6 : Bx3 b0 b1 b2 x k y w6 := ⟨k56.get hS5.1.1 (by simp; intro e; subst e; have := hnb.ne ⟨_, _, hS5.1.1⟩; revert this; decide), k56.get hS5.1.2.1 (by simp; intro e; subst e; have := hnb.ne ⟨_, _, hS5.1.2.1⟩; revert this; decide), k56.get hS5.1.2.2 (by simp; intro e; subst e; have := hnb.ne ⟨_, _, hS5.1.2.2⟩; revert this; decide)⟩
  have hS6' : Bx3 b0 b1 b2 x k y w6 /\ ja x v c t r w6 := ⟨hB6, k56.get hS5.2 (by simp; intro e; subst e; have := hnb.ne ⟨_, _, hS5.2⟩; revert this; decide)⟩
  refine yf (i := 10) (by kernel_rfl) (qo rfl rfl w6 (yH 77 (.tmp 3) (.tmp 18) rfl ⟨nb, 0, none⟩ rfl _ rfl hst6) ⟨hS6', ?_⟩)
  simp only [zP, zA, zB, zC]
  refine wpAnyH_done (by kernel_rfl) ?_ _
  have K06 : y5 [] w w6 := K05.trans2 k56 fun z hz => Or.inr (by simp at hz; subst hz; exact hnbw)
  have ht6 : TV w6 (TT w5) t' r4 := TV.kept ht5.tags k56 (fun z hz => by simp at hz; subst hz; rintro (h1 | h1); (have := hnb.ne h1; revert this; decide); (have := hnb.ne h1; revert this; decide)) fun _ h => h
  clear hst6 ew6 hS5 hn5
  go_wp2_with fail
  have hS6 : Bx3 b0 b1 b2 x k y w6.drew /\ Zd nb t' r4 w6.drew := ⟨hS6'.1.k (y5.refl [] w6).drew, hn6⟩
  refine yj (fun W => Bx3 b0 b1 b2 x k y W /\ Zd nb t' r4 W) (by kernel_rfl) ?_
  refine hu 0 (.agg #[.string ⟨#[]⟩, .int .i64 t'.pl, r4]) rfl (fun W hW => y9 77 (.tmp 3) rfl ⟨nb, 0, none⟩ rfl _ (QQ hW.2)) hS6 ?_
  simp only [zP, zA, zC, zD, zE, zF]
  refine hu 2 (.pointer (some ⟨x, 0, none⟩)) rfl (fun W hW => y9 24 (.tmp 0) rfl ⟨b0, 0, none⟩ rfl _ (yh underlying24 rfl (y6 hW.1.1 rfl))) hS6 ?_
  simp only [zP, zA, zB, zC, zD, zE, zF]
  refine yf (i := 1) (by kernel_rfl) (yo rfl (by rfl) 44 #[.agg #[.string ⟨#[]⟩, .int .i64 t'.pl, r4]] (yk _ _ _ rfl _ (by simp [Act.eval]) (Qh _ _)) _ (Q6Z (ht6.k (y5.refl [] w6).drew) (fun z hz => Nat.lt_of_lt_of_le (TT.lt hz) k56.size) hcb) ?_)
  rintro e w7 ⟨rfl, hk7⟩
  have hS7 : Bx3 b0 b1 b2 x k y w7 /\ Zd nb t' r4 w7 := ⟨hS6.1.k hk7, hk7.get hS6.2 (by simp)⟩
  refine ⟨_, rfl, hS7, ?_⟩
  simp only [zP, zA, zB, zC, zD, zE, zF]
  have K07 : y5 [] w w7 := K06.drew.trans hk7
  have hR7 : Rec x v a n c r t w7 := Rec.k HRc.out K07
  refine yf (i := 3) (by kernel_rfl) (yo rfl (by rfl) 45 #[.pointer (some ⟨x, 0, none⟩)] (yk _ _ _ rfl _ (by simp [Act.eval]) (QP _ _)) _ (Q7v x v a n c t r _ hR7.row hR7.vol h8 h4) ?_)
  rintro e w8 ⟨rfl, hk8⟩
  have hS8 : Bx3 b0 b1 b2 x k y w8 /\ Zd nb t' r4 w8 := ⟨hS7.1.k hk8, hk8.get hS7.2 (by simp)⟩
  refine ⟨_, rfl, hS8, ?_⟩
  simp only [zP, zA, zB, zC, zD, zE, zF]
  have K08 : y5 [] w w8 := K07.trans hk8
  have hR8 : Rec x v a n c r t w8 := hR7.k hk8
  have ht8 : TV w8 (TT w5) t' r4 := (ht6.k (y5.refl [] w6).drew).k (hk7.trans hk8)
  refine yf (i := 4) (by kernel_rfl) (yy rfl (by rfl) (.bool (decide (((qH t' : Nat) : Int) > (((n - 2) / 2 : Nat) : Int)))) _ (Q8k (.tmp 20) (.tmp 22) rfl (qH t') ((n - 2) / 2) rfl rfl) ⟨hS8, ?_⟩)
  simp only [zP, zA, zB, zC, zD, zE, zF]
  by_cases hroom : (n - 2) / 2 < qH t'
  ·rw [show decide (((qH t' : Nat) : Int) > (((n - 2) / 2 : Nat) : Int)) = true from decide_eq_true (by omega)]
   refine wpAnyH_done (by kernel_rfl) ?_ _
   clear hS6' hn6 hS6 hS7 hS8
   go_wp2_with (first | (go_at_call 46; refine (Qn _ _ _).mono ?_; rintro e w9 ⟨f, o, rfl, h2, h3⟩))
   exact ⟨rfl, Or.inr ⟨hroom, f, o, rfl, h2, trivial, K08.trans h3⟩⟩
  rw [show decide (((qH t' : Nat) : Int) > (((n - 2) / 2 : Nat) : Int)) = false from decide_eq_false (by omega)]
  refine wpAnyH_done (by kernel_rfl) ?_ _
  have c8 : w8.cell? ⟨b0, 0, none⟩ = some (.pointer (some ⟨x, 0, none⟩)) := y6 hS8.1.1 rfl
  have hld8 := QQ hS8.2
  clear hS6' hn6 hS6 hS7 hS8
  obtain ⟨w9, hst9, hR9, hk9⟩ := hR8.set _ ht8
  go_wp2_with (first
   | (refine ye rfl 77 (.tmp 3) rfl ⟨nb, 0, none⟩ rfl _ hld8 ?_)
   | (refine qM rfl w9 (yH 77 (.tmp 28) (.tmp 26) rfl ⟨x, 7, none⟩ rfl _ rfl hst9) ?_))
  go_end0
  exact Or.inl ⟨hroom, rfl, ⟨r4, hR9⟩, (K08.mono (by simp)).trans hk9⟩
theorem Q8m (b0 b1 b2 x : Nat) (k y : ByteArray) (w : World) (hb : Bx3 b0 b1 b2 x k y w) {v a n : Nat} {c : Hd} {r : Value} {t : Tr} (h : Rec x v a n c r t w) (hs : c.s = 3) :
  Calls prog 39 #[.pointer (some ⟨b0, 0, none⟩), .pointer (some ⟨b1, 0, none⟩), .pointer (some ⟨b2, 0, none⟩)] w (Q24 4 [] Q6S w) := by
 have c0 : w.cell? ⟨b0, 0, none⟩ = some (.pointer (some ⟨x, 0, none⟩)) := y6 hb.1 rfl
 have HN : Hid (Calls _ _ _ _ _) := Q7t x v c t r w hs h.row
 have HB : Hid _ := hb
 clear hb
 go_enter func39, ntmps39
 go_wp2_with (first
  | (go_at_call 34; refine HN.out.mono ?_; rintro e w1 ⟨f, o, rfl, h2, h3⟩))
 exact ⟨rfl, f, o, rfl, h2, trivial, h3⟩
theorem Q8n (x : Nat) (k y : ByteArray) (P : Value -> World -> Prop) (S : List Nat) (w : World)
  (hc : ∀ b, Calls prog 32 #[.string b, .func (.func 39) #[] #[.pointer (some ⟨w.heap.size, 0, none⟩), .pointer (some ⟨w.heap.size + 1, 0, none⟩), .pointer (some ⟨w.heap.size + 1 + 1, 0, none⟩)]] (((w.alloc (.cells #[.pointer (some ⟨x, 0, none⟩)] 24)).alloc (.cells #[.string k] 9)).alloc (.cells #[.string y] 9)) (ZK P S (((w.alloc (.cells #[.pointer (some ⟨x, 0, none⟩)] 24)).alloc (.cells #[.string k] 9)).alloc (.cells #[.string y] 9)))) :
  Calls prog 20 #[.pointer (some ⟨x, 0, none⟩), .string k, .string y] w (ZK P S w) := by
 have HC : Hid (∀ b, Calls _ _ _ _ _) := hc
 have hmf := jb
 clear hc
 go_enter func20, ntmps20
 go_wp2_with (go_at_call 32; refine (HC.out _).mono ?_; rintro e w2 ⟨err, rfl, hp2, hk2⟩)
 go_ret
 exact ⟨err, rfl, hp2, ((((y5.refl S w).alloc _).alloc _).alloc _).trans hk2⟩
theorem Q8o (w : World) (x : Nat) (k y : ByteArray) : Bx3 w.heap.size (w.heap.size + 1) (w.heap.size + 1 + 1) x k y (((w.alloc (.cells #[.pointer (some ⟨x, 0, none⟩)] 24)).alloc (.cells #[.string k] 9)).alloc (.cells #[.string y] 9)) := by
 have h2 := Q8g w x k
 have k3 := (y5.refl [] ((w.alloc (.cells #[.pointer (some ⟨x, 0, none⟩)] 24)).alloc (.cells #[.string k] 9))).alloc (.cells #[.string y] 9)
 refine ⟨k3.get h2.1 (by simp), k3.get h2.2 (by simp), ?_⟩
 have := heap_alloc_new ((w.alloc (.cells #[.pointer (some ⟨x, 0, none⟩)] 24)).alloc (.cells #[.string k] 9)) (.cells #[.string y] 9)
 rwa [World.size_alloc, World.size_alloc] at this
theorem Q8p (w : World) (x : Nat) (k y : ByteArray) : y5 [] w (((w.alloc (.cells #[.pointer (some ⟨x, 0, none⟩)] 24)).alloc (.cells #[.string k] 9)).alloc (.cells #[.string y] 9)) := (((y5.refl [] w).alloc _).alloc _).alloc _
theorem Q8q (x v a n : Nat) (c : Hd) (r : Value) (t : Tr) (k y : ByteArray) (w : World) (h : Rec x v a n c r t w) (hs : c.s = 1 \/ c.s = 2) (ht : TW t) (hk : jy k) (hy : y.size <= 12) (h8 : 8 <= n) (h4 : n <= 400) (hroom : ¬ (n - 2) / 2 < qH (qP (yL k y) k t)) :
  Calls prog 20 #[.pointer (some ⟨x, 0, none⟩), .string k, .string y] w (ZK (IsNil fun W => ∃ r', Rec x v a n c r' (qP (yL k y) k t) W) [x] w) := by
 refine Q8n x k y _ _ w fun b => Q8b b _ _ (fun _ _ => by kernel_rfl) [x] _ _ ?_ (fun W W' T h1 h2 h3 => ?_) fun W kW => ?_
 ·intro z hz
  simp at hz
  subst hz
  have := yt h.row
  rw [World.size_alloc, World.size_alloc, World.size_alloc]
  omega
 ·obtain ⟨r', h1⟩ := h1
  exact ⟨r', h1.err h2 h3⟩
 ·exact (Q8l _ _ _ x v a n c r t k y W ((Q8o w x k y).k kW) ((h.k (Q8p w x k y)).k kW) ht hs hk hy h8 h4 (by omega)).mono fun e W' hp => hp.elim (fun hp => hp.2) fun hp => absurd hp.1 hroom
theorem Q8r (x v a n : Nat) (c : Hd) (r : Value) (t : Tr) (k y : ByteArray) (w : World) (h : Rec x v a n c r t w) (hs : c.s = 3) : Calls prog 20 #[.pointer (some ⟨x, 0, none⟩), .string k, .string y] w (ZK (Q8a 4 Q6S) [] w) :=
 Q8n x k y _ _ w fun b => Q8c b _ _ (fun _ _ => by kernel_rfl) 4 _ _ (fun _ _ _ _ _ _ => trivial) fun W kW => Q8m _ _ _ x k y W ((Q8o w x k y).k kW) ((h.k (Q8p w x k y)).k kW) hs
end Go.Proofs.YtcklgafpgdhnaabGreatDoor
