import Derived.Test.YtcklgafpgdhnaabGreatDoorPqbc
import Derived.Test.YtcklgafpgdhnaabGreatDoorPqaf
import Derived.Test.YtcklgafpgdhnaabGreatDoorPqap
set_option maxRecDepth 100000
set_option maxHeartbeats 4000000
open Go.Proofs.Tryz
namespace Go.Proofs.YtcklgafpgdhnaabGreatDoor
open Go.RowKit
theorem Q8J : (prog.info? 67).map (·.size) = some 1 := by kernel_rfl
theorem Rec.state {x v a n : Nat} {c : Hd} {r : Value} {t : Tr} {w w' : World} (h : Rec x v a n c r t w) (k : y5 [x] w w') (s : Nat) (hs : 1 <= s /\ s <= 3) (hr : w'.heap[x]? = some (.cells ((qk c v t r).setIfInBounds 0 (.int .i64 (s : Nat))) 79 (0, 0))) : Rec x v a n ⟨s, c.tu, c.ro, c.lt, c.lr⟩ r t w' := by
 have hn : ∀ z ∈ [x], ¬ TT w z := by
  intro z hz
  simp at hz
  subst hz
  rintro (⟨cs, fr, hh⟩ | ⟨cs, fr, hh⟩)
  ·exact yP h.row hh (by decide) rfl
  ·exact yP h.row hh (by decide) rfl
 exact ⟨hr, k.get h.vol (by simp; exact yP h.vol h.row (by decide)), hs, TV.kept h.lv.tags k hn fun _ _ => trivial, TV.kept h.tv.tags k hn fun _ _ => trivial⟩
def SyOk (c : Hd) (t : Tr) (D0 : Dv) (tu' ro' : Nat) (D' : Dv) : Prop :=
 ((yw c t).1.pl = c.lt.pl /\ tu' = c.tu /\ ro' = c.ro /\ Wrs D0 (yw c t).2.ws D') \/ ((yw c t).1.pl ≠ c.lt.pl /\ tu' = nxt c.tu /\ ro' = (yw c t).1.pl /\ ∃ D1 D2 D3, Wrs D0 (yw c t).2.ws D1 /\ Fl D1 D2 /\ Wn D2 (nxt c.tu % 2) (blk (nxt c.tu) (yw c t).1.pl) D3 /\ Fl D3 D')
def Q8K (c : Hd) (t : Tr) (n : Nat) (D0 : Dv) (o : Int) (D' : Dv) : Prop :=
 (∃ ws D1, FrW c.lt n ws /\ Wrs D0 ws D1 /\ ((o = 6 /\ Er D1 D') \/ (o = 3 /\ D' = D1 /\ ¬ Bd n (yw c t).2))) \/
 (o = 6 /\ FrW c.lt n (yw c t).2.ws /\ ∃ D1 D2, Wrs D0 (yw c t).2.ws D1 /\ Fl D1 D2 /\ (Er D2 D' \/ ∃ D3, Wn D2 (nxt c.tu % 2) (blk (nxt c.tu) (yw c t).1.pl) D3 /\ Er D3 D'))
def Sy0 (c : Hd) (D D0 : Dv) : Prop := (c.s = 1 /\ Fl D D0) \/ (c.s = 2 /\ D0 = D)
def SyE (x v a n : Nat) (bv cv : Value) (m : Nat) (c : Hd) (r : Value) (t : Tr) (D : Dv) (o : Option Int) (W : World) : Prop :=
 ∃ cv' D', (DQ W a bv n cv' D' /\ CvN cv cv' m) /\ ((o = none /\ ∃ D0 r' tu' ro', Sy0 c D D0 /\ SyOk c t D0 tu' ro' D' /\ FrW c.lt n (yw c t).2.ws /\ (∀ u ∈ (yw c t).2.us, u < n) /\ Rec x v a n ⟨2, tu', ro', (yw c t).1, r'⟩ r' (yw c t).1 W) \/
  (∃ q tu' ro', o = some q /\ Rec x v a n ⟨3, tu', ro', c.lt, c.lr⟩ r t W /\ ((q = 6 /\ c.s = 1 /\ Er D D') \/ ∃ D0, Sy0 c D D0 /\ Q8K c t n D0 q D')))
theorem SyE.err {x v a n : Nat} {bv cv : Value} {m : Nat} {c : Hd} {r : Value} {t : Tr} {D : Dv} {o : Option Int} {W W' : World} {T : List Nat} (h : SyE x v a n bv cv m c r t D o W) (k : y5 T W W') (hT : ∀ y ∈ T, Tg W y 35) : SyE x v a n bv cv m c r t D o W' := by
 obtain ⟨cv', D', hd, hr⟩ := h
 refine ⟨cv', D', ⟨hd.1.kept k ?_, hd.2⟩, ?_⟩
 ·intro y hy hm
  obtain ⟨cs, fr, hh⟩ := hT y hm
  exact hd.1.no hh (by decide) hy
 ·rcases hr with ⟨h1, D0, r', tu', ro', h2, h3, h4, h5, h6⟩ | ⟨q, tu', ro', h1, h2, h3⟩
  ·exact Or.inl ⟨h1, D0, r', tu', ro', h2, h3, h4, h5, h6.err k hT⟩
  ·exact Or.inr ⟨q, tu', ro', h1, h2.err k hT, h3⟩
theorem Q8L {x v a n : Nat} {bv cv cvS : Value} {mS : Nat} {c : Hd} {r : Value} {t : Tr} {D D0 : Dv} {w : World} {e : Ending} {W : World} (hs : c.s = 3) {c0 : Hd} (hc : c = ⟨3, c0.tu, c0.ro, c0.lt, c0.lr⟩) (h0 : Sy0 c0 D D0) (hcS : CvN cvS cv mS) (hmS : mS <= w.heap.size) (h : Q8D x v a n bv cv c r t D0 w e W) : ∃ q ch, e = .panicked ch /\ WEnd (some q) e W /\ SyE x v a n bv cvS mS c0 r t D (some q) W /\ y5 (x :: ym a bv cv) w W := by
 subst hc
 obtain ⟨cv', D', tu', ro', hd, hr, hk, hb⟩ := h
 rcases hb with ⟨ws, D1, h1, h2, ⟨h3, hth⟩ | ⟨h3, hth, hno⟩⟩ | ⟨hth, h1, D1, D2, h2, h3, h4⟩
 ·obtain ⟨f, o, rfl, hf⟩ := hth.ex
  exact ⟨6, _, rfl, hth, ⟨cv', D', ⟨hd, hcS.trans hk.2 hmS⟩, Or.inr ⟨6, tu', ro', rfl, hr, Or.inr ⟨D0, h0, Or.inl ⟨ws, D1, h1, h2, Or.inl ⟨rfl, h3⟩⟩⟩⟩⟩, hk.1⟩
 ·obtain ⟨f, o, rfl, hf⟩ := hth.ex
  exact ⟨3, _, rfl, hth, ⟨cv', D', ⟨hd, hcS.trans hk.2 hmS⟩, Or.inr ⟨3, tu', ro', rfl, hr, Or.inr ⟨D0, h0, Or.inl ⟨ws, D1, h1, h2, Or.inr ⟨rfl, h3, hno⟩⟩⟩⟩⟩, hk.1⟩
 ·obtain ⟨f, o, rfl, hf⟩ := hth.ex
  exact ⟨6, _, rfl, hth, ⟨cv', D', ⟨hd, hcS.trans hk.2 hmS⟩, Or.inr ⟨6, tu', ro', rfl, hr, Or.inr ⟨D0, h0, Or.inr ⟨rfl, h1, D1, D2, h2, h3, h4⟩⟩⟩⟩, hk.1⟩
theorem Q8M (m b0 x v a n : Nat) (bv cv : Value) (c : Hd) (r : Value) (t : Tr) (D : Dv) (w : World) (hmw : m <= w.heap.size) (hb : w.heap[b0]? = some (.cells #[.pointer (some ⟨x, 0, none⟩)] 24 (0, 0))) (hR : Rec x v a n c r t w) (hs : c.s = 1) (hd : DQ w a bv n cv D) (hP : LyP c t n) (hn8 : 8 <= n) (hn : n <= 400) (hq : D.q.length <= 800000) (htu : (nxt c.tu : Int) < 18446744073709551616) (hT : qc D \/ Tab w) :
  Calls prog 33 #[.pointer (some ⟨b0, 0, none⟩)] w (Q28 (x :: ym a bv cv) (SyE x v a n bv cv m c r t D) w) := by
 have c0 : w.cell? ⟨b0, 0, none⟩ = some (.pointer (some ⟨x, 0, none⟩)) := y6 hb rfl
 have HN : Hid (Calls _ _ _ _ _) := Qc x v c t r w (by omega) hR.row
 have HR : Hid (Rec x v a n c r t w) := hR
 have HD : Hid (DQ w a bv n cv D) := hd
 have HT : Hid (qc D \/ Tab w) := hT
 have HB : Hid (w.heap[b0]? = _) := hb
 have HU : Hid ((nxt c.tu : Int) < 18446744073709551616 /\ D.q.length <= 800000 /\ c.s = 1) := ⟨htu, hq, hs⟩
 have nbx : b0 ≠ x := yP hb hR.row (by decide)
 clear hR hd hT hb htu hq hs
 go_enter func33, ntmps33
 go_wp2_with (first
  | (go_at_call 34; refine HN.out.mono ?_; rintro e w1 ⟨rfl, k1⟩; have hR1 := HR.out.k k1; have rb1 := k1.get HB.out (by simp); have c10 : w1.cell? ⟨b0, 0, none⟩ = some (.pointer (some ⟨x, 0, none⟩)) := y6 rb1 rfl; have c1x : w1.cell? ⟨x, 0, none⟩ = some (.int .i64 1) := (by rw [y6 (v := .int .i64 (c.s : Nat)) hR1.row rfl, HU.out.2.2]; rfl); have rx1 := hR1.row; have HR1 : Hid (Rec x v a n c r t w1) := hR1; clear hR1)
  | (refine gl rfl 67 (.tmp 10) (.const (.int .i64 3)) rfl x 0 rfl (.int .i64 3) rfl 79 _ rx1 Q8J rfl (by simp [qk]) ?_; intro w2 rx2 k2; have rb2 := k2.get rb1 (by simp; exact nbx); have c20 : w2.cell? ⟨b0, 0, none⟩ = some (.pointer (some ⟨x, 0, none⟩)) := y6 rb2 rfl; have HR2 : Hid (Rec x v a n ⟨3, c.tu, c.ro, c.lt, c.lr⟩ r t w2) := HR1.out.state k2 3 (by omega) rx2; have c2v : w2.cell? ⟨x, 1, none⟩ = some (.pointer (some ⟨v, 0, none⟩)) := y6 rx2 rfl))
 have hR2 := HR2.out
 have K2 : y5 [x] w w2 := (k1.mono (by simp)).trans k2
 have hd1 := HD.out.k0 k1
 have nx1 : x ∉ ym a bv cv := hd1.no rx1 (by decide)
 have hd2 : DQ w2 a bv n cv D := hd1.k1 k2 nx1
 have hT2 : qc D \/ Tab w2 := HT.out.imp id fun h => (h.k k1).kept k2 (by simp; exact (h.k k1).ne rx1 (by decide))
 have hq := HU.out.2.1
 have KW2 : y5 (x :: ym a bv cv) w w2 := K2.mono (by simp)
 refine (ZN v a bv n cv D w2 hR2.vol hd2 (by omega) (by omega)).mono ?_
 rintro e w3 ⟨cv3, D3, hd3, k3, hcv3, hcase⟩
 have KA3 := hd2.ka k3
 have hR3 : Rec x v a n ⟨3, c.tu, c.ro, c.lt, c.lr⟩ r t w3 := hR2.kept k3 nx1 fun y hy => ⟨fun ⟨cs, fr, hh⟩ => hd2.no hh (by decide) hy, fun ht => by rcases ht with ⟨cs, fr, hh⟩ | ⟨cs, fr, hh⟩ <;> exact hd2.no hh (by decide) hy⟩
 have KW3 : y5 (x :: ym a bv cv) w w3 := KW2.trans2 k3 fun y hy => Or.inl (List.mem_cons_of_mem _ hy)
 rcases hcase with ⟨hfl, rfl⟩ | ⟨her, hth⟩
 rotate_left
 ·obtain ⟨f, o, rfl, hf⟩ := hth.ex
  exact ⟨rfl, some 6, hth, ⟨cv3, D3, ⟨hd3, fun y hy => (hcv3 y hy).imp id fun h => Nat.le_trans (Nat.le_trans hmw KW2.size) h⟩, Or.inr ⟨6, c.tu, c.ro, rfl, hR3, Or.inl ⟨rfl, HU.out.2.2, her⟩⟩⟩, KW3⟩
 have h0 : Sy0 c D D3 := Or.inl ⟨HU.out.2.2, hfl⟩
 have rb3 := KA3.row _ _ _ _ trivial (by decide) rb2
 have hT3 : qc D3 \/ Tab w3 := hT2.imp hfl.good.2 fun h => h.ka KA3
 have hq3 : D3.q.length <= 800000 := by rw [hfl.q]; simp
 have hcvF : ∀ y, cv3.ownBlock = some y -> cv.ownBlock = some y \/ w.heap.size <= y := fun y hy => (hcv3 y hy).imp id fun h => Nat.le_trans KW2.size h
 have c30 : w3.cell? ⟨b0, 0, none⟩ = some (.pointer (some ⟨x, 0, none⟩)) := y6 rb3 rfl
 clear hR2 hd2 hT2 k3 KA3 c20 c2v c10 c1x k1 k2 K2 hcv3 rx2 rx1 hd1 rb1
 go_wp2_with fail
 have HL : Hid (Calls _ _ _ _ _) := Q8I x v a n bv cv3 ⟨3, c.tu, c.ro, c.lt, c.lr⟩ r t D3 w3 hR3 hd3 ⟨hP.nd, hP.lt, hP.ck⟩ hn8 hn hq3 HU.out.1 hT3
 refine HL.out.mono ?_
 have hsub : ∀ y ∈ x :: ym a bv cv3, y ∈ x :: ym a bv cv \/ w.heap.size <= y := by
  intro y hy
  rcases List.mem_cons.1 hy with rfl | hy
  ·exact Or.inl (by simp)
  ·exact (Qz hcvF y hy).imp (List.mem_cons_of_mem _) id
 have nb3 : b0 ∉ x :: ym a bv cv3 := by
  intro hm
  rcases List.mem_cons.1 hm with e | hm
  ·exact nbx e
  ·exact hd3.no rb3 (by decide) hm
 rintro e w4 (⟨rfl, r', cv', D', tu', ro', hd4, hR4, k4, hfr4, hus4, hdk⟩ | hbad)
 rotate_left
 ·obtain ⟨q, ch, rfl, h1, h2, h3⟩ := Q8L (cvS := cv) (mS := m) rfl rfl h0 (fun y hy => (hcvF y hy).imp id fun h => Nat.le_trans hmw h) (Nat.le_trans hmw KW3.size) hbad
  exact ⟨rfl, some q, h1, h2, KW3.trans2 h3 hsub⟩
 have rb4 := k4.1.get rb3 nb3
 have c40 : w4.cell? ⟨b0, 0, none⟩ = some (.pointer (some ⟨x, 0, none⟩)) := y6 rb4 rfl
 have rx4 := hR4.row
 have HR4 : Hid (Rec x v a n ⟨3, tu', ro', (yw c t).1, r'⟩ r' (yw c t).1 w4) := hR4
 have HF : Hid (SyOk c t D3 tu' ro' D' /\ FrW c.lt n (yw c t).2.ws /\ (∀ u ∈ (yw c t).2.us, u < n)) := ⟨hdk, hfr4, hus4⟩
 have HD4 : Hid (DQ w4 a bv n cv' D') := hd4
 have KW4 := KW3.trans2 k4.1 hsub
 have HCV4 : Hid (CvN cv cv' m) := CvN.trans (cv' := cv3) (fun y hy => (hcvF y hy).imp id fun h => Nat.le_trans hmw h) k4.2 (Nat.le_trans hmw KW3.size)
 clear hR4 hdk hfr4 hus4 hd4 k4 hR3 hd3 hT3 rb3
 go_wp2_with (refine gl rfl 67 (.tmp 22) (.const (.int .i64 2)) rfl x 0 rfl (.int .i64 2) rfl 79 _ rx4 Q8J rfl (by simp [qk]) ?_; intro w5 rx5 k5)
 go_end0
 exact ⟨none, rfl, ⟨cv', D', ⟨HD4.out.k1 k5 (HD4.out.no rx4 (by decide)), HCV4.out⟩, Or.inl ⟨rfl, D3, r', tu', ro', h0, HF.out.1, HF.out.2.1, HF.out.2.2, HR4.out.state k5 2 (by omega) rx5⟩⟩, KW4.trans2 k5 (by intro y hy; simp at hy; subst hy; exact Or.inl (by simp))⟩
theorem Q8N (m b0 x v a n : Nat) (bv cv : Value) (c : Hd) (r : Value) (t : Tr) (D : Dv) (w : World) (hmw : m <= w.heap.size) (hb : w.heap[b0]? = some (.cells #[.pointer (some ⟨x, 0, none⟩)] 24 (0, 0))) (hR : Rec x v a n c r t w) (hs : c.s = 2) (hd : DQ w a bv n cv D) (hP : LyP c t n) (hn8 : 8 <= n) (hn : n <= 400) (hq : D.q.length <= 800000) (htu : (nxt c.tu : Int) < 18446744073709551616) (hT : qc D \/ Tab w) :
  Calls prog 33 #[.pointer (some ⟨b0, 0, none⟩)] w (Q28 (x :: ym a bv cv) (SyE x v a n bv cv m c r t D) w) := by
 have c0 : w.cell? ⟨b0, 0, none⟩ = some (.pointer (some ⟨x, 0, none⟩)) := y6 hb rfl
 have HN : Hid (Calls _ _ _ _ _) := Qc x v c t r w (by omega) hR.row
 have HR : Hid (Rec x v a n c r t w) := hR
 have HD : Hid (DQ w a bv n cv D) := hd
 have HT : Hid (qc D \/ Tab w) := hT
 have HB : Hid (w.heap[b0]? = _) := hb
 have HU : Hid ((nxt c.tu : Int) < 18446744073709551616 /\ D.q.length <= 800000 /\ c.s = 2) := ⟨htu, hq, hs⟩
 have nbx : b0 ≠ x := yP hb hR.row (by decide)
 clear hR hd hT hb htu hq hs
 go_enter func33, ntmps33
 go_wp2_with (first
  | (go_at_call 34; refine HN.out.mono ?_; rintro e w1 ⟨rfl, k1⟩; have hR1 := HR.out.k k1; have rb1 := k1.get HB.out (by simp); have c10 : w1.cell? ⟨b0, 0, none⟩ = some (.pointer (some ⟨x, 0, none⟩)) := y6 rb1 rfl; have c1x : w1.cell? ⟨x, 0, none⟩ = some (.int .i64 2) := (by rw [y6 (v := .int .i64 (c.s : Nat)) hR1.row rfl, HU.out.2.2]; rfl); have rx1 := hR1.row; have HR1 : Hid (Rec x v a n c r t w1) := hR1; clear hR1)
  | (refine gl rfl 67 (.tmp 10) (.const (.int .i64 3)) rfl x 0 rfl (.int .i64 3) rfl 79 _ rx1 Q8J rfl (by simp [qk]) ?_; intro w2 rx2 k2; have rb2 := k2.get rb1 (by simp; exact nbx); have c20 : w2.cell? ⟨b0, 0, none⟩ = some (.pointer (some ⟨x, 0, none⟩)) := y6 rb2 rfl; have HR2 : Hid (Rec x v a n ⟨3, c.tu, c.ro, c.lt, c.lr⟩ r t w2) := HR1.out.state k2 3 (by omega) rx2; have c2v : w2.cell? ⟨x, 1, none⟩ = some (.pointer (some ⟨v, 0, none⟩)) := y6 rx2 rfl))
 have hR2 := HR2.out
 have K2 : y5 [x] w w2 := (k1.mono (by simp)).trans k2
 have hd1 := HD.out.k0 k1
 have nx1 : x ∉ ym a bv cv := hd1.no rx1 (by decide)
 have hd2 : DQ w2 a bv n cv D := hd1.k1 k2 nx1
 have hT2 : qc D \/ Tab w2 := HT.out.imp id fun h => (h.k k1).kept k2 (by simp; exact (h.k k1).ne rx1 (by decide))
 have hq := HU.out.2.1
 have KW2 : y5 (x :: ym a bv cv) w w2 := K2.mono (by simp)
 obtain ⟨w3, e3⟩ : ∃ w3, w3 = w2 := ⟨_, rfl⟩
 obtain ⟨D3, e4⟩ : ∃ D3, D3 = D := ⟨_, rfl⟩
 obtain ⟨cv3, e5⟩ : ∃ cv3, cv3 = cv := ⟨_, rfl⟩
 have hR3 := hR2
 have hd3 := hd2
 have hT3 := hT2
 have rb3 := rb2
 have KW3 := KW2
 have hq3 := hq
 have hcvF : ∀ y, cv.ownBlock = some y -> cv.ownBlock = some y \/ w.heap.size <= y := fun y hy => Or.inl hy
 rw [<- e4] at hq3
 have h0 : Sy0 c D D3 := Or.inr ⟨HU.out.2.2, e4⟩
 rw [<- e3] at hR3 hd3 hT3 rb3 KW3
 rw [<- e4] at hd3 hT3
 rw [<- e5] at hd3
 have hcvF : ∀ y, cv3.ownBlock = some y -> cv.ownBlock = some y \/ w.heap.size <= y := by rw [e5]; exact hcvF
 have HW3 : Hid (w3 = w2) := e3
 clear hR2 hd2 hT2 k1 k2 K2 c20 c2v c10 c1x rx2 rx1 hd1 rb1 e3 e4 e5
 rw [<- HW3.out]
 have HL : Hid (Calls _ _ _ _ _) := Q8I x v a n bv cv3 ⟨3, c.tu, c.ro, c.lt, c.lr⟩ r t D3 w3 hR3 hd3 ⟨hP.nd, hP.lt, hP.ck⟩ hn8 hn hq3 HU.out.1 hT3
 refine HL.out.mono ?_
 have hsub : ∀ y ∈ x :: ym a bv cv3, y ∈ x :: ym a bv cv \/ w.heap.size <= y := by
  intro y hy
  rcases List.mem_cons.1 hy with rfl | hy
  ·exact Or.inl (by simp)
  ·exact (Qz hcvF y hy).imp (List.mem_cons_of_mem _) id
 have nb3 : b0 ∉ x :: ym a bv cv3 := by
  intro hm
  rcases List.mem_cons.1 hm with e | hm
  ·exact nbx e
  ·exact hd3.no rb3 (by decide) hm
 rintro e w4 (⟨rfl, r', cv', D', tu', ro', hd4, hR4, k4, hfr4, hus4, hdk⟩ | hbad)
 rotate_left
 ·obtain ⟨q, ch, rfl, h1, h2, h3⟩ := Q8L (cvS := cv) (mS := m) rfl rfl h0 (fun y hy => (hcvF y hy).imp id fun h => Nat.le_trans hmw h) (Nat.le_trans hmw KW3.size) hbad
  exact ⟨rfl, some q, h1, h2, KW3.trans2 h3 hsub⟩
 have rb4 := k4.1.get rb3 nb3
 have c40 : w4.cell? ⟨b0, 0, none⟩ = some (.pointer (some ⟨x, 0, none⟩)) := y6 rb4 rfl
 have rx4 := hR4.row
 have HR4 : Hid (Rec x v a n ⟨3, tu', ro', (yw c t).1, r'⟩ r' (yw c t).1 w4) := hR4
 have HF : Hid (SyOk c t D3 tu' ro' D' /\ FrW c.lt n (yw c t).2.ws /\ (∀ u ∈ (yw c t).2.us, u < n)) := ⟨hdk, hfr4, hus4⟩
 have HD4 : Hid (DQ w4 a bv n cv' D') := hd4
 have KW4 := KW3.trans2 k4.1 hsub
 have HCV4 : Hid (CvN cv cv' m) := CvN.trans (cv' := cv3) (fun y hy => (hcvF y hy).imp id fun h => Nat.le_trans hmw h) k4.2 (Nat.le_trans hmw KW3.size)
 clear hR4 hdk hfr4 hus4 hd4 k4 hR3 hd3 hT3 rb3
 go_wp2_with (refine gl rfl 67 (.tmp 22) (.const (.int .i64 2)) rfl x 0 rfl (.int .i64 2) rfl 79 _ rx4 Q8J rfl (by simp [qk]) ?_; intro w5 rx5 k5)
 go_end0
 exact ⟨none, rfl, ⟨cv', D', ⟨HD4.out.k1 k5 (HD4.out.no rx4 (by decide)), HCV4.out⟩, Or.inl ⟨rfl, D3, r', tu', ro', h0, HF.out.1, HF.out.2.1, HF.out.2.2, HR4.out.state k5 2 (by omega) rx5⟩⟩, KW4.trans2 k5 (by intro y hy; simp at hy; subst hy; exact Or.inl (by simp))⟩
theorem Q8O (x v a n : Nat) (bv cv : Value) (c : Hd) (r : Value) (t : Tr) (D : Dv) (w : World) (hR : Rec x v a n c r t w) (hs : c.s = 1 \/ c.s = 2) (hd : DQ w a bv n cv D) (hP : LyP c t n) (hn8 : 8 <= n) (hn : n <= 400) (hq : D.q.length <= 800000) (htu : (nxt c.tu : Int) < 18446744073709551616) (hT : qc D \/ Tab w) :
  Calls prog 13 #[.pointer (some ⟨x, 0, none⟩)] w (Z1 (x :: ym a bv cv) (SyE x v a n bv cv w.heap.size c r t D) w) := by
 have hmf := jb
 have k1 := (y5.refl [] w).alloc (.cells #[.pointer (some ⟨x, 0, none⟩)] 24)
 have n1 := heap_alloc_new w (.cells #[.pointer (some ⟨x, 0, none⟩)] 24)
 have HC : Hid (∀ b, Calls prog 32 #[.string b, .func (.func 33) #[] #[.pointer (some ⟨w.heap.size, 0, none⟩)]] (w.alloc (.cells #[.pointer (some ⟨x, 0, none⟩)] 24)) (Z1 (x :: ym a bv cv) (SyE x v a n bv cv w.heap.size c r t D) (w.alloc (.cells #[.pointer (some ⟨x, 0, none⟩)] 24)))) := by
  intro b
  refine Q29 b 33 _ (fun _ _ => by kernel_rfl) _ _ _ ?_ (fun o W W' T hR hK hT => hR.err hK fun x hx => (hT x hx).2.2) ?_
  ·intro y hy
   have h1 := k1.size
   rcases List.mem_cons.1 hy with rfl | hy
   ·have := yt hR.row; omega
   ·have := hd.lt y hy; omega
  ·intro W hW _
   have kW := k1.trans hW
   rcases hs with h1 | h1
   ·exact Q8M w.heap.size w.heap.size x v a n bv cv c r t D W kW.size (hW.get n1 (by simp)) (hR.k kW) h1 (hd.k0 kW) hP hn8 hn hq htu (hT.imp id fun h => h.k kW)
   ·exact Q8N w.heap.size w.heap.size x v a n bv cv c r t D W kW.size (hW.get n1 (by simp)) (hR.k kW) h1 (hd.k0 kW) hP hn8 hn hq htu (hT.imp id fun h => h.k kW)
 clear hR hd hT n1
 go_enter func13, ntmps13
 go_wp2_with (go_at_call 32; refine (HC.out _).mono ?_; rintro e w2 ⟨o, err, rfl, hc2, hr2, hk2⟩)
 go_ret
 exact ⟨o, err, rfl, hc2, hr2, (k1.mono (by simp)).trans hk2⟩
theorem Stp.len {s s' : Ls} (h : Stp s s') : s.ws.length <= s'.ws.length /\ s'.us.length + s.ws.length = s.us.length + s'.ws.length := by
 induction h with
 | refl => exact ⟨Nat.le_refl _, rfl⟩
 | step _ B ih =>
  simp only [Ls.step, List.length_cons, List.length_append, List.length_nil]
  omega
theorem Stp.bd {N : Nat} {s s' : Ls} (h : Stp s s') (h0 : Bd N s) (hl : s'.us.length <= N) : Bd N s' := by
 induction h with
 | refl => exact h0
 | step _ B ih =>
  simp only [Ls.step, List.length_cons] at hl
  intro u hu
  rcases List.mem_cons.1 hu with rfl | hu
  ·exact Q5Z (by omega)
  ·exact ih (by omega) u hu
theorem Q8P : ∀ (h : Nat) (n : Nd h), 1 + frN h n <= gm h n
 | 0, _ => Nat.le_refl _
 | h + 1, (ks : List (Kid h)) => by
  show 1 + (ks.map fun k : Kid h => if k.3 = 0 then 1 + frN h k.2 else 0).sum <= 1 + (ks.map fun k : Kid h => gm h k.2).sum
  have : ∀ L : List (Kid h), (L.map fun k : Kid h => if k.3 = 0 then 1 + frN h k.2 else 0).sum <= (L.map fun k : Kid h => gm h k.2).sum := by
   intro L
   induction L with
   | nil => exact Nat.le_refl _
   | cons k r ih =>
    simp only [List.map_cons, List.sum_cons]
    have := Q8P h k.2
    split <;> omega
  have := this ks
  omega
theorem Q8Q (t : Tr) (s : Ls) : Stp s (QW t s).2 /\ (QW t s).2.ws.length <= s.ws.length + qH t := by
 cases hn : qO t.h t.n with
 | true =>
  have e : (QW t s).2 = s := by unfold QW; simp [hn]
  rw [e]
  exact ⟨.refl s, Nat.le_add_right _ _⟩
 | false =>
  rw [Zs hn]
  refine ⟨Q7L _ _ _, ?_⟩
  have h1 := (QM t.h t.n s).2
  have h2 := Q8P t.h t.n
  unfold qH qh
  simp only [hn]
  split
  ·simp only [Ls.step, List.length_append, List.length_cons, List.length_nil]
   simp
   omega
  ·simp
theorem Q8R {c : Hd} {t : Tr} {n : Nat} (hn : 2 <= n) (h0 : ∀ p ∈ qU c.lt, p < n) (hr : qH c.lt + 2 + qH t <= n) : Bd n (yw c t).2 := by
 obtain ⟨h1, h2⟩ := Q8Q t ⟨usL c.lt, []⟩
 have h3 := h1.len
 have h4 : (usL c.lt).length = qH c.lt + 2 := by unfold usL; simp [Q6V]
 refine h1.bd ?_ ?_
 ·intro u hu
  have hu : u ∈ usL c.lt := hu
  unfold usL at hu
  rcases List.mem_append.1 hu with hu | hu
  ·exact h0 u (List.mem_reverse.1 hu)
  ·simp at hu
   omega
 ·simp only [List.length_nil] at h2 h3
  omega
def gZ (lk : Nat -> List UInt8) : (h : Nat) -> Nd h -> Prop
 | 0, _ => True
 | h + 1, ks => ∀ k : Kid h, List.Mem k ks -> lk k.3 = j3 (nbN h k.2) /\ gZ lk h k.2
def jJ : (h : Nat) -> Nd h -> List Nat
 | 0, _ => []
 | h + 1, ks => List.flatMap (fun k : Kid h => if k.3 = 0 then jJ h k.2 else k.3 :: gB h k.2) ks
def qu (h : Nat) (k : Kid h) : List Nat := if k.3 = 0 then jJ h k.2 else k.3 :: gB h k.2
def PlN (lk : Nat -> List UInt8) : (h : Nat) -> Nd h -> Prop
 | 0, _ => True
 | h + 1, ks => ∀ k : Kid h, List.Mem k ks -> (k.3 ≠ 0 -> lk k.3 = j3 (nbN h k.2) /\ gZ lk h k.2) /\ (k.3 = 0 -> PlN lk h k.2)
theorem jm {lk : Nat -> List UInt8} {h : Nat} {ks : List (Kid h)} : gZ lk (h + 1) ks ↔ ∀ k ∈ ks, lk k.3 = j3 (nbN h k.2) /\ gZ lk h k.2 := Iff.rfl
theorem Q8S {lk : Nat -> List UInt8} {h : Nat} {ks : List (Kid h)} : PlN lk (h + 1) ks ↔ ∀ k ∈ ks, (k.3 ≠ 0 -> lk k.3 = j3 (nbN h k.2) /\ gZ lk h k.2) /\ (k.3 = 0 -> PlN lk h k.2) := Iff.rfl
theorem Q8T (h : Nat) (ks : List (Kid h)) : jJ (h + 1) ks = ks.flatMap (qu h) := rfl
theorem gZ.agree {lk lk' : Nat -> List UInt8} : ∀ {h : Nat} {n : Nd h}, gZ lk h n -> (∀ b ∈ gB h n, lk' b = lk b) -> gZ lk' h n
 | 0, _, _, _ => trivial
 | h + 1, (ks : List (Kid h)), hl, ha => jm.2 fun k hk => by
  have h1 := jm.1 hl k hk
  have hm : ∀ b ∈ k.3 :: gB h k.2, lk' b = lk b := fun b hb => ha b (show b ∈ ks.flatMap (qW h) from List.mem_flatMap.2 ⟨k, hk, hb⟩)
  exact ⟨by rw [hm k.3 (by simp)]; exact h1.1, h1.2.agree fun b hb => hm b (by simp [hb])⟩
theorem Stp.sub {s s' : Ls} (h : Stp s s') : (∀ b ∈ s.us, b ∈ s'.us) /\ (∀ x ∈ s.ws, x ∈ s'.ws) := by
 induction h with
 | refl => exact ⟨fun _ h => h, fun _ h => h⟩
 | step _ B ih => exact ⟨fun b hb => by simp [Ls.step, ih.1 b hb], fun x hx => by simp [Ls.step, ih.2 x hx]⟩
structure Lad (lk' : Nat -> List UInt8) (h : Nat) (n n' : Nd h) (s s' : Ls) : Prop where
 lies : gZ lk' h n'
 nd : (gB h n').Nodup
 mem : ∀ b ∈ gB h n', b ∈ jJ h n \/ (b ∈ s'.us /\ b ∉ s.us)
theorem Q8U (lk lk' : Nat -> List UInt8) (us0 : List Nat) (hlk : ∀ b ∈ us0, lk' b = lk b) : ∀ (h : Nat) (n : Nd h) (s : Ls), PlN lk h n -> (jJ h n).Nodup -> (∀ b ∈ jJ h n, b ∈ us0) -> (∀ b ∈ us0, b ∈ s.us) -> (∀ x ∈ (qa h n s).2.ws, lk' x.1 = x.2) -> Lad lk' h n (qa h n s).1 s (qa h n s).2
 | 0, _, _, _, _, _, _, _ => ⟨trivial, List.nodup_nil, by intro b hb; cases hb⟩
 | h + 1, (ks : List (Kid h)), s, hp, hnd, hu, hus, hw => by
  have hw : ∀ x ∈ (j7 (qh h) ks s).2.ws, lk' x.1 = x.2 := hw
  have hnd : (ks.flatMap (qu h)).Nodup := hnd
  have hu : ∀ b ∈ ks.flatMap (qu h), b ∈ us0 := hu
  have hK : ∀ (k : Kid h) (s : Ls), ((k.3 ≠ 0 -> lk k.3 = j3 (nbN h k.2) /\ gZ lk h k.2) /\ (k.3 = 0 -> PlN lk h k.2)) -> (qu h k).Nodup -> (∀ b ∈ qu h k, b ∈ us0) -> (∀ b ∈ us0, b ∈ s.us) -> (∀ x ∈ (qh h k s).2.ws, lk' x.1 = x.2) ->
    (lk' (qh h k s).1.3 = j3 (nbN h (qh h k s).1.2) /\ gZ lk' h (qh h k s).1.2) /\ (qW h (qh h k s).1).Nodup /\ ∀ b ∈ qW h (qh h k s).1, b ∈ qu h k \/ (b ∈ (qh h k s).2.us /\ b ∉ s.us) := by
   intro k s hp hnd hu hus hw
   by_cases e : k.3 = 0
   ·rw [Qu e] at hw ⊢
    have hpk : qu h k = jJ h k.2 := by rw [qu, if_pos e]
    rw [hpk] at hnd hu ⊢
    obtain ⟨st, _⟩ := QM h k.2 s
    have ih := Q8U lk lk' us0 hlk h k.2 s (hp.2 e) hnd hu hus fun x hx => hw x (by simp [Ls.step, hx])
    have hnew := Q5U (qa h k.2 s).2.us
    refine ⟨⟨hw (tk (qa h k.2 s).2.us, j3 (nbN h (qa h k.2 s).1)) (by simp [Ls.step]), ih.lies⟩, ?_, ?_⟩
    ·refine List.nodup_cons.2 ⟨fun hm => ?_, ih.nd⟩
     rcases ih.mem _ hm with h1 | h1
     ·exact hnew (st.sub.1 _ (hus _ (hu _ h1)))
     ·exact hnew h1.1
    ·intro b hb
     rcases List.mem_cons.1 hb with rfl | hb
     ·exact Or.inr ⟨by simp [Ls.step], fun hm => hnew (st.sub.1 _ hm)⟩
     ·rcases ih.mem b hb with h1 | h1
      ·exact Or.inl h1
      ·exact Or.inr ⟨by simp [Ls.step, h1.1], h1.2⟩
   ·rw [jC e]
    have hpk : qu h k = qW h k := by rw [qu, if_neg e]; rfl
    rw [hpk] at hnd hu ⊢
    have h1 := hp.1 e
    refine ⟨⟨by rw [hlk _ (hu k.3 (by simp [qW]))]; exact h1.1, h1.2.agree fun b hb => hlk b (hu b (by simp [qW, hb]))⟩, hnd, fun b hb => Or.inl hb⟩
  have hS : ∀ (k : Kid h) (s : Ls), Stp s (qh h k s).2 := by
   intro k s
   unfold qh
   split
   ·exact (QM h k.2 s).1.step _
   ·exact .refl s
  have hSs : ∀ (L : List (Kid h)) (s : Ls), Stp s (j7 (qh h) L s).2 := by
   intro L
   induction L with
   | nil => intro s; exact .refl s
   | cons a r ih => intro s; exact (hS a s).trans (ih _)
  have key : ∀ (L : List (Kid h)) (s : Ls), (∀ k ∈ L, (k.3 ≠ 0 -> lk k.3 = j3 (nbN h k.2) /\ gZ lk h k.2) /\ (k.3 = 0 -> PlN lk h k.2)) -> (L.flatMap (qu h)).Nodup -> (∀ b ∈ L.flatMap (qu h), b ∈ us0) -> (∀ b ∈ us0, b ∈ s.us) -> (∀ x ∈ (j7 (qh h) L s).2.ws, lk' x.1 = x.2) ->
    (∀ k ∈ (j7 (qh h) L s).1, lk' k.3 = j3 (nbN h k.2) /\ gZ lk' h k.2) /\ ((j7 (qh h) L s).1.flatMap (qW h)).Nodup /\ ∀ b ∈ (j7 (qh h) L s).1.flatMap (qW h), b ∈ L.flatMap (qu h) \/ (b ∈ (j7 (qh h) L s).2.us /\ b ∉ s.us) := by
   intro L
   induction L with
   | nil => intro s _ _ _ _ _; exact ⟨fun k hk => (List.not_mem_nil hk).elim, List.nodup_nil, fun b hb => (List.not_mem_nil hb).elim⟩
   | cons a r ih =>
    intro s hp hnd hu hus hw
    rw [List.flatMap_cons, List.nodup_append] at hnd
    obtain ⟨n1, n2, n3⟩ := hnd
    simp only [j7] at hw ⊢
    have hsub := (hS a s).sub
    have hsub2 := (hSs r (qh h a s).2).sub
    obtain ⟨a1, a2, a3⟩ := hK a s (hp a (by simp)) n1 (fun b hb => hu b (by simp [hb])) hus fun x hx => hw x (hsub2.2 x hx)
    obtain ⟨r1, r2, r3⟩ := ih (qh h a s).2 (fun k hk => hp k (by simp [hk])) n2 (fun b hb => hu b (by rw [List.flatMap_cons]; exact List.mem_append_right _ hb)) (fun b hb => hsub.1 b (hus b hb)) hw
    refine ⟨?_, ?_, ?_⟩
    ·intro k hk
     rcases List.mem_cons.1 hk with rfl | hk
     ·exact a1
     ·exact r1 k hk
    ·rw [List.flatMap_cons, List.nodup_append]
     refine ⟨a2, r2, ?_⟩
     rintro b hb c hc rfl
     rcases a3 b hb with h1 | h1
     ·rcases r3 b hc with h2 | h2
      ·exact n3 b h1 b h2 rfl
      ·exact h2.2 (hsub.1 b (hus b (hu b (by simp [h1]))))
     ·rcases r3 b hc with h2 | h2
      ·exact h1.2 (hus b (hu b (by rw [List.flatMap_cons]; exact List.mem_append_right _ h2)))
      ·exact h2.2 h1.1
    ·intro b hb
     rw [List.flatMap_cons, List.mem_append] at hb ⊢
     rcases hb with hb | hb
     ·rcases a3 b hb with h1 | h1
      ·exact Or.inl (Or.inl h1)
      ·exact Or.inr ⟨hsub2.1 b h1.1, h1.2⟩
     ·rcases r3 b hb with h1 | h1
      ·exact Or.inl (Or.inr h1)
      ·exact Or.inr ⟨h1.1, fun hm => h1.2 (hsub.1 b hm)⟩
  obtain ⟨h1, h2, h3⟩ := key ks s (Q8S.1 hp) hnd hu hus hw
  exact ⟨jm.2 h1, h2, h3⟩
end Go.Proofs.YtcklgafpgdhnaabGreatDoor
