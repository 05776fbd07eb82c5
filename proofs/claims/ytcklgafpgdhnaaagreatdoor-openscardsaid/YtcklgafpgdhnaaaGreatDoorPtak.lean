import Derived.Test.YtcklgafpgdhnaaaGreatDoorPtaj
set_option maxRecDepth 100000
set_option maxHeartbeats 4000000
open List renaming getElem_toArray → zA, getElem_cons_succ → zB, getElem_cons_zero → zC, setIfInBounds_toArray → zD, set_cons_succ → zE, set_cons_zero → zF
namespace Go.Proofs.YtcklgafpgdhnaaaGreatDoor
open Go.RowKit

theorem len_withGo (k v : ByteArray) (b : Bool) (l : List Pr) : (withGo k v b l).length ≤ l.length + 1 - b.toNat := by
 induction l generalizing b with
 | nil => cases b <;> simp [withGo]
 | cons p r ih =>
  rw [withGo_cons]
  have h1 := ih (b || !bl p.1 k)
  cases b <;> cases hb : bl p.1 k <;> cases he : be p.1 k <;> simp [hb] at h1 ⊢ <;> omega
set_option maxRecDepth 4000 in
theorem len_with (k v : ByteArray) (l : List Pr) : (withL k v l).length ≤ l.length + 1 := by
 have := len_withGo k v false l
 simpa [withL] using this
theorem one1 (p : Option Addr) (n c : Nat) : (#[Value.slice p n c] : Array Value).all (·.oneCell') = true := by
 have h1 : (Value.slice p n c).oneCell' = true := rfl
 simp [h1]

theorem len_without (k : ByteArray) (l : List Pr) : (withoutL k l).length ≤ l.length := List.length_filter_le _ _

theorem enters_Room (args : Array Value) (w : World) : (callFunc 140 args).run Tryz.prog w = .ok (.enter 140 args) w := enters Tryz.func140 (by kernel_rfl) (by kernel_rfl) args w

def RmS (b : Nat) (px : Option Addr) (vl : Value) (c : Bool) (mo ch : Int) (lv wv : Value) (q a : Nat) (n : Int) (may were : Value) (bx : Nat) (vn : Value) (W : World) : Prop :=
 OR W b px vl false c mo ch lv wv ∧ LD W q a n may were (.pointer (some ⟨b, 0, none⟩)) ∧ W.heap[bx]? = some (.cells #[vn] 189 (0, 0))

theorem changed_put (I : Iface) (s : Sx) (o : Ox) (q : Nat) (n : Int) (may were : Value) (L : List UInt8) (c wr t : Int) (k v : ByteArray) (w : World) (hG : Glob w) (hgf : 1 ∉ s.fp) (hq : LD w q s.a n may were (.pointer (some ⟨o.b, 0, none⟩))) (hd : Dev w s.a s.g s.n L c wr t) (hs : I.SI w s) (ho : OI w s o) (hl : s.l.length ≤ 40000) (hmo : s.mo ≤ 40000) (hch : o.ch ≤ 40000) (hn : n = s.n) :
  Calls Tryz.prog 100 #[.pointer (some ⟨q, 0, none⟩), .string k, .string v, .bool false] w (DiskR I s o w q n may were L wr t) := by
 have cq0 : w.cell? ⟨q, 0, none⟩ = some (.pointer (some ⟨s.a, 0, none⟩)) := cellAt hq rfl
 have cq7 : w.cell? ⟨q, 7, none⟩ = some (.pointer (some ⟨o.b, 0, none⟩)) := cellAt hq rfl
 have cb0 : w.cell? ⟨o.b, 0, none⟩ = some (.pointer (some ⟨s.x, 0, none⟩)) := cellAt ho.r rfl
 have HT : Hid (Calls _ _ _ _ _) := DTold_o s.a _ _ _ c wr t w hd.d
 have HGt : Hid (Calls _ _ _ _ _) := I.put w s L c wr t k v hs hd
 have hga := (hG.dev hd).1
 have HN : Hid (n = s.n) := hn
 clear hn
 have nq : q ∉ s.a :: s.fp := by
  intro hx
  rcases List.mem_cons.1 hx with rfl | hx
  ·exact ne_tag hq hd.d (by decide) rfl
  ·exact I.ne hs ⟨_, _, _, hq, by decide⟩ hx
 go_enter Tryz.func100, Tryz.ntmps100
 go_wp2_with (first
  | (go_at_call 130; refine HT.out.mono ?_; rintro e w' ⟨rfl, rfl⟩))
 refine HGt.out.mono ?_
 rintro e w2 ⟨s', err, x, rfl, haft, hc2, htl, hres⟩
 have k2 := haft.2.2.2.2.2.2.2.1
 obtain ⟨r1, r2, r3⟩ := ho.aft I hs hd k2
 have hG2 := hG.kept k2 (by simp; exact ⟨hga.symm, hgf⟩)
 have q2 := k2.get hq nq
 by_cases hcode : chg s.cl false k v = 0
 ·rw [if_neg (by simp [hcode])] at hres
  rcases hres with ⟨rfl, hl2⟩ | ⟨rfl, hl2, hroom⟩
  ·go_wp2_with (first
  | (go_at_call 131; refine (htl _ (Kept.refl _ _) hG2).mono ?_; rintro e w3 ⟨rfl, hk3⟩; have r13 : OR w3 o.b (some ⟨s.x, 0, none⟩) o.vl false s.cl s.mo o.ch o.lv o.wv := hk3.get r1 (by simp); have hm3 := r13.store; have v3 := r2.kept hk3 (by simp); have hq3 : LD w3 q s.a n may were (.pointer (some ⟨o.b, 0, none⟩)) := hk3.get q2 (by simp))
  | (refine wpList_load_seg rfl 192 (.tmp 43) rfl ⟨o.b, 1, none⟩ rfl _ hm3 ?_)
  | (go_at_call 133; refine (num_any _ _).mono ?_; rintro e w' ⟨rfl, hw'⟩; rw [hw']; clear hw' w')
  | (go_at_call 137; refine (RChanged_any _ _ _ _ _ _ _ _).mono ?_; rintro e w4 ⟨rfl, hk4⟩; rw [hcode]; have r14 : OR w4 o.b (some ⟨s.x, 0, none⟩) o.vl false s.cl s.mo o.ch o.lv o.wv := hk4.get r13 (by simp); have hm4 := r14.map; have v4 := v3.kept hk4 (by simp); have hq4 : LD w4 q s.a n may were (.pointer (some ⟨o.b, 0, none⟩)) := hk4.get hq3 (by simp); clear hm3)
  | (refine wpList_load_seg rfl 189 (.tmp 57) rfl ⟨o.b, 1, none⟩ rfl _ hm4 ?_)
  | (go_at_call 138; refine (With_any o.vl s.l k v _ v4 (by omega)).mono ?_; rintro e w5 ⟨vn, rfl, pn, fn, hk5⟩; obtain ⟨pp, cp, rfl⟩ := pn.shape; have r15 : OR w5 o.b (some ⟨s.x, 0, none⟩) o.vl false s.cl s.mo o.ch o.lv o.wv := hk5.get r14 (by simp); clear hm4; have hq5 : LD w5 q s.a n may were (.pointer (some ⟨o.b, 0, none⟩)) := hk5.get hq4 (by simp))
  | (refine wpList_alloc_k rfl 189 rfl #[.slice none 0 0] (by rfl) ?_; intro w6 n6 k6 _; (refine wpList_store_k rfl 189 (.tmp 14) (.tmp 61) rfl w5.heap.size #[.slice pp (withL k v s.l).length cp] rfl rfl 189 _ n6 smap rfl (one1 _ _ _) ?_; intro w7 n7 k7; have k57 : Kept [] w5 w7 := k6.trans2 k7 (by intro x hx; simp at hx; subst hx; exact Or.inr (Nat.le_refl _)); have r17 : OR w7 o.b (some ⟨s.x, 0, none⟩) o.vl false s.cl s.mo o.ch o.lv o.wv := k57.get r15 (by simp); have c71 : w7.cell? ⟨o.b, 1, none⟩ = some o.vl := cellAt r17 rfl; have f71 : w7.frozen? ⟨o.b, 1, none⟩ = false := frozen_of_row _ _ _ _ _ r17; have nbx : w5.heap.size ≠ o.b := (by have := lt_heap r15; omega); have cx7 : w7.cell? ⟨w5.heap.size, 0, none⟩ = some (.slice pp (withL k v s.l).length cp) := cellAt n7 rfl))
  )
   have k8 : Kept [o.b] w7 (w7.setCell ⟨o.b, 1, none⟩ (.slice pp (withL k v s.l).length cp)) := (Kept.refl _ _).setCell (Or.inl (by simp)) _
   have r18 : OR (w7.setCell ⟨o.b, 1, none⟩ (.slice pp (withL k v s.l).length cp)) o.b (some ⟨s.x, 0, none⟩) (.slice pp (withL k v s.l).length cp) false s.cl s.mo o.ch o.lv o.wv := setCellAt (i := 1) _ r17
   have n8 := k8.get n7 (by simpa using nbx)
   generalize hw8 : w7.setCell ⟨o.b, 1, none⟩ (.slice pp (withL k v s.l).length cp) = w8 at *
   have HW8 : Hid _ := hw8
   clear hw8 c71 f71 cx7
   have c84 : w8.cell? ⟨o.b, 4, none⟩ = some (.int .i64 s.mo) := cellAt r18 rfl
   have c85 : w8.cell? ⟨o.b, 5, none⟩ = some (.int .i64 o.ch) := cellAt r18 rfl
   have f84 : w8.frozen? ⟨o.b, 4, none⟩ = false := frozen_of_row _ _ _ _ _ r18
   have f85 : w8.frozen? ⟨o.b, 5, none⟩ = false := frozen_of_row _ _ _ _ _ r18
   have cx8 : w8.cell? ⟨w5.heap.size, 0, none⟩ = some (.slice pp (withL k v s.l).length cp) := cellAt n8 rfl
   have hlw := len_with k v s.l
   have hmo2 : s'.mo = max s.mo (withL k v s.l).length := by rw [haft.2.2.2.2.1, hl2]
   have k27 : Kept [] w2 w7 := ((hk3.trans hk4).trans hk5).trans k57
   have hom := ho.m
   by_cases hgt : s.mo < (withL k v s.l).length
   ·have gi : (s.mo : Int) < ((withL k v s.l).length : Int) := by omega
    go_quiet (fail)
    go_wp2
    go_ret
    have k9 : Kept [o.b] w7 (((w8.drewN nq).setCell ⟨o.b, 4, none⟩ (.int .i64 ((withL k v s.l).length : Nat))).setCell ⟨o.b, 5, none⟩ (.int .i64 ((o.ch : Int) + 1))) :=
     (((k8.drewN nq).setCell (p := ⟨o.b, 4, none⟩) (Or.inl (by simp)) _).setCell (p := ⟨o.b, 5, none⟩) (Or.inl (by simp)) _)
    refine DiskR.upd I hq hd hs ho haft k27 (vl' := .slice pp (withL k v s.l).length cp) (ch' := o.ch + 1) (Nat.le_refl _) (by omega) (by rw [hl2]; omega) ?_ (by rw [hl2]; exact pn.kept k57 (by simp)) k9
    rw [hmo2, Nat.max_eq_right (by omega), hc2]
    exact setCellAt (i := 5) _ (setCellAt (i := 4) _ (show OR (w8.drewN nq) _ _ _ _ _ _ _ _ _ from r18))
   ·have gi : ¬ (s.mo : Int) < ((withL k v s.l).length : Int) := by omega
    go_quiet (fail)
    go_wp2
    go_ret
    have k9 : Kept [o.b] w7 ((w8.drewN nq).setCell ⟨o.b, 5, none⟩ (.int .i64 ((o.ch : Int) + 1))) :=
     ((k8.drewN nq).setCell (p := ⟨o.b, 5, none⟩) (Or.inl (by simp)) _)
    refine DiskR.upd I hq hd hs ho haft k27 (vl' := .slice pp (withL k v s.l).length cp) (ch' := o.ch + 1) (Nat.le_refl _) (by omega) (by rw [hl2]; omega) ?_ (by rw [hl2]; exact pn.kept k57 (by simp)) k9
    rw [hmo2, Nat.max_eq_left (by omega), hc2]
    exact setCellAt (i := 5) _ (show OR (w8.drewN nq) _ _ _ _ _ _ _ _ _ from r18)
  ·go_wp2_with (first
  | (go_at_call 131; refine (htl _ (Kept.refl _ _) hG2).mono ?_; rintro e w3 ⟨rfl, hk3⟩; have r13 : OR w3 o.b (some ⟨s.x, 0, none⟩) o.vl false s.cl s.mo o.ch o.lv o.wv := hk3.get r1 (by simp); have hm3 := r13.store; have v3 := r2.kept hk3 (by simp); have hq3 : LD w3 q s.a n may were (.pointer (some ⟨o.b, 0, none⟩)) := hk3.get q2 (by simp))
  | (refine wpList_load_seg rfl 192 (.tmp 43) rfl ⟨o.b, 1, none⟩ rfl _ hm3 ?_)
  | (go_at_call 133; refine (num_any _ _).mono ?_; rintro e w' ⟨rfl, hw'⟩; rw [hw']; clear hw' w')
  | (go_at_call 137; refine (RChanged_any _ _ _ _ _ _ _ _).mono ?_; rintro e w4 ⟨rfl, hk4⟩; rw [hcode]; have r14 : OR w4 o.b (some ⟨s.x, 0, none⟩) o.vl false s.cl s.mo o.ch o.lv o.wv := hk4.get r13 (by simp); have hm4 := r14.map; have v4 := v3.kept hk4 (by simp); have hq4 : LD w4 q s.a n may were (.pointer (some ⟨o.b, 0, none⟩)) := hk4.get hq3 (by simp); clear hm3)
  | (refine wpList_load_seg rfl 189 (.tmp 57) rfl ⟨o.b, 1, none⟩ rfl _ hm4 ?_)
  | (go_at_call 138; refine (With_any o.vl s.l k v _ v4 (by omega)).mono ?_; rintro e w5 ⟨vn, rfl, pn, fn, hk5⟩; obtain ⟨pp, cp, rfl⟩ := pn.shape; have r15 : OR w5 o.b (some ⟨s.x, 0, none⟩) o.vl false s.cl s.mo o.ch o.lv o.wv := hk5.get r14 (by simp); clear hm4; have hq5 : LD w5 q s.a n may were (.pointer (some ⟨o.b, 0, none⟩)) := hk5.get hq4 (by simp))
  | (refine wpList_alloc_k rfl 189 rfl #[.slice none 0 0] (by rfl) ?_; intro w6 n6 k6 _; (refine wpList_store_k rfl 189 (.tmp 14) (.tmp 61) rfl w5.heap.size #[.slice pp (withL k v s.l).length cp] rfl rfl 189 _ n6 smap rfl (one1 _ _ _) ?_; intro w7 n7 k7; have k57 : Kept [] w5 w7 := k6.trans2 k7 (by intro x hx; simp at hx; subst hx; exact Or.inr (Nat.le_refl _)); have r17 : OR w7 o.b (some ⟨s.x, 0, none⟩) o.vl false s.cl s.mo o.ch o.lv o.wv := k57.get r15 (by simp); have c71 : w7.cell? ⟨o.b, 1, none⟩ = some o.vl := cellAt r17 rfl; have f71 : w7.frozen? ⟨o.b, 1, none⟩ = false := frozen_of_row _ _ _ _ _ r17; have q7 : LD w7 q s.a n may were (.pointer (some ⟨o.b, 0, none⟩)) := k57.get hq5 (by simp); have nbx : w5.heap.size ≠ o.b := (by have := lt_heap r15; omega); have cx7 : w7.cell? ⟨w5.heap.size, 0, none⟩ = some (.slice pp (withL k v s.l).length cp) := cellAt n7 rfl))
  )
   have ROOM : Hid (decide (3 * max (s.mo : Int) ((withL k v s.l).length : Nat) + 12 ≤ n) = false) := by
    have := hroom
    unfold roomy at this
    have e2 : max (s.mo : Int) ((withL k v s.l).length : Nat) = ((max s.mo (withL k v s.l).length : Nat) : Int) := by omega
    show _ = _
    rw [e2, HN.out, decide_eq_false_iff_not]
    omega
   have hlw := len_with k v s.l
   have hS : RmS o.b (some ⟨s.x, 0, none⟩) o.vl s.cl s.mo o.ch o.lv o.wv q s.a n may were w5.heap.size (.slice pp (withL k v s.l).length cp) w7.drew := ⟨r17, q7, n7⟩
   refine wp_region_S (RmS o.b (some ⟨s.x, 0, none⟩) o.vl s.cl s.mo o.ch o.lv o.wv q s.a n may were w5.heap.size (.slice pp (withL k v s.l).length cp)) (by kernel_rfl) ?_
   refine wpAnyH_take (i := 0) (v := .pointer (some ⟨o.b, 0, none⟩)) rfl (by kernel_rfl) (by kernel_rfl) (by kernel_rfl) (fun _ _ _ h => h) (Or.inl ⟨by rfl, fun W hW => by rfl⟩) hS ?_
   simp only [Act.put, zA, zC, zD, zE, zF]
   refine wpAnyH_take (i := 1) (v := .pointer (some ⟨o.b, 0, none⟩)) rfl (by kernel_rfl) (by kernel_rfl) (by kernel_rfl) (fun _ _ _ h => h) (Or.inl ⟨by rfl, fun W hW => by rfl⟩) hS ?_
   simp only [Act.put, zA, zB, zC, zD, zE, zF]
   refine wpAnyH_take (i := 2) (v := .pointer (some ⟨o.b, 1, none⟩)) rfl (by kernel_rfl) (by kernel_rfl) (by kernel_rfl) (fun _ _ _ h => h) (Or.inl ⟨by rfl, fun W hW => by rfl⟩) hS ?_
   simp only [Act.put, zA, zB, zC, zD, zE, zF]
   refine wpAnyH_take (i := 3) (v := .agg (scells o.vl false s.cl s.mo o.ch)) rfl (by kernel_rfl) (by kernel_rfl) (by kernel_rfl) (fun _ _ _ h => h) (Or.inl ⟨by rfl, fun W hW => exec_load 192 (.tmp 118) rfl ⟨o.b, 1, none⟩ rfl _ hW.1.store⟩) hS ?_
   simp only [Act.put, zA, zB, zC, zD, zE, zF]
   refine wpAnyH_take (i := 4) (v := .pointer (some ⟨q, 0, none⟩)) rfl (by kernel_rfl) (by kernel_rfl) (by kernel_rfl) (fun _ _ _ h => h) (Or.inl ⟨by rfl, fun W hW => by rfl⟩) hS ?_
   simp only [Act.put, zA, zB, zC, zD, zE, zF]
   refine wpAnyH_take (i := 5) (v := .pointer (some ⟨q, 0, none⟩)) rfl (by kernel_rfl) (by kernel_rfl) (by kernel_rfl) (fun _ _ _ h => h) (Or.inl ⟨by rfl, fun W hW => by rfl⟩) hS ?_
   simp only [Act.put, zA, zB, zC, zD, zE, zF]
   refine wpAnyH_take (i := 6) (v := .pointer (some ⟨q, 1, none⟩)) rfl (by kernel_rfl) (by kernel_rfl) (by kernel_rfl) (fun _ _ _ h => h) (Or.inl ⟨by rfl, fun W hW => by rfl⟩) hS ?_
   simp only [Act.put, zA, zB, zC, zD, zE, zF]
   refine wpAnyH_take (i := 7) (v := .pointer (some ⟨q, 1, none⟩)) rfl (by kernel_rfl) (by kernel_rfl) (by kernel_rfl) (fun _ _ _ h => h) (Or.inl ⟨by rfl, fun W hW => by rfl⟩) hS ?_
   simp only [Act.put, zA, zB, zC, zD, zE, zF]
   refine wpAnyH_take (i := 8) (v := .int .i64 n) rfl (by kernel_rfl) (by kernel_rfl) (by kernel_rfl) (fun _ _ _ h => h) (Or.inl ⟨by rfl, fun W hW => exec_load 3 (.tmp 123) rfl ⟨q, 1, none⟩ rfl _ (run_load1 Tryz.underlying3 rfl (cellAt hW.2.1 rfl))⟩) hS ?_
   simp only [Act.put, zA, zB, zC, zD, zE, zF]
   refine wpAnyH_take (i := 9) (v := .pointer (some ⟨w5.heap.size, 0, none⟩)) rfl (by kernel_rfl) (by kernel_rfl) (by kernel_rfl) (fun _ _ _ h => h) (Or.inl ⟨by rfl, fun W hW => by rfl⟩) hS ?_
   simp only [Act.put, zA, zB, zC, zD, zE, zF]
   refine wpAnyH_take (i := 10) (v := .slice pp (withL k v s.l).length cp) rfl (by kernel_rfl) (by kernel_rfl) (by kernel_rfl) (fun _ _ _ h => h) (Or.inl ⟨by rfl, fun W hW => exec_load 187 (.tmp 125) rfl ⟨w5.heap.size, 0, none⟩ rfl _ (run_load1 Tryz.underlying187 rfl (cellAt hW.2.2 rfl))⟩) hS ?_
   simp only [Act.put, zA, zB, zC, zD, zE, zF]
   refine wpAnyH_take (i := 11) (v := .int .i64 ((withL k v s.l).length : Nat)) rfl (by kernel_rfl) (by kernel_rfl) (by kernel_rfl) (fun _ _ _ h => h) (Or.inl ⟨by rfl, fun W hW => exec_len (.tmp 126) 187 224 rfl _ _ _ rfl Tryz.underlying187⟩) hS ?_
   simp only [Act.put, zA, zB, zC, zD, zE, zF]
   refine held_one (i := 12) (by kernel_rfl) (wpOp_call rfl (by rfl) 140 #[.agg (scells o.vl false s.cl s.mo o.ch), .int .i64 n, .int .i64 ((withL k v s.l).length : Nat)] (exec_call _ _ _ rfl _ (by simp [Act.eval]) (enters_Room _ _)) _ (Room_any o.vl false s.cl s.mo o.ch n ((withL k v s.l).length : Nat) _ (by omega) (by omega)) ?_)
   rintro e w9 ⟨rfl, hk9⟩
   have hS9 : RmS o.b (some ⟨s.x, 0, none⟩) o.vl s.cl s.mo o.ch o.lv o.wv q s.a n may were w5.heap.size (.slice pp (withL k v s.l).length cp) w9 := ⟨hk9.get hS.1 (by simp), hk9.get hS.2.1 (by simp), hk9.get hS.2.2 (by simp)⟩
   refine ⟨_, rfl, hS9, ?_⟩
   simp only [Act.put, zA, zB, zC, zD, zE, zF]
   rw [ROOM.out]
   refine held_one (i := 13) (by kernel_rfl) (wpOp_val rfl rfl (.bool false) w9 rfl ⟨hS9, ?_⟩)
   simp only [Act.put, zA, zB, zC, zD, zE, zF]
   refine wpAnyH_done (by kernel_rfl) ?_ _
   have k29 : Kept [] w2 w9 := ((((hk3.trans hk4).trans hk5).trans k57).drew).trans hk9
   clear hS hS9
   go_wp2
   go_ret
   exact DiskR.same I hq hd hs ho haft hc2 hl2 k29
 ·rw [if_pos (by simpa using hcode)] at hres
  obtain ⟨rfl, hl2⟩ := hres
  have hne : ((chg s.cl false k v) == 0) = false := by simpa using hcode
  generalize hcc : chg s.cl false k v = cc at *
  go_wp2_with (first
  | (go_at_call 131; refine (htl _ (Kept.refl _ _) hG2).mono ?_; rintro e w3 ⟨rfl, hk3⟩; have r13 : OR w3 o.b (some ⟨s.x, 0, none⟩) o.vl false s.cl s.mo o.ch o.lv o.wv := hk3.get r1 (by simp); have hm3 := r13.store; have v3 := r2.kept hk3 (by simp); have hq3 : LD w3 q s.a n may were (.pointer (some ⟨o.b, 0, none⟩)) := hk3.get q2 (by simp))
  | (refine wpList_load_seg rfl 192 (.tmp 43) rfl ⟨o.b, 1, none⟩ rfl _ hm3 ?_)
  | (go_at_call 133; refine (num_any _ _).mono ?_; rintro e w' ⟨rfl, hw'⟩; rw [hw']; clear hw' w')
  | (go_at_call 137; refine (RChanged_any _ _ _ _ _ _ _ _).mono ?_; rintro e w4 ⟨rfl, hk4⟩; rw [hcc]; have r14 : OR w4 o.b (some ⟨s.x, 0, none⟩) o.vl false s.cl s.mo o.ch o.lv o.wv := hk4.get r13 (by simp); have hm4 := r14.map; have v4 := v3.kept hk4 (by simp); have hq4 : LD w4 q s.a n may were (.pointer (some ⟨o.b, 0, none⟩)) := hk4.get hq3 (by simp); clear hm3))
  go_ret
  exact DiskR.same I hq hd hs ho haft hc2 hl2 (hk3.trans hk4)

end Go.Proofs.YtcklgafpgdhnaaaGreatDoor

namespace Go.Proofs.YtcklgafpgdhnaaaGreatDoor
open Go.RowKit

theorem changed_del (I : Iface) (s : Sx) (o : Ox) (q : Nat) (n : Int) (may were : Value) (L : List UInt8) (c wr t : Int) (k v : ByteArray) (w : World) (hG : Glob w) (hgf : 1 ∉ s.fp) (hq : LD w q s.a n may were (.pointer (some ⟨o.b, 0, none⟩))) (hd : Dev w s.a s.g s.n L c wr t) (hs : I.SI w s) (ho : OI w s o) (hl : s.l.length ≤ 40000) (_hmo : s.mo ≤ 40000) (hch : o.ch ≤ 40000) (hn : n = s.n) :
  Calls Tryz.prog 100 #[.pointer (some ⟨q, 0, none⟩), .string k, .string v, .bool true] w (DiskR I s o w q n may were L wr t) := by
 have cq0 : w.cell? ⟨q, 0, none⟩ = some (.pointer (some ⟨s.a, 0, none⟩)) := cellAt hq rfl
 have cq7 : w.cell? ⟨q, 7, none⟩ = some (.pointer (some ⟨o.b, 0, none⟩)) := cellAt hq rfl
 have cb0 : w.cell? ⟨o.b, 0, none⟩ = some (.pointer (some ⟨s.x, 0, none⟩)) := cellAt ho.r rfl
 have HT : Hid (Calls _ _ _ _ _) := DTold_o s.a _ _ _ c wr t w hd.d
 have HGt : Hid (Calls _ _ _ _ _) := I.del w s L c wr t k hs hd
 have hga := (hG.dev hd).1
 have HN : Hid (n = s.n) := hn
 clear hn
 have nq : q ∉ s.a :: s.fp := by
  intro hx
  rcases List.mem_cons.1 hx with rfl | hx
  ·exact ne_tag hq hd.d (by decide) rfl
  ·exact I.ne hs ⟨_, _, _, hq, by decide⟩ hx
 go_enter Tryz.func100, Tryz.ntmps100
 go_wp2_with (first
  | (go_at_call 130; refine HT.out.mono ?_; rintro e w' ⟨rfl, rfl⟩))
 refine HGt.out.mono ?_
 rintro e w2 ⟨s', err, rfl, haft, hc2, hres⟩
 have k2 := haft.2.2.2.2.2.2.2.1
 obtain ⟨r1, r2, r3⟩ := ho.aft I hs hd k2
 have hG2 := hG.kept k2 (by simp; exact ⟨hga.symm, hgf⟩)
 have q2 := k2.get hq nq
 by_cases hcode : chg s.cl false k ⟨#[]⟩ = 0
 ·rw [if_neg (by simp [hcode])] at hres
  obtain ⟨htl, hl2⟩ := hres
  ·go_wp2_with (first
  | (go_at_call 131; refine (htl _ (Kept.refl _ _) hG2).mono ?_; rintro e w3 ⟨rfl, hk3⟩; have r13 : OR w3 o.b (some ⟨s.x, 0, none⟩) o.vl false s.cl s.mo o.ch o.lv o.wv := hk3.get r1 (by simp); have hm3 := r13.store; have v3 := r2.kept hk3 (by simp); have hq3 : LD w3 q s.a n may were (.pointer (some ⟨o.b, 0, none⟩)) := hk3.get q2 (by simp))
  | (refine wpList_load_seg rfl 192 (.tmp 43) rfl ⟨o.b, 1, none⟩ rfl _ hm3 ?_)
  | (go_at_call 133; refine (num_any _ _).mono ?_; rintro e w' ⟨rfl, hw'⟩; rw [hw']; clear hw' w')
  | (go_at_call 137; refine (RChanged_any _ _ _ _ _ _ _ _).mono ?_; rintro e w4 ⟨rfl, hk4⟩; rw [hcode]; have r14 : OR w4 o.b (some ⟨s.x, 0, none⟩) o.vl false s.cl s.mo o.ch o.lv o.wv := hk4.get r13 (by simp); have hm4 := r14.map; have v4 := v3.kept hk4 (by simp); have hq4 : LD w4 q s.a n may were (.pointer (some ⟨o.b, 0, none⟩)) := hk4.get hq3 (by simp); clear hm3)
  | (refine wpList_load_seg rfl 189 (.tmp 57) rfl ⟨o.b, 1, none⟩ rfl _ hm4 ?_)
  | (go_at_call 138; (refine (With_any o.vl s.l k ⟨#[]⟩ _ v4 (by omega)).mono ?_; rintro e w5 ⟨vn, rfl, pn, fn, hk5⟩; obtain ⟨pp, cp, rfl⟩ := pn.shape; have v5 := v4.kept hk5 (by simp); have r15 : OR w5 o.b (some ⟨s.x, 0, none⟩) o.vl false s.cl s.mo o.ch o.lv o.wv := hk5.get r14 (by simp); clear hm4; have hq5 : LD w5 q s.a n may were (.pointer (some ⟨o.b, 0, none⟩)) := hk5.get hq4 (by simp)))
  | (refine wpList_alloc_k rfl 189 rfl #[.slice none 0 0] (by rfl) ?_; intro w6 n6 k6 _; refine wpList_store_k rfl 189 (.tmp 14) (.tmp 61) rfl w5.heap.size #[.slice pp (withL k ⟨#[]⟩ s.l).length cp] rfl rfl 189 _ n6 smap rfl (one1 _ _ _) ?_; intro w7 n7 k7; have k57 : Kept [] w5 w7 := k6.trans2 k7 (by intro x hx; simp at hx; subst hx; exact Or.inr (Nat.le_refl _)); have r17 : OR w7 o.b (some ⟨s.x, 0, none⟩) o.vl false s.cl s.mo o.ch o.lv o.wv := k57.get r15 (by simp); have nbx : w5.heap.size ≠ o.b := (by have := lt_heap r15; omega); have v7 := v5.kept k57 (by simp); have hm7 := r17.map)
  | (refine wpList_load_seg rfl 189 (.tmp 66) rfl ⟨o.b, 1, none⟩ rfl _ hm7 ?_)
  | (go_at_call 139; refine (Without_any o.vl s.l k _ v7 (by omega)).mono ?_; rintro e wa ⟨vn, rfl, pa, fa, hka⟩; obtain ⟨qp, dp, rfl⟩ := pa.shape; have ra : OR wa o.b (some ⟨s.x, 0, none⟩) o.vl false s.cl s.mo o.ch o.lv o.wv := hka.get r17 (by simp); have na := hka.get n7 (by simp); clear hm7)
  | (refine wpList_store_k rfl 189 (.tmp 14) (.tmp 69) rfl w5.heap.size #[.slice qp (withoutL k s.l).length dp] rfl rfl 189 _ na smap rfl (one1 _ _ _) ?_; intro wb nb kb; have k5b : Kept [] w5 wb := (k57.trans hka).trans2 kb (by intro x hx; simp at hx; subst hx; exact Or.inr (Nat.le_refl _)); have rb : OR wb o.b (some ⟨s.x, 0, none⟩) o.vl false s.cl s.mo o.ch o.lv o.wv := k5b.get r15 (by simp); have c71 : wb.cell? ⟨o.b, 1, none⟩ = some o.vl := cellAt rb rfl; have f71 : wb.frozen? ⟨o.b, 1, none⟩ = false := frozen_of_row _ _ _ _ _ rb; have cx7 : wb.cell? ⟨w5.heap.size, 0, none⟩ = some (.slice qp (withoutL k s.l).length dp) := cellAt nb rfl; have pb : PL wb 224 (.slice qp (withoutL k s.l).length dp) (withoutL k s.l) := pa.kept kb (fun g hg hx => by simp at hx; subst hx; exact ne_rows (pa.tag hg) ⟨_, _, na⟩ (by decide) rfl))
  )
   have k8 : Kept [o.b] wb (wb.setCell ⟨o.b, 1, none⟩ (.slice qp (withoutL k s.l).length dp)) := (Kept.refl _ _).setCell (Or.inl (by simp)) _
   have r18 : OR (wb.setCell ⟨o.b, 1, none⟩ (.slice qp (withoutL k s.l).length dp)) o.b (some ⟨s.x, 0, none⟩) (.slice qp (withoutL k s.l).length dp) false s.cl s.mo o.ch o.lv o.wv := setCellAt (i := 1) _ rb
   have n8 := k8.get nb (by simpa using nbx)
   generalize hw8 : wb.setCell ⟨o.b, 1, none⟩ (.slice qp (withoutL k s.l).length dp) = w8 at *
   have HW8 : Hid _ := hw8
   clear hw8 c71 f71 cx7
   have c84 : w8.cell? ⟨o.b, 4, none⟩ = some (.int .i64 s.mo) := cellAt r18 rfl
   have c85 : w8.cell? ⟨o.b, 5, none⟩ = some (.int .i64 o.ch) := cellAt r18 rfl
   have f84 : w8.frozen? ⟨o.b, 4, none⟩ = false := frozen_of_row _ _ _ _ _ r18
   have f85 : w8.frozen? ⟨o.b, 5, none⟩ = false := frozen_of_row _ _ _ _ _ r18
   have cx8 : w8.cell? ⟨w5.heap.size, 0, none⟩ = some (.slice qp (withoutL k s.l).length dp) := cellAt n8 rfl
   have hlw := len_without k s.l
   have hmo2 : s'.mo = max s.mo (withoutL k s.l).length := by rw [haft.2.2.2.2.1, hl2]
   have k27 : Kept [] w2 wb := ((hk3.trans hk4).trans hk5).trans k5b
   have hom := ho.m
   by_cases hgt : s.mo < (withoutL k s.l).length
   ·omega
   ·have gi : ¬ (s.mo : Int) < ((withoutL k s.l).length : Int) := by omega
    go_quiet (fail)
    go_wp2
    go_ret
    have k9 : Kept [o.b] wb ((w8.drewN nq).setCell ⟨o.b, 5, none⟩ (.int .i64 ((o.ch : Int) + 1))) :=
     ((k8.drewN nq).setCell (p := ⟨o.b, 5, none⟩) (Or.inl (by simp)) _)
    refine DiskR.upd I hq hd hs ho haft k27 (vl' := .slice qp (withoutL k s.l).length dp) (ch' := o.ch + 1) (Nat.le_refl _) (by omega) (by rw [hl2]; omega) ?_ (by rw [hl2]; exact pb) k9
    rw [hmo2, Nat.max_eq_left (by omega), hc2]
    exact setCellAt (i := 5) _ (show OR (w8.drewN nq) _ _ _ _ _ _ _ _ _ from r18)
 ·rw [if_pos (by simpa using hcode)] at hres
  obtain ⟨htl, hl2⟩ := hres
  have hne : ((chg s.cl false k ⟨#[]⟩) == 0) = false := by simpa using hcode
  generalize hcc : chg s.cl false k ⟨#[]⟩ = cc at *
  go_wp2_with (first
  | (go_at_call 131; refine (htl _ (Kept.refl _ _) hG2).mono ?_; rintro e w3 ⟨rfl, hk3⟩; have r13 : OR w3 o.b (some ⟨s.x, 0, none⟩) o.vl false s.cl s.mo o.ch o.lv o.wv := hk3.get r1 (by simp); have hm3 := r13.store; have v3 := r2.kept hk3 (by simp); have hq3 : LD w3 q s.a n may were (.pointer (some ⟨o.b, 0, none⟩)) := hk3.get q2 (by simp))
  | (refine wpList_load_seg rfl 192 (.tmp 43) rfl ⟨o.b, 1, none⟩ rfl _ hm3 ?_)
  | (go_at_call 133; refine (num_any _ _).mono ?_; rintro e w' ⟨rfl, hw'⟩; rw [hw']; clear hw' w')
  | (go_at_call 137; refine (RChanged_any _ _ _ _ _ _ _ _).mono ?_; rintro e w4 ⟨rfl, hk4⟩; rw [hcc]; have r14 : OR w4 o.b (some ⟨s.x, 0, none⟩) o.vl false s.cl s.mo o.ch o.lv o.wv := hk4.get r13 (by simp); have hm4 := r14.map; have v4 := v3.kept hk4 (by simp); have hq4 : LD w4 q s.a n may were (.pointer (some ⟨o.b, 0, none⟩)) := hk4.get hq3 (by simp); clear hm3))
  go_ret
  exact DiskR.same I hq hd hs ho haft hc2 hl2 (hk3.trans hk4)

end Go.Proofs.YtcklgafpgdhnaaaGreatDoor

namespace Go.Proofs.YtcklgafpgdhnaaaGreatDoor
open Go.RowKit

theorem Has_nil (n : Int) (may were : Value) (e wd b : Bool) (v : Value) (w : World) (hm : Maps w may 1) (hv : PL w 224 v []) :
  Calls Tryz.prog 165 #[.agg (rcells n may e were wd b), v] w fun ev w' => ev = .returned (.bool true) ∧ Kept [] w w' := by
 obtain ⟨_, ⟨_, h0⟩ | ⟨g, cap, cur, rfl, _, hh, _, _, _, h4⟩⟩ := hm
 ·omega
 have hc : w.cell? ⟨g, 0, none⟩ = some (.slice none 0 0) := by
  rw [cell_of_row _ _ _ _ _ _ hh]
  have := congrArg (fun x => x[0]?) h4
  simpa [nilMaps] using this
 have hg := lt_heap hh
 clear hh h4
 have HS : Hid (∀ W, Kept [] w W → Calls Tryz.prog 145 #[.slice none 0 0, v] W fun e w' => e = .returned (.bool true) ∧ Kept [] W w') := by
  intro W hW
  have := Same_any (.slice none 0 0) v [] [] W (PL.nil _ _) (hv.kept hW (by simp)) (by simp)
  simpa using this
 have hk := (Kept.refl [] w).alloc (.cells (rcells n (.slice (some ⟨g, 0, none⟩) 1 cap) e were wd b) 151)
 unfold rcells at *
 go_enter Tryz.func165, Tryz.ntmps165
 go_wp2
 refine wp_loop_rounds 1 ?_
 rw [rounds_succ]
 go_wp2_with (go_at_call 145; refine (HS.out _ hk).mono ?_; rintro e w2 ⟨rfl, hk2⟩)
 go_ret
 exact ⟨rfl, hk.trans hk2⟩

def FndR (I : Iface) (s : Sx) (q : Nat) (n : Int) (may were : Value) (L : List UInt8) (wr t : Int) (w : World) (e : Ending) (w' : World) : Prop :=
 e = .returned (.bool true) ∧ ∃ s' o, s'.a = s.a ∧ s'.g = s.g ∧ s'.n = s.n ∧ s'.mo = 0 ∧ o.ch = 0 ∧ o.xs = [] ∧ o.lv = .slice none 0 0 ∧ o.wv = .slice none 0 0 ∧ w.heap.size ≤ o.b ∧ LD w' q s.a n may were (.pointer (some ⟨o.b, 0, none⟩)) ∧ (∃ c, Dev w' s.a s.g s.n L c wr t) ∧ I.SI w' s' ∧ OI w' s' o ∧
  (∀ y ∈ s'.fp, y ∈ s.fp ∨ w.heap.size ≤ y) ∧ Kept (q :: s.a :: s.fp) w w'

theorem found_any (I : Iface) (s : Sx) (q : Nat) (n : Int) (may were sv : Value) (L : List UInt8) (c wr t : Int) (w : World) (hG : Glob w) (hgf : 1 ∉ s.fp) (hq : LD w q s.a n may were sv) (hm : Maps w may 1) (hd : Dev w s.a s.g s.n L c wr t) (hs : I.SI w s) (hcl : s.cl = false) (hl : s.l = []) (hmo : s.mo = 0) :
  Calls Tryz.prog 136 #[.pointer (some ⟨q, 0, none⟩), .pointer (some ⟨s.x, 0, none⟩)] w (FndR I s q n may were L wr t w) := by
 have c0 : w.cell? ⟨q, 0, none⟩ = some (.pointer (some ⟨s.a, 0, none⟩)) := cellAt hq rfl
 have HT : Hid (Calls _ _ _ _ _) := DTold_o s.a _ _ _ c wr t w hd.d
 have HSc : Hid (∀ lo hi m, Calls _ _ _ _ _) := fun lo hi m => I.scan w s L c wr t lo hi m hs hd
 have hga := (hG.dev hd).1
 have htl := fun W => Tl.nil W W (Kept.refl _ _)
 have nq : q ∉ s.a :: s.fp := by
  intro hx
  rcases List.mem_cons.1 hx with rfl | hx
  ·exact ne_tag hq hd.d (by decide) rfl
  ·exact I.ne hs ⟨_, _, _, hq, by decide⟩ hx
 have nm : ∀ b, may.ownBlock = some b → b ∉ s.a :: s.fp := by
  intro b hb hx
  have hb' := owns_tag hm hb
  rcases List.mem_cons.1 hx with rfl | hx
  ·exact ne_rows hb' ⟨_, _, hd.d⟩ (by decide) rfl
  ·obtain ⟨cs, fr, hh⟩ := hb'; exact I.ne hs ⟨_, _, _, hh, by decide⟩ hx
 go_enter Tryz.func136, Tryz.ntmps136
 go_wp2_with (first
  | (go_at_call 130; refine HT.out.mono ?_; rintro e w' ⟨rfl, hw'⟩; rw [hw']; clear hw' w')
  | (go_at_call 19; refine (HSc.out _ _ _).mono ?_; rintro e w1 ⟨s', v, err, rfl, haft, hc2, hl2, hres⟩; simp only [hcl, Bool.false_eq_true, if_false] at hres; obtain ⟨rfl, p1, f1⟩ := hres; have k1 := haft.2.2.2.2.2.2.2.1; have hG1 := hG.kept k1 (by simp; exact ⟨hga.symm, hgf⟩); have q1 : LD w1 q s.a n may were sv := k1.get hq nq; have m1 := owns_kept hm k1 nm; rw [hl] at p1; clear c0)
  | (go_at_call 131; refine (htl _ hG1).mono ?_; rintro e w2 ⟨rfl, hk2⟩; have p2 := p1.kept hk2 (by simp))
  | (go_at_call 144; refine (pairs_any v _ _ p2 (by simp [scanL])).mono ?_; rintro e w3 ⟨v3, rfl, p3, f3, hk3⟩; rw [show ∀ lo hi m, scanL lo hi m [] = [] by intros; simp [scanL]] at p3; obtain ⟨pp, cp, ev3⟩ := p3.shape; simp only [List.length_nil] at ev3; subst ev3; have k13 := hk2.trans hk3; have q3 : LD w3 q s.a n may were sv := k13.get q1 (by simp); have hl3 := q3.load; have m3 := owns_kept m1 k13 (by simp); have d3 : w3.cell? ⟨q, 5, none⟩ = some (.bool false) := cellAt q3 rfl)
  | (refine wpList_load_seg rfl 151 (.tmp 41) rfl ⟨q, 1, none⟩ rfl _ hl3 ?_)
  | (go_at_call 165; refine (Has_nil _ _ _ _ _ _ _ _ m3 p3).mono ?_; rintro e w4 ⟨rfl, hk4⟩; have q4 : LD w4 q s.a n may were sv := hk4.get q3 (by simp); have d4 : w4.cell? ⟨q, 5, none⟩ = some (.bool false) := cellAt q4 rfl; have p4 := p3.kept hk4 (by simp); have q5 := ((Kept.refl [] w4).alloc (.cells (opnc (some ⟨s.x, 0, none⟩) (.slice pp 0 cp) false false 0 0 (.slice none 0 0) (.slice none 0 0)) 195)).get q4 (by simp); have c57 := cellAt (j := 7) q5 rfl; have f57 := frozen_of_row _ _ 7 _ _ q5; unfold opnc at c57 f57; have c47 : w4.cell? ⟨q, 7, none⟩ = some sv := cellAt q4 rfl; have f47 : w4.frozen? ⟨q, 7, none⟩ = false := frozen_of_row _ _ _ _ _ q4; have hlq := lt_heap q4))
 go_ret
 obtain ⟨e1, e2, e3, e4, e5, ⟨c', hd'⟩, hs', _, hf⟩ := haft
 have k14 : Kept [] w1 w4 := k13.trans hk4
 have k45 : Kept [q] w4 ((w4.setCell ⟨q, 7, none⟩ (.pointer (some ⟨w4.heap.size, 0, none⟩))).alloc (.cells #[.pointer (some ⟨s.x, 0, none⟩), .slice pp 0 cp, .bool false, .bool false, .int .i64 0, .int .i64 0, .slice none 0 0, .slice none 0 0] 195)) := ((Kept.refl _ _).setCell (p := ⟨q, 7, none⟩) (Or.inl (by simp)) _).alloc _
 have q6 : LD (w4.setCell ⟨q, 7, none⟩ (.pointer (some ⟨w4.heap.size, 0, none⟩))) q s.a n may were (.pointer (some ⟨w4.heap.size, 0, none⟩)) := setCellAt (i := 7) _ q4
 have nrec := heap_alloc_new (w4.setCell ⟨q, 7, none⟩ (.pointer (some ⟨w4.heap.size, 0, none⟩))) (.cells #[.pointer (some ⟨s.x, 0, none⟩), .slice pp 0 cp, .bool false, .bool false, .int .i64 0, .int .i64 0, .slice none 0 0, .slice none 0 0] 195)
 have zs : (w4.setCell ⟨q, 7, none⟩ (.pointer (some ⟨w4.heap.size, 0, none⟩))).heap.size = w4.heap.size := by simp [World.setCell]
 rw [zs] at nrec
 have d4' := hd'.kept k14 (by simp) (by simp)
 have s4 := I.kept hs' k14 (by simp) (by simp)
 have ltq : LT w4 q := ⟨_, _, _, q4, by decide⟩
 have hl' : s'.l = [] := by rw [hl2, hl]
 have hmo' : s'.mo = 0 := by rw [e5, hl', hmo]; rfl
 have hcl' : s'.cl = false := by rw [hc2, hcl]
 refine ⟨rfl, s', ⟨w4.heap.size, .slice pp 0 cp, .slice none 0 0, .slice none 0 0, 0, []⟩, e2, e3, e4, hmo', rfl, rfl, rfl, rfl, Nat.le_trans k1.size k14.size, ((Kept.refl [] _).alloc _).get q6 (by simp), ⟨c', d4'.kept k45 (by simp; exact ne_tag d4'.d q4 (by decide)) (by simp; exact ne_tag d4'.b q4 (by decide))⟩,
  I.kept s4 k45 (by intro y hy; simp at hy; subst hy; exact I.ne s4 ltq) (by intro y hy; simp at hy; subst hy; exact Or.inl ltq), ⟨?_, ?_, ⟨World.ownsRow_nil _ _ _ _, World.ownsRow_nil _ _ _ _, (by intro g hg; simp [Value.ownBlock] at hg), (by intro x hx; cases hx)⟩, (by rw [hl']; simp)⟩, hf, ?_⟩
 ·rw [e1, hcl', hmo']; exact nrec
 ·rw [hl']; exact p4.kept k45 (fun g hg hx => by simp at hx; subst hx; exact ne_rows (p4.tag hg) ⟨_, _, q4⟩ (by decide) rfl)
 ·exact ((k1.mono (by intro x hx; exact List.mem_cons_of_mem _ hx)).trans (k14.mono (by simp))).trans (k45.mono (by intro x hx; simp at hx; subst hx; exact List.mem_cons_self))

end Go.Proofs.YtcklgafpgdhnaaaGreatDoor

namespace Go.Proofs.YtcklgafpgdhnaaaGreatDoor
open Go.RowKit

theorem LD.setS {w : World} {q a : Nat} {n : Int} {may were s : Value} (h : LD w q a n may were s) (s' : Value) : LD (w.setCell ⟨q, 7, none⟩ s') q a n may were s' := setCellAt (i := 7) s' h
theorem LD.ne_dev {w : World} {q a a' g n' : Nat} {n : Int} {may were s : Value} {L : List UInt8} {c wr t : Int} (h : LD w q a n may were s) (d : Dev w a' g n' L c wr t) : q ≠ a' ∧ q ≠ g :=
 ⟨ne_tag h d.d (by decide), ne_tag h d.b (by decide)⟩
theorem maps_ne {w : World} {v : Value} {k q : Nat} {cs : Array Value} {t : TypeId} {fr : Nat × Nat} (hm : Maps w v k) (hq : w.heap[q]? = some (.cells cs t fr)) (ht : t ≠ 189) : ∀ b, v.ownBlock = some b → b ≠ q := by
 intro b hb e
 subst e
 obtain ⟨_, ⟨rfl, _⟩ | ⟨g, cap, cur, rfl, _, hh, _⟩⟩ := hm
 ·cases hb
 ·cases hb
  rw [hq] at hh
  simp only [Option.some.injEq, Obj.cells.injEq] at hh
  exact ht hh.2.1

def NoneR (q a g n : Nat) (may were : Value) (L : List UInt8) (wr t : Int) (w : World) (e : Ending) (w' : World) : Prop :=
 e = .returned (.bool true) ∧ LD w' q a n may were (.pointer none) ∧ (∃ c, Dev w' a g n L c wr t) ∧ Kept [q, a] w w'

theorem open_no (I : Iface) (q a g n : Nat) (may were s : Value) (hs : ∃ p, s = .pointer p) (L : List UInt8) (c wr t : Int) (w : World) (hG : Glob w) (hq : LD w q a n may were s) (h : Dev w a g n L c wr t) (hn : n < 8 ∨ 400 < n) :
  Calls Tryz.prog 99 #[.pointer (some ⟨q, 0, none⟩)] w (NoneR q a g n may were L wr t w) := by
 obtain ⟨ps, rfl⟩ := hs
 have c7 : w.cell? ⟨q, 7, none⟩ = some (.pointer ps) := cellAt hq rfl
 have f7 : w.frozen? ⟨q, 7, none⟩ = false := frozen_of_row _ _ _ _ _ hq
 have hq1 := hq.setS (.pointer none)
 have k1 : Kept [q] w (w.setCell ⟨q, 7, none⟩ (.pointer none)) := (Kept.refl _ _).setCell (Or.inl (by simp)) _
 have ha0 := (hG.dev h).1
 obtain ⟨nqa, nqg⟩ := hq.ne_dev h
 have hq0 := hG.ld hq
 have h1 := h.kept k1 (by simpa using nqa.symm) (by simpa using nqg.symm)
 have hG1 := hG.kept k1 (by simpa using hq0.symm)
 have c0 : (w.setCell ⟨q, 7, none⟩ (.pointer none)).cell? ⟨q, 0, none⟩ = some (.pointer (some ⟨a, 0, none⟩)) := cellAt hq1 rfl
 have HO : Hid (Calls _ _ _ _ _) := I.opnNo _ a g n L c wr t h1 hn
 have cw0 : w.cell? ⟨q, 0, none⟩ = some (.pointer (some ⟨a, 0, none⟩)) := cellAt hq rfl
 have hfit : decide (8 ≤ n ∧ n ≤ 400) = false := by simp; omega
 clear hG hq h
 generalize hw1 : w.setCell ⟨q, 7, none⟩ (.pointer none) = w1 at *
 have HW : Hid _ := hw1
 clear hw1
 clear hn
 go_enter Tryz.func99, Tryz.ntmps99
 go_wp2_with (first
  | (go_at_call 130; try rw [HW.out]; refine (DTold_o a _ _ _ _ _ _ _ (Dev.d (by assumption))).mono ?_; rintro e w' ⟨rfl, rfl⟩)
  | (go_at_call 30; refine (DWrites_o a _ _ _ _ _ _ _ (Dev.d (by assumption))).mono ?_; rintro e w' ⟨rfl, rfl⟩)
  | (go_at_call 31; refine (DPending_o a _ _ _ _ _ _ _ _ _ (Dev.d (by assumption))).mono ?_; rintro e w' ⟨rfl, rfl⟩)
  | (go_at_call 34; refine HO.out.mono ?_; rintro e w2 ⟨err, rfl, hc2, hk2⟩)
  | (go_at_call 131; refine (hc2 _ (Kept.refl _ _) (hG1.kept hk2 (by simp))).mono ?_; rintro e w3 ⟨rfl, hk3⟩; have hq3 : LD w3 q a n may were (.pointer none) := (hk2.trans hk3).get hq1 (by simp); have hl3 := hq3.load; have h3 := h1.kept (hk2.trans hk3) (by simp) (by simp))
  | (refine wpList_load_seg rfl 151 (.tmp 41) rfl ⟨q, 1, none⟩ rfl _ hl3 ?_)
  | (go_at_call 132; refine (Fits_any n _ _ _ _ _ _).mono ?_; rintro e w4 ⟨rfl, hk4⟩; rw [hfit]; have hq4 : LD w4 q a n may were (.pointer none) := hk4.get hq3 (by simp); have h4 := h3.kept hk4 (by simp) (by simp); have d4 : w4.cell? ⟨q, 0, none⟩ = some (.pointer (some ⟨a, 0, none⟩)) := cellAt hq4 rfl)
  | (go_at_call 133; refine (num_any _ _).mono ?_; rintro e w' ⟨rfl, rfl⟩))
 go_ret
 exact ⟨rfl, hq4, ⟨c, h4⟩, (k1.mono (by simp)).trans (((hk2.trans hk3).trans hk4).mono (by simp))⟩

theorem open_none (I : Iface) (q a g n : Nat) (were s : Value) (hs : ∃ p, s = .pointer p) (L : List UInt8) (c wr t : Int) (w : World) (hG : Glob w) (hq : LD w q a n (.slice none 0 0) were s) (h : Dev w a g n L c wr t) (hn8 : 8 ≤ n) (hn : n ≤ 400) (hS : I.DS 0 L) :
  Calls Tryz.prog 99 #[.pointer (some ⟨q, 0, none⟩)] w (NoneR q a g n (.slice none 0 0) were L wr t w) := by
 obtain ⟨ps, rfl⟩ := hs
 have c7 : w.cell? ⟨q, 7, none⟩ = some (.pointer ps) := cellAt hq rfl
 have f7 : w.frozen? ⟨q, 7, none⟩ = false := frozen_of_row _ _ _ _ _ hq
 have hq1 := hq.setS (.pointer none)
 have k1 : Kept [q] w (w.setCell ⟨q, 7, none⟩ (.pointer none)) := (Kept.refl _ _).setCell (Or.inl (by simp)) _
 have ha0 := (hG.dev h).1
 obtain ⟨nqa, nqg⟩ := hq.ne_dev h
 have hq0 := hG.ld hq
 have h1 := h.kept k1 (by simpa using nqa.symm) (by simpa using nqg.symm)
 have hG1 := hG.kept k1 (by simpa using hq0.symm)
 have c0 : (w.setCell ⟨q, 7, none⟩ (.pointer none)).cell? ⟨q, 0, none⟩ = some (.pointer (some ⟨a, 0, none⟩)) := cellAt hq1 rfl
 have HO : Hid (Calls _ _ _ _ _) := I.opnNone _ a g n L c wr t h1 hn8 hn hS
 have cw0 : w.cell? ⟨q, 0, none⟩ = some (.pointer (some ⟨a, 0, none⟩)) := cellAt hq rfl
 have hfit : decide (8 ≤ n ∧ n ≤ 400) = true := by simp; omega
 clear hG hq h
 generalize hw1 : w.setCell ⟨q, 7, none⟩ (.pointer none) = w1 at *
 have HW : Hid _ := hw1
 clear hw1
 clear hn hn8 hS
 go_enter Tryz.func99, Tryz.ntmps99
 go_wp2_with (first
  | (go_at_call 130; rw [HW.out]; refine (DTold_o a _ _ _ _ _ _ _ (Dev.d (by assumption))).mono ?_; rintro e w' ⟨rfl, rfl⟩)
  | (go_at_call 30; refine (DWrites_o a _ _ _ _ _ _ _ (Dev.d (by assumption))).mono ?_; rintro e w' ⟨rfl, rfl⟩)
  | (go_at_call 31; refine (DPending_o a _ _ _ _ _ _ _ _ _ (Dev.d (by assumption))).mono ?_; rintro e w' ⟨rfl, rfl⟩)
  | (go_at_call 34; refine HO.out.mono ?_; rintro e w2 ⟨err, rfl, hc2, ⟨c2, h2⟩, hk2⟩)
  | (go_at_call 131; refine (hc2 _ (Kept.refl _ _) (hG1.kept hk2 (by simpa using ha0.symm))).mono ?_; rintro e w3 ⟨rfl, hk3⟩; have hq2 : LD w2 q a n (.slice none 0 0) were (.pointer none) := hk2.get hq1 (by simpa using nqa); have hq3 : LD w3 q a n (.slice none 0 0) were (.pointer none) := hk3.get hq2 (by simp); have hl3 := hq3.load; have h3 := h2.kept hk3 (by simp) (by simp))
  | (refine wpList_load_seg rfl 151 (.tmp 41) rfl ⟨q, 1, none⟩ rfl _ hl3 ?_)
  | (go_at_call 132; refine (Fits_any n _ _ _ _ _ _).mono ?_; rintro e w4 ⟨rfl, hk4⟩; rw [hfit]; have hq4 : LD w4 q a n (.slice none 0 0) were (.pointer none) := hk4.get hq3 (by simp); have h4 := h3.kept hk4 (by simp) (by simp); have d4 : w4.cell? ⟨q, 0, none⟩ = some (.pointer (some ⟨a, 0, none⟩)) := cellAt hq4 rfl; have d42 : w4.cell? ⟨q, 2, none⟩ = some (.slice none 0 0) := cellAt hq4 rfl; have d43 : w4.cell? ⟨q, 3, none⟩ = some (.bool false) := cellAt hq4 rfl; have d45 : w4.cell? ⟨q, 5, none⟩ = some (.bool false) := cellAt hq4 rfl)
  | (go_at_call 133; refine (num_any _ _).mono ?_; rintro e w' ⟨rfl, rfl⟩))
 refine (DTold_o a _ _ _ _ wr t _ h4.d).mono ?_
 rintro e w5 ⟨rfl, rfl⟩
 go_wp2_with fail
 refine (num_any _ _).mono ?_
 rintro e w6 ⟨rfl, rfl⟩
 go_wp2
 go_ret
 exact ⟨rfl, hq4, ⟨c2, h4⟩, ((k1.mono (by simp)).trans (hk2.mono (by simp))).trans ((hk3.trans hk4).mono (by simp))⟩

def OpndR (I : Iface) (q a g n : Nat) (may were : Value) (L : List UInt8) (wr t : Int) (w : World) (e : Ending) (w' : World) : Prop :=
 e = .returned (.bool true) ∧ ∃ s o, s.a = a ∧ s.g = g ∧ s.n = n ∧ s.mo = 0 ∧ o.ch = 0 ∧ o.xs = [] ∧ o.lv = .slice none 0 0 ∧ o.wv = .slice none 0 0 ∧ w.heap.size ≤ o.b ∧ LD w' q a n may were (.pointer (some ⟨o.b, 0, none⟩)) ∧ (∃ c, Dev w' a g n L c wr t) ∧ I.SI w' s ∧ OI w' s o ∧
  (∀ y ∈ s.fp, w.heap.size ≤ y) ∧ Kept [q, a] w w'

theorem open_fits (I : Iface) (q a g n k : Nat) (may were s : Value) (hs : ∃ p, s = .pointer p) (L : List UInt8) (c wr t : Int) (w : World) (hG : Glob w) (hq : LD w q a n may were s) (h : Dev w a g n L c wr t) (hn8 : 8 ≤ n) (hn : n ≤ 400) (hk0 : 0 < k) (hk : k ≤ 50000) (hS : I.DS k L) (hm : Maps w may 1) :
  Calls Tryz.prog 99 #[.pointer (some ⟨q, 0, none⟩)] w (OpndR I q a g n may were L wr t w) := by
 obtain ⟨ps, rfl⟩ := hs
 have c7 : w.cell? ⟨q, 7, none⟩ = some (.pointer ps) := cellAt hq rfl
 have f7 : w.frozen? ⟨q, 7, none⟩ = false := frozen_of_row _ _ _ _ _ hq
 have hq1 := hq.setS (.pointer none)
 have k1 : Kept [q] w (w.setCell ⟨q, 7, none⟩ (.pointer none)) := (Kept.refl _ _).setCell (Or.inl (by simp)) _
 have ha0 := (hG.dev h).1
 obtain ⟨nqa, nqg⟩ := hq.ne_dev h
 have hq0 := hG.ld hq
 have h1 := h.kept k1 (by simpa using nqa.symm) (by simpa using nqg.symm)
 have hG1 := hG.kept k1 (by simpa using hq0.symm)
 have c0 : (w.setCell ⟨q, 7, none⟩ (.pointer none)).cell? ⟨q, 0, none⟩ = some (.pointer (some ⟨a, 0, none⟩)) := cellAt hq1 rfl
 have nm := maps_ne hm hq (by decide)
 have na := maps_ne hm h.d (by decide)
 have hm1 := owns_kept hm k1 (by intro b hb; simpa using nm b hb)
 have HO : Hid (Calls _ _ _ _ _) := I.opn _ a g n k L c wr t h1 hn8 hn hk0 hk hS
 have hlg := hG.lt
 have zk := k1.size
 have cw0 : w.cell? ⟨q, 0, none⟩ = some (.pointer (some ⟨a, 0, none⟩)) := cellAt hq rfl
 have hfit : decide (8 ≤ n ∧ n ≤ 400) = true := by simp; omega
 clear hG hq h
 generalize hw1 : w.setCell ⟨q, 7, none⟩ (.pointer none) = w1 at *
 have HW : Hid _ := hw1
 clear hw1
 clear hn hn8 hS hk hk0
 go_enter Tryz.func99, Tryz.ntmps99
 go_wp2_with (first
  | (go_at_call 130; rw [HW.out]; refine (DTold_o a _ _ _ _ _ _ _ (Dev.d (by assumption))).mono ?_; rintro e w' ⟨rfl, rfl⟩)
  | (go_at_call 30; refine (DWrites_o a _ _ _ _ _ _ _ (Dev.d (by assumption))).mono ?_; rintro e w' ⟨rfl, rfl⟩)
  | (go_at_call 31; refine (DPending_o a _ _ _ _ _ _ _ _ _ (Dev.d (by assumption))).mono ?_; rintro e w' ⟨rfl, rfl⟩)
  | (go_at_call 34; refine HO.out.mono ?_; rintro e w2 ⟨st, rfl, hSI, sa, sg, sn, scl, sl, smo, sfp, ⟨c2, h2⟩, hk2⟩; have hq2 : LD w2 q a n may were (.pointer none) := hk2.get hq1 (by simpa using nqa); have hl2 := hq2.load; have hm2 := owns_kept hm1 hk2 (by intro b hb; simpa using na b hb); have hG2 := hG1.kept hk2 (by simpa using ha0.symm))
  | (go_at_call 131; refine (PTold_nil _).mono ?_; rintro e w' ⟨rfl, hw'⟩; rw [hw']; clear hw' w')
  | (refine wpList_load_seg rfl 151 (.tmp 41) rfl ⟨q, 1, none⟩ rfl _ hl2 ?_)
  | (go_at_call 132; refine (Fits_any n _ _ _ _ _ _).mono ?_; rintro e w4 ⟨rfl, hk4⟩; rw [hfit]; have hq4 : LD w4 q a n may were (.pointer none) := hk4.get hq2 (by simp); have hm4 := owns_kept hm2 hk4 (by simp); have h4 := h2.kept hk4 (by simp) (by simp); have d4 : w4.cell? ⟨q, 0, none⟩ = some (.pointer (some ⟨a, 0, none⟩)) := cellAt hq4 rfl; have hG4 := hG2.kept hk4 (by simp); have hSI4 := I.kept hSI hk4 (by simp) (by simp))
  | (go_at_call 133; refine (num_any _ _).mono ?_; rintro e w' ⟨rfl, hw'⟩; rw [hw']; clear hw' w'))
 refine (DTold_o a _ _ _ _ wr t _ h4.d).mono ?_
 rintro e w5 ⟨rfl, rfl⟩
 go_wp2_with fail
 refine (num_any _ _).mono ?_
 rintro e w6 ⟨rfl, rfl⟩
 go_wp2_with fail
 subst sa; subst sg; subst sn
 have gfp : 1 ∉ st.fp := fun hx => by have := sfp _ hx; omega
 refine (found_any I st q st.n may were (.pointer none) L c2 wr t _ hG4 gfp hq4 hm4 h4 hSI4 scl sl smo).mono ?_
 rintro e w7 ⟨rfl, s7, o7, ea, eg, en, em, ech, exs, elv, ewv, hb7, hq7, hd7, hs7, ho7, hf7, hk7⟩
 go_wp2
 go_ret
 have z2 := hk2.size
 have z4 := hk4.size
 refine ⟨rfl, s7, o7, ea, eg, en, em, ech, exs, elv, ewv, by omega, hq7, hd7, hs7, ho7, ?_, ?_⟩
 ·intro y hy
  rcases hf7 y hy with e | e
  ·have := sfp y e; omega
  ·omega
 ·refine ((((k1.mono (by simp)).trans (hk2.mono (by simp))).trans (hk4.mono (by simp))).trans2 hk7 ?_ : Kept [q, st.a] _ _)
  intro x hx
  rcases List.mem_cons.1 hx with rfl | hx
  ·left; simp
  rcases List.mem_cons.1 hx with rfl | hx
  ·left; simp
  ·right; have := sfp x hx; omega

end Go.Proofs.YtcklgafpgdhnaaaGreatDoor
