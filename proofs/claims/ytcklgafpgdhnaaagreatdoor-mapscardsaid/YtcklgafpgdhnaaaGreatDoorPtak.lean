import Derived.Test.YtcklgafpgdhnaaaGreatDoorPtai
import Derived.Test.YtcklgafpgdhnaaaGreatDoorPtaj
set_option maxRecDepth 100000
set_option maxHeartbeats 4000000
open List renaming getElem_toArray → zA, getElem_cons_succ → zB, getElem_cons_zero → zC, setIfInBounds_toArray → zD, set_cons_succ → zE, set_cons_zero → zF
namespace Go.Proofs.YtcklgafpgdhnaaaGreatDoor
open Go.RowKit

theorem mst_nil (lo hi : ByteArray) (m : Nat) (l : List Pr) : (scanL lo hi m l).length ≤ l.length := by
 rw [scanL, List.length_take]
 exact Nat.le_trans (Nat.min_le_right _ _) (List.length_filter_le _ _)

theorem DiskR.keep (I : Iface) {s s' : Sx} {o : Ox} {w w2 w6 w7 : World} {q : Nat} {n : Int} {may were : Value} {L : List UInt8} {c wr t : Int} (hq : LD w q s.a n may were (.pointer (some ⟨o.b, 0, none⟩))) (hd : Dev w s.a s.g s.n L c wr t) (hs : I.SI w s) (ho : OI w s o)
  (ha : AftS I.SI s s' L wr t w w2) (hcl : s'.cl = s.cl) (hl : s'.l = s.l) (k26 : Kept [] w2 w6) {v : Value} {l : List Pr} (p6 : PL w6 41 v l) (f2 : ∀ y, v.ownBlock = some y → w.heap.size ≤ y) {lv7 wv7 : Value} {xs7 : List HLd} (hx7 : xs7.length = 2)
  (r17 : OR w7 o.b (some ⟨s.x, 0, none⟩) o.vl false s.cl s.mo o.ch lv7 wv7) (h7 : HL w7 lv7 wv7 (o.xs ++ xs7)) (k7 : Kept (o.b :: (o.lv.ownBlock.toList ++ o.wv.ownBlock.toList ++ v.ownBlock.toList)) w6 w7)
  (fl7 : ∀ g, lv7.ownBlock = some g → o.lv.ownBlock = some g ∨ w6.heap.size ≤ g) (fw7 : ∀ g, wv7.ownBlock = some g → o.wv.ownBlock = some g ∨ w6.heap.size ≤ g) : DiskR I s o w q n may were L wr t (.returned (.bool true)) w7 := by
 obtain ⟨e1, e2, e3, e4, e5, ⟨c', hd'⟩, hs', k2, hf⟩ := ha
 obtain ⟨r1, r2, r3⟩ := ho.aft I hs hd k2
 have hmo : s'.mo = s.mo := by rw [e5, hl]; exact Nat.max_eq_left ho.m
 have nq : q ∉ s.a :: s.fp := by
  intro hx
  rcases List.mem_cons.1 hx with rfl | hx
  ·exact ne_tag hq hd.d (by decide) rfl
  ·exact I.ne hs ⟨_, _, _, hq, by decide⟩ hx
 have q6 := k26.get (k2.get hq nq) (by simp)
 have d6 := hd'.kept k26 (by simp) (by simp)
 have s6 := I.kept hs' k26 (by simp) (by simp)
 have r6 := k26.get r1 (by simp)
 have v6 := r2.kept k26 (by simp)
 have h6 := r3.fresh k26
 have z6 : w.heap.size ≤ w6.heap.size := Nat.le_trans k2.size k26.size
 have lt6 : ∀ y ∈ o.b :: (o.lv.ownBlock.toList ++ o.wv.ownBlock.toList ++ v.ownBlock.toList), (∃ cs fr, w6.heap[y]? = some (.cells cs 195 fr)) ∨ (∃ cs fr, w6.heap[y]? = some (.cells cs 28 fr)) ∨ (∃ cs fr, w6.heap[y]? = some (.cells cs 41 fr)) := by
  intro y hy
  rcases List.mem_cons.1 hy with rfl | hy
  ·exact Or.inl ⟨_, _, r6⟩
  rcases List.mem_append.1 hy with hy | hy
  ·rcases List.mem_append.1 hy with hy | hy
   ·exact Or.inr (Or.inl (owns_tag h6.lists (by simpa using hy)))
   ·exact Or.inr (Or.inl (owns_tag h6.want (by simpa using hy)))
  ·exact Or.inr (Or.inr (p6.tag (by simpa using hy)))
 have lt6' : ∀ y ∈ o.b :: (o.lv.ownBlock.toList ++ o.wv.ownBlock.toList ++ v.ownBlock.toList), LT w6 y := by
  intro y hy
  rcases lt6 y hy with ⟨cs, fr, h⟩ | ⟨cs, fr, h⟩ | ⟨cs, fr, h⟩
  ·exact ⟨_, _, _, h, by decide⟩
  ·exact ⟨_, _, _, h, by decide⟩
  ·exact ⟨_, _, _, h, by decide⟩
 have nn : ∀ {y : Nat} {cs : Array Value} {t : TypeId} {fr : Nat × Nat}, w6.heap[y]? = some (.cells cs t fr) → t ≠ 195 → t ≠ 28 → t ≠ 41 → y ∉ o.b :: (o.lv.ownBlock.toList ++ o.wv.ownBlock.toList ++ v.ownBlock.toList) := by
  intro y cs t fr h n1 n2 n3 hx
  rcases lt6 y hx with h' | h' | h'
  ·exact ne_rows ⟨_, _, h⟩ h' n1 rfl
  ·exact ne_rows ⟨_, _, h⟩ h' n2 rfl
  ·exact ne_rows ⟨_, _, h⟩ h' n3 rfl
 refine ⟨rfl, s', { o with lv := lv7, wv := wv7, xs := o.xs ++ xs7 }, rfl, e1, e2, e3, e4, k7.get q6 (nn q6 (by decide) (by decide) (by decide)), ⟨c', d6.kept k7 (nn d6.d (by decide) (by decide) (by decide)) (nn d6.b (by decide) (by decide) (by decide))⟩,
  I.kept s6 k7 (fun y hy => I.ne s6 (lt6' y hy)) (fun y hy => Or.inl (lt6' y hy)), ⟨?_, ?_, h7, ?_⟩, hf, ?_, ?_, by simp [hx7], by omega, by simp, ?_⟩
 ·rw [e1, hcl, hmo]; exact r17
 ·rw [hl]
  refine v6.kept k7 ?_
  intro g hg
  obtain ⟨cs, fr, hh⟩ := v6.tag hg
  exact nn hh (by decide) (by decide) (by decide)
 ·rw [hl, hmo]; exact ho.m
 ·intro y hy
  rcases fl7 y hy with e | e
  ·exact Or.inl e
  ·right; omega
 ·intro y hy
  rcases fw7 y hy with e | e
  ·exact Or.inl e
  ·right; omega
 ·have k06 : Kept (o.b :: s.a :: (s.fp ++ o.lv.ownBlock.toList ++ o.wv.ownBlock.toList)) w w6 := by
   refine (k2.mono ?_).trans (k26.mono (by simp))
   intro x hx
   rcases List.mem_cons.1 hx with rfl | hx
   ·exact List.mem_cons_of_mem _ List.mem_cons_self
   ·exact List.mem_cons_of_mem _ (List.mem_cons_of_mem _ (List.mem_append_left _ (List.mem_append_left _ hx)))
  refine k06.trans2 k7 ?_
  intro x hx
  rcases List.mem_cons.1 hx with rfl | hx
  ·exact Or.inl List.mem_cons_self
  rcases List.mem_append.1 hx with hx | hx
  ·left
   rcases List.mem_append.1 hx with hx | hx
   ·exact List.mem_cons_of_mem _ (List.mem_cons_of_mem _ (List.mem_append_left _ (List.mem_append_right _ hx)))
   ·exact List.mem_cons_of_mem _ (List.mem_cons_of_mem _ (List.mem_append_right _ hx))
  ·right; exact f2 x (by simpa using hx)

theorem scanned_any (I : Iface) (s : Sx) (o : Ox) (q : Nat) (n : Int) (may were : Value) (L : List UInt8) (c wr t : Int) (lo hi : ByteArray) (m : Int) (w : World) (hG : Glob w) (hgf : 1 ∉ s.fp) (hq : LD w q s.a n may were (.pointer (some ⟨o.b, 0, none⟩))) (hd : Dev w s.a s.g s.n L c wr t) (hs : I.SI w s) (ho : OI w s o) (hl : s.l.length ≤ 40000) (hx : o.xs.length ≤ 40000) :
  Calls Tryz.prog 102 #[.pointer (some ⟨q, 0, none⟩), .string lo, .string hi, .int .i64 m] w (DiskR I s o w q n may were L wr t) := by
 have cq0 : w.cell? ⟨q, 0, none⟩ = some (.pointer (some ⟨s.a, 0, none⟩)) := cellAt hq rfl
 have cq7 : w.cell? ⟨q, 7, none⟩ = some (.pointer (some ⟨o.b, 0, none⟩)) := cellAt hq rfl
 have cb0 : w.cell? ⟨o.b, 0, none⟩ = some (.pointer (some ⟨s.x, 0, none⟩)) := cellAt ho.r rfl
 have HT : Hid (Calls _ _ _ _ _) := DTold_o s.a _ _ _ c wr t w hd.d
 have HGt : Hid (Calls _ _ _ _ _) := I.scan w s L c wr t lo hi m hs hd
 have hga := (hG.dev hd).1
 have AP : Hid (∀ (v : Value) (W : World), (∀ y, v.ownBlock = some y → W.heap.size ≤ y) → W.heap.size = w.heap.size → ∀ x ∈ o.xs, (∀ g, x.v.ownBlock = some g → v.ownBlock ≠ some g) ∧ (∀ g, x.u.ownBlock = some g → v.ownBlock ≠ some g)) := by
  intro v W hf hW x hx'
  obtain ⟨a1, a2, _⟩ := ho.h.all x hx'
  refine ⟨fun g hg hv => ?_, fun g hg hv => ?_⟩
  ·have := hf g hv; have := (World.ownsRow.lt a1 g hg).2; omega
  ·have := hf g hv; have := (World.ownsRow.lt a2 g hg).2; omega
 cases hcl : s.cl with
 | true =>
  go_enter Tryz.func102, Tryz.ntmps102
  go_wp2_with (first
   | (go_at_call 130; refine HT.out.mono ?_; rintro e w' ⟨rfl, rfl⟩)
   | (go_at_call 19; refine HGt.out.mono ?_; rintro e w2 ⟨s', v, err, rfl, haft, hc2, hl2, hres⟩; simp only [hcl, if_true] at hres; obtain ⟨htl, rfl⟩ := hres; have k2 := haft.2.2.2.2.2.2.2.1; obtain ⟨r1, r2, r3⟩ := ho.aft I hs hd k2; have hG2 := hG.kept k2 (by simp; exact ⟨hga.symm, hgf⟩))
   | (go_at_call 131; refine (htl _ (Kept.refl _ _) hG2).mono ?_; rintro e w3 ⟨rfl, hk3⟩; have r13 : OR w3 o.b (some ⟨s.x, 0, none⟩) o.vl false s.cl s.mo o.ch o.lv o.wv := hk3.get r1 (by simp); have hm3 := r13.map; have v3 := r2.kept hk3 (by simp))
   | (refine wpList_load_seg rfl 189 (.tmp 42) rfl ⟨o.b, 1, none⟩ rfl _ hm3 ?_)
   | (go_at_call 143; refine (RScan_any o.vl s.l lo hi m _ v3 (by omega)).mono ?_; rintro e w4 ⟨v4, rfl, p4, f4, hk4⟩; have r14 : OR w4 o.b (some ⟨s.x, 0, none⟩) o.vl false s.cl s.mo o.ch o.lv o.wv := hk4.get r13 (by simp); have c43 : w4.cell? ⟨o.b, 3, none⟩ = some (.bool true) := (by have := cellAt (j := 3) r14 rfl; rw [hcl] at this; exact this))
   | (go_at_call 133; refine (num_any _ _).mono ?_; rintro e w' ⟨rfl, rfl⟩))
  go_ret
  exact DiskR.same I hq hd hs ho haft hc2 hl2 (hk3.trans hk4)
 | false =>
  have htl := fun W => Tl.nil W W (Kept.refl _ _)
  go_enter Tryz.func102, Tryz.ntmps102
  go_wp2_with (first
   | (go_at_call 130; refine HT.out.mono ?_; rintro e w' ⟨rfl, rfl⟩)
   | (go_at_call 19; refine HGt.out.mono ?_; rintro e w2 ⟨s', v, err, rfl, haft, hc2, hl2, hres⟩; simp only [hcl, Bool.false_eq_true, if_false] at hres; obtain ⟨rfl, p2, f2⟩ := hres; have k2 := haft.2.2.2.2.2.2.2.1; obtain ⟨r1, r2, r3⟩ := ho.aft I hs hd k2; have hG2 := hG.kept k2 (by simp; exact ⟨hga.symm, hgf⟩))
   | (go_at_call 131; refine (htl _ hG2).mono ?_; rintro e w3 ⟨rfl, hk3⟩; have r13 : OR w3 o.b (some ⟨s.x, 0, none⟩) o.vl false s.cl s.mo o.ch o.lv o.wv := hk3.get r1 (by simp); have hm3 := r13.map; have v3 := r2.kept hk3 (by simp); have p3 := p2.kept hk3 (by simp))
   | (refine wpList_load_seg rfl 189 (.tmp 42) rfl ⟨o.b, 1, none⟩ rfl _ hm3 ?_)
   | (go_at_call 143; refine (RScan_any o.vl s.l lo hi m _ v3 (by omega)).mono ?_; rintro e w4 ⟨v4, rfl, p4, f4, hk4⟩; have r14 : OR w4 o.b (some ⟨s.x, 0, none⟩) o.vl false s.cl s.mo o.ch o.lv o.wv := hk4.get r13 (by simp); have c43 : w4.cell? ⟨o.b, 3, none⟩ = some (.bool false) := (by have := cellAt (j := 3) r14 rfl; rw [hcl] at this; exact this); have q4 := p3.kept hk4 (by simp))
   | (go_at_call 144; refine (pairs_any v _ _ q4 (by have := mst_nil lo hi (mst m) s.l; omega)).mono ?_; rintro e w5 ⟨v5, rfl, p5, f5, hk5⟩; have r15 : OR w5 o.b (some ⟨s.x, 0, none⟩) o.vl false s.cl s.mo o.ch o.lv o.wv := hk5.get r14 (by simp); have q5 := q4.kept hk5 (by simp); have u5 := p4.kept hk5 (by simp))
   | (go_at_call 145; refine (Same_any v5 v4 _ _ _ p5 u5 (by have := mst_nil lo hi (mst m) s.l; omega)).mono ?_; rintro e w6 ⟨rfl, hk6⟩; have k26 : Kept [] w2 w6 := ((hk3.trans hk4).trans hk5).trans hk6; have r16 : OR w6 o.b (some ⟨s.x, 0, none⟩) o.vl false s.cl s.mo o.ch o.lv o.wv := hk6.get r15 (by simp); have q6 := q5.kept hk6 (by simp); have h6 := r3.fresh k26; rw [show decide (scanL lo hi (mst m) s.l = scanL lo hi (mst m) s.l) = true by simp])
   | (go_at_call 146; refine (keep_any o.b (some ⟨s.x, 0, none⟩) o.vl false s.cl s.mo o.ch o.lv o.wv o.xs v _ w6 r16 h6 hx q6 (by have := mst_nil lo hi (mst m) s.l; omega) (AP.out _ _ f2 rfl)).mono ?_; rintro e w7 ⟨rfl, lv7, wv7, xs7, hx7, r17, h7, k7, fl7, fw7, fx7⟩)
   | (go_at_call 133; refine (num_any _ _).mono ?_; rintro e w' ⟨rfl, rfl⟩))
  go_ret
  exact DiskR.keep I hq hd hs ho haft hc2 hl2 k26 q6 f2 hx7 r17 h7 k7 fl7 fw7

end Go.Proofs.YtcklgafpgdhnaaaGreatDoor

namespace Go.Proofs.YtcklgafpgdhnaaaGreatDoor
open Go.RowKit

theorem DiskR.upd (I : Iface) {s s' : Sx} {o : Ox} {w w2 w6 w7 : World} {q : Nat} {n : Int} {may were : Value} {L : List UInt8} {c wr t : Int} (hq : LD w q s.a n may were (.pointer (some ⟨o.b, 0, none⟩))) (hd : Dev w s.a s.g s.n L c wr t) (hs : I.SI w s) (ho : OI w s o)
  (ha : AftS I.SI s s' L wr t w w2) (k26 : Kept [] w2 w6) {vl' : Value} {ch' : Nat} (hch : ch' ≤ o.ch + 1) (hmo : s'.mo ≤ s.mo + 1) (hlm : s'.l.length ≤ s'.mo)
  (r7 : OR w7 o.b (some ⟨s.x, 0, none⟩) vl' false s'.cl s'.mo ch' o.lv o.wv) (v6 : PL w6 224 vl' s'.l) (k7 : Kept [o.b] w6 w7) : DiskR I s o w q n may were L wr t (.returned (.bool true)) w7 := by
 obtain ⟨e1, e2, e3, e4, e5, ⟨c', hd'⟩, hs', k2, hf⟩ := ha
 obtain ⟨r1, r2, r3⟩ := ho.aft I hs hd k2
 have nq : q ∉ s.a :: s.fp := by
  intro hx
  rcases List.mem_cons.1 hx with rfl | hx
  ·exact ne_tag hq hd.d (by decide) rfl
  ·exact I.ne hs ⟨_, _, _, hq, by decide⟩ hx
 have q6 := k26.get (k2.get hq nq) (by simp)
 have d6 := hd'.kept k26 (by simp) (by simp)
 have s6 := I.kept hs' k26 (by simp) (by simp)
 have r6 := k26.get r1 (by simp)
 have h6 := r3.fresh k26
 have ltb : ∀ y ∈ [o.b], LT w6 y := by intro y hy; simp at hy; subst hy; exact ⟨_, _, _, r6, by decide⟩
 have nn : ∀ {y : Nat} {cs : Array Value} {t : TypeId} {fr : Nat × Nat}, w6.heap[y]? = some (.cells cs t fr) → t ≠ 195 → y ∉ [o.b] := by
  intro y cs t fr h n1 hx
  simp at hx; subst hx
  exact ne_tag h r6 n1 rfl
 have nr : ∀ {base e n k : Nat} {v : Value} {xs : List Value}, w6.ownsRow base e k v n xs → e ≠ 195 → ∀ g, v.ownBlock = some g → g ∉ [o.b] := by
  intro base e n k v xs hr he g hg
  obtain ⟨cs, fr, hh⟩ := owns_tag hr hg
  exact nn hh he
 refine ⟨rfl, s', { o with vl := vl', ch := ch' }, rfl, e1, e2, e3, e4, k7.get q6 (nn q6 (by decide)), ⟨c', d6.kept k7 (nn d6.d (by decide)) (nn d6.b (by decide))⟩,
  I.kept s6 k7 (fun y hy => I.ne s6 (ltb y hy)) (fun y hy => Or.inl (ltb y hy)), ⟨by rw [e1]; exact r7, v6.kept k7 (nr v6 (by decide)), h6.kept k7 (nr h6.lists (by decide)) (nr h6.want (by decide)) ?_, hlm⟩, hf, fun y hy => Or.inl hy, fun y hy => Or.inl hy, by simp, hmo, hch, ?_⟩
 ·intro x hx
  obtain ⟨a1, a2, _⟩ := h6.all x hx
  exact ⟨nr a1 (by decide), nr a2 (by decide)⟩
 ·refine ((k2.mono ?_).trans (k26.mono (by simp))).trans (k7.mono (by intro x hx; simp at hx; subst hx; exact List.mem_cons_self))
  intro x hx
  rcases List.mem_cons.1 hx with rfl | hx
  ·exact List.mem_cons_of_mem _ List.mem_cons_self
  ·exact List.mem_cons_of_mem _ (List.mem_cons_of_mem _ (List.mem_append_left _ (List.mem_append_left _ hx)))

theorem closed_any (I : Iface) (s : Sx) (o : Ox) (q : Nat) (n : Int) (may were : Value) (L : List UInt8) (c wr t : Int) (w : World) (hG : Glob w) (hgf : 1 ∉ s.fp) (hq : LD w q s.a n may were (.pointer (some ⟨o.b, 0, none⟩))) (hd : Dev w s.a s.g s.n L c wr t) (hs : I.SI w s) (ho : OI w s o) :
  Calls Tryz.prog 104 #[.pointer (some ⟨q, 0, none⟩)] w (DiskR I s o w q n may were L wr t) := by
 have cq7 : w.cell? ⟨q, 7, none⟩ = some (.pointer (some ⟨o.b, 0, none⟩)) := cellAt hq rfl
 have cb0 : w.cell? ⟨o.b, 0, none⟩ = some (.pointer (some ⟨s.x, 0, none⟩)) := cellAt ho.r rfl
 have HGt : Hid (Calls _ _ _ _ _) := I.close w s L c wr t hs hd
 have hga := (hG.dev hd).1
 cases hcl : s.cl with
 | true =>
  go_enter Tryz.func104, Tryz.ntmps104
  go_wp2_with (first
   | (go_at_call 147; refine HGt.out.mono ?_; rintro e w2 ⟨s', err, rfl, haft, hc2, hl2, hres⟩; simp only [hcl, if_true] at hres; have k2 := haft.2.2.2.2.2.2.2.1; obtain ⟨r1, r2, r3⟩ := ho.aft I hs hd k2; have hG2 := hG.kept k2 (by simp; exact ⟨hga.symm, hgf⟩))
   | (go_at_call 131; refine (hres _ (Kept.refl _ _) hG2).mono ?_; rintro e w3 ⟨rfl, hk3⟩; have r13 : OR w3 o.b (some ⟨s.x, 0, none⟩) o.vl false s.cl s.mo o.ch o.lv o.wv := hk3.get r1 (by simp); have c33 : w3.cell? ⟨o.b, 3, none⟩ = some (.bool true) := (by have := cellAt (j := 3) r13 rfl; rw [hcl] at this; exact this))
   | (go_at_call 133; refine (num_any _ _).mono ?_; rintro e w' ⟨rfl, rfl⟩))
  go_ret
  exact DiskR.same I hq hd hs ho haft (by rw [hc2, hcl]) hl2 hk3
 | false =>
  go_enter Tryz.func104, Tryz.ntmps104
  go_wp2_with (first
   | (go_at_call 147; refine HGt.out.mono ?_; rintro e w2 ⟨s', err, rfl, haft, hc2, hl2, hres⟩; simp only [hcl, Bool.false_eq_true, if_false] at hres; have k2 := haft.2.2.2.2.2.2.2.1; obtain ⟨r1, r2, r3⟩ := ho.aft I hs hd k2; have hG2 := hG.kept k2 (by simp; exact ⟨hga.symm, hgf⟩))
   | (go_at_call 131; refine (hres _ (Kept.refl _ _) hG2).mono ?_; rintro e w3 ⟨rfl, hk3⟩; have r13 : OR w3 o.b (some ⟨s.x, 0, none⟩) o.vl false s.cl s.mo o.ch o.lv o.wv := hk3.get r1 (by simp); have c33 : w3.cell? ⟨o.b, 3, none⟩ = some (.bool false) := (by have := cellAt (j := 3) r13 rfl; rw [hcl] at this; exact this); have f33 : w3.frozen? ⟨o.b, 3, none⟩ = false := frozen_of_row _ _ _ _ _ r13)
   | (go_at_call 133; refine (num_any _ _).mono ?_; rintro e w' ⟨rfl, rfl⟩))
  go_ret
  have hmo : s'.mo = s.mo := by rw [haft.2.2.2.2.1, hl2]; exact Nat.max_eq_left ho.m
  refine DiskR.upd I hq hd hs ho haft hk3 (vl' := o.vl) (ch' := o.ch) (by omega) (by omega) (by rw [hl2, hmo]; exact ho.m) ?_ (by rw [hl2]; exact r2.kept hk3 (by simp)) ((Kept.refl _ _).setCell (Or.inl (by simp)) _)
  rw [hc2, hmo]
  exact setCellAt (i := 3) (.bool true) r13

end Go.Proofs.YtcklgafpgdhnaaaGreatDoor

namespace Go.Proofs.YtcklgafpgdhnaaaGreatDoor
open Go.RowKit

theorem len_withGo (k v : ByteArray) (b : Bool) (l : List Pr) : (withGo k v b l).length ≤ l.length + 1 - b.toNat := by
 induction l generalizing b with
 | nil => cases b <;> simp [withGo]
 | cons p r ih =>
  rw [withGo_cons]
  have h1 := ih (b || !bl p.1 k)
  cases b <;> cases hb : bl p.1 k <;> cases he : be p.1 k <;> simp [hb] at h1 ⊢ <;> omega
set_option maxRecDepth 4000 in
theorem len_with (k v : ByteArray) (l : List Pr) : (withL k v l).length ≤ l.length + 1 := by
 have := len_withGo k v false l
 simpa [withL] using this
theorem one1 (p : Option Addr) (n c : Nat) : (#[Value.slice p n c] : Array Value).all (·.oneCell') = true := by
 have h1 : (Value.slice p n c).oneCell' = true := rfl
 simp [h1]

theorem len_without (k : ByteArray) (l : List Pr) : (withoutL k l).length ≤ l.length := List.length_filter_le _ _

theorem enters_Room (args : Array Value) (w : World) : (callFunc 140 args).run Tryz.prog w = .ok (.enter 140 args) w := enters Tryz.func140 (by kernel_rfl) (by kernel_rfl) args w

def RmS (b : Nat) (px : Option Addr) (vl : Value) (c : Bool) (mo ch : Int) (lv wv : Value) (q a : Nat) (n : Int) (may were : Value) (bx : Nat) (vn : Value) (W : World) : Prop :=
 OR W b px vl false c mo ch lv wv ∧ LD W q a n may were (.pointer (some ⟨b, 0, none⟩)) ∧ W.heap[bx]? = some (.cells #[vn] 189 (0, 0))

theorem changed_put (I : Iface) (s : Sx) (o : Ox) (q : Nat) (n : Int) (may were : Value) (L : List UInt8) (c wr t : Int) (k v : ByteArray) (w : World) (hG : Glob w) (hgf : 1 ∉ s.fp) (hq : LD w q s.a n may were (.pointer (some ⟨o.b, 0, none⟩))) (hd : Dev w s.a s.g s.n L c wr t) (hs : I.SI w s) (ho : OI w s o) (hl : s.l.length ≤ 40000) (hmo : s.mo ≤ 40000) (hch : o.ch ≤ 40000) (hn : n = s.n) :
  Calls Tryz.prog 100 #[.pointer (some ⟨q, 0, none⟩), .string k, .string v, .bool false] w (DiskR I s o w q n may were L wr t) := by
 have cq0 : w.cell? ⟨q, 0, none⟩ = some (.pointer (some ⟨s.a, 0, none⟩)) := cellAt hq rfl
 have cq7 : w.cell? ⟨q, 7, none⟩ = some (.pointer (some ⟨o.b, 0, none⟩)) := cellAt hq rfl
 have cb0 : w.cell? ⟨o.b, 0, none⟩ = some (.pointer (some ⟨s.x, 0, none⟩)) := cellAt ho.r rfl
 have HT : Hid (Calls _ _ _ _ _) := DTold_o s.a _ _ _ c wr t w hd.d
 have HGt : Hid (Calls _ _ _ _ _) := I.put w s L c wr t k v hs hd
 have hga := (hG.dev hd).1
 have HN : Hid (n = s.n) := hn
 clear hn
 have nq : q ∉ s.a :: s.fp := by
  intro hx
  rcases List.mem_cons.1 hx with rfl | hx
  ·exact ne_tag hq hd.d (by decide) rfl
  ·exact I.ne hs ⟨_, _, _, hq, by decide⟩ hx
 go_enter Tryz.func100, Tryz.ntmps100
 go_wp2_with (first
  | (go_at_call 130; refine HT.out.mono ?_; rintro e w' ⟨rfl, rfl⟩))
 refine HGt.out.mono ?_
 rintro e w2 ⟨s', err, x, rfl, haft, hc2, htl, hres⟩
 have k2 := haft.2.2.2.2.2.2.2.1
 obtain ⟨r1, r2, r3⟩ := ho.aft I hs hd k2
 have hG2 := hG.kept k2 (by simp; exact ⟨hga.symm, hgf⟩)
 have q2 := k2.get hq nq
 by_cases hcode : chg s.cl false k v = 0
 ·rw [if_neg (by simp [hcode])] at hres
  rcases hres with ⟨rfl, hl2⟩ | ⟨rfl, hl2, hroom⟩
  ·go_wp2_with (first
  | (go_at_call 131; refine (htl _ (Kept.refl _ _) hG2).mono ?_; rintro e w3 ⟨rfl, hk3⟩; have r13 : OR w3 o.b (some ⟨s.x, 0, none⟩) o.vl false s.cl s.mo o.ch o.lv o.wv := hk3.get r1 (by simp); have hm3 := r13.store; have v3 := r2.kept hk3 (by simp); have hq3 : LD w3 q s.a n may were (.pointer (some ⟨o.b, 0, none⟩)) := hk3.get q2 (by simp))
  | (refine wpList_load_seg rfl 192 (.tmp 43) rfl ⟨o.b, 1, none⟩ rfl _ hm3 ?_)
  | (go_at_call 133; refine (num_any _ _).mono ?_; rintro e w' ⟨rfl, hw'⟩; rw [hw']; clear hw' w')
  | (go_at_call 137; refine (RChanged_any _ _ _ _ _ _ _ _).mono ?_; rintro e w4 ⟨rfl, hk4⟩; rw [hcode]; have r14 : OR w4 o.b (some ⟨s.x, 0, none⟩) o.vl false s.cl s.mo o.ch o.lv o.wv := hk4.get r13 (by simp); have hm4 := r14.map; have v4 := v3.kept hk4 (by simp); have hq4 : LD w4 q s.a n may were (.pointer (some ⟨o.b, 0, none⟩)) := hk4.get hq3 (by simp); clear hm3)
  | (refine wpList_load_seg rfl 189 (.tmp 57) rfl ⟨o.b, 1, none⟩ rfl _ hm4 ?_)
  | (go_at_call 138; refine (With_any o.vl s.l k v _ v4 (by omega)).mono ?_; rintro e w5 ⟨vn, rfl, pn, fn, hk5⟩; obtain ⟨pp, cp, rfl⟩ := pn.shape; have r15 : OR w5 o.b (some ⟨s.x, 0, none⟩) o.vl false s.cl s.mo o.ch o.lv o.wv := hk5.get r14 (by simp); clear hm4; have hq5 : LD w5 q s.a n may were (.pointer (some ⟨o.b, 0, none⟩)) := hk5.get hq4 (by simp))
  | (refine wpList_alloc_k rfl 189 rfl #[.slice none 0 0] (by rfl) ?_; intro w6 n6 k6 _; (refine wpList_store_k rfl 189 (.tmp 14) (.tmp 61) rfl w5.heap.size #[.slice pp (withL k v s.l).length cp] rfl rfl 189 _ n6 smap rfl (one1 _ _ _) ?_; intro w7 n7 k7; have k57 : Kept [] w5 w7 := k6.trans2 k7 (by intro x hx; simp at hx; subst hx; exact Or.inr (Nat.le_refl _)); have r17 : OR w7 o.b (some ⟨s.x, 0, none⟩) o.vl false s.cl s.mo o.ch o.lv o.wv := k57.get r15 (by simp); have c71 : w7.cell? ⟨o.b, 1, none⟩ = some o.vl := cellAt r17 rfl; have f71 : w7.frozen? ⟨o.b, 1, none⟩ = false := frozen_of_row _ _ _ _ _ r17; have nbx : w5.heap.size ≠ o.b := (by have := lt_heap r15; omega); have cx7 : w7.cell? ⟨w5.heap.size, 0, none⟩ = some (.slice pp (withL k v s.l).length cp) := cellAt n7 rfl))
  )
   have k8 : Kept [o.b] w7 (w7.setCell ⟨o.b, 1, none⟩ (.slice pp (withL k v s.l).length cp)) := (Kept.refl _ _).setCell (Or.inl (by simp)) _
   have r18 : OR (w7.setCell ⟨o.b, 1, none⟩ (.slice pp (withL k v s.l).length cp)) o.b (some ⟨s.x, 0, none⟩) (.slice pp (withL k v s.l).length cp) false s.cl s.mo o.ch o.lv o.wv := setCellAt (i := 1) _ r17
   have n8 := k8.get n7 (by simpa using nbx)
   generalize hw8 : w7.setCell ⟨o.b, 1, none⟩ (.slice pp (withL k v s.l).length cp) = w8 at *
   have HW8 : Hid _ := hw8
   clear hw8 c71 f71 cx7
   have c84 : w8.cell? ⟨o.b, 4, none⟩ = some (.int .i64 s.mo) := cellAt r18 rfl
   have c85 : w8.cell? ⟨o.b, 5, none⟩ = some (.int .i64 o.ch) := cellAt r18 rfl
   have f84 : w8.frozen? ⟨o.b, 4, none⟩ = false := frozen_of_row _ _ _ _ _ r18
   have f85 : w8.frozen? ⟨o.b, 5, none⟩ = false := frozen_of_row _ _ _ _ _ r18
   have cx8 : w8.cell? ⟨w5.heap.size, 0, none⟩ = some (.slice pp (withL k v s.l).length cp) := cellAt n8 rfl
   have hlw := len_with k v s.l
   have hmo2 : s'.mo = max s.mo (withL k v s.l).length := by rw [haft.2.2.2.2.1, hl2]
   have k27 : Kept [] w2 w7 := ((hk3.trans hk4).trans hk5).trans k57
   have hom := ho.m
   by_cases hgt : s.mo < (withL k v s.l).length
   ·have gi : (s.mo : Int) < ((withL k v s.l).length : Int) := by omega
    go_quiet (fail)
    go_wp2
    go_ret
    have k9 : Kept [o.b] w7 (((w8.drewN nq).setCell ⟨o.b, 4, none⟩ (.int .i64 ((withL k v s.l).length : Nat))).setCell ⟨o.b, 5, none⟩ (.int .i64 ((o.ch : Int) + 1))) :=
     (((k8.drewN nq).setCell (p := ⟨o.b, 4, none⟩) (Or.inl (by simp)) _).setCell (p := ⟨o.b, 5, none⟩) (Or.inl (by simp)) _)
    refine DiskR.upd I hq hd hs ho haft k27 (vl' := .slice pp (withL k v s.l).length cp) (ch' := o.ch + 1) (Nat.le_refl _) (by omega) (by rw [hl2]; omega) ?_ (by rw [hl2]; exact pn.kept k57 (by simp)) k9
    rw [hmo2, Nat.max_eq_right (by omega), hc2]
    exact setCellAt (i := 5) _ (setCellAt (i := 4) _ (show OR (w8.drewN nq) _ _ _ _ _ _ _ _ _ from r18))
   ·have gi : ¬ (s.mo : Int) < ((withL k v s.l).length : Int) := by omega
    go_quiet (fail)
    go_wp2
    go_ret
    have k9 : Kept [o.b] w7 ((w8.drewN nq).setCell ⟨o.b, 5, none⟩ (.int .i64 ((o.ch : Int) + 1))) :=
     ((k8.drewN nq).setCell (p := ⟨o.b, 5, none⟩) (Or.inl (by simp)) _)
    refine DiskR.upd I hq hd hs ho haft k27 (vl' := .slice pp (withL k v s.l).length cp) (ch' := o.ch + 1) (Nat.le_refl _) (by omega) (by rw [hl2]; omega) ?_ (by rw [hl2]; exact pn.kept k57 (by simp)) k9
    rw [hmo2, Nat.max_eq_left (by omega), hc2]
    exact setCellAt (i := 5) _ (show OR (w8.drewN nq) _ _ _ _ _ _ _ _ _ from r18)
  ·go_wp2_with (first
  | (go_at_call 131; refine (htl _ (Kept.refl _ _) hG2).mono ?_; rintro e w3 ⟨rfl, hk3⟩; have r13 : OR w3 o.b (some ⟨s.x, 0, none⟩) o.vl false s.cl s.mo o.ch o.lv o.wv := hk3.get r1 (by simp); have hm3 := r13.store; have v3 := r2.kept hk3 (by simp); have hq3 : LD w3 q s.a n may were (.pointer (some ⟨o.b, 0, none⟩)) := hk3.get q2 (by simp))
  | (refine wpList_load_seg rfl 192 (.tmp 43) rfl ⟨o.b, 1, none⟩ rfl _ hm3 ?_)
  | (go_at_call 133; refine (num_any _ _).mono ?_; rintro e w' ⟨rfl, hw'⟩; rw [hw']; clear hw' w')
  | (go_at_call 137; refine (RChanged_any _ _ _ _ _ _ _ _).mono ?_; rintro e w4 ⟨rfl, hk4⟩; rw [hcode]; have r14 : OR w4 o.b (some ⟨s.x, 0, none⟩) o.vl false s.cl s.mo o.ch o.lv o.wv := hk4.get r13 (by simp); have hm4 := r14.map; have v4 := v3.kept hk4 (by simp); have hq4 : LD w4 q s.a n may were (.pointer (some ⟨o.b, 0, none⟩)) := hk4.get hq3 (by simp); clear hm3)
  | (refine wpList_load_seg rfl 189 (.tmp 57) rfl ⟨o.b, 1, none⟩ rfl _ hm4 ?_)
  | (go_at_call 138; refine (With_any o.vl s.l k v _ v4 (by omega)).mono ?_; rintro e w5 ⟨vn, rfl, pn, fn, hk5⟩; obtain ⟨pp, cp, rfl⟩ := pn.shape; have r15 : OR w5 o.b (some ⟨s.x, 0, none⟩) o.vl false s.cl s.mo o.ch o.lv o.wv := hk5.get r14 (by simp); clear hm4; have hq5 : LD w5 q s.a n may were (.pointer (some ⟨o.b, 0, none⟩)) := hk5.get hq4 (by simp))
  | (refine wpList_alloc_k rfl 189 rfl #[.slice none 0 0] (by rfl) ?_; intro w6 n6 k6 _; (refine wpList_store_k rfl 189 (.tmp 14) (.tmp 61) rfl w5.heap.size #[.slice pp (withL k v s.l).length cp] rfl rfl 189 _ n6 smap rfl (one1 _ _ _) ?_; intro w7 n7 k7; have k57 : Kept [] w5 w7 := k6.trans2 k7 (by intro x hx; simp at hx; subst hx; exact Or.inr (Nat.le_refl _)); have r17 : OR w7 o.b (some ⟨s.x, 0, none⟩) o.vl false s.cl s.mo o.ch o.lv o.wv := k57.get r15 (by simp); have c71 : w7.cell? ⟨o.b, 1, none⟩ = some o.vl := cellAt r17 rfl; have f71 : w7.frozen? ⟨o.b, 1, none⟩ = false := frozen_of_row _ _ _ _ _ r17; have q7 : LD w7 q s.a n may were (.pointer (some ⟨o.b, 0, none⟩)) := k57.get hq5 (by simp); have nbx : w5.heap.size ≠ o.b := (by have := lt_heap r15; omega); have cx7 : w7.cell? ⟨w5.heap.size, 0, none⟩ = some (.slice pp (withL k v s.l).length cp) := cellAt n7 rfl))
  )
   have ROOM : Hid (decide (3 * max (s.mo : Int) ((withL k v s.l).length : Nat) + 12 ≤ n) = false) := by
    have := hroom
    unfold roomy at this
    have e2 : max (s.mo : Int) ((withL k v s.l).length : Nat) = ((max s.mo (withL k v s.l).length : Nat) : Int) := by omega
    show _ = _
    rw [e2, HN.out, decide_eq_false_iff_not]
    omega
   have hlw := len_with k v s.l
   have hS : RmS o.b (some ⟨s.x, 0, none⟩) o.vl s.cl s.mo o.ch o.lv o.wv q s.a n may were w5.heap.size (.slice pp (withL k v s.l).length cp) w7.drew := ⟨r17, q7, n7⟩
   refine wp_region_S (RmS o.b (some ⟨s.x, 0, none⟩) o.vl s.cl s.mo o.ch o.lv o.wv q s.a n may were w5.heap.size (.slice pp (withL k v s.l).length cp)) (by kernel_rfl) ?_
   refine wpAnyH_take (i := 0) (v := .pointer (some ⟨o.b, 0, none⟩)) rfl (by kernel_rfl) (by kernel_rfl) (by kernel_rfl) (fun _ _ _ h => h) (Or.inl ⟨by rfl, fun W hW => by rfl⟩) hS ?_
   simp only [Act.put, zA, zC, zD, zE, zF]
   refine wpAnyH_take (i := 1) (v := .pointer (some ⟨o.b, 0, none⟩)) rfl (by kernel_rfl) (by kernel_rfl) (by kernel_rfl) (fun _ _ _ h => h) (Or.inl ⟨by rfl, fun W hW => by rfl⟩) hS ?_
   simp only [Act.put, zA, zB, zC, zD, zE, zF]
   refine wpAnyH_take (i := 2) (v := .pointer (some ⟨o.b, 1, none⟩)) rfl (by kernel_rfl) (by kernel_rfl) (by kernel_rfl) (fun _ _ _ h => h) (Or.inl ⟨by rfl, fun W hW => by rfl⟩) hS ?_
   simp only [Act.put, zA, zB, zC, zD, zE, zF]
   refine wpAnyH_take (i := 3) (v := .agg (scells o.vl false s.cl s.mo o.ch)) rfl (by kernel_rfl) (by kernel_rfl) (by kernel_rfl) (fun _ _ _ h => h) (Or.inl ⟨by rfl, fun W hW => exec_load 192 (.tmp 118) rfl ⟨o.b, 1, none⟩ rfl _ hW.1.store⟩) hS ?_
   simp only [Act.put, zA, zB, zC, zD, zE, zF]
   refine wpAnyH_take (i := 4) (v := .pointer (some ⟨q, 0, none⟩)) rfl (by kernel_rfl) (by kernel_rfl) (by kernel_rfl) (fun _ _ _ h => h) (Or.inl ⟨by rfl, fun W hW => by rfl⟩) hS ?_
   simp only [Act.put, zA, zB, zC, zD, zE, zF]
   refine wpAnyH_take (i := 5) (v := .pointer (some ⟨q, 0, none⟩)) rfl (by kernel_rfl) (by kernel_rfl) (by kernel_rfl) (fun _ _ _ h => h) (Or.inl ⟨by rfl, fun W hW => by rfl⟩) hS ?_
   simp only [Act.put, zA, zB, zC, zD, zE, zF]
   refine wpAnyH_take (i := 6) (v := .pointer (some ⟨q, 1, none⟩)) rfl (by kernel_rfl) (by kernel_rfl) (by kernel_rfl) (fun _ _ _ h => h) (Or.inl ⟨by rfl, fun W hW => by rfl⟩) hS ?_
   simp only [Act.put, zA, zB, zC, zD, zE, zF]
   refine wpAnyH_take (i := 7) (v := .pointer (some ⟨q, 1, none⟩)) rfl (by kernel_rfl) (by kernel_rfl) (by kernel_rfl) (fun _ _ _ h => h) (Or.inl ⟨by rfl, fun W hW => by rfl⟩) hS ?_
   simp only [Act.put, zA, zB, zC, zD, zE, zF]
   refine wpAnyH_take (i := 8) (v := .int .i64 n) rfl (by kernel_rfl) (by kernel_rfl) (by kernel_rfl) (fun _ _ _ h => h) (Or.inl ⟨by rfl, fun W hW => exec_load 3 (.tmp 123) rfl ⟨q, 1, none⟩ rfl _ (run_load1 Tryz.underlying3 rfl (cellAt hW.2.1 rfl))⟩) hS ?_
   simp only [Act.put, zA, zB, zC, zD, zE, zF]
   refine wpAnyH_take (i := 9) (v := .pointer (some ⟨w5.heap.size, 0, none⟩)) rfl (by kernel_rfl) (by kernel_rfl) (by kernel_rfl) (fun _ _ _ h => h) (Or.inl ⟨by rfl, fun W hW => by rfl⟩) hS ?_
   simp only [Act.put, zA, zB, zC, zD, zE, zF]
   refine wpAnyH_take (i := 10) (v := .slice pp (withL k v s.l).length cp) rfl (by kernel_rfl) (by kernel_rfl) (by kernel_rfl) (fun _ _ _ h => h) (Or.inl ⟨by rfl, fun W hW => exec_load 187 (.tmp 125) rfl ⟨w5.heap.size, 0, none⟩ rfl _ (run_load1 Tryz.underlying187 rfl (cellAt hW.2.2 rfl))⟩) hS ?_
   simp only [Act.put, zA, zB, zC, zD, zE, zF]
   refine wpAnyH_take (i := 11) (v := .int .i64 ((withL k v s.l).length : Nat)) rfl (by kernel_rfl) (by kernel_rfl) (by kernel_rfl) (fun _ _ _ h => h) (Or.inl ⟨by rfl, fun W hW => exec_len (.tmp 126) 187 224 rfl _ _ _ rfl Tryz.underlying187⟩) hS ?_
   simp only [Act.put, zA, zB, zC, zD, zE, zF]
   refine held_one (i := 12) (by kernel_rfl) (wpOp_call rfl (by rfl) 140 #[.agg (scells o.vl false s.cl s.mo o.ch), .int .i64 n, .int .i64 ((withL k v s.l).length : Nat)] (exec_call _ _ _ rfl _ (by simp [Act.eval]) (enters_Room _ _)) _ (Room_any o.vl false s.cl s.mo o.ch n ((withL k v s.l).length : Nat) _ (by omega) (by omega)) ?_)
   rintro e w9 ⟨rfl, hk9⟩
   have hS9 : RmS o.b (some ⟨s.x, 0, none⟩) o.vl s.cl s.mo o.ch o.lv o.wv q s.a n may were w5.heap.size (.slice pp (withL k v s.l).length cp) w9 := ⟨hk9.get hS.1 (by simp), hk9.get hS.2.1 (by simp), hk9.get hS.2.2 (by simp)⟩
   refine ⟨_, rfl, hS9, ?_⟩
   simp only [Act.put, zA, zB, zC, zD, zE, zF]
   rw [ROOM.out]
   refine held_one (i := 13) (by kernel_rfl) (wpOp_val rfl rfl (.bool false) w9 rfl ⟨hS9, ?_⟩)
   simp only [Act.put, zA, zB, zC, zD, zE, zF]
   refine wpAnyH_done (by kernel_rfl) ?_ _
   have k29 : Kept [] w2 w9 := ((((hk3.trans hk4).trans hk5).trans k57).drew).trans hk9
   clear hS hS9
   go_wp2
   go_ret
   exact DiskR.same I hq hd hs ho haft hc2 hl2 k29
 ·rw [if_pos (by simpa using hcode)] at hres
  obtain ⟨rfl, hl2⟩ := hres
  have hne : ((chg s.cl false k v) == 0) = false := by simpa using hcode
  generalize hcc : chg s.cl false k v = cc at *
  go_wp2_with (first
  | (go_at_call 131; refine (htl _ (Kept.refl _ _) hG2).mono ?_; rintro e w3 ⟨rfl, hk3⟩; have r13 : OR w3 o.b (some ⟨s.x, 0, none⟩) o.vl false s.cl s.mo o.ch o.lv o.wv := hk3.get r1 (by simp); have hm3 := r13.store; have v3 := r2.kept hk3 (by simp); have hq3 : LD w3 q s.a n may were (.pointer (some ⟨o.b, 0, none⟩)) := hk3.get q2 (by simp))
  | (refine wpList_load_seg rfl 192 (.tmp 43) rfl ⟨o.b, 1, none⟩ rfl _ hm3 ?_)
  | (go_at_call 133; refine (num_any _ _).mono ?_; rintro e w' ⟨rfl, hw'⟩; rw [hw']; clear hw' w')
  | (go_at_call 137; refine (RChanged_any _ _ _ _ _ _ _ _).mono ?_; rintro e w4 ⟨rfl, hk4⟩; rw [hcc]; have r14 : OR w4 o.b (some ⟨s.x, 0, none⟩) o.vl false s.cl s.mo o.ch o.lv o.wv := hk4.get r13 (by simp); have hm4 := r14.map; have v4 := v3.kept hk4 (by simp); have hq4 : LD w4 q s.a n may were (.pointer (some ⟨o.b, 0, none⟩)) := hk4.get hq3 (by simp); clear hm3))
  go_ret
  exact DiskR.same I hq hd hs ho haft hc2 hl2 (hk3.trans hk4)

end Go.Proofs.YtcklgafpgdhnaaaGreatDoor

namespace Go.Proofs.YtcklgafpgdhnaaaGreatDoor
open Go.RowKit

theorem changed_del (I : Iface) (s : Sx) (o : Ox) (q : Nat) (n : Int) (may were : Value) (L : List UInt8) (c wr t : Int) (k v : ByteArray) (w : World) (hG : Glob w) (hgf : 1 ∉ s.fp) (hq : LD w q s.a n may were (.pointer (some ⟨o.b, 0, none⟩))) (hd : Dev w s.a s.g s.n L c wr t) (hs : I.SI w s) (ho : OI w s o) (hl : s.l.length ≤ 40000) (_hmo : s.mo ≤ 40000) (hch : o.ch ≤ 40000) (hn : n = s.n) :
  Calls Tryz.prog 100 #[.pointer (some ⟨q, 0, none⟩), .string k, .string v, .bool true] w (DiskR I s o w q n may were L wr t) := by
 have cq0 : w.cell? ⟨q, 0, none⟩ = some (.pointer (some ⟨s.a, 0, none⟩)) := cellAt hq rfl
 have cq7 : w.cell? ⟨q, 7, none⟩ = some (.pointer (some ⟨o.b, 0, none⟩)) := cellAt hq rfl
 have cb0 : w.cell? ⟨o.b, 0, none⟩ = some (.pointer (some ⟨s.x, 0, none⟩)) := cellAt ho.r rfl
 have HT : Hid (Calls _ _ _ _ _) := DTold_o s.a _ _ _ c wr t w hd.d
 have HGt : Hid (Calls _ _ _ _ _) := I.del w s L c wr t k hs hd
 have hga := (hG.dev hd).1
 have HN : Hid (n = s.n) := hn
 clear hn
 have nq : q ∉ s.a :: s.fp := by
  intro hx
  rcases List.mem_cons.1 hx with rfl | hx
  ·exact ne_tag hq hd.d (by decide) rfl
  ·exact I.ne hs ⟨_, _, _, hq, by decide⟩ hx
 go_enter Tryz.func100, Tryz.ntmps100
 go_wp2_with (first
  | (go_at_call 130; refine HT.out.mono ?_; rintro e w' ⟨rfl, rfl⟩))
 refine HGt.out.mono ?_
 rintro e w2 ⟨s', err, rfl, haft, hc2, hres⟩
 have k2 := haft.2.2.2.2.2.2.2.1
 obtain ⟨r1, r2, r3⟩ := ho.aft I hs hd k2
 have hG2 := hG.kept k2 (by simp; exact ⟨hga.symm, hgf⟩)
 have q2 := k2.get hq nq
 by_cases hcode : chg s.cl false k ⟨#[]⟩ = 0
 ·rw [if_neg (by simp [hcode])] at hres
  obtain ⟨htl, hl2⟩ := hres
  ·go_wp2_with (first
  | (go_at_call 131; refine (htl _ (Kept.refl _ _) hG2).mono ?_; rintro e w3 ⟨rfl, hk3⟩; have r13 : OR w3 o.b (some ⟨s.x, 0, none⟩) o.vl false s.cl s.mo o.ch o.lv o.wv := hk3.get r1 (by simp); have hm3 := r13.store; have v3 := r2.kept hk3 (by simp); have hq3 : LD w3 q s.a n may were (.pointer (some ⟨o.b, 0, none⟩)) := hk3.get q2 (by simp))
  | (refine wpList_load_seg rfl 192 (.tmp 43) rfl ⟨o.b, 1, none⟩ rfl _ hm3 ?_)
  | (go_at_call 133; refine (num_any _ _).mono ?_; rintro e w' ⟨rfl, hw'⟩; rw [hw']; clear hw' w')
  | (go_at_call 137; refine (RChanged_any _ _ _ _ _ _ _ _).mono ?_; rintro e w4 ⟨rfl, hk4⟩; rw [hcode]; have r14 : OR w4 o.b (some ⟨s.x, 0, none⟩) o.vl false s.cl s.mo o.ch o.lv o.wv := hk4.get r13 (by simp); have hm4 := r14.map; have v4 := v3.kept hk4 (by simp); have hq4 : LD w4 q s.a n may were (.pointer (some ⟨o.b, 0, none⟩)) := hk4.get hq3 (by simp); clear hm3)
  | (refine wpList_load_seg rfl 189 (.tmp 57) rfl ⟨o.b, 1, none⟩ rfl _ hm4 ?_)
  | (go_at_call 138; (refine (With_any o.vl s.l k ⟨#[]⟩ _ v4 (by omega)).mono ?_; rintro e w5 ⟨vn, rfl, pn, fn, hk5⟩; obtain ⟨pp, cp, rfl⟩ := pn.shape; have v5 := v4.kept hk5 (by simp); have r15 : OR w5 o.b (some ⟨s.x, 0, none⟩) o.vl false s.cl s.mo o.ch o.lv o.wv := hk5.get r14 (by simp); clear hm4; have hq5 : LD w5 q s.a n may were (.pointer (some ⟨o.b, 0, none⟩)) := hk5.get hq4 (by simp)))
  | (refine wpList_alloc_k rfl 189 rfl #[.slice none 0 0] (by rfl) ?_; intro w6 n6 k6 _; refine wpList_store_k rfl 189 (.tmp 14) (.tmp 61) rfl w5.heap.size #[.slice pp (withL k ⟨#[]⟩ s.l).length cp] rfl rfl 189 _ n6 smap rfl (one1 _ _ _) ?_; intro w7 n7 k7; have k57 : Kept [] w5 w7 := k6.trans2 k7 (by intro x hx; simp at hx; subst hx; exact Or.inr (Nat.le_refl _)); have r17 : OR w7 o.b (some ⟨s.x, 0, none⟩) o.vl false s.cl s.mo o.ch o.lv o.wv := k57.get r15 (by simp); have nbx : w5.heap.size ≠ o.b := (by have := lt_heap r15; omega); have v7 := v5.kept k57 (by simp); have hm7 := r17.map)
  | (refine wpList_load_seg rfl 189 (.tmp 66) rfl ⟨o.b, 1, none⟩ rfl _ hm7 ?_)
  | (go_at_call 139; refine (Without_any o.vl s.l k _ v7 (by omega)).mono ?_; rintro e wa ⟨vn, rfl, pa, fa, hka⟩; obtain ⟨qp, dp, rfl⟩ := pa.shape; have ra : OR wa o.b (some ⟨s.x, 0, none⟩) o.vl false s.cl s.mo o.ch o.lv o.wv := hka.get r17 (by simp); have na := hka.get n7 (by simp); clear hm7)
  | (refine wpList_store_k rfl 189 (.tmp 14) (.tmp 69) rfl w5.heap.size #[.slice qp (withoutL k s.l).length dp] rfl rfl 189 _ na smap rfl (one1 _ _ _) ?_; intro wb nb kb; have k5b : Kept [] w5 wb := (k57.trans hka).trans2 kb (by intro x hx; simp at hx; subst hx; exact Or.inr (Nat.le_refl _)); have rb : OR wb o.b (some ⟨s.x, 0, none⟩) o.vl false s.cl s.mo o.ch o.lv o.wv := k5b.get r15 (by simp); have c71 : wb.cell? ⟨o.b, 1, none⟩ = some o.vl := cellAt rb rfl; have f71 : wb.frozen? ⟨o.b, 1, none⟩ = false := frozen_of_row _ _ _ _ _ rb; have cx7 : wb.cell? ⟨w5.heap.size, 0, none⟩ = some (.slice qp (withoutL k s.l).length dp) := cellAt nb rfl; have pb : PL wb 224 (.slice qp (withoutL k s.l).length dp) (withoutL k s.l) := pa.kept kb (fun g hg hx => by simp at hx; subst hx; exact ne_rows (pa.tag hg) ⟨_, _, na⟩ (by decide) rfl))
  )
   have k8 : Kept [o.b] wb (wb.setCell ⟨o.b, 1, none⟩ (.slice qp (withoutL k s.l).length dp)) := (Kept.refl _ _).setCell (Or.inl (by simp)) _
   have r18 : OR (wb.setCell ⟨o.b, 1, none⟩ (.slice qp (withoutL k s.l).length dp)) o.b (some ⟨s.x, 0, none⟩) (.slice qp (withoutL k s.l).length dp) false s.cl s.mo o.ch o.lv o.wv := setCellAt (i := 1) _ rb
   have n8 := k8.get nb (by simpa using nbx)
   generalize hw8 : wb.setCell ⟨o.b, 1, none⟩ (.slice qp (withoutL k s.l).length dp) = w8 at *
   have HW8 : Hid _ := hw8
   clear hw8 c71 f71 cx7
   have c84 : w8.cell? ⟨o.b, 4, none⟩ = some (.int .i64 s.mo) := cellAt r18 rfl
   have c85 : w8.cell? ⟨o.b, 5, none⟩ = some (.int .i64 o.ch) := cellAt r18 rfl
   have f84 : w8.frozen? ⟨o.b, 4, none⟩ = false := frozen_of_row _ _ _ _ _ r18
   have f85 : w8.frozen? ⟨o.b, 5, none⟩ = false := frozen_of_row _ _ _ _ _ r18
   have cx8 : w8.cell? ⟨w5.heap.size, 0, none⟩ = some (.slice qp (withoutL k s.l).length dp) := cellAt n8 rfl
   have hlw := len_without k s.l
   have hmo2 : s'.mo = max s.mo (withoutL k s.l).length := by rw [haft.2.2.2.2.1, hl2]
   have k27 : Kept [] w2 wb := ((hk3.trans hk4).trans hk5).trans k5b
   have hom := ho.m
   by_cases hgt : s.mo < (withoutL k s.l).length
   ·omega
   ·have gi : ¬ (s.mo : Int) < ((withoutL k s.l).length : Int) := by omega
    go_quiet (fail)
    go_wp2
    go_ret
    have k9 : Kept [o.b] wb ((w8.drewN nq).setCell ⟨o.b, 5, none⟩ (.int .i64 ((o.ch : Int) + 1))) :=
     ((k8.drewN nq).setCell (p := ⟨o.b, 5, none⟩) (Or.inl (by simp)) _)
    refine DiskR.upd I hq hd hs ho haft k27 (vl' := .slice qp (withoutL k s.l).length dp) (ch' := o.ch + 1) (Nat.le_refl _) (by omega) (by rw [hl2]; omega) ?_ (by rw [hl2]; exact pb) k9
    rw [hmo2, Nat.max_eq_left (by omega), hc2]
    exact setCellAt (i := 5) _ (show OR (w8.drewN nq) _ _ _ _ _ _ _ _ _ from r18)
 ·rw [if_pos (by simpa using hcode)] at hres
  obtain ⟨htl, hl2⟩ := hres
  have hne : ((chg s.cl false k ⟨#[]⟩) == 0) = false := by simpa using hcode
  generalize hcc : chg s.cl false k ⟨#[]⟩ = cc at *
  go_wp2_with (first
  | (go_at_call 131; refine (htl _ (Kept.refl _ _) hG2).mono ?_; rintro e w3 ⟨rfl, hk3⟩; have r13 : OR w3 o.b (some ⟨s.x, 0, none⟩) o.vl false s.cl s.mo o.ch o.lv o.wv := hk3.get r1 (by simp); have hm3 := r13.store; have v3 := r2.kept hk3 (by simp); have hq3 : LD w3 q s.a n may were (.pointer (some ⟨o.b, 0, none⟩)) := hk3.get q2 (by simp))
  | (refine wpList_load_seg rfl 192 (.tmp 43) rfl ⟨o.b, 1, none⟩ rfl _ hm3 ?_)
  | (go_at_call 133; refine (num_any _ _).mono ?_; rintro e w' ⟨rfl, hw'⟩; rw [hw']; clear hw' w')
  | (go_at_call 137; refine (RChanged_any _ _ _ _ _ _ _ _).mono ?_; rintro e w4 ⟨rfl, hk4⟩; rw [hcc]; have r14 : OR w4 o.b (some ⟨s.x, 0, none⟩) o.vl false s.cl s.mo o.ch o.lv o.wv := hk4.get r13 (by simp); have hm4 := r14.map; have v4 := v3.kept hk4 (by simp); have hq4 : LD w4 q s.a n may were (.pointer (some ⟨o.b, 0, none⟩)) := hk4.get hq3 (by simp); clear hm3))
  go_ret
  exact DiskR.same I hq hd hs ho haft hc2 hl2 (hk3.trans hk4)

end Go.Proofs.YtcklgafpgdhnaaaGreatDoor

namespace Go.Proofs.YtcklgafpgdhnaaaGreatDoor
open Go.RowKit

theorem Has_nil (n : Int) (may were : Value) (e wd b : Bool) (v : Value) (w : World) (hm : Maps w may 1) (hv : PL w 224 v []) :
  Calls Tryz.prog 165 #[.agg (rcells n may e were wd b), v] w fun ev w' => ev = .returned (.bool true) ∧ Kept [] w w' := by
 obtain ⟨_, ⟨_, h0⟩ | ⟨g, cap, cur, rfl, _, hh, _, _, _, h4⟩⟩ := hm
 ·omega
 have hc : w.cell? ⟨g, 0, none⟩ = some (.slice none 0 0) := by
  rw [cell_of_row _ _ _ _ _ _ hh]
  have := congrArg (fun x => x[0]?) h4
  simpa [nilMaps] using this
 have hg := lt_heap hh
 clear hh h4
 have HS : Hid (∀ W, Kept [] w W → Calls Tryz.prog 145 #[.slice none 0 0, v] W fun e w' => e = .returned (.bool true) ∧ Kept [] W w') := by
  intro W hW
  have := Same_any (.slice none 0 0) v [] [] W (PL.nil _ _) (hv.kept hW (by simp)) (by simp)
  simpa using this
 have hk := (Kept.refl [] w).alloc (.cells (rcells n (.slice (some ⟨g, 0, none⟩) 1 cap) e were wd b) 151)
 unfold rcells at *
 go_enter Tryz.func165, Tryz.ntmps165
 go_wp2
 refine wp_loop_rounds 1 ?_
 rw [rounds_succ]
 go_wp2_with (go_at_call 145; refine (HS.out _ hk).mono ?_; rintro e w2 ⟨rfl, hk2⟩)
 go_ret
 exact ⟨rfl, hk.trans hk2⟩

def FndR (I : Iface) (s : Sx) (q : Nat) (n : Int) (may were : Value) (L : List UInt8) (wr t : Int) (w : World) (e : Ending) (w' : World) : Prop :=
 e = .returned (.bool true) ∧ ∃ s' o, s'.a = s.a ∧ s'.g = s.g ∧ s'.n = s.n ∧ s'.mo = 0 ∧ o.ch = 0 ∧ o.xs = [] ∧ o.lv = .slice none 0 0 ∧ o.wv = .slice none 0 0 ∧ w.heap.size ≤ o.b ∧ LD w' q s.a n may were (.pointer (some ⟨o.b, 0, none⟩)) ∧ (∃ c, Dev w' s.a s.g s.n L c wr t) ∧ I.SI w' s' ∧ OI w' s' o ∧
  (∀ y ∈ s'.fp, y ∈ s.fp ∨ w.heap.size ≤ y) ∧ Kept (q :: s.a :: s.fp) w w'

theorem found_any (I : Iface) (s : Sx) (q : Nat) (n : Int) (may were sv : Value) (L : List UInt8) (c wr t : Int) (w : World) (hG : Glob w) (hgf : 1 ∉ s.fp) (hq : LD w q s.a n may were sv) (hm : Maps w may 1) (hd : Dev w s.a s.g s.n L c wr t) (hs : I.SI w s) (hcl : s.cl = false) (hl : s.l = []) (hmo : s.mo = 0) :
  Calls Tryz.prog 136 #[.pointer (some ⟨q, 0, none⟩), .pointer (some ⟨s.x, 0, none⟩)] w (FndR I s q n may were L wr t w) := by
 have c0 : w.cell? ⟨q, 0, none⟩ = some (.pointer (some ⟨s.a, 0, none⟩)) := cellAt hq rfl
 have HT : Hid (Calls _ _ _ _ _) := DTold_o s.a _ _ _ c wr t w hd.d
 have HSc : Hid (∀ lo hi m, Calls _ _ _ _ _) := fun lo hi m => I.scan w s L c wr t lo hi m hs hd
 have hga := (hG.dev hd).1
 have htl := fun W => Tl.nil W W (Kept.refl _ _)
 have nq : q ∉ s.a :: s.fp := by
  intro hx
  rcases List.mem_cons.1 hx with rfl | hx
  ·exact ne_tag hq hd.d (by decide) rfl
  ·exact I.ne hs ⟨_, _, _, hq, by decide⟩ hx
 have nm : ∀ b, may.ownBlock = some b → b ∉ s.a :: s.fp := by
  intro b hb hx
  have hb' := owns_tag hm hb
  rcases List.mem_cons.1 hx with rfl | hx
  ·exact ne_rows hb' ⟨_, _, hd.d⟩ (by decide) rfl
  ·obtain ⟨cs, fr, hh⟩ := hb'; exact I.ne hs ⟨_, _, _, hh, by decide⟩ hx
 go_enter Tryz.func136, Tryz.ntmps136
 go_wp2_with (first
  | (go_at_call 130; refine HT.out.mono ?_; rintro e w' ⟨rfl, hw'⟩; rw [hw']; clear hw' w')
  | (go_at_call 19; refine (HSc.out _ _ _).mono ?_; rintro e w1 ⟨s', v, err, rfl, haft, hc2, hl2, hres⟩; simp only [hcl, Bool.false_eq_true, if_false] at hres; obtain ⟨rfl, p1, f1⟩ := hres; have k1 := haft.2.2.2.2.2.2.2.1; have hG1 := hG.kept k1 (by simp; exact ⟨hga.symm, hgf⟩); have q1 : LD w1 q s.a n may were sv := k1.get hq nq; have m1 := owns_kept hm k1 nm; rw [hl] at p1; clear c0)
  | (go_at_call 131; refine (htl _ hG1).mono ?_; rintro e w2 ⟨rfl, hk2⟩; have p2 := p1.kept hk2 (by simp))
  | (go_at_call 144; refine (pairs_any v _ _ p2 (by simp [scanL])).mono ?_; rintro e w3 ⟨v3, rfl, p3, f3, hk3⟩; rw [show ∀ lo hi m, scanL lo hi m [] = [] by intros; simp [scanL]] at p3; obtain ⟨pp, cp, ev3⟩ := p3.shape; simp only [List.length_nil] at ev3; subst ev3; have k13 := hk2.trans hk3; have q3 : LD w3 q s.a n may were sv := k13.get q1 (by simp); have hl3 := q3.load; have m3 := owns_kept m1 k13 (by simp); have d3 : w3.cell? ⟨q, 5, none⟩ = some (.bool false) := cellAt q3 rfl)
  | (refine wpList_load_seg rfl 151 (.tmp 41) rfl ⟨q, 1, none⟩ rfl _ hl3 ?_)
  | (go_at_call 165; refine (Has_nil _ _ _ _ _ _ _ _ m3 p3).mono ?_; rintro e w4 ⟨rfl, hk4⟩; have q4 : LD w4 q s.a n may were sv := hk4.get q3 (by simp); have d4 : w4.cell? ⟨q, 5, none⟩ = some (.bool false) := cellAt q4 rfl; have p4 := p3.kept hk4 (by simp); have q5 := ((Kept.refl [] w4).alloc (.cells (opnc (some ⟨s.x, 0, none⟩) (.slice pp 0 cp) false false 0 0 (.slice none 0 0) (.slice none 0 0)) 195)).get q4 (by simp); have c57 := cellAt (j := 7) q5 rfl; have f57 := frozen_of_row _ _ 7 _ _ q5; unfold opnc at c57 f57; have c47 : w4.cell? ⟨q, 7, none⟩ = some sv := cellAt q4 rfl; have f47 : w4.frozen? ⟨q, 7, none⟩ = false := frozen_of_row _ _ _ _ _ q4; have hlq := lt_heap q4))
 go_ret
 obtain ⟨e1, e2, e3, e4, e5, ⟨c', hd'⟩, hs', _, hf⟩ := haft
 have k14 : Kept [] w1 w4 := k13.trans hk4
 have k45 : Kept [q] w4 ((w4.setCell ⟨q, 7, none⟩ (.pointer (some ⟨w4.heap.size, 0, none⟩))).alloc (.cells #[.pointer (some ⟨s.x, 0, none⟩), .slice pp 0 cp, .bool false, .bool false, .int .i64 0, .int .i64 0, .slice none 0 0, .slice none 0 0] 195)) := ((Kept.refl _ _).setCell (p := ⟨q, 7, none⟩) (Or.inl (by simp)) _).alloc _
 have q6 : LD (w4.setCell ⟨q, 7, none⟩ (.pointer (some ⟨w4.heap.size, 0, none⟩))) q s.a n may were (.pointer (some ⟨w4.heap.size, 0, none⟩)) := setCellAt (i := 7) _ q4
 have nrec := heap_alloc_new (w4.setCell ⟨q, 7, none⟩ (.pointer (some ⟨w4.heap.size, 0, none⟩))) (.cells #[.pointer (some ⟨s.x, 0, none⟩), .slice pp 0 cp, .bool false, .bool false, .int .i64 0, .int .i64 0, .slice none 0 0, .slice none 0 0] 195)
 have zs : (w4.setCell ⟨q, 7, none⟩ (.pointer (some ⟨w4.heap.size, 0, none⟩))).heap.size = w4.heap.size := by simp [World.setCell]
 rw [zs] at nrec
 have d4' := hd'.kept k14 (by simp) (by simp)
 have s4 := I.kept hs' k14 (by simp) (by simp)
 have ltq : LT w4 q := ⟨_, _, _, q4, by decide⟩
 have hl' : s'.l = [] := by rw [hl2, hl]
 have hmo' : s'.mo = 0 := by rw [e5, hl', hmo]; rfl
 have hcl' : s'.cl = false := by rw [hc2, hcl]
 refine ⟨rfl, s', ⟨w4.heap.size, .slice pp 0 cp, .slice none 0 0, .slice none 0 0, 0, []⟩, e2, e3, e4, hmo', rfl, rfl, rfl, rfl, Nat.le_trans k1.size k14.size, ((Kept.refl [] _).alloc _).get q6 (by simp), ⟨c', d4'.kept k45 (by simp; exact ne_tag d4'.d q4 (by decide)) (by simp; exact ne_tag d4'.b q4 (by decide))⟩,
  I.kept s4 k45 (by intro y hy; simp at hy; subst hy; exact I.ne s4 ltq) (by intro y hy; simp at hy; subst hy; exact Or.inl ltq), ⟨?_, ?_, ⟨World.ownsRow_nil _ _ _ _, World.ownsRow_nil _ _ _ _, (by intro g hg; simp [Value.ownBlock] at hg), (by intro x hx; cases hx)⟩, (by rw [hl']; simp)⟩, hf, ?_⟩
 ·rw [e1, hcl', hmo']; exact nrec
 ·rw [hl']; exact p4.kept k45 (fun g hg hx => by simp at hx; subst hx; exact ne_rows (p4.tag hg) ⟨_, _, q4⟩ (by decide) rfl)
 ·exact ((k1.mono (by intro x hx; exact List.mem_cons_of_mem _ hx)).trans (k14.mono (by simp))).trans (k45.mono (by intro x hx; simp at hx; subst hx; exact List.mem_cons_self))

end Go.Proofs.YtcklgafpgdhnaaaGreatDoor
