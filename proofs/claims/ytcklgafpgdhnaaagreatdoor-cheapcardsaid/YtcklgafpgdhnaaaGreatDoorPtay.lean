import Derived.Test.YtcklgafpgdhnaaaGreatDoorPtar
set_option maxRecDepth 100000
set_option maxHeartbeats 4000000
open List renaming getElem_toArray → zA, getElem_cons_succ → zB, getElem_cons_zero → zC, setIfInBounds_toArray → zD, set_cons_succ → zE, set_cons_zero → zF
namespace Go.Proofs.YtcklgafpgdhnaaaGreatDoor
open Go.RowKit

def TV (w : World) (A : Nat → Prop) (t : Tr) (r : Value) : Prop := (r = .nilIface ∧ t = ⟨0, ([] : List Pr), 0⟩) ∨ (ND w A t.h t.n r ∧ nilN t.h t.n = false)
theorem TV.kept {S : List Nat} {w w' : World} {A A' : Nat → Prop} {t : Tr} {r : Value} (h : TV w A t r) (k : Kept S w w') (hS : ∀ y ∈ S, ¬ A y) (hA : ∀ y, A y → A' y) : TV w' A' t r := h.imp id fun h => ⟨ND.kept k hS hA h.1, h.2⟩
theorem TV.k {w W : World} {A : Nat → Prop} {t : Tr} {r : Value} (hx : TV w A t r) (k : Kept [] w W) : TV W A t r := TV.kept hx k (by simp) (fun _ h => h)
theorem TV.shape {w : World} {A : Nat → Prop} {t : Tr} {r : Value} (h : TV w A t r) : r = .nilIface ∨ ∃ t v, r = .iface t v := by
 rcases h with ⟨rfl, _⟩ | h
 ·exact Or.inl rfl
 ·exact Or.inr h.1.iface
theorem TV.one {w : World} {A : Nat → Prop} {t : Tr} {r : Value} (h : TV w A t r) : r.oneCell' = true := by
 rcases h.shape with rfl | ⟨_, _, rfl⟩ <;> rfl

theorem top_any {w : World} {A : Nat → Prop} {t : Tr} {r : Value} (h : TV w A t r) : Calls Tryz.prog 69 #[.agg #[.string ⟨#[]⟩, .int .i64 t.pl, r]] w fun e w' => ∃ x, e = .returned x ∧ ND w' A t.h t.n x ∧ Kept [] w w' := by
 rcases h with ⟨rfl, rfl⟩ | ⟨h, _⟩
 ·go_enter Tryz.func69, Tryz.ntmps69
  go_wp2
  go_ret
  exact ⟨_, rfl, ⟨_, rfl, Or.inl ⟨rfl, rfl⟩, fun y hy => by cases hy⟩, (Kept.refl _ _).alloc _⟩
 ·obtain ⟨ty, v, rfl⟩ := h.iface
  have HN : Hid _ := h
  clear h
  go_enter Tryz.func69, Tryz.ntmps69
  go_wp2
  go_ret
  exact ⟨_, rfl, ND.k HN.out ((Kept.refl _ _).alloc _), (Kept.refl _ _).alloc _⟩

def preT (t : Tr) : List Nat := if nilN t.h t.n then [] else t.pl :: preN t.h t.n
theorem preT_cnt (t : Tr) : (preT t).length = cntT t := by
 unfold preT cntT
 split
 ·rfl
 ·rw [List.length_cons, pre_cnt]

theorem Twalk_any {fid : FuncId} {c : Value} {S : List Nat} {I : List Nat → World → Prop} {Ok : List Nat → Prop} {A : Nat → Prop} {w : World} (hv : Vis fid c S I Ok A w) {t : Tr} {r : Value} (h : TV w A t r) (hAb : ∀ z, A z → z < w.heap.size) (hcnt : cntT t ≤ 1000000) (seen : List Nat) (W : World) (hok : Ok (seen ++ preT t)) (hI : I seen W) :
  Calls Tryz.prog 94 #[.agg #[.string ⟨#[]⟩, .int .i64 t.pl, r], .func (.func fid) #[] #[c]] W (WalkR S I (seen ++ preT t) W) := by
 rcases h with ⟨rfl, rfl⟩ | ⟨h, hn⟩
 ·have HI : Hid (I (seen ++ preT ⟨0, ([] : List Pr), 0⟩) (W.alloc (.cells #[.string ⟨#[]⟩, .int .i64 0, .nilIface] 82))) := by
   show I _ _
   have : seen ++ preT ⟨0, ([] : List Pr), 0⟩ = seen := by simp [preT, nilN]
   rw [this]
   exact hv.fresh _ _ _ hI ((Kept.refl _ _).alloc _)
  clear hI hv hok
  go_enter Tryz.func94, Tryz.ntmps94
  go_wp2
  go_end0
  exact ⟨rfl, HI.out, (Kept.refl S W).alloc _⟩
 ·obtain ⟨ty, v, rfl⟩ := h.iface
  have k1 := (Kept.refl [] W).alloc (.cells #[.string ⟨#[]⟩, .int .i64 (t.pl : Int), .iface ty v] 82)
  have hc : cntN t.h t.n ≤ 1000000 := by unfold cntT at hcnt; rw [hn] at hcnt; simpa using hcnt
  have he : seen ++ (t.pl :: preN t.h t.n) = seen ++ preT t := by simp [preT, hn]
  have HW : Hid (Calls _ _ _ _ _) := walk_any hv t.h seen ⟨#[]⟩ t.pl t.n (.iface ty v) _ h hAb hc (by rw [he]; exact hok) (hv.fresh _ _ _ hI k1)
  rw [he] at HW
  clear hI hv h hc he hcnt hn hok
  go_enter Tryz.func94, Tryz.ntmps94
  go_wp2_with (go_at_call 126; refine HW.out.mono ?_; rintro e w3 ⟨rfl, hI3, hk3⟩)
  go_end0
  exact ⟨rfl, hI3, (k1.mono (by simp)).trans hk3⟩

def NdI (w : World) (b : Nat) (seen : List Nat) (W : World) : Prop := W.heap[b]? = some (.cells #[.int .i64 (wrap64 (seen.length : Int))] 3 (0, 0)) ∧ Kept [b] w W

theorem Nodes1_any (w : World) (b : Nat) (seen : List Nat) (W : World) (f : ByteArray) (p : Nat) (x : Value) (h : NdI w b seen W) : Calls Tryz.prog 95 #[.agg #[.string f, .int .i64 p, x], .pointer (some ⟨b, 0, none⟩)] W fun e W' => e = .returned (.tuple #[]) ∧ NdI w b (seen ++ [p]) W' ∧ Kept [b] W W' := by
 have k1 := (Kept.refl [] W).alloc (.cells #[.string f, .int .i64 p, x] 80)
 have n1 := k1.get h.1 (by simp)
 have hlt := lt_heap h.1
 have hw64 : wrap64 (wrap64 (seen.length : Int) + 1) = wrap64 ((seen ++ [p]).length : Int) := by
  rw [List.length_append]
  simp only [wrap64, List.length_cons, List.length_nil]
  omega
 obtain ⟨m, hm⟩ : ∃ m, m = wrap64 (seen.length : Int) := ⟨_, rfl⟩
 rw [← hm] at n1 hw64
 have h1 := h.1
 rw [← hm] at h1
 have c0 : (W.alloc (.cells #[.string f, .int .i64 p, x] 80)).cell? ⟨b, 0, none⟩ = some (.int .i64 m) := cellAt n1 rfl
 have f0 : (W.alloc (.cells #[.string f, .int .i64 p, x] 80)).frozen? ⟨b, 0, none⟩ = false := frozen_of_row _ _ _ _ _ n1
 have k2 : Kept [b] W ((W.setCell ⟨b, 0, none⟩ (.int .i64 (wrap64 (m + 1)))).alloc (.cells #[.string f, .int .i64 p, x] 80)) := ((Kept.refl [b] W).setCell (p := ⟨b, 0, none⟩) (Or.inl (by simp)) _).alloc _
 have n2 : ((W.setCell ⟨b, 0, none⟩ (.int .i64 (wrap64 (m + 1)))).alloc (.cells #[.string f, .int .i64 p, x] 80)).heap[b]? = some (.cells #[.int .i64 (wrap64 (m + 1))] 3 (0, 0)) := ((Kept.refl [] _).alloc _).get (setCellAt (i := 0) (.int .i64 (wrap64 (m + 1))) h1) (by simp)
 have HR : Hid (NdI w b (seen ++ [p]) ((W.setCell ⟨b, 0, none⟩ (.int .i64 (wrap64 (m + 1)))).alloc (.cells #[.string f, .int .i64 p, x] 80)) ∧ Kept [b] W ((W.setCell ⟨b, 0, none⟩ (.int .i64 (wrap64 (m + 1)))).alloc (.cells #[.string f, .int .i64 p, x] 80))) :=
  ⟨⟨by rw [n2, hw64], h.2.trans k2⟩, k2⟩
 clear h n1 k1 k2 n2 hm h1 hw64
 go_enter Tryz.func95, Tryz.ntmps95
 go_wp2
 go_end0
 exact ⟨rfl, HR.out.1, HR.out.2⟩

theorem makes0' (fn : Fn) (first cap : Array Value) (w : World) : (Instr.makeFunc fn first cap).run Tryz.prog w = .ok (.func fn first cap) w := rfl

theorem Nodes_any {w : World} {A : Nat → Prop} {t : Tr} {r : Value} (h : TV w A t r) (hAb : ∀ z, A z → z < w.heap.size) (hc : cntT t ≤ 1000000) : Calls Tryz.prog 60 #[.agg #[.string ⟨#[]⟩, .int .i64 t.pl, r]] w fun e w' => e = .returned (.int .i64 (cntT t : Nat)) ∧ Kept [] w w' := by
 have hmf := makes0'
 have k1 := ((Kept.refl [] w).alloc (.cells #[.string ⟨#[]⟩, .int .i64 (t.pl : Int), r] 82)).alloc (.cells #[.int .i64 0] 3)
 have n1 : ((w.alloc (.cells #[.string ⟨#[]⟩, .int .i64 (t.pl : Int), r] 82)).alloc (.cells #[.int .i64 0] 3)).heap[w.heap.size + 1]? = some (.cells #[.int .i64 0] 3 (0, 0)) := by
  have := heap_alloc_new (w.alloc (.cells #[.string ⟨#[]⟩, .int .i64 (t.pl : Int), r] 82)) (.cells #[.int .i64 0] 3)
  rwa [World.size_alloc] at this
 have n0 := ((Kept.refl [] (w.alloc (.cells #[.string ⟨#[]⟩, .int .i64 (t.pl : Int), r] 82))).alloc (.cells #[.int .i64 0] 3)).get (heap_alloc_new w (.cells #[.string ⟨#[]⟩, .int .i64 (t.pl : Int), r] 82)) (by simp)
 have hsz : ((w.alloc (.cells #[.string ⟨#[]⟩, .int .i64 (t.pl : Int), r] 82)).alloc (.cells #[.int .i64 0] 3)).heap.size = w.heap.size + 2 := by simp
 generalize hW1 : (w.alloc (.cells #[.string ⟨#[]⟩, .int .i64 (t.pl : Int), r] 82)).alloc (.cells #[.int .i64 0] 3) = w1 at *
 have HW1 : Hid _ := hW1
 clear hW1
 have hv : Vis 95 (.pointer (some ⟨w.heap.size + 1, 0, none⟩)) [w.heap.size + 1] (NdI w1 (w.heap.size + 1)) (fun _ => True) A w1 :=
  ⟨fun _ _ => by kernel_rfl, fun seen W f p x _ hI => Nodes1_any w1 _ seen W f p x hI, fun seen W W' hI k => ⟨k.get hI.1 (by simp), hI.2.trans2 k (by simp)⟩, fun _ _ hI => hI.2, by intro y hy; simp at hy; omega, by intro y hy hA; simp at hy; have := hAb y hA; omega, fun _ _ _ => trivial⟩
 have HW : Hid (Calls _ _ _ _ _) := Twalk_any hv (h.k k1) (fun z hz => by have := hAb z hz; omega) hc [] w1 trivial ⟨by rw [n1]; simp [wrap64], Kept.refl _ _⟩
 have HL : Hid (wrap64 ((([] : List Nat) ++ preT t).length : Int) = ((cntT t : Nat) : Int)) := by
  show _ = _
  rw [List.nil_append, preT_cnt]
  simp only [wrap64]
  omega
 obtain ⟨ls, hls⟩ : ∃ ls, ls = ([] : List Nat) ++ preT t := ⟨_, rfl⟩
 rw [← hls] at HW HL
 have hr := h.one
 have c00 : w1.cell? ⟨w.heap.size, 0, none⟩ = some (.string ⟨#[]⟩) := cellAt n0 rfl
 have c01 : w1.cell? ⟨w.heap.size, 1, none⟩ = some (.int .i64 t.pl) := cellAt n0 rfl
 have c02 : w1.cell? ⟨w.heap.size, 2, none⟩ = some r := cellAt n0 rfl
 clear h hv hls
 go_enter Tryz.func60, Tryz.ntmps60
 go_wp2_with fail
 rw [HW1.out]
 refine HW.out.mono ?_
 rintro e w2 ⟨rfl, hI2, hk2⟩
 have n2 := hI2.1
 rw [HL.out] at n2
 have c2 : w2.cell? ⟨w.heap.size + 1, 0, none⟩ = some (.int .i64 (cntT t : Nat)) := cellAt n2 rfl
 clear n2 hI2
 go_wp2
 go_ret
 exact ⟨rfl, k1.trans2 hk2 (by intro x hx; simp at hx; subst hx; exact Or.inr (by omega))⟩

theorem leaf_len_step (k : ByteArray) (h : Nat) (IH : ∀ (f : ByteArray) (n : Nd h), WFN h f n → FullN h n → sizeN h n ≤ 1000 → (leafN k h n).length ≤ 1000) (ks : List (Kid h)) (hk : KW h ks) (hf : ∀ a ∈ ks, Rt h a.2 ∧ FullN h a.2) (hlt : wayK ks k < ks.length) : (leafN k (h + 1) ks).length ≤ 1000 := by
 obtain ⟨q, hq⟩ : ∃ q, ks[wayK ks k]? = some q := ⟨_, List.getElem?_eq_getElem hlt⟩
 have hm := List.mem_of_getElem? hq
 rw [leafN_succ k h ks q hq]
 exact IH q.1 q.2 (hk.all q hm) (hf q hm).2 (by have := (hf q hm).1.2; omega)
theorem leaf_len (k : ByteArray) : ∀ (h : Nat) (f : ByteArray) (n : Nd h), WFN h f n → FullN h n → sizeN h n ≤ 1000 → (leafN k h n).length ≤ 1000
 | 0, _, _, hw, _, hs => (Sm.of hw hs).2
 | h + 1, f, ks, hw, hf, _ => by
  have hlt := way_lt_len k hw
  exact leaf_len_step k h (leaf_len k h) ks ((WFN_succ h f ks).1 hw).2 ((FullN_succ h ks).1 hf) hlt

theorem TGet_any {w : World} {A : Nat → Prop} {t : Tr} {r : Value} (h : TV w A t r) (ht : TW t) (k : ByteArray) : Calls Tryz.prog 46 #[.agg #[.string ⟨#[]⟩, .int .i64 t.pl, r], .string k] w fun e w' => e = .returned (.tuple #[.string ((getL k (flatT t)).getD ⟨#[]⟩), .bool (getL k (flatT t)).isSome]) ∧ Kept [] w w' := by
 have HT : Hid (∀ W, Kept [] w W → Calls Tryz.prog 69 #[.agg #[.string ⟨#[]⟩, .int .i64 t.pl, r]] W _) := fun W kW => top_any (h.k kW)
 have HC : Hid (∀ W x, ND W A t.h t.n x → _) := fun W x hx => leaf_nd k t.h W A nil8 t.n x hx ht.wf ht.full (by have := ht.hi; omega)
 obtain ⟨hsrt, hget⟩ := leaf_ok k t.h nil8 t.n ht.wf (ge_nil k)
 have hget' : getL k (leafN k t.h t.n) = getL k (flatT t) := hget
 rw [← hget']
 have hlen : (leafN k t.h t.n).length ≤ 1000 := leaf_len k t.h nil8 t.n ht.wf ht.full (by have := ht.hi; omega)
 generalize leafN k t.h t.n = l at *
 have hpos := pos_pK (srt_rise hsrt) k
 have hres := get_pos hsrt hpos (bK_iff (l.map (·.1)) k)
 have hbi := bK_iff (l.map (·.1)) k
 have HF : Hid (∀ W v, LF W v l → Calls Tryz.prog 70 #[v, .string k] W _) := fun W v hl => (findP_any v (l.map pe) (l.map (·.1)) k W hl (pe_keys l) (srt_rise hsrt) (by simp; omega)).mono fun _ _ h => find_det h
 have hib := hpos.1
 rw [List.length_map] at hib
 generalize pK (l.map (·.1)) k = i at *
 generalize bK (l.map (·.1)) k = b at *
 clear hpos hget hget' hsrt h ht
 cases b with
 | false =>
  have HR : Hid (getL k l = none) := hres
  clear hres hbi
  go_enter Tryz.func46, Tryz.ntmps46
  go_wp2_with (first
   | (go_at_call 69; refine (HT.out _ ((Kept.refl _ _).alloc _)).mono ?_; rintro e w1 ⟨x, rfl, hx, hk1⟩; obtain ⟨f, v, ⟨ty, ex, hm, he⟩, hcall⟩ := HC.out w1 x hx; have HCall : Hid (∀ W, Kept [] w1 W → _) := hcall; clear hcall hx; subst ex)
   | (go_at_fn f; refine (HCall.out _ (Kept.refl _ _)).mono ?_; rintro e w2 ⟨v2, rfl, hl2, hk2⟩; have HL2 : Hid _ := HF.out w2 v2 hl2; obtain ⟨p2, c2, ev2⟩ := SL.shape hl2; rw [List.length_map] at ev2; subst ev2)
   | (go_at_call 70; refine (HF.out _ _ hl2).mono ?_; rintro e w3 ⟨rfl, hk3⟩))
  go_ret2
  exact ⟨by rw [HR.out]; rfl, (((((Kept.refl _ _).alloc _).trans hk1).trans hk2).trans hk3)⟩
 | true =>
  have hil : i < l.length := by
   have := (List.getElem?_eq_some_iff.1 (hbi.1 rfl)).1
   rwa [List.length_map] at this
  obtain ⟨q, hq⟩ : ∃ q, l[i]? = some q := ⟨_, List.getElem?_eq_getElem hil⟩
  rw [hq] at hres
  have HR : Hid (getL k l = some q.2) := hres
  have HCell : Hid (∀ W v, LF W v l → ∃ g off cap, v = .slice (some ⟨g, off, none⟩) l.length cap ∧ ∀ W', Kept [] W W' → W'.cell? ⟨g, off + i * 2 + 1, none⟩ = some (.string q.2)) := by
   intro W v hl
   obtain ⟨g, off, cap, cur, ev, hg, hc1, hc2, hc3, hcur⟩ := SL.at_ hl (by simp; omega)
   rw [List.length_map] at ev
   refine ⟨g, off, cap, ev, fun W' kW => ?_⟩
   have := (hcur i (pe q) (by rw [List.getElem?_map, hq]; rfl)).2
   rw [cell_of_row _ _ _ _ _ _ (kW.get hg (by simp))]
   exact this 1 _ rfl
  clear hres hbi hq
  go_enter Tryz.func46, Tryz.ntmps46
  go_wp2_with (first
   | (go_at_call 69; refine (HT.out _ ((Kept.refl _ _).alloc _)).mono ?_; rintro e w1 ⟨x, rfl, hx, hk1⟩; obtain ⟨f, v, ⟨ty, ex, hm, he⟩, hcall⟩ := HC.out w1 x hx; have HCall : Hid (∀ W, Kept [] w1 W → _) := hcall; clear hcall hx; subst ex)
   | (go_at_fn f; refine (HCall.out _ (Kept.refl _ _)).mono ?_; rintro e w2 ⟨v2, rfl, hl2, hk2⟩; obtain ⟨g, off, cp, ev2, hcell⟩ := HCell.out w2 v2 hl2; have HC2 : Hid _ := hcell; clear hcell; subst ev2)
   | (go_at_call 70; refine (HF.out _ _ hl2).mono ?_; rintro e w3 ⟨rfl, hk3⟩; have c3 := HC2.out w3 hk3)
   | (refine wpList_val rfl _ _ (exec_index 116 (.tmp 20) (.tmp 21) rfl g off l.length cp i 2 rfl rfl 122 Tryz.underlying116 stp hil (off + i * 2) rfl) ?_))
  go_ret2
  exact ⟨by rw [HR.out]; rfl, (((((Kept.refl _ _).alloc _).trans hk1).trans hk2).trans hk3)⟩

end Go.Proofs.YtcklgafpgdhnaaaGreatDoor
