import Derived.Test.YtcklgafpgdhnaabGreatDoorPqbk
set_option maxRecDepth 100000
set_option maxHeartbeats 4000000
open Go.Proofs.Tryz
namespace Go.Proofs.YtcklgafpgdhnaabGreatDoor
open Go.RowKit
def SdOk (d : Nat) : Prop := d <= 1000 -> ∀ (A : Nat -> Prop) (u : UNd d) (x : Value) (f t : ByteArray) (w : World), UND w A d u x -> okU d u -> ∃ fn v, qY "store/tree.sound" x fn v /\ ∀ W, y5 [] w W -> Calls prog fn #[v, .string f, .string t] W (SdR (qi d f t u) W)
theorem QaD : ∀ (d : Nat) (u : UNd d) (f t : ByteArray) (h : Nat), qi d f t u = some h -> h <= d
 | 0, _, _, _, _, h => by cases h
 | d + 1, .inl l, f, t, x, h => by
  simp only [qi] at h
  split at h
  ·cases h; omega
  ·cases h
 | d + 1, .inr ks, f, t, x, h => by
  simp only [qi] at h
  split at h
  ·obtain ⟨b, hb, hx⟩ := Option.map_eq_some_iff.1 h
   have hall := (Qab hb).2
   cases ks with
   | nil => rename_i hs; cases hs
   | cons k r =>
    have := QaD d k.2 _ _ _ (hall 0 k rfl).1
    omega
  ·cases h
def SnI (d : Nat) (t : ByteArray) (ks : List (qI (UNd d))) (w : World) (hv i : Value) (wr : World) : Prop :=
 ∃ (j : Nat) (hi : Option Nat), j <= ks.length /\ hv = .int .i64 (hi.getD 0 : Nat) /\ i = .int .i64 (j : Nat) /\ qJ (qi d) (szU d) t hi (ks.drop j) = qJ (qi d) (szU d) t none ks /\ (j = 0 ↔ hi = none) /\ (∀ c, hi = some c -> c <= d) /\ y5 [] w wr
theorem QaE (d : Nat) (hdb : d <= 1000) (IH : SdOk d) (A : Nat -> Prop) (v : Value) (xs : List KE) (ks : List (qI (UNd d))) (f t : ByteArray) (w : World) (h : SL w 75 3 v (xs.map ke)) (hf : F2 (fun (k : qI (UNd d)) (e : KE) => (e.1 = k.1 /\ e.3 = k.3) /\ UND w A d k.2 e.2) ks xs) (ho : okU (d + 1) (.inr ks)) :
  Calls prog 222 #[v, .string f, .string t] w (SdR (qi (d + 1) f t (.inr ks)) w) := by
 have hok := ho.2
 have hlen : xs.length = ks.length := hf.1.symm
 have h11 := ho.1
 have hsh : ∀ x ∈ xs, ∃ t v, x.2 = .iface t v := by
  intro x hx
  obtain ⟨i, hi⟩ := List.mem_iff_getElem?.1 hx
  have hl : i < ks.length := by rw [hf.1]; exact (List.getElem?_eq_some_iff.1 hi).1
  exact (hf.2 i _ x (List.getElem?_eq_getElem hl) hi).2.iface
 have hkeys : (xs.map fun x => x.1) = ks.map fun k => k.1 := by
  apply List.ext_getElem?
  intro i
  rw [List.getElem?_map, List.getElem?_map]
  rcases Nat.lt_or_ge i ks.length with hi | hi
  ·obtain ⟨b, hb, hr⟩ := hf.get (List.getElem?_eq_getElem hi)
   rw [hb, List.getElem?_eq_getElem hi]
   simp [hr.1.1]
  ·rw [List.getElem?_eq_none (by rw [hlen]; exact hi), List.getElem?_eq_none hi]
   rfl
 have HRi := fun W (k : y5 [] w W) => Qaw v xs f t W (SL.kept h k) (by rw [hlen]; omega) (fun x hx => by obtain ⟨t, v, e⟩ := hsh x hx; rw [e]; rfl)
 rw [hkeys] at HRi
 have HSn : Hid (qi (d + 1) f t (.inr ks) = if sndB f t ks then (qJ (qi d) (szU d) t none ks).map (· + 1) else none) := rfl
 obtain ⟨pv, c, ev⟩ := SL.shape h
 rw [List.length_map, hlen] at ev
 subst ev
 by_cases h1 : 1 < ks.length
 rotate_left
 ·have h1' : ¬ (1 : Int) < (ks.length : Int) := by omega
  have HB : Hid (qi (d + 1) f t (.inr ks) = none) := by
   show _ = _
   rw [HSn.out]
   cases ks with
   | nil => rfl
   | cons k r =>
    have : sndB f t (k :: r) = false := by simp only [sndB]; rw [decide_eq_false h1]; rfl
    rw [this]
    rfl
  clear HRi hf hok hkeys hsh HSn
  generalize ks.length = m at *
  go_enter func222, ntmps222
  go_wp2_with (go_at_call 141; refine (gg _).mono ?_; rintro e w2 ⟨ht, k2⟩; obtain ⟨g, o, rfl, hff⟩ := ht.ex)
  refine ⟨rfl, ?_⟩
  rw [HB.out]
  exact ⟨ht, k2⟩
 have h1' : (1 : Int) < (ks.length : Int) := by omega
 obtain ⟨k0, r0, ek⟩ : ∃ k0 r0, ks = k0 :: r0 := by
  cases ks with
  | nil => simp at h1
  | cons a r => exact ⟨a, r, rfl⟩
 obtain ⟨x0, y0, ex0⟩ : ∃ x0 y0, xs = x0 :: y0 := by
  cases xs with
  | nil => rw [ek] at hlen; simp at hlen
  | cons a r => exact ⟨a, r, rfl⟩
 have hx0 : x0.1 = k0.1 := (hf.2 0 k0 x0 (by rw [ek]; rfl) (by rw [ex0]; rfl)).1.1
 have HFi0 := Q4P (.slice pv ks.length c) x0 y0 w (by rw [<- ex0]; exact h)
 rw [hx0] at HFi0
 have HFi : Hid (Calls _ _ _ _ _) := HFi0
 have HSb : Hid (sndB f t ks = (be k0.1 f && qp false (ks.map fun k => k.1) f t)) := by
  show _ = _
  rw [ek]
  simp only [sndB]
  rw [<- ek, decide_eq_true h1]
  rfl
 clear HFi0
 cases hb1 : be k0.1 f with
 | false =>
  have hb1' : (k0.1.toList == f.toList) = false := hb1
  have HB : Hid (qi (d + 1) f t (.inr ks) = none) := by
   show _ = _
   rw [HSn.out, HSb.out, hb1]
   rfl
  clear HRi hf hok hkeys hsh HSn HSb hb1 hx0 ek ex0
  generalize ks.length = m at *
  go_enter func222, ntmps222
  go_wp2_with (first
   | (go_at_call 216; refine HFi.out.mono ?_; rintro e w0 ⟨rfl, k1⟩)
   | (go_at_call 141; refine (gg _).mono ?_; rintro e w2 ⟨ht, k2⟩; obtain ⟨g, o, rfl, hff⟩ := ht.ex))
  refine ⟨rfl, ?_⟩
  rw [HB.out]
  exact ⟨ht, k1.trans k2⟩
 | true =>
 have hb1' : (k0.1.toList == f.toList) = true := hb1
 cases hb2 : qp false (ks.map fun k => k.1) f t with
 | false =>
  rw [hb2] at HRi
  have HR : Hid (∀ W, y5 [] w W -> Calls prog 230 #[.slice pv ks.length c, .string f, .string t] W fun e w' => e = .returned (.bool false) /\ y5 [] W w') := HRi
  have HB : Hid (qi (d + 1) f t (.inr ks) = none) := by
   show _ = _
   rw [HSn.out, HSb.out, hb1, hb2]
   rfl
  clear HRi hf hok hkeys hsh HSn HSb hb1 hx0 ek ex0 hb2
  generalize ks.length = m at *
  go_enter func222, ntmps222
  go_wp2_with (first
   | (go_at_call 216; refine HFi.out.mono ?_; rintro e w0 ⟨rfl, k1⟩)
   | (go_at_call 230; refine (HR.out _ k1).mono ?_; rintro e w1 ⟨rfl, k2⟩)
   | (go_at_call 141; refine (gg _).mono ?_; rintro e w2 ⟨ht, k3⟩; obtain ⟨g, o, rfl, hff⟩ := ht.ex))
  refine ⟨rfl, ?_⟩
  rw [HB.out]
  exact ⟨ht, (k1.trans k2).trans k3⟩
 | true =>
 rw [hb2] at HRi
 have HR : Hid (∀ W, y5 [] w W -> Calls prog 230 #[.slice pv ks.length c, .string f, .string t] W fun e w' => e = .returned (.bool true) /\ y5 [] W w') := HRi
 have HB : Hid (qi (d + 1) f t (.inr ks) = (qJ (qi d) (szU d) t none ks).map (· + 1)) := by
  show _ = _
  rw [HSn.out, HSb.out, hb1, hb2]
  rfl
 have HBad : Hid (qJ (qi d) (szU d) t none ks = none -> ∀ e w', Thr 7 e w' -> y5 [] w w' -> SdR (qi (d + 1) f t (.inr ks)) w e w') := by
  intro hg e w' ht hk
  rw [HB.out, hg]
  exact ⟨ht, hk⟩
 have HH : Hid (SL w 75 3 (.slice pv ks.length c) (xs.map ke)) := h
 clear HRi hkeys HSn HSb hb1 hx0 ek ex0 hb2
 obtain ⟨m, em⟩ : ∃ m, m = ks.length := ⟨_, rfl⟩
 have HM : Hid (m = ks.length) := em
 rw [<- em] at h1 h1' HFi HR HH h11 ⊢
 clear h em
 go_enter func222, ntmps222
 go_wp2_with (first
  | (go_at_call 216; refine HFi.out.mono ?_; rintro e w0 ⟨rfl, k1⟩)
  | (go_at_call 230; refine (HR.out _ k1).mono ?_; rintro e w1 ⟨rfl, k2⟩)
  | (go_at_call 141; refine (gk _).mono ?_; rintro e w2 ⟨rfl, ew⟩; rw [ew]; clear ew w2))
 go_loopw [6, 29] (fun hv i wr => SnI d t ks w hv i wr) (fun _ i _ => m - (intOf i).toNat)
 case atStart => exact ⟨0, none, Nat.zero_le _, rfl, rfl, rfl, by simp, by simp, k1.trans k2⟩
 case round =>
  obtain ⟨j, hi, hjl, rfl, rfl, hgo, hj, hcap, hkr⟩ := hrel
  rw [<- HM.out] at hjl
  by_cases hlt : j < m
  ·have hlt' : (j : Int) < (m : Int) := by omega
   obtain ⟨k, hq⟩ : ∃ k, ks[j]? = some k := ⟨_, List.getElem?_eq_getElem (by rw [<- HM.out]; exact hlt)⟩
   obtain ⟨x, hx, hr⟩ := hf.get hq
   obtain ⟨ty, vv, ex⟩ := hr.2.iface
   have hr1 : x.1 = k.1 := hr.1.1
   obtain ⟨g, off, cap, cur, e, hg, hc1, hc2, hc3, hcur⟩ := (SL.kept HH.out hkr).at_ (by rw [List.length_map, hlen, <- HM.out]; omega)
   rw [List.length_map, hlen, <- HM.out] at e
   cases e
   have hld := gG (P := prog) (ty := 75) _ hg (hcur j _ (by rw [List.getElem?_map, hx]; rfl)) underlying75 stk
   simp only [ke, ex] at hld
   have hdr : ks.drop j = k :: ks.drop (j + 1) := by
    obtain ⟨hlt2, e2⟩ := List.getElem?_eq_some_iff.1 hq
    rw [List.drop_eq_getElem_cons hlt2, e2]
   have hu : UND w A d k.2 (.iface ty vv) := ex ▸ hr.2
   obtain ⟨fz, vz, ⟨t2, e2, hm2, he2⟩, hcz⟩ := QaB hu (hok k (List.mem_of_getElem? hq)).2.2
   cases e2
   have HSz : Hid (∀ W, y5 [] w W -> Calls prog fz #[vv] W fun e w' => e = .returned (.int .i64 (szU d k.2 : Nat)) /\ y5 [] W w') := hcz
   have hszb : szU d k.2 <= 122 := by
    have hoo := (hok k (List.mem_of_getElem? hq)).2.2
    cases d with
    | zero => simp [szU]
    | succ d =>
     cases hu : k.2 with
     | inl l => rw [hu] at hoo; exact hoo.2
     | inr l => rw [hu] at hoo; exact hoo.1
   have hr3 : x.3 = k.3 := hr.1.2
   rw [hr1, hr3] at hld
   clear hcz hr hr1 hr3 ex
   by_cases hnl : j + 1 < m
   ·obtain ⟨kn, hqn⟩ : ∃ kn, ks[j + 1]? = some kn := ⟨_, List.getElem?_eq_getElem (by rw [<- HM.out]; exact hnl)⟩
    obtain ⟨xn, hxn, hrn⟩ := hf.get hqn
    have hnl' : (j : Int) + 1 < (m : Int) := by omega
    have hlt2 : j + 1 < m := hnl
    have hnxt : (((ks.drop (j + 1))[0]?).map fun q => q.1).getD t = kn.1 := by
     rw [List.getElem?_drop, Nat.add_zero, hqn]
     rfl
    have HNx : Hid (∀ W, y5 [] wr W -> W.cell? ⟨g, off + (j + 1) * 3, none⟩ = some (.string kn.1)) := by
     intro W kW
     rw [cell_of_row _ _ _ _ _ _ (kW.get hg (by simp))]
     have := (hcur (j + 1) (ke xn) (by rw [List.getElem?_map, hxn]; rfl)).2 0 _ rfl
     rw [Nat.add_zero] at this
     rw [this]
     exact congrArg (fun z => some (Value.string z)) hrn.1.1
    clear hcur hrn hxn
    have HSd0 := IH hdb A k.2 (.iface ty vv) k.1 kn.1 w hu (hok k (List.mem_of_getElem? hq)).2.2
    obtain ⟨fs, vs, ⟨t1, e1, hm1, he1⟩, hcs⟩ := HSd0
    cases e1
    have HSd : Hid (∀ W, y5 [] w W -> Calls prog fs #[vv, .string k.1, .string kn.1] W (SdR (qi d k.1 kn.1 k.2) W)) := hcs
    have hstep : qJ (qi d) (szU d) t hi (ks.drop j) = match qi d k.1 kn.1 k.2 with
      | none => none
      | some b => if 40 <= szU d k.2 /\ (hi = none \/ hi = some b) then qJ (qi d) (szU d) t (some b) (ks.drop (j + 1)) else none := by
     rw [hdr, Qac, hnxt]
     cases qi d k.1 kn.1 k.2 <;> rfl
    clear hcs
    cases hs : qi d k.1 kn.1 k.2 with
    | none =>
     have HSe : Hid (qi d k.1 kn.1 k.2 = none) := hs
     rw [hstep, hs] at hgo
     have HFin : Hid (qJ (qi d) (szU d) t none ks = none) := hgo.symm
     clear hgo hstep hs
     go_wp2_with (first
      | (refine y8 rfl _ _ (ya 180 (.tmp 27) (.tmp 29) rfl g off m c j 3 rfl rfl 75 underlying180 stk hlt (off + j * 3) rfl) ?_)
      | (refine ye rfl 75 (.tmp 32) rfl ⟨g, off + j * 3, none⟩ rfl _ hld ?_)
      | (refine yc rfl 8 rfl 75 rfl _ (jP _) ?_; intro wa na ka hsa; clear hsa)
      | (refine yb rfl 75 (.tmp 8) (.tmp 33) rfl wr.heap.size #[.string k.1, .int .i64 (k.3 : Nat), .iface ty vv] rfl rfl 75 _ na stk rfl (yU (qQ _ _ rfl)) ?_; intro wb nx kb; have kx : y5 [] wr wb := ka.trans2 kb (by intro y hy; simp at hy; subst hy; exact Or.inr (Nat.le_refl _)); have d0 : wb.cell? ⟨wr.heap.size, 0, none⟩ = some (.string k.1) := y6 nx rfl; have d2 : wb.cell? ⟨wr.heap.size, 2, none⟩ = some (.iface ty vv) := y6 nx rfl; have dn : wb.cell? ⟨g, off + (j + 1) * 3, none⟩ = some (.string kn.1) := HNx.out wb kx)
      | (refine y8 rfl _ _ (ya 180 (.tmp 40) (.tmp 42) rfl g off m c (j + 1) 3 rfl (by go_num) 75 underlying180 stk hlt2 (off + (j + 1) * 3) rfl) ?_)
      | (go_at_fn fs; refine (HSd.out _ (hkr.trans kx)).mono ?_; rintro e wc ⟨hres, kc⟩; rw [HSe.out] at hres; obtain ⟨fg, fo, rfl, hff⟩ := Thr.ex hres)
      | (go_at_fn fz; refine (HSz.out _ (hkr.trans kx)).mono ?_; rintro e wz ⟨rfl, kz⟩; replace kx := kx.trans kz; clear kz)
      | (go_at_call 141; refine (gk _).mono ?_; rintro e wn ⟨rfl, ew⟩; rw [ew]; clear ew wn))
     exact ⟨rfl, HBad.out HFin.out _ _ hres (hkr.trans (kx.trans kc))⟩
    | some b =>
     have HSe : Hid (qi d k.1 kn.1 k.2 = some b) := hs
     have hbd := QaD d k.2 k.1 kn.1 b hs
     rw [hstep, hs] at hgo
     simp only at hgo
     by_cases h40 : 40 <= szU d k.2
     ·have h40' : (40 : Int) <= (szU d k.2 : Int) := by omega
      by_cases hj0 : j = 0
      ·have hnone := hj.1 hj0
       rw [if_pos ⟨h40, Or.inl hnone⟩] at hgo
       have HG : Hid (qJ (qi d) (szU d) t (some b) (ks.drop (j + 1)) = qJ (qi d) (szU d) t none ks) := hgo
       have hhi : (hi.getD 0 : Nat) = 0 := by rw [hnone]; rfl
       rw [hhi]
       subst hj0
       have hld0 : (loadVar 75 ⟨g, off, none⟩).run prog wr = .ok (.agg #[.string k.1, .int .i64 (k.3 : Nat), .iface ty vv]) wr := by simpa using hld
       have HNx0 : Hid (∀ W, y5 [] wr W -> W.cell? ⟨g, off + 3, none⟩ = some (.string kn.1)) := fun W kW => by simpa using HNx.out W kW
       clear hgo hstep hs hnone hj hld
       go_wp2_with (first
        | (refine y8 rfl _ _ (ya 180 (.tmp 27) (.tmp 29) rfl g off m c 0 3 rfl rfl 75 underlying180 stk hlt off (by omega)) ?_)
        | (refine ye rfl 75 (.tmp 32) rfl ⟨g, off, none⟩ rfl _ hld0 ?_)
        | (refine yc rfl 8 rfl 75 rfl _ (jP _) ?_; intro wa na ka hsa; clear hsa)
        | (refine yb rfl 75 (.tmp 8) (.tmp 33) rfl wr.heap.size #[.string k.1, .int .i64 (k.3 : Nat), .iface ty vv] rfl rfl 75 _ na stk rfl (yU (qQ _ _ rfl)) ?_; intro wb nx kb; have kx : y5 [] wr wb := ka.trans2 kb (by intro y hy; simp at hy; subst hy; exact Or.inr (Nat.le_refl _)); have d0 : wb.cell? ⟨wr.heap.size, 0, none⟩ = some (.string k.1) := y6 nx rfl; have d2 : wb.cell? ⟨wr.heap.size, 2, none⟩ = some (.iface ty vv) := y6 nx rfl; have dn : wb.cell? ⟨g, off + 3, none⟩ = some (.string kn.1) := HNx0.out wb kx)
        | (refine y8 rfl _ _ (ya 180 (.tmp 40) (.tmp 42) rfl g off m c 1 3 rfl rfl 75 underlying180 stk hlt2 (off + 3) (by omega)) ?_)
        | (go_at_fn fs; refine (HSd.out _ (hkr.trans kx)).mono ?_; rintro e wc ⟨hres, kc⟩; rw [HSe.out] at hres; subst hres; replace nx := kc.get nx (by simp); replace kx := kx.trans kc; clear kc; have d2c : wc.cell? ⟨wr.heap.size, 2, none⟩ = some (.iface ty vv) := y6 nx rfl)
        | (go_at_fn fz; refine (HSz.out _ (hkr.trans kx)).mono ?_; rintro e wz ⟨rfl, kz⟩; replace kx := kx.trans kz; clear kz)
        | (go_at_call 141; refine (gk _).mono ?_; rintro e wn ⟨rfl, ew⟩; rw [ew]; clear ew wn))
       go_roundw
       case rel => exact ⟨1, some b, by rw [<- HM.out]; omega, rfl, by go_num, HG.out, by simp, fun c hc => by cases hc; exact hbd, hkr.trans kx⟩
       case measure => simp [intOf]; omega
      ·obtain ⟨ch, hch⟩ : ∃ ch, hi = some ch := by
        cases hi with
        | none => exact absurd (hj.2 rfl) hj0
        | some ch => exact ⟨ch, rfl⟩
       subst hch
       have hcd := hcap ch rfl
       have hj0' : ¬ (j : Int) = 0 := by omega
       simp only [Option.getD_some]
       by_cases hbc : b = ch
       ·rw [if_pos ⟨h40, Or.inr (by rw [hbc])⟩] at hgo
        have HG : Hid (qJ (qi d) (szU d) t (some b) (ks.drop (j + 1)) = qJ (qi d) (szU d) t none ks) := hgo
        have hbc' : (b : Int) = (ch : Int) := by omega
        clear hgo hstep hs hbc hj hj0
        go_wp2_with (first
         | (refine y8 rfl _ _ (ya 180 (.tmp 27) (.tmp 29) rfl g off m c j 3 rfl rfl 75 underlying180 stk hlt (off + j * 3) rfl) ?_)
         | (refine ye rfl 75 (.tmp 32) rfl ⟨g, off + j * 3, none⟩ rfl _ hld ?_)
         | (refine yc rfl 8 rfl 75 rfl _ (jP _) ?_; intro wa na ka hsa; clear hsa)
         | (refine yb rfl 75 (.tmp 8) (.tmp 33) rfl wr.heap.size #[.string k.1, .int .i64 (k.3 : Nat), .iface ty vv] rfl rfl 75 _ na stk rfl (yU (qQ _ _ rfl)) ?_; intro wb nx kb; have kx : y5 [] wr wb := ka.trans2 kb (by intro y hy; simp at hy; subst hy; exact Or.inr (Nat.le_refl _)); have d0 : wb.cell? ⟨wr.heap.size, 0, none⟩ = some (.string k.1) := y6 nx rfl; have d2 : wb.cell? ⟨wr.heap.size, 2, none⟩ = some (.iface ty vv) := y6 nx rfl; have dn : wb.cell? ⟨g, off + (j + 1) * 3, none⟩ = some (.string kn.1) := HNx.out wb kx)
         | (refine y8 rfl _ _ (ya 180 (.tmp 40) (.tmp 42) rfl g off m c (j + 1) 3 rfl (by go_num) 75 underlying180 stk hlt2 (off + (j + 1) * 3) rfl) ?_)
         | (go_at_fn fs; refine (HSd.out _ (hkr.trans kx)).mono ?_; rintro e wc ⟨hres, kc⟩; rw [HSe.out] at hres; subst hres; replace nx := kc.get nx (by simp); replace kx := kx.trans kc; clear kc; have d2c : wc.cell? ⟨wr.heap.size, 2, none⟩ = some (.iface ty vv) := y6 nx rfl)
         | (go_at_fn fz; refine (HSz.out _ (hkr.trans kx)).mono ?_; rintro e wz ⟨rfl, kz⟩; replace kx := kx.trans kz; clear kz)
         | (go_at_call 141; refine (gk _).mono ?_; rintro e wn ⟨rfl, ew⟩; rw [ew]; clear ew wn))
        go_roundw
        case rel => exact ⟨j + 1, some b, by rw [<- HM.out]; omega, by simp only [Option.getD_some]; rw [hbc'], by go_num, HG.out, by simp, fun c hc => by cases hc; exact hbd, hkr.trans kx⟩
        case measure => simp [intOf]; omega
       ·rw [if_neg (by simp; intro _; exact fun e => hbc e.symm)] at hgo
        have HFin : Hid (qJ (qi d) (szU d) t none ks = none) := hgo.symm
        have hbc' : ¬ (b : Int) = (ch : Int) := by omega
        have hbeq : ((b : Int) == (ch : Int)) = false := by simpa using hbc'
        have hbeq2 : (b == ch) = false := by simpa using hbc
        have hjb : ((j : Int) == 0) = false := by simpa using hj0'
        clear hgo hstep hs hj hj0
        go_wp2_with (first
         | (refine y8 rfl _ _ (ya 180 (.tmp 27) (.tmp 29) rfl g off m c j 3 rfl rfl 75 underlying180 stk hlt (off + j * 3) rfl) ?_)
         | (refine ye rfl 75 (.tmp 32) rfl ⟨g, off + j * 3, none⟩ rfl _ hld ?_)
         | (refine yc rfl 8 rfl 75 rfl _ (jP _) ?_; intro wa na ka hsa; clear hsa)
         | (refine yb rfl 75 (.tmp 8) (.tmp 33) rfl wr.heap.size #[.string k.1, .int .i64 (k.3 : Nat), .iface ty vv] rfl rfl 75 _ na stk rfl (yU (qQ _ _ rfl)) ?_; intro wb nx kb; have kx : y5 [] wr wb := ka.trans2 kb (by intro y hy; simp at hy; subst hy; exact Or.inr (Nat.le_refl _)); have d0 : wb.cell? ⟨wr.heap.size, 0, none⟩ = some (.string k.1) := y6 nx rfl; have d2 : wb.cell? ⟨wr.heap.size, 2, none⟩ = some (.iface ty vv) := y6 nx rfl; have dn : wb.cell? ⟨g, off + (j + 1) * 3, none⟩ = some (.string kn.1) := HNx.out wb kx)
         | (refine y8 rfl _ _ (ya 180 (.tmp 40) (.tmp 42) rfl g off m c (j + 1) 3 rfl (by go_num) 75 underlying180 stk hlt2 (off + (j + 1) * 3) rfl) ?_)
         | (go_at_fn fs; refine (HSd.out _ (hkr.trans kx)).mono ?_; rintro e wc ⟨hres, kc⟩; rw [HSe.out] at hres; subst hres; replace nx := kc.get nx (by simp); replace kx := kx.trans kc; clear kc; have d2c : wc.cell? ⟨wr.heap.size, 2, none⟩ = some (.iface ty vv) := y6 nx rfl)
         | (go_at_fn fz; refine (HSz.out _ (hkr.trans kx)).mono ?_; rintro e wz ⟨rfl, kz⟩; replace kx := kx.trans kz; clear kz)
         | (go_at_call 141; refine (gg _).mono ?_; rintro e wn ⟨ht, kn⟩; obtain ⟨fg, fo, rfl, hff⟩ := ht.ex))
        exact ⟨rfl, HBad.out HFin.out _ _ ht (hkr.trans (kx.trans kn))⟩
     ·have h40' : ¬ (40 : Int) <= (szU d k.2 : Int) := by omega
      rw [if_neg (fun e => h40 e.1)] at hgo
      have HFin : Hid (qJ (qi d) (szU d) t none ks = none) := hgo.symm
      clear hgo hstep hs hj
      go_wp2_with (first
       | (refine y8 rfl _ _ (ya 180 (.tmp 27) (.tmp 29) rfl g off m c j 3 rfl rfl 75 underlying180 stk hlt (off + j * 3) rfl) ?_)
       | (refine ye rfl 75 (.tmp 32) rfl ⟨g, off + j * 3, none⟩ rfl _ hld ?_)
       | (refine yc rfl 8 rfl 75 rfl _ (jP _) ?_; intro wa na ka hsa; clear hsa)
       | (refine yb rfl 75 (.tmp 8) (.tmp 33) rfl wr.heap.size #[.string k.1, .int .i64 (k.3 : Nat), .iface ty vv] rfl rfl 75 _ na stk rfl (yU (qQ _ _ rfl)) ?_; intro wb nx kb; have kx : y5 [] wr wb := ka.trans2 kb (by intro y hy; simp at hy; subst hy; exact Or.inr (Nat.le_refl _)); have d0 : wb.cell? ⟨wr.heap.size, 0, none⟩ = some (.string k.1) := y6 nx rfl; have d2 : wb.cell? ⟨wr.heap.size, 2, none⟩ = some (.iface ty vv) := y6 nx rfl; have dn : wb.cell? ⟨g, off + (j + 1) * 3, none⟩ = some (.string kn.1) := HNx.out wb kx)
       | (refine y8 rfl _ _ (ya 180 (.tmp 40) (.tmp 42) rfl g off m c (j + 1) 3 rfl (by go_num) 75 underlying180 stk hlt2 (off + (j + 1) * 3) rfl) ?_)
       | (go_at_fn fs; refine (HSd.out _ (hkr.trans kx)).mono ?_; rintro e wc ⟨hres, kc⟩; rw [HSe.out] at hres; subst hres; replace nx := kc.get nx (by simp); replace kx := kx.trans kc; clear kc; have d2c : wc.cell? ⟨wr.heap.size, 2, none⟩ = some (.iface ty vv) := y6 nx rfl)
       | (go_at_fn fz; refine (HSz.out _ (hkr.trans kx)).mono ?_; rintro e wz ⟨rfl, kz⟩; replace kx := kx.trans kz; clear kz)
       | (go_at_call 141; refine (gg _).mono ?_; rintro e wn ⟨ht, kn⟩; obtain ⟨fg, fo, rfl, hff⟩ := ht.ex))
      exact ⟨rfl, HBad.out HFin.out _ _ ht (hkr.trans (kx.trans kn))⟩
   ·have hnl' : ¬ (j : Int) + 1 < (m : Int) := by omega
    have hnxt : (((ks.drop (j + 1))[0]?).map fun q => q.1).getD t = t := by
     rw [List.getElem?_drop, Nat.add_zero, List.getElem?_eq_none (by rw [<- HM.out]; omega)]
     rfl
    have hlt2 : j < m := hlt
    clear hcur
    have HSd0 := IH hdb A k.2 (.iface ty vv) k.1 t w hu (hok k (List.mem_of_getElem? hq)).2.2
    obtain ⟨fs, vs, ⟨t1, e1, hm1, he1⟩, hcs⟩ := HSd0
    cases e1
    have HSd : Hid (∀ W, y5 [] w W -> Calls prog fs #[vv, .string k.1, .string t] W (SdR (qi d k.1 t k.2) W)) := hcs
    have hstep : qJ (qi d) (szU d) t hi (ks.drop j) = match qi d k.1 t k.2 with
      | none => none
      | some b => if 40 <= szU d k.2 /\ (hi = none \/ hi = some b) then qJ (qi d) (szU d) t (some b) (ks.drop (j + 1)) else none := by
     rw [hdr, Qac, hnxt]
     cases qi d k.1 t k.2 <;> rfl
    clear hcs
    cases hs : qi d k.1 t k.2 with
    | none =>
     have HSe : Hid (qi d k.1 t k.2 = none) := hs
     rw [hstep, hs] at hgo
     have HFin : Hid (qJ (qi d) (szU d) t none ks = none) := hgo.symm
     clear hgo hstep hs
     go_wp2_with (first
      | (refine y8 rfl _ _ (ya 180 (.tmp 27) (.tmp 29) rfl g off m c j 3 rfl rfl 75 underlying180 stk hlt (off + j * 3) rfl) ?_)
      | (refine ye rfl 75 (.tmp 32) rfl ⟨g, off + j * 3, none⟩ rfl _ hld ?_)
      | (refine yc rfl 8 rfl 75 rfl _ (jP _) ?_; intro wa na ka hsa; clear hsa)
      | (refine yb rfl 75 (.tmp 8) (.tmp 33) rfl wr.heap.size #[.string k.1, .int .i64 (k.3 : Nat), .iface ty vv] rfl rfl 75 _ na stk rfl (yU (qQ _ _ rfl)) ?_; intro wb nx kb; have kx : y5 [] wr wb := ka.trans2 kb (by intro y hy; simp at hy; subst hy; exact Or.inr (Nat.le_refl _)); have d0 : wb.cell? ⟨wr.heap.size, 0, none⟩ = some (.string k.1) := y6 nx rfl; have d2 : wb.cell? ⟨wr.heap.size, 2, none⟩ = some (.iface ty vv) := y6 nx rfl)
      | (refine y8 rfl _ _ (ya 180 (.tmp 40) (.tmp 42) rfl g off m c (j + 1) 3 rfl (by go_num) 75 underlying180 stk hlt2 (off + (j + 1) * 3) rfl) ?_)
      | (go_at_fn fs; refine (HSd.out _ (hkr.trans kx)).mono ?_; rintro e wc ⟨hres, kc⟩; rw [HSe.out] at hres; obtain ⟨fg, fo, rfl, hff⟩ := Thr.ex hres)
      | (go_at_fn fz; refine (HSz.out _ (hkr.trans kx)).mono ?_; rintro e wz ⟨rfl, kz⟩; replace kx := kx.trans kz; clear kz)
      | (go_at_call 141; refine (gk _).mono ?_; rintro e wn ⟨rfl, ew⟩; rw [ew]; clear ew wn))
     exact ⟨rfl, HBad.out HFin.out _ _ hres (hkr.trans (kx.trans kc))⟩
    | some b =>
     have HSe : Hid (qi d k.1 t k.2 = some b) := hs
     have hbd := QaD d k.2 k.1 t b hs
     rw [hstep, hs] at hgo
     simp only at hgo
     by_cases h40 : 40 <= szU d k.2
     ·have h40' : (40 : Int) <= (szU d k.2 : Int) := by omega
      by_cases hj0 : j = 0
      ·have hnone := hj.1 hj0
       rw [if_pos ⟨h40, Or.inl hnone⟩] at hgo
       have HG : Hid (qJ (qi d) (szU d) t (some b) (ks.drop (j + 1)) = qJ (qi d) (szU d) t none ks) := hgo
       exfalso; omega
      ·obtain ⟨ch, hch⟩ : ∃ ch, hi = some ch := by
        cases hi with
        | none => exact absurd (hj.2 rfl) hj0
        | some ch => exact ⟨ch, rfl⟩
       subst hch
       have hcd := hcap ch rfl
       have hj0' : ¬ (j : Int) = 0 := by omega
       simp only [Option.getD_some]
       by_cases hbc : b = ch
       ·rw [if_pos ⟨h40, Or.inr (by rw [hbc])⟩] at hgo
        have HG : Hid (qJ (qi d) (szU d) t (some b) (ks.drop (j + 1)) = qJ (qi d) (szU d) t none ks) := hgo
        have hbc' : (b : Int) = (ch : Int) := by omega
        clear hgo hstep hs hbc hj hj0
        go_wp2_with (first
         | (refine y8 rfl _ _ (ya 180 (.tmp 27) (.tmp 29) rfl g off m c j 3 rfl rfl 75 underlying180 stk hlt (off + j * 3) rfl) ?_)
         | (refine ye rfl 75 (.tmp 32) rfl ⟨g, off + j * 3, none⟩ rfl _ hld ?_)
         | (refine yc rfl 8 rfl 75 rfl _ (jP _) ?_; intro wa na ka hsa; clear hsa)
         | (refine yb rfl 75 (.tmp 8) (.tmp 33) rfl wr.heap.size #[.string k.1, .int .i64 (k.3 : Nat), .iface ty vv] rfl rfl 75 _ na stk rfl (yU (qQ _ _ rfl)) ?_; intro wb nx kb; have kx : y5 [] wr wb := ka.trans2 kb (by intro y hy; simp at hy; subst hy; exact Or.inr (Nat.le_refl _)); have d0 : wb.cell? ⟨wr.heap.size, 0, none⟩ = some (.string k.1) := y6 nx rfl; have d2 : wb.cell? ⟨wr.heap.size, 2, none⟩ = some (.iface ty vv) := y6 nx rfl)
         | (refine y8 rfl _ _ (ya 180 (.tmp 40) (.tmp 42) rfl g off m c (j + 1) 3 rfl (by go_num) 75 underlying180 stk hlt2 (off + (j + 1) * 3) rfl) ?_)
         | (go_at_fn fs; refine (HSd.out _ (hkr.trans kx)).mono ?_; rintro e wc ⟨hres, kc⟩; rw [HSe.out] at hres; subst hres; replace nx := kc.get nx (by simp); replace kx := kx.trans kc; clear kc; have d2c : wc.cell? ⟨wr.heap.size, 2, none⟩ = some (.iface ty vv) := y6 nx rfl)
         | (go_at_fn fz; refine (HSz.out _ (hkr.trans kx)).mono ?_; rintro e wz ⟨rfl, kz⟩; replace kx := kx.trans kz; clear kz)
         | (go_at_call 141; refine (gk _).mono ?_; rintro e wn ⟨rfl, ew⟩; rw [ew]; clear ew wn))
        go_roundw
        case rel => exact ⟨j + 1, some b, by rw [<- HM.out]; omega, by simp only [Option.getD_some]; rw [hbc'], by go_num, HG.out, by simp, fun c hc => by cases hc; exact hbd, hkr.trans kx⟩
        case measure => simp [intOf]; omega
       ·rw [if_neg (by simp; intro _; exact fun e => hbc e.symm)] at hgo
        have HFin : Hid (qJ (qi d) (szU d) t none ks = none) := hgo.symm
        have hbc' : ¬ (b : Int) = (ch : Int) := by omega
        have hbeq : ((b : Int) == (ch : Int)) = false := by simpa using hbc'
        have hbeq2 : (b == ch) = false := by simpa using hbc
        have hjb : ((j : Int) == 0) = false := by simpa using hj0'
        clear hgo hstep hs hj hj0
        go_wp2_with (first
         | (refine y8 rfl _ _ (ya 180 (.tmp 27) (.tmp 29) rfl g off m c j 3 rfl rfl 75 underlying180 stk hlt (off + j * 3) rfl) ?_)
         | (refine ye rfl 75 (.tmp 32) rfl ⟨g, off + j * 3, none⟩ rfl _ hld ?_)
         | (refine yc rfl 8 rfl 75 rfl _ (jP _) ?_; intro wa na ka hsa; clear hsa)
         | (refine yb rfl 75 (.tmp 8) (.tmp 33) rfl wr.heap.size #[.string k.1, .int .i64 (k.3 : Nat), .iface ty vv] rfl rfl 75 _ na stk rfl (yU (qQ _ _ rfl)) ?_; intro wb nx kb; have kx : y5 [] wr wb := ka.trans2 kb (by intro y hy; simp at hy; subst hy; exact Or.inr (Nat.le_refl _)); have d0 : wb.cell? ⟨wr.heap.size, 0, none⟩ = some (.string k.1) := y6 nx rfl; have d2 : wb.cell? ⟨wr.heap.size, 2, none⟩ = some (.iface ty vv) := y6 nx rfl)
         | (refine y8 rfl _ _ (ya 180 (.tmp 40) (.tmp 42) rfl g off m c (j + 1) 3 rfl (by go_num) 75 underlying180 stk hlt2 (off + (j + 1) * 3) rfl) ?_)
         | (go_at_fn fs; refine (HSd.out _ (hkr.trans kx)).mono ?_; rintro e wc ⟨hres, kc⟩; rw [HSe.out] at hres; subst hres; replace nx := kc.get nx (by simp); replace kx := kx.trans kc; clear kc; have d2c : wc.cell? ⟨wr.heap.size, 2, none⟩ = some (.iface ty vv) := y6 nx rfl)
         | (go_at_fn fz; refine (HSz.out _ (hkr.trans kx)).mono ?_; rintro e wz ⟨rfl, kz⟩; replace kx := kx.trans kz; clear kz)
         | (go_at_call 141; refine (gg _).mono ?_; rintro e wn ⟨ht, kn⟩; obtain ⟨fg, fo, rfl, hff⟩ := ht.ex))
        exact ⟨rfl, HBad.out HFin.out _ _ ht (hkr.trans (kx.trans kn))⟩
     ·have h40' : ¬ (40 : Int) <= (szU d k.2 : Int) := by omega
      rw [if_neg (fun e => h40 e.1)] at hgo
      have HFin : Hid (qJ (qi d) (szU d) t none ks = none) := hgo.symm
      clear hgo hstep hs hj
      go_wp2_with (first
       | (refine y8 rfl _ _ (ya 180 (.tmp 27) (.tmp 29) rfl g off m c j 3 rfl rfl 75 underlying180 stk hlt (off + j * 3) rfl) ?_)
       | (refine ye rfl 75 (.tmp 32) rfl ⟨g, off + j * 3, none⟩ rfl _ hld ?_)
       | (refine yc rfl 8 rfl 75 rfl _ (jP _) ?_; intro wa na ka hsa; clear hsa)
       | (refine yb rfl 75 (.tmp 8) (.tmp 33) rfl wr.heap.size #[.string k.1, .int .i64 (k.3 : Nat), .iface ty vv] rfl rfl 75 _ na stk rfl (yU (qQ _ _ rfl)) ?_; intro wb nx kb; have kx : y5 [] wr wb := ka.trans2 kb (by intro y hy; simp at hy; subst hy; exact Or.inr (Nat.le_refl _)); have d0 : wb.cell? ⟨wr.heap.size, 0, none⟩ = some (.string k.1) := y6 nx rfl; have d2 : wb.cell? ⟨wr.heap.size, 2, none⟩ = some (.iface ty vv) := y6 nx rfl)
       | (refine y8 rfl _ _ (ya 180 (.tmp 40) (.tmp 42) rfl g off m c (j + 1) 3 rfl (by go_num) 75 underlying180 stk hlt2 (off + (j + 1) * 3) rfl) ?_)
       | (go_at_fn fs; refine (HSd.out _ (hkr.trans kx)).mono ?_; rintro e wc ⟨hres, kc⟩; rw [HSe.out] at hres; subst hres; replace nx := kc.get nx (by simp); replace kx := kx.trans kc; clear kc; have d2c : wc.cell? ⟨wr.heap.size, 2, none⟩ = some (.iface ty vv) := y6 nx rfl)
       | (go_at_fn fz; refine (HSz.out _ (hkr.trans kx)).mono ?_; rintro e wz ⟨rfl, kz⟩; replace kx := kx.trans kz; clear kz)
       | (go_at_call 141; refine (gg _).mono ?_; rintro e wn ⟨ht, kn⟩; obtain ⟨fg, fo, rfl, hff⟩ := ht.ex))
      exact ⟨rfl, HBad.out HFin.out _ _ ht (hkr.trans (kx.trans kn))⟩
  ·have hge : ¬ (j : Int) < (m : Int) := by omega
   have ej : j = m := by omega
   subst ej
   have hne : hi ≠ none := fun e => by have := hj.2 e; omega
   obtain ⟨ch, hch⟩ : ∃ ch, hi = some ch := by
    cases hi with
    | none => exact absurd rfl hne
    | some ch => exact ⟨ch, rfl⟩
   subst hch
   rw [List.drop_of_length_le (by rw [<- HM.out]; exact Nat.le_refl _)] at hgo
   have HG : Hid (qJ (qi d) (szU d) t none ks = some ch) := hgo.symm
   have hcd := hcap ch rfl
   simp only [Option.getD_some]
   clear hgo hcap hj hne
   go_wp2
   go_ret
   rw [HB.out, HG.out]
   exact ⟨by simp only [Option.map_some]; first | rfl | (congr 2; done) | (congr 2; rw [w64 _ (by omega)]; omega), hkr⟩
theorem QaF : ∀ d, SdOk d
 | 0 => fun _ _ _ _ _ _ _ hx _ => hx.elim
 | d + 1 => by
  intro hdb A u x f t w hx ho
  cases u with
  | inl l =>
   obtain ⟨v, rfl, hl, _⟩ := hx
   have HC := fun W (k : y5 [] w W) => QaC v l f t W (LF.kept hl k) (QaA ho.2)
   obtain ⟨p, c, ev⟩ := SL.shape hl
   subst ev
   exact ⟨_, _, Qax _ _ _, HC⟩
  | inr ks =>
   obtain ⟨v, xs, rfl, hl, _, hf⟩ := hx
   have HC := fun W (k : y5 [] w W) => QaE d (by omega) (QaF d) A v xs ks f t W (SL.kept hl k) (hf.mono fun _ _ _ hr => ⟨hr.1, UND.ka (KA.k0 k) hr.2⟩) ho
   obtain ⟨p, c, ev⟩ := SL.shape hl
   subst ev
   exact ⟨_, _, Qay _ _ _, HC⟩
end Go.Proofs.YtcklgafpgdhnaabGreatDoor
