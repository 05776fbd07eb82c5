import Derived.Test.YtcklgafpgdhnaabGreatDoorPqbj
import Derived.Test.YtcklgafpgdhnaabGreatDoorPqan
set_option maxRecDepth 100000
set_option maxHeartbeats 4000000
open Go.Proofs.Tryz
namespace Go.Proofs.YtcklgafpgdhnaabGreatDoor
open Go.RowKit
def SdR (o : Option Nat) (w : World) (e : Ending) (w' : World) : Prop :=
 (match o with
  | some h => e = .returned (.int .i64 (h : Nat))
  | none => Thr 7 e w') /\ y5 [] w w'
theorem Qax (p : Option Addr) (n c : Nat) : qY "store/tree.sound" (.iface 135 (.slice p n c)) 192 (.slice p n c) := ⟨_, rfl, fun _ => by kernel_rfl, fun _ _ => by kernel_rfl⟩
theorem Qay (p : Option Addr) (n c : Nat) : qY "store/tree.sound" (.iface 180 (.slice p n c)) 222 (.slice p n c) := ⟨_, rfl, fun _ => by kernel_rfl, fun _ _ => by kernel_rfl⟩
theorem Qaz (v : Value) (l : List Pr) (w : World) (h : LF w v l) (hl : l.length <= 200) (hs : ∀ p ∈ l, p.1.size <= 8 /\ p.2.size <= 12) : Calls prog 191 #[v] w fun e w' => e = .returned (.int .i64 ((l.map psz).sum : Nat)) /\ y5 [] w w' := by
 have HM : Hid (Calls _ _ _ _ _) := Q3s v l w h (by omega) fun x hx => by have := hs x hx; unfold psz; omega
 obtain ⟨p, c, ev⟩ := SL.shape h
 rw [List.length_map] at ev
 subst ev
 go_enter func191, ntmps191
 go_wp2_with (first | (go_at_call 196; refine HM.out.mono ?_; rintro e w1 ⟨rfl, hk1⟩))
 go_ret
 exact ⟨rfl, hk1⟩
theorem QaA {l : List Pr} (h : (List.map psz l).sum <= 122) : l.length <= 200 := by
 have : ∀ L : List Pr, 2 * L.length <= (L.map psz).sum := by
  intro L
  induction L with
  | nil => simp
  | cons a r ih => simp only [List.length_cons, List.map_cons, List.sum_cons]; unfold psz at *; omega
 have := this l
 omega
theorem QaB {w : World} {A : Nat -> Prop} {d : Nat} {u : UNd d} {x : Value} (hx : UND w A d u x) (ho : okU d u) :
  ∃ f v, qY "store/tree.size" x f v /\ ∀ W, y5 [] w W -> Calls prog f #[v] W fun e w' => e = .returned (.int .i64 (szU d u : Nat)) /\ y5 [] W w' := by
 cases d with
 | zero => exact hx.elim
 | succ d =>
  cases u with
  | inl l =>
   obtain ⟨v, rfl, hl, _⟩ := hx
   have HC := fun W k => Qaz v l W (LF.kept hl k) (QaA ho.2) ho.1
   obtain ⟨p, c, ev⟩ := SL.shape hl
   subst ev
   exact ⟨_, _, Q4D _ _ _, HC⟩
  | inr ks =>
   obtain ⟨v, xs, rfl, hl, _, hf⟩ := hx
   have hsh : ∀ x ∈ xs, ∃ t v, x.2 = .iface t v := by
    intro x hx
    obtain ⟨i, hi⟩ := List.mem_iff_getElem?.1 hx
    have hl : i < ks.length := by rw [hf.1]; exact (List.getElem?_eq_some_iff.1 hi).1
    exact (hf.2 i _ x (List.getElem?_eq_getElem hl) hi).2.iface
   have hlen : xs.length <= 1000 := by rw [<- hf.1]; have := ho.1; omega
   have HC := fun W k => Q4I v xs W (SL.kept hl k) hlen hsh
   rw [<- hf.1] at HC
   obtain ⟨p, c, ev⟩ := SL.shape hl
   subst ev
   exact ⟨_, _, Q4E _ _ _, HC⟩
theorem QaC (v : Value) (l : List Pr) (f t : ByteArray) (w : World) (h : LF w v l) (hl : l.length <= 200) : Calls prog 192 #[v, .string f, .string t] w (SdR (if sndL f t l then some 1 else none) w) := by
 have HRi := fun W (k : y5 [] w W) => Qav v l f t W (SL.kept h k) hl
 obtain ⟨X, eX⟩ : ∃ X : Option Nat, X = if sndL f t l then some 1 else none := ⟨_, rfl⟩
 rw [<- eX]
 cases l with
 | nil =>
  have HE : Hid (X = none) := eX
  obtain ⟨p, c, ev⟩ := SL.shape h
  subst ev
  clear HRi h eX
  go_enter func192, ntmps192
  go_wp2_with (go_at_call 141; refine (gg _).mono ?_; rintro e w1 ⟨ht, k1⟩; obtain ⟨g, o, rfl, hf⟩ := ht.ex)
  refine ⟨rfl, ?_⟩
  rw [HE.out]
  exact ⟨ht, k1⟩
 | cons q r =>
  have HFi : Hid (Calls _ _ _ _ _) := ZE v q r w h
  obtain ⟨p, c, ev⟩ := SL.shape h
  rw [List.length_map] at ev
  subst ev
  have hpos : (0 : Int) < (((q :: r).length : Nat) : Int) := by simp only [List.length_cons]; omega
  have HL : Hid (sndL f t (q :: r) = (!be q.1 yp && qp false ((q :: r).map fun p => p.1) f t)) := rfl
  cases hb : be q.1 yp with
  | true =>
   have hb' : q.1.toList.isEmpty = true := by rw [<- Qau]; exact hb
   have HE : Hid (X = none) := by show _ = _; rw [eX, HL.out, hb]; rfl
   clear HRi h hb HL eX
   generalize (q :: r).length = m at *
   go_enter func192, ntmps192
   go_wp2_with (first
    | (go_at_call 186; refine HFi.out.mono ?_; rintro e w0 ⟨rfl, k0⟩)
    | (go_at_call 141; refine (gg _).mono ?_; rintro e w1 ⟨ht, k1⟩; obtain ⟨g, o, rfl, hf⟩ := ht.ex))
   refine ⟨rfl, ?_⟩
   rw [HE.out]
   exact ⟨ht, k0.trans k1⟩
  | false =>
   have hb' : q.1.toList.isEmpty = false := by rw [<- Qau]; exact hb
   cases hr : qp false ((q :: r).map fun p => p.1) f t with
   | true =>
    have HE : Hid (X = some 1) := by show _ = _; rw [eX, HL.out, hb, hr]; rfl
    rw [hr] at HRi
    have HR : Hid (∀ W, y5 [] w W -> Calls prog 197 #[.slice p (q :: r).length c, .string f, .string t] W fun e w' => e = .returned (.bool true) /\ y5 [] W w') := HRi
    clear HRi h hb HL hr eX
    generalize (q :: r).length = m at *
    go_enter func192, ntmps192
    go_wp2_with (first
     | (go_at_call 186; refine HFi.out.mono ?_; rintro e w0 ⟨rfl, k0⟩)
     | (go_at_call 197; refine (HR.out _ k0).mono ?_; rintro e w1 ⟨rfl, k1⟩)
     | (go_at_call 141; refine (gk _).mono ?_; rintro e w2 ⟨rfl, ew⟩; rw [ew]; clear ew w2))
    go_ret
    rw [HE.out]
    exact ⟨rfl, k0.trans k1⟩
   | false =>
    have HE : Hid (X = none) := by show _ = _; rw [eX, HL.out, hb, hr]; rfl
    rw [hr] at HRi
    have HR : Hid (∀ W, y5 [] w W -> Calls prog 197 #[.slice p (q :: r).length c, .string f, .string t] W fun e w' => e = .returned (.bool false) /\ y5 [] W w') := HRi
    clear HRi h hb HL hr eX
    generalize (q :: r).length = m at *
    go_enter func192, ntmps192
    go_wp2_with (first
     | (go_at_call 186; refine HFi.out.mono ?_; rintro e w0 ⟨rfl, k0⟩)
     | (go_at_call 197; refine (HR.out _ k0).mono ?_; rintro e w1 ⟨rfl, k1⟩)
     | (go_at_call 141; refine (gg _).mono ?_; rintro e w2 ⟨ht, k2⟩; obtain ⟨g, o, rfl, hf⟩ := ht.ex))
    refine ⟨rfl, ?_⟩
    rw [HE.out]
    exact ⟨ht, (k0.trans k1).trans k2⟩
end Go.Proofs.YtcklgafpgdhnaabGreatDoor
