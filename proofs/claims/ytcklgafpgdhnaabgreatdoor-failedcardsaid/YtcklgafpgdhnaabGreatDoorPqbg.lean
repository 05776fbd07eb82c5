import Derived.Test.YtcklgafpgdhnaabGreatDoorPqbf
import Derived.Test.YtcklgafpgdhnaabGreatDoorPqax
import Derived.Test.YtcklgafpgdhnaabGreatDoorPqay
import Derived.Test.YtcklgafpgdhnaabGreatDoorPqas
import Derived.Test.YtcklgafpgdhnaabGreatDoorPqab
set_option maxRecDepth 100000
set_option maxHeartbeats 4000000
open Go.Proofs.Tryz
open Go.Act renaming put → zP
open List renaming getElem_toArray → zA, getElem_cons_succ → zB, getElem_cons_zero → zC, setIfInBounds_toArray → zD, set_cons_succ → zE, set_cons_zero → zF
namespace Go.Proofs.YtcklgafpgdhnaabGreatDoor
open Go.RowKit
theorem Q2 {α : Type} (t : List UInt8 -> Option (α × List UInt8)) : ∀ (j : Nat) (R : List UInt8), qD t (j + 1) R = match qD t j R with
  | none => none
  | some (l, R1) => match t R1 with
   | none => none
   | some (a, R2) => some (l ++ [a], R2)
 | 0, R => by
  simp only [qD]
  cases t R with
  | none => rfl
  | some r => obtain ⟨a, R2⟩ := r; rfl
 | j + 1, R => by
  rw [qD]
  cases h : t R with
  | none => simp only [qD, h]
  | some r =>
   obtain ⟨a, R1⟩ := r
   simp only [Q2 t j R1]
   rw [qD, h]
   simp only
   cases qD t j R1 with
   | none => rfl
   | some q =>
    obtain ⟨l, R2⟩ := q
    simp only
    cases t R2 with
    | none => rfl
    | some z => obtain ⟨b, R3⟩ := z; rfl
theorem Zf {α : Type} (t : List UInt8 -> Option (α × List UInt8)) (j : Nat) (R R1 : List UInt8) (l : List α) (h1 : qD t j R = some (l, R1)) (h2 : t R1 = none) : ∀ k, qD t (j + 1 + k) R = none
 | 0 => by rw [Nat.add_zero, Q2, h1]; simp only [h2]
 | k + 1 => by rw [<- Nat.add_assoc, Q2, Zf t j R R1 l h1 h2 k]
def encQ (p : Pr) : Value := .agg #[.string p.1, .string p.2]
def encK (k : ByteArray × Nat) : Value := .agg #[.string k.1, .int .i64 (k.2 : Nat), .nilIface]
theorem Q9S (w : World) : (Instr.alloc 138 true (.tuple #[])).run prog w = .ok (.pointer (some ⟨w.heap.size, 0, none⟩)) (w.alloc (.cells #[.string ⟨#[]⟩, .string ⟨#[]⟩] 138)) := by kernel_rfl
theorem Q9T (p : Pr) : ∀ u ∈ pe p, u.oneCell' = true := by intro u hu; simp [pe] at hu; rcases hu with rfl | rfl <;> rfl
theorem Q9U (q g : Nat) (B R : List UInt8) (w : World) (h : Rst w q g B R) : Calls prog 138 #[.pointer (some ⟨q, 0, none⟩)] w (TkE q g B encQ (gu R) w) := by
 have hq := yt h.v
 have HT : Hid (∀ m R W, Rst W q g B R -> Calls prog 148 #[.pointer (some ⟨q, 0, none⟩), .int .i64 (m : Nat)] W (TkE q g B Value.string (j2 m R) W)) := fun m R W hW => Q9R q g B R m W hW
 have HR : Hid (Rst w q g B R) := h
 clear h
 cases h1 : j2 8 R with
 | none =>
  have HE : Hid (gu R = none) := by show _ = _; unfold gu; rw [h1]
  have HT1 : Hid (∀ W, Rst W q g B R -> Calls prog 148 #[.pointer (some ⟨q, 0, none⟩), .int .i64 8] W (TkE q g B Value.string none W)) := fun W hW => h1 ▸ HT.out 8 R W hW
  go_enter func138, ntmps138
  go_wp2_with (first
   | (refine yc rfl 2 rfl 138 rfl _ (Q9S _) ?_; intro w1 n1 k1 hs1)
   | (go_at_call 148; refine (HT1.out w1 (HR.out.k k1)).mono ?_; rintro e w2 ⟨ht, k2⟩; obtain ⟨f, o, rfl, hf⟩ := Thr.ex ht))
  refine ⟨rfl, ?_⟩
  rw [HE.out]
  exact ⟨ht, (k1.mono (by simp)).trans k2⟩
 | some z =>
  obtain ⟨k, R1⟩ := z
  have HT1 : Hid (∀ W, Rst W q g B R -> Calls prog 148 #[.pointer (some ⟨q, 0, none⟩), .int .i64 8] W (TkE q g B Value.string (some (k, R1)) W)) := fun W hW => h1 ▸ HT.out 8 R W hW
  cases h2 : j2 12 R1 with
  | none =>
   have HE : Hid (gu R = none) := by show _ = _; unfold gu; rw [h1]; simp only [h2]
   have HT2 : Hid (∀ W, Rst W q g B R1 -> Calls prog 148 #[.pointer (some ⟨q, 0, none⟩), .int .i64 12] W (TkE q g B Value.string none W)) := fun W hW => h2 ▸ HT.out 12 R1 W hW
   go_enter func138, ntmps138
   go_wp2_with (refine yc rfl 2 rfl 138 rfl _ (Q9S _) ?_; intro w1 n1 k1 hs1)
   refine (HT1.out w1 (HR.out.k k1)).mono ?_
   rintro e w2 ⟨⟨rfl, r2⟩, k2⟩
   go_wp2_with fail
   refine (HT2.out w2 r2).mono ?_
   rintro e w3 ⟨ht, k3⟩
   obtain ⟨f, o, rfl, hf⟩ := Thr.ex ht
   refine ⟨rfl, ?_⟩
   rw [HE.out]
   exact ⟨ht, ((k1.mono (by simp)).trans k2).trans k3⟩
  | some z2 =>
   obtain ⟨v, R2⟩ := z2
   have HE : Hid (gu R = some ((k, v), R2)) := by show _ = _; unfold gu; rw [h1]; simp only [h2]
   have HT2 : Hid (∀ W, Rst W q g B R1 -> Calls prog 148 #[.pointer (some ⟨q, 0, none⟩), .int .i64 12] W (TkE q g B Value.string (some (v, R2)) W)) := fun W hW => h2 ▸ HT.out 12 R1 W hW
   go_enter func138, ntmps138
   go_wp2_with (refine yc rfl 2 rfl 138 rfl _ (Q9S _) ?_; intro w1 n1 k1 hs1)
   refine (HT1.out w1 (HR.out.k k1)).mono ?_
   rintro e w2 ⟨⟨rfl, r2⟩, k2⟩
   go_wp2_with fail
   refine (HT2.out w2 r2).mono ?_
   rintro e w3 ⟨⟨rfl, r3⟩, k3⟩
   have n3 := k3.get (k2.get n1 (by simp; omega)) (by simp; omega)
   have hb : ∀ W : World, (Instr.build 52 #[(0, .string k), (1, .string v)]).run prog W = .ok (.agg #[.string k, .string v]) W := fun W => by kernel_rfl
   have hb2 : ∀ W : World, (Instr.build 138 #[(0, .agg #[.string k, .string v])]).run prog W = .ok (.agg #[.string k, .string v]) W := fun W => by kernel_rfl
   go_wp2_with (refine yb rfl 138 (.tmp 2) (.tmp 10) rfl w.heap.size #[.string k, .string v] rfl rfl 138 _ n3 stp rfl (yU (Q9T (k, v))) ?_; intro w4 n4 k4)
   refine bodyPost_ret (results_cell_row rfl _ w4 w.heap.size 138 _ (0, 0) _ rfl n4 underlying138 rfl stp) rfl ?_
   rw [HE.out]
   refine ⟨⟨rfl, ⟨k4.get r3.v (by simp; omega), k4.get r3.b (by simp; have h1 := yt HR.out.b; omega), r3.l, r3.r, r3.e⟩⟩, (((k1.mono (by simp)).trans k2).trans k3).trans2 k4 (by intro y hy; simp at hy; subst hy; exact Or.inr (Nat.le_refl _))⟩
theorem Q9V (q g : Nat) (B R : List UInt8) (w : World) (h : Rst w q g B R) : Calls prog 140 #[.pointer (some ⟨q, 0, none⟩)] w (TkE q g B encK (jx R) w) := by
 have hq := yt h.v
 have HT := Q9R q g B R 8
 have HR : Hid (Rst w q g B R) := h
 clear h
 cases h1 : j2 8 R with
 | none =>
  have HE : Hid (jx R = none) := by show _ = _; unfold jx; rw [h1]
  have HT1 : Hid (∀ W, Rst W q g B R -> Calls prog 148 #[.pointer (some ⟨q, 0, none⟩), .int .i64 8] W (TkE q g B Value.string none W)) := fun W hW => h1 ▸ HT W hW
  clear HT
  go_enter func140, ntmps140
  go_wp2_with (refine yc rfl 2 rfl 75 rfl _ (jP _) ?_; intro w1 n1 k1 hs1)
  refine (HT1.out w1 (HR.out.k k1)).mono ?_
  rintro e w2 ⟨ht, k2⟩
  obtain ⟨f, o, rfl, hf⟩ := Thr.ex ht
  refine ⟨rfl, ?_⟩
  rw [HE.out]
  exact ⟨ht, (k1.mono (by simp)).trans k2⟩
 | some z =>
  obtain ⟨k, R1⟩ := z
  have hk8 := (QE h1).2
  have HT1 : Hid (∀ W, Rst W q g B R -> Calls prog 148 #[.pointer (some ⟨q, 0, none⟩), .int .i64 8] W (TkE q g B Value.string (some (k, R1)) W)) := fun W hW => h1 ▸ HT W hW
  have hsub : (8 : Int) - (k.size : Int) = ((8 - k.size : Nat) : Int) := by omega
  clear HT
  by_cases hb : 8 - k.size <= R1.length
  ·have HB : Hid (∀ W, Rst W q g B R1 -> Calls prog 149 #[.pointer (some ⟨q, 0, none⟩), .int .i64 ((8 : Int) - (k.size : Int))] W fun e w' => e = .returned (.slice (some ⟨g, 124 - R1.length, none⟩) (8 - k.size) (R1.length + 4)) /\ Rst w' q g B (R1.drop (8 - k.size)) /\ y5 [q] W w') := fun W hW => by rw [hsub]; exact Q9M q g B R1 (8 - k.size) W hW hb
   by_cases hb2 : 8 - k.size + 2 <= R1.length
   ·have HE : Hid (jx R = some ((k, qe ((R1.drop (8 - k.size)).take 2)), R1.drop (8 - k.size + 2))) := by show _ = _; unfold jx; rw [h1]; simp only; rw [if_pos hb2]
    have HN : Hid (∀ W, Rst W q g B (R1.drop (8 - k.size)) -> Calls prog 150 #[.pointer (some ⟨q, 0, none⟩), .int .i64 2] W fun e w' => e = .returned (.int .i64 (qe ((R1.drop (8 - k.size)).take 2) : Nat)) /\ Rst w' q g B (R1.drop (8 - k.size + 2)) /\ y5 [q] W w') := fun W hW => by
     have := Q9O q g B (R1.drop (8 - k.size)) 2 W hW (by rw [List.length_drop]; omega) (by omega)
     rw [List.drop_drop] at this
     exact this
    generalize qe ((R1.drop (8 - k.size)).take 2) = m at *
    have hbd : ∀ W : World, (Instr.build 75 #[(0, .string k), (1, .int .i64 (m : Nat))]).run prog W = .ok (.agg #[.string k, .int .i64 (m : Nat), .nilIface]) W := fun W => by kernel_rfl
    clear hsub
    go_enter func140, ntmps140
    go_wp2_with (refine yc rfl 2 rfl 75 rfl _ (jP _) ?_; intro w1 n1 k1 hs1)
    refine (HT1.out w1 (HR.out.k k1)).mono ?_
    rintro e w2 ⟨⟨rfl, r2⟩, k2⟩
    go_wp2_with fail
    refine (HB.out w2 r2).mono ?_
    rintro e w3 ⟨rfl, r3, k3⟩
    go_wp2_with fail
    refine (HN.out w3 r3).mono ?_
    rintro e w4 ⟨rfl, r4, k4⟩
    have n4 := k4.get (k3.get (k2.get n1 (by simp; omega)) (by simp; omega)) (by simp; omega)
    go_wp2_with (refine yb rfl 75 (.tmp 2) (.tmp 14) rfl w.heap.size #[.string k, .int .i64 (m : Nat), .nilIface] rfl rfl 75 _ n4 stk rfl (yU (qQ _ _ rfl)) ?_; intro w5 n5 k5)
    refine bodyPost_ret (results_cell_row rfl _ w5 w.heap.size 75 _ (0, 0) _ rfl n5 underlying75 rfl stk) rfl ?_
    rw [HE.out]
    refine ⟨⟨rfl, ⟨k5.get r4.v (by simp; omega), k5.get r4.b (by simp; have h1 := yt HR.out.b; omega), r4.l, r4.r, r4.e⟩⟩, ((((k1.mono (by simp)).trans k2).trans k3).trans k4).trans2 k5 (by intro y hy; simp at hy; subst hy; exact Or.inr (Nat.le_refl _))⟩
   ·have HE : Hid (jx R = none) := by show _ = _; unfold jx; rw [h1]; simp only; rw [if_neg hb2]
    have HN : Hid (∀ W, Rst W q g B (R1.drop (8 - k.size)) -> Calls prog 150 #[.pointer (some ⟨q, 0, none⟩), .int .i64 2] W fun e w' => Thr 7 e w' /\ y5 [] W w') := fun W hW => Q9P q g B (R1.drop (8 - k.size)) 2 W hW (by rw [List.length_drop]; omega)
    clear hsub
    go_enter func140, ntmps140
    go_wp2_with (refine yc rfl 2 rfl 75 rfl _ (jP _) ?_; intro w1 n1 k1 hs1)
    refine (HT1.out w1 (HR.out.k k1)).mono ?_
    rintro e w2 ⟨⟨rfl, r2⟩, k2⟩
    go_wp2_with fail
    refine (HB.out w2 r2).mono ?_
    rintro e w3 ⟨rfl, r3, k3⟩
    go_wp2_with fail
    refine (HN.out w3 r3).mono ?_
    rintro e w4 ⟨ht, k4⟩
    obtain ⟨f, o, rfl, hf⟩ := ht.ex
    refine ⟨rfl, ?_⟩
    rw [HE.out]
    exact ⟨ht, (((k1.mono (by simp)).trans k2).trans k3).trans2 k4 (by simp)⟩
  ·have HE : Hid (jx R = none) := by show _ = _; unfold jx; rw [h1]; simp only; rw [if_neg (by omega)]
   have HB : Hid (∀ W, Rst W q g B R1 -> Calls prog 149 #[.pointer (some ⟨q, 0, none⟩), .int .i64 ((8 : Int) - (k.size : Int))] W fun e w' => Thr 7 e w' /\ y5 [] W w') := fun W hW => by rw [hsub]; exact Q9N q g B R1 (8 - k.size) W hW (by omega)
   clear hsub
   go_enter func140, ntmps140
   go_wp2_with (refine yc rfl 2 rfl 75 rfl _ (jP _) ?_; intro w1 n1 k1 hs1)
   refine (HT1.out w1 (HR.out.k k1)).mono ?_
   rintro e w2 ⟨⟨rfl, r2⟩, k2⟩
   go_wp2_with fail
   refine (HB.out w2 r2).mono ?_
   rintro e w3 ⟨ht, k3⟩
   obtain ⟨f, o, rfl, hf⟩ := ht.ex
   refine ⟨rfl, ?_⟩
   rw [HE.out]
   exact ⟨ht, ((k1.mono (by simp)).trans k2).trans2 k3 (by simp)⟩
def kx (k : ByteArray × Nat) : KE := ⟨k.1, .nilIface, k.2⟩
def pk0 (k : ByteArray × Nat) : El := ke (kx k)
def TiI {α : Type} (t : List UInt8 -> Option (α × List UInt8)) (el : α -> El) (T : TypeId) (d n q g g2 : Nat) (B : List UInt8) (w : World) (i : Value) (wr : World) : Prop :=
 ∃ (j : Nat) (l : List α) (R : List UInt8) (cur : List Value), j <= n /\ i = .int .i64 (j : Nat) /\ qD t j ((B.drop 2).take 122) = some (l, R) /\ Rst wr q g B R /\ Rw wr g2 T cur /\ cur.length = n * d /\ cur.take (j * d) = fl (l.map el) /\ y5 [] w wr
def TiR {α : Type} (t : List UInt8 -> Option (α × List UInt8)) (el : α -> El) (T : TypeId) (d n : Nat) (B : List UInt8) (w : World) (e : Ending) (w' : World) : Prop :=
 (match qD t n ((B.drop 2).take 122) with
  | some (l, _) => ∃ v, e = .returned v /\ SL w' T d v (l.map el) /\ ∀ b, v.ownBlock = some b -> w.heap.size <= b
  | none => Thr 7 e w') /\ y5 [] w w'
theorem Q9W (l : List Pr) : Wd 2 (l.map pe) := by
 intro e he
 obtain ⟨x, _, rfl⟩ := List.mem_map.1 he
 rfl
theorem Q9X (l : List (ByteArray × Nat)) : Wd 3 (l.map pk0) := by
 intro e he
 obtain ⟨x, _, rfl⟩ := List.mem_map.1 he
 rfl
theorem Q9Y {w : World} {q g : Nat} {B : List UInt8} (hv : w.heap[q]? = some (.cells #[.slice (some ⟨g, 2, none⟩) 122 126] 217 (0, 0))) (hb : w.heap[g]? = some (.cells (u8s B).toArray 80 (0, 0))) (hl : B.length = 128) : Rst w q g B ((B.drop 2).take 122) := by
 have e : ((B.drop 2).take 122).length = 122 := by rw [List.length_take, List.length_drop]; omega
 exact ⟨by rw [e]; exact hv, hb, hl, by omega, by rw [e]⟩
theorem Q9Z (n : Nat) (hn : n <= 255) : ∃ new : List Value, new.length = n * 2 /\ ∀ W : World, (Instr.makeSlice 134 (.int .i64 (n : Nat)) (.int .i64 (n : Nat))).run prog W = .ok (.slice (some ⟨W.heap.size, 0, none⟩) n n) (W.alloc (.cells new.toArray 138)) := by
 obtain ⟨ie, hie, hz1, hz2, hz3⟩ := info_parts itp
 refine ⟨(madeCells (Value.agg #[.string ⟨#[]⟩, .string ⟨#[]⟩]).cells (n * 2)).toList, by rw [Array.length_toList, size_madeCells], fun W => ?_⟩
 have := run_make (P := prog) W 134 138 ie _ underlying134 hie hz1 .i64 .i64 (n : Int) (n : Int) (by omega) (by omega) (by rw [hz3]; omega) (by omega)
 rw [this, hz2]
 simp only [Int.toNat_natCast, Array.toArray_toList]
theorem Qa0 (g n : Nat) (B : List UInt8) (w : World) (hb : w.heap[g]? = some (.cells (u8s B).toArray 80 (0, 0))) (hl : B.length = 128) (hn : n <= 255) :
  Calls prog 137 #[.slice (some ⟨g, 2, none⟩) 122 126, .int .i64 (n : Nat), .func (.func 138) #[] #[]] w (TiR gu pe 138 2 n B w) := by
 obtain ⟨new, hnew, hmk⟩ := Q9Z n hn
 have HTk : Hid (∀ R W, Rst W w.heap.size g B R -> Calls prog 138 #[.pointer (some ⟨w.heap.size, 0, none⟩)] W (TkE w.heap.size g B encQ (gu R) W)) := fun R W hW => Q9U w.heap.size g B R W hW
 have hen : ∀ (args : Array Value) (W : World), (callFunc 138 args).run prog W = .ok (.enter 138 args) W := fun _ _ => by kernel_rfl
 have HM : Hid _ := hmk
 clear hmk
 go_enter func137, ntmps137
 go_wp2_with (first
  | (refine yK rfl _ _ (gY 217 (.tmp 0) rfl (.slice (some ⟨g, 2, none⟩) 122 126) rfl rfl) ?_; intro w1 n1 q1 hs1; have HS1 : Hid _ := hs1; clear hs1)
  | (at_make; refine gJ rfl _ _ _ rfl _ _ rfl rfl _ _ (HM.out w1) ?_; intro w2 n2 q2 hs2; have HS2 : Hid _ := hs2; clear hs2))
 have r2 : Rst w2 w.heap.size g B ((B.drop 2).take 122) := Q9Y (q2.get n1 (by simp)) (q2.get (q1.get hb (by simp)) (by simp)) hl
 have K2 := q1.trans q2
 have n2' : Rw w2 w1.heap.size 138 new := n2
 have HR2 : Hid (Rst w2 w.heap.size g B ((B.drop 2).take 122)) := r2
 clear r2 n1 n2 q1 q2
 go_loopw [13] (fun i wr => TiI gu pe 138 2 n w.heap.size g w1.heap.size B w i wr) (fun i _ => n - (intOf i).toNat)
 case atStart => exact ⟨0, [], _, new, Nat.zero_le _, rfl, rfl, HR2.out, n2', hnew, by simp [fl], K2⟩
 case round =>
  obtain ⟨j, l, R, cur, hj, rfl, hm, hr, hg, hcl, htk, hk⟩ := hrel
  have hll := Q2u hm
  by_cases hlt : j < n
  ·have hlt' : (j : Int) < (n : Int) := by omega
   have HC := HTk.out R wr hr
   cases hx : gu R with
   | none =>
    rw [hx] at HC
    have HC' : Hid (Calls _ _ _ _ _) := HC
    have HE : Hid (qD gu n ((B.drop 2).take 122) = none) := by
     show _ = _
     have := Zf gu j ((B.drop 2).take 122) R l hm hx (n - (j + 1))
     rw [show j + 1 + (n - (j + 1)) = n by omega] at this
     exact this
    clear HC hr
    go_wp2_with fail
    refine HC'.out.mono ?_
    rintro e w3 ⟨ht, k3⟩
    obtain ⟨f, o, rfl, hf⟩ := Thr.ex ht
    refine ⟨rfl, ?_, hk.trans2 k3 (by intro y hy; simp at hy; subst hy; exact Or.inr (Nat.le_refl _))⟩
    rw [HE.out]
    exact ht
   | some z =>
    obtain ⟨x, R'⟩ := z
    rw [hx] at HC
    have HC' : Hid (Calls _ _ _ _ _) := HC
    have HE : Hid (qD gu (j + 1) ((B.drop 2).take 122) = some (l ++ [x], R')) := by
     show _ = _
     rw [Q2, hm]
     simp only [hx]
    clear HC hr
    go_wp2_with fail
    refine HC'.out.mono ?_
    rintro e w3 ⟨⟨rfl, r3⟩, k3⟩
    have hs1 := HS1.out
    have hg3 : Rw w3 w1.heap.size 138 cur := hg.kept k3 (by simp; omega)
    have hfit : j * 2 + 2 <= cur.length := by rw [hcl]; omega
    have hst := yE (P := prog) w3 w1.heap.size (j * 2) 138 138 cur [.string x.1, .string x.2] hg3 (by rw [stp]; rfl) (by show j * 2 + 2 <= cur.length; exact hfit) (Q9T x)
    have k4 : y5 [w1.heap.size] w3 (w3.setRow w1.heap.size (splice cur (j * 2) [.string x.1, .string x.2]).toArray) := (y5.refl _ _).setRow (Or.inl (by simp)) _
    have hg4 : Rw (w3.setRow w1.heap.size (splice cur (j * 2) [.string x.1, .string x.2]).toArray) w1.heap.size 138 (splice cur (j * 2) [.string x.1, .string x.2]) := setRow_heap _ _ _ _ _ _ hg3
    generalize w3.setRow w1.heap.size (splice cur (j * 2) [.string x.1, .string x.2]).toArray = w4 at *
    have hst' : (storeVar 138 ⟨w1.heap.size, j * 2, none⟩ (encQ x)).run prog w3 = .ok () w4 := hst
    have HRF : Hid (Rst w4 w.heap.size g B R') := ⟨k4.get r3.v (by simp; omega), k4.get r3.b (by simp; exact yP r3.b hg3 (by decide)), r3.l, r3.r, r3.e⟩
    clear r3 hs1
    simp only [encQ]
    go_wp2_with (first
     | (refine y8 rfl _ _ (ya 134 (.tmp 16) (.tmp 17) rfl w1.heap.size 0 n n j 2 rfl rfl 138 underlying134 stp hlt (j * 2) (by omega)) ?_)
     | (refine qM rfl _ (yH 138 (.tmp 20) (.tmp 19) rfl ⟨w1.heap.size, j * 2, none⟩ rfl (.agg (List.toArray [.string x.1, .string x.2])) rfl hst') ?_))
    have hs1 := HS1.out
    have htk' : (splice cur (j * 2) [.string x.1, .string x.2]).take ((j + 1) * 2) = fl ((l ++ [x]).map pe) := by
     rw [List.map_append, yW, <- htk]
     have e1 : (cur.take (j * 2)).length = j * 2 := by rw [List.length_take]; omega
     unfold splice
     rw [List.take_append, e1, List.take_of_length_le (l := cur.take (j * 2)) (by omega), show (j + 1) * 2 - j * 2 = 2 by omega]
     congr 1
    go_roundw
    case rel => exact ⟨j + 1, l ++ [x], R', _, by omega, by go_num, HE.out, HRF.out, hg4, by rw [length_splice _ _ _ (by show j * 2 + 2 <= cur.length; exact hfit), hcl], htk', (hk.trans2 k3 (by intro y hy; simp at hy; subst hy; exact Or.inr (Nat.le_refl _))).trans2 k4 (by intro y hy; simp at hy; subst hy; exact Or.inr (by omega))⟩
    case measure => simp [intOf]; omega
  ·have hge : ¬ (j : Int) < (n : Int) := by omega
   have ej : j = n := by omega
   subst ej
   have HM2 : Hid (qD gu j ((B.drop 2).take 122) = some (l, R)) := hm
   clear hm hr
   go_wp2
   go_ret
   have hs1 := HS1.out
   refine ⟨?_, hk⟩
   rw [HM2.out]
   refine ⟨_, rfl, ?_, ?_⟩
   ·have := OW.close (B := w.heap.size) (w := wr) (Q9W l) (by omega) hg (by rw [List.length_map, hll]) (Nat.le_refl _) (by unfold maxLen; omega) hcl htk
    exact this.sl
   ·intro b hb
    simp [Value.ownBlock] at hb
    omega
theorem Qa1 (n : Nat) (hn : n <= 255) : ∃ new : List Value, new.length = n * 3 /\ ∀ W : World, (Instr.makeSlice 177 (.int .i64 (n : Nat)) (.int .i64 (n : Nat))).run prog W = .ok (.slice (some ⟨W.heap.size, 0, none⟩) n n) (W.alloc (.cells new.toArray 75)) := by
 obtain ⟨ie, hie, hz1, hz2, hz3⟩ := info_parts itk
 refine ⟨(madeCells (Value.agg #[.string ⟨#[]⟩, .int .i64 0, .nilIface]).cells (n * 3)).toList, by rw [Array.length_toList, size_madeCells], fun W => ?_⟩
 have := run_make (P := prog) W 177 75 ie _ underlying177 hie hz1 .i64 .i64 (n : Int) (n : Int) (by omega) (by omega) (by rw [hz3]; omega) (by omega)
 rw [this, hz2]
 simp only [Int.toNat_natCast, Array.toArray_toList]
theorem Qa2 (g n : Nat) (B : List UInt8) (w : World) (hb : w.heap[g]? = some (.cells (u8s B).toArray 80 (0, 0))) (hl : B.length = 128) (hn : n <= 255) :
  Calls prog 139 #[.slice (some ⟨g, 2, none⟩) 122 126, .int .i64 (n : Nat), .func (.func 140) #[] #[]] w (TiR jx pk0 75 3 n B w) := by
 obtain ⟨new, hnew, hmk⟩ := Qa1 n hn
 have HTk : Hid (∀ R W, Rst W w.heap.size g B R -> Calls prog 140 #[.pointer (some ⟨w.heap.size, 0, none⟩)] W (TkE w.heap.size g B encK (jx R) W)) := fun R W hW => Q9V w.heap.size g B R W hW
 have hen : ∀ (args : Array Value) (W : World), (callFunc 140 args).run prog W = .ok (.enter 140 args) W := fun _ _ => by kernel_rfl
 have HM : Hid _ := hmk
 clear hmk
 go_enter func139, ntmps139
 go_wp2_with (first
  | (refine yK rfl _ _ (gY 217 (.tmp 0) rfl (.slice (some ⟨g, 2, none⟩) 122 126) rfl rfl) ?_; intro w1 n1 q1 hs1; have HS1 : Hid _ := hs1; clear hs1)
  | (at_make; refine gJ rfl _ _ _ rfl _ _ rfl rfl _ _ (HM.out w1) ?_; intro w2 n2 q2 hs2; have HS2 : Hid _ := hs2; clear hs2))
 have r2 : Rst w2 w.heap.size g B ((B.drop 2).take 122) := Q9Y (q2.get n1 (by simp)) (q2.get (q1.get hb (by simp)) (by simp)) hl
 have K2 := q1.trans q2
 have n2' : Rw w2 w1.heap.size 75 new := n2
 have HR2 : Hid (Rst w2 w.heap.size g B ((B.drop 2).take 122)) := r2
 clear r2 n1 n2 q1 q2
 go_loopw [13] (fun i wr => TiI jx pk0 75 3 n w.heap.size g w1.heap.size B w i wr) (fun i _ => n - (intOf i).toNat)
 case atStart => exact ⟨0, [], _, new, Nat.zero_le _, rfl, rfl, HR2.out, n2', hnew, by simp [fl], K2⟩
 case round =>
  obtain ⟨j, l, R, cur, hj, rfl, hm, hr, hg, hcl, htk, hk⟩ := hrel
  have hll := Q2u hm
  by_cases hlt : j < n
  ·have hlt' : (j : Int) < (n : Int) := by omega
   have HC := HTk.out R wr hr
   cases hx : jx R with
   | none =>
    rw [hx] at HC
    have HC' : Hid (Calls _ _ _ _ _) := HC
    have HE : Hid (qD jx n ((B.drop 2).take 122) = none) := by
     show _ = _
     have := Zf jx j ((B.drop 2).take 122) R l hm hx (n - (j + 1))
     rw [show j + 1 + (n - (j + 1)) = n by omega] at this
     exact this
    clear HC hr
    go_wp2_with fail
    refine HC'.out.mono ?_
    rintro e w3 ⟨ht, k3⟩
    obtain ⟨f, o, rfl, hf⟩ := Thr.ex ht
    refine ⟨rfl, ?_, hk.trans2 k3 (by intro y hy; simp at hy; subst hy; exact Or.inr (Nat.le_refl _))⟩
    rw [HE.out]
    exact ht
   | some z =>
    obtain ⟨x, R'⟩ := z
    rw [hx] at HC
    have HC' : Hid (Calls _ _ _ _ _) := HC
    have HE : Hid (qD jx (j + 1) ((B.drop 2).take 122) = some (l ++ [x], R')) := by
     show _ = _
     rw [Q2, hm]
     simp only [hx]
    clear HC hr
    go_wp2_with fail
    refine HC'.out.mono ?_
    rintro e w3 ⟨⟨rfl, r3⟩, k3⟩
    have hs1 := HS1.out
    have hg3 : Rw w3 w1.heap.size 75 cur := hg.kept k3 (by simp; omega)
    have hfit : j * 3 + 3 <= cur.length := by rw [hcl]; omega
    have hst := yE (P := prog) w3 w1.heap.size (j * 3) 75 75 cur [.string x.1, .int .i64 (x.2 : Nat), .nilIface] hg3 (by rw [stk]; rfl) (by show j * 3 + 3 <= cur.length; exact hfit) (qQ _ _ rfl)
    have k4 : y5 [w1.heap.size] w3 (w3.setRow w1.heap.size (splice cur (j * 3) [.string x.1, .int .i64 (x.2 : Nat), .nilIface]).toArray) := (y5.refl _ _).setRow (Or.inl (by simp)) _
    have hg4 : Rw (w3.setRow w1.heap.size (splice cur (j * 3) [.string x.1, .int .i64 (x.2 : Nat), .nilIface]).toArray) w1.heap.size 75 (splice cur (j * 3) [.string x.1, .int .i64 (x.2 : Nat), .nilIface]) := setRow_heap _ _ _ _ _ _ hg3
    generalize w3.setRow w1.heap.size (splice cur (j * 3) [.string x.1, .int .i64 (x.2 : Nat), .nilIface]).toArray = w4 at *
    have hst' : (storeVar 75 ⟨w1.heap.size, j * 3, none⟩ (encK x)).run prog w3 = .ok () w4 := hst
    have HRF : Hid (Rst w4 w.heap.size g B R') := ⟨k4.get r3.v (by simp; omega), k4.get r3.b (by simp; exact yP r3.b hg3 (by decide)), r3.l, r3.r, r3.e⟩
    clear r3 hs1
    simp only [encK]
    go_wp2_with (first
     | (refine y8 rfl _ _ (ya 177 (.tmp 16) (.tmp 17) rfl w1.heap.size 0 n n j 3 rfl rfl 75 underlying177 stk hlt (j * 3) (by omega)) ?_)
     | (refine qM rfl _ (yH 75 (.tmp 20) (.tmp 19) rfl ⟨w1.heap.size, j * 3, none⟩ rfl (.agg (List.toArray [.string x.1, .int .i64 (x.2 : Nat), .nilIface])) rfl hst') ?_))
    have hs1 := HS1.out
    have htk' : (splice cur (j * 3) [.string x.1, .int .i64 (x.2 : Nat), .nilIface]).take ((j + 1) * 3) = fl ((l ++ [x]).map pk0) := by
     rw [List.map_append, yW, <- htk]
     have e1 : (cur.take (j * 3)).length = j * 3 := by rw [List.length_take]; omega
     unfold splice
     rw [List.take_append, e1, List.take_of_length_le (l := cur.take (j * 3)) (by omega), show (j + 1) * 3 - j * 3 = 3 by omega]
     congr 1
    go_roundw
    case rel => exact ⟨j + 1, l ++ [x], R', _, by omega, by go_num, HE.out, HRF.out, hg4, by rw [length_splice _ _ _ (by show j * 3 + 3 <= cur.length; exact hfit), hcl], htk', (hk.trans2 k3 (by intro y hy; simp at hy; subst hy; exact Or.inr (Nat.le_refl _))).trans2 k4 (by intro y hy; simp at hy; subst hy; exact Or.inr (by omega))⟩
    case measure => simp [intOf]; omega
  ·have hge : ¬ (j : Int) < (n : Int) := by omega
   have ej : j = n := by omega
   subst ej
   have HM2 : Hid (qD jx j ((B.drop 2).take 122) = some (l, R)) := hm
   clear hm hr
   go_wp2
   go_ret
   have hs1 := HS1.out
   refine ⟨?_, hk⟩
   rw [HM2.out]
   refine ⟨_, rfl, ?_, ?_⟩
   ·have := OW.close (B := w.heap.size) (w := wr) (Q9X l) (by omega) hg (by rw [List.length_map, hll]) (Nat.le_refl _) (by unfold maxLen; omega) hcl htk
    exact this.sl
   ·intro b hb
    simp [Value.ownBlock] at hb
    omega
theorem Qa3 {P : Program} {o : Oper} {a : Act} {w : World} (t u : TypeId) (x y : Operand) (ho : o.op = .binOp .eql t x y u) (A B : List UInt8) (hx : a.eval x = .agg (u8s A).toArray) (hy : a.eval y = .agg (u8s B).toArray)
  (len : Nat) (e : TypeId) (hA : A.length = len) (hB : B.length = len) (ht : P.underlying t = some (.array len e)) (he : P.underlying e = some (.int .u8)) (hs : (P.info? e).map (·.size) = some 1) (hm : P.eqGuardType P.depth t = false) :
  (execOp a.eval o).run P w = .ok (.value (.bool (decide (A = B)))) w := by
 have h1 : (binOp .eql t (.agg (u8s A).toArray) (.agg (u8s B).toArray)).run P w = .ok (.bool (decide (A = B))) w := by
  rw [run_eql_struct, Q6w P w 9998 len t e A B hA hB ht he hs]; rfl
 unfold execOp
 simp only [ho, hx, hy, Sem.run_bind, run_eqGuard_agg (P := P) (w := w) .eql t x y _ _ hm, h1, Result.andThen_ok, Sem.run_pure]
def NbV (w : World) (A : Nat -> Prop) : Nb -> Value -> Prop
 | .leaf l, x => ∃ v, x = .iface 135 v /\ LF w v l /\ ∀ b, v.ownBlock = some b -> A b
 | .branch ks, x => ∃ v, x = .iface 180 v /\ SL w 75 3 v (ks.map pk0) /\ ∀ b, v.ownBlock = some b -> A b
def TnR (B : List UInt8) (w : World) (e : Ending) (w' : World) : Prop :=
 (match QV B with
  | some nb => ∃ x, e = .returned x /\ NbV w' (fun y => w.heap.size <= y) nb x
  | none => Thr 7 e w') /\ y5 [] w w'
def TnS (g : Nat) (B : List UInt8) (W : World) : Prop := W.heap[g]? = some (.cells (u8s B).toArray 80 (0, 0))
theorem Qa4 (W : World) (g : Nat) : (Instr.sliceAt 80 (.pointer (some ⟨g, 0, none⟩)) (some (.int .i64 2)) (some (.int .i64 124)) none).run prog W = .ok (.slice (some ⟨g, 2, none⟩) 122 126) W := by kernel_rfl
theorem j9 (args : Array Value) (w : World) : (callFunc 141 args).run prog w = .ok (.enter 141 args) w := qA func141 (by kernel_rfl) (by kernel_rfl) args w
theorem Qa5 {n : Nat} {R R' : List UInt8} {l : List Pr} (hR : R.length <= 122) (h : qD gu n R = some (l, R')) : jX (.leaf l) := by
 obtain ⟨h1, h2⟩ := Zk (G := fun p : Pr => p.1.size <= 8 /\ p.2.size <= 12) (sz := fun p : Pr => 2 + p.1.size + p.2.size) (fun r a r' h => by obtain ⟨a1, a2⟩ := Q2p h; exact ⟨a2, by rw [a1, List.length_append, ZQ]⟩) h
 exact ⟨h1, by omega⟩
theorem Qa6 {n : Nat} {R R' : List UInt8} {l : List (ByteArray × Nat)} (hR : R.length <= 122) (h : qD jx n R = some (l, R')) : jX (.branch l) := by
 obtain ⟨h1, h2⟩ := Zk (G := fun k : ByteArray × Nat => k.1.size <= 8 /\ k.2 < 65536) (sz := fun _ => 11) (fun r a r' h => by obtain ⟨a1, a2, a3⟩ := Q2s h; exact ⟨⟨a1, a2⟩, a3⟩) h
 have h3 : (l.map fun _ => 11).sum = 11 * l.length := by
  clear h h1 h2
  induction l with
  | nil => rfl
  | cons a l ih => simp [ih]; omega
 exact ⟨h1, by omega⟩
theorem Qa7 (l : List (ByteArray × Nat)) : (l.map kx).map ke = l.map pk0 /\ (l.map kx).map kp = l := by
 constructor
 ·rw [List.map_map]; rfl
 ·rw [List.map_map]
  conv => rhs; rw [<- List.map_id l]
  rfl
theorem Qa8 (B : List UInt8) (w : World) (hB : B.length = 128) : Calls prog 129 #[.agg (u8s B).toArray] w (TnR B w) := by
 obtain ⟨b0, b1, rest, eB⟩ : ∃ b0 b1 rest, B = b0 :: b1 :: rest := by
  match B, hB with
  | b0 :: b1 :: rest, _ => exact ⟨b0, b1, rest, rfl⟩
 have hB0 : B[0]? = some b0 := by rw [eB]; rfl
 have hB1 : B[1]? = some b1 := by rw [eB]; rfl
 have hc0 : (u8s B).toArray[0]? = some (.int .u8 b0.toNat) := by rw [eB]; rfl
 have hc1 : (u8s B).toArray[1]? = some (.int .u8 b1.toNat) := by rw [eB]; rfl
 have h1 := b1.toNat_lt
 have h0 := b0.toNat_lt
 clear eB
 go_enter func129, ntmps129
 go_wp2_with (refine yK rfl _ _ (gy 80 (.tmp 0) rfl (u8s B).toArray rfl) ?_; intro w1 n1 k1 hs1; have HS1 : Hid _ := hs1; clear hs1)
 have hS : TnS w.heap.size B w1.drew := n1
 refine yj (TnS w.heap.size B) (by kernel_rfl) ?_
 refine hu 0 ((.slice (some ⟨w.heap.size, 2, none⟩) 122 126)) rfl (fun W hW => yu 80 (.tmp 1) (some (.const (.int .i64 2))) (some (.const (.int .i64 124))) none rfl _ (some (.int .i64 2)) (some (.int .i64 124)) none rfl rfl rfl rfl _ (Qa4 W _)) hS ?_
 simp only [zP, zA, zC, zD, zE, zF]
 refine hu 1 ((.pointer (some ⟨w.heap.size, 1, none⟩))) rfl (fun W hW => by rfl) hS ?_
 simp only [zP, zA, zB, zC, zD, zE, zF]
 refine hu 2 ((.int .u8 b1.toNat)) rfl (fun W hW => y9 5 (.tmp 7) rfl ⟨w.heap.size, 1, none⟩ rfl _ (yh underlying5 rfl (y6 hW hc1))) hS ?_
 simp only [zP, zA, zB, zC, zD, zE, zF]
 refine hu 3 ((.int .i64 (IntKind.i64.wrap (b1.toNat : Int)))) rfl (fun W hW => Q2a 5 3 (.tmp 8) rfl .u8 .i64 _ _ rfl underlying5 underlying3) hS ?_
 simp only [zP, zA, zB, zC, zD, zE, zF]
 rw [show IntKind.i64.wrap (b1.toNat : Int) = (b1.toNat : Int) by rw [IntKind.wrap_i64]; omega]
 refine hu 4 ((.slice (some ⟨w.heap.size, 2, none⟩) 122 126)) rfl (fun W hW => by rfl) hS ?_
 simp only [zP, zA, zB, zC, zD, zE, zF]
 refine hu 5 ((.int .i64 (b1.toNat : Nat))) rfl (fun W hW => by rfl) hS ?_
 simp only [zP, zA, zB, zC, zD, zE, zF]
 refine wpAnyH_done (by kernel_rfl) ?_ _
 have hrow : w1.drew.heap[w.heap.size]? = some (.cells (u8s B).toArray 80 (0, 0)) := n1
 have cw0 : w1.drew.cell? ⟨w.heap.size, 0, none⟩ = some (.int .u8 b0.toNat) := y6 hrow hc0
 have K2 : y5 [] w w1.drew := k1.drew
 generalize w1.drew = w2 at *
 clear hS n1 k1
 by_cases hb0 : b0 = 76
 ·have hi0 : (b0.toNat : Int) = 76 := by rw [hb0]; rfl
  rw [hi0] at cw0
  have HD : Hid (QV B = match qD gu b1.toNat ((B.drop 2).take 122) with
    | none => none
    | some (l, _) => if encL l = B then some (.leaf l) else none) := by
   show _ = _
   unfold QV
   simp only [hB0, hB1, Option.getD_some]
   simp only [hb0]
   rfl
  have HTk : Hid (∀ W : World, W.heap[w.heap.size]? = some (.cells (u8s B).toArray 80 (0, 0)) -> _) := fun W hW => Qa0 w.heap.size b1.toNat B W hW hB (by omega)
  cases hm : qD gu b1.toNat ((B.drop 2).take 122) with
  | none =>
   rw [hm] at HD
   go_wp2_with fail
   refine (HTk.out _ hrow).mono ?_
   rintro e w3 ⟨ht, k3⟩
   rw [hm] at ht
   obtain ⟨f, o, rfl, hf⟩ := Thr.ex ht
   refine ⟨rfl, ?_, K2.trans k3⟩
   rw [HD.out]
   exact ht
  | some z =>
   obtain ⟨l, R'⟩ := z
   rw [hm] at HD
   have hfit := Qa5 (by rw [List.length_take]; omega) hm
   have hEl : (encL l).length = 128 := Z3 (n := .leaf l) hfit
   go_wp2_with fail
   refine (HTk.out _ hrow).mono ?_
   rintro e w3 ⟨hres, k3⟩
   rw [hm] at hres
   obtain ⟨v, rfl, hl3, ho3⟩ := hres
   have K3 := K2.trans k3
   obtain ⟨p, cc, ev⟩ := hl3.shape
   rw [List.length_map] at ev
   subst ev
   have hrow3 := k3.get hrow (by simp)
   have HL3 : Hid (SL w3 138 2 (.slice p l.length cc) (l.map pe)) := hl3
   clear HTk
   go_wp2_with fail
   have hSd : TnS w.heap.size B w3.drew := hrow3
   obtain ⟨tt, et, hmb, heb⟩ := Q6n p l.length cc
   cases et
   have HBk : Hid (Calls _ _ _ _ _) := ZG (.slice p l.length cc) l w3.drew (SL.kept hl3 (y5.refl [] w3).drew) hfit
   refine yj (TnS w.heap.size B) (by kernel_rfl) ?_
   refine hu 0 ((.iface 135 (.slice p l.length cc))) rfl (fun W hW => by rfl) hSd ?_
   simp only [zP, zA, zC, zD, zE, zF]
   refine hu 1 ((.bool true)) rfl (fun W hW => by rfl) hSd ?_
   simp only [zP, zA, zB, zC, zD, zE, zF]
   refine hu 2 ((.bool true)) rfl (fun W hW => by rfl) hSd ?_
   simp only [zP, zA, zB, zC, zD, zE, zF]
   refine hu 3 ((.iface 135 (.slice p l.length cc))) rfl (fun W hW => by rfl) hSd ?_
   simp only [zP, zA, zB, zC, zD, zE, zF]
   refine hu 5 ((.agg (u8s B).toArray)) rfl (fun W hW => y9 80 (.tmp 1) rfl ⟨w.heap.size, 0, none⟩ rfl _ (Q80 hW hB)) hSd ?_
   simp only [zP, zA, zB, zC, zD, zE, zF]
   refine yf (i := 4) (by kernel_rfl) (yo rfl (by rfl) _ #[(.slice p l.length cc)] (QO (.tmp 27) "store/tree.block" rfl 135 (.slice p l.length cc) rfl _ (hmb _) (heb _ _)) _ HBk.out ?_)
   rintro e wz ⟨rfl, kz⟩
   have hSz : TnS w.heap.size B wz := kz.get hSd (by simp)
   refine ⟨_, rfl, hSz, ?_⟩
   simp only [zP, zA, zB, zC, zD, zE, zF]
   refine hu 6 ((.bool (decide (encL l = B)))) rfl (fun W hW => Qa3 80 80 (.tmp 28) (.tmp 29) rfl (encL l) B rfl rfl 128 5 hEl hB underlying80 underlying5 su8 (by kernel_rfl)) hSz ?_
   simp only [zP, zA, zB, zC, zD, zE, zF]
   by_cases hEq : encL l = B
   ·rw [show decide (encL l = B) = true from decide_eq_true hEq]
    refine hu 7 ((.bool true)) rfl (fun W hW => by rfl) hSz ?_
    simp only [zP, zA, zB, zC, zD, zE, zF]
    refine yf (i := 8) (by kernel_rfl) (yo rfl (by rfl) 141 #[.bool true] (yk _ _ _ rfl _ (by simp [Act.eval]) (j9 _ _)) _ (gk _) ?_)
    rintro e wy ⟨rfl, ey⟩
    subst ey
    refine ⟨_, rfl, hSz, ?_⟩
    simp only [zP, zA, zB, zC, zD, zE, zF]
    refine wpAnyH_done (by kernel_rfl) ?_ _
    rw [if_pos hEq] at HD
    have KZ : y5 [] w wy := (K3.trans (y5.refl [] w3).drew).trans kz
    have FIN : Hid (NbV wy (fun y => w.heap.size <= y) (.leaf l) (.iface 135 (.slice p l.length cc))) := ⟨_, rfl, SL.kept HL3.out ((y5.refl [] w3).drew.trans kz), fun b hb => Nat.le_trans K2.size (ho3 b hb)⟩
    clear hSd hSz hl3
    go_wp2
    go_ret
    refine ⟨?_, KZ⟩
    rw [HD.out]
    exact ⟨_, rfl, FIN.out⟩
   ·rw [show decide (encL l = B) = false from decide_eq_false hEq]
    refine hu 7 ((.bool false)) rfl (fun W hW => by rfl) hSz ?_
    simp only [zP, zA, zB, zC, zD, zE, zF]
    refine yf (i := 8) (by kernel_rfl) (gM rfl (by rfl) 141 #[.bool false] (yk _ _ _ rfl _ (by simp [Act.eval]) (j9 _ _)) _ (gg _) ?_)
    rintro e wy ⟨ht, ky⟩
    obtain ⟨f, o, rfl, hf⟩ := ht.ex
    refine Or.inr ⟨_, rfl, rfl, ?_⟩
    rw [if_neg hEq] at HD
    refine ⟨?_, ((K3.trans (y5.refl [] w3).drew).trans kz).trans ky⟩
    rw [HD.out]
    exact ht
 ·by_cases hb6 : b0 = 66
  ·have hi0 : (b0.toNat : Int) = 66 := by rw [hb6]; rfl
   rw [hi0] at cw0
   have hb0 : b0 = 66 := hb6
   have HD : Hid (QV B = match qD jx b1.toNat ((B.drop 2).take 122) with
     | none => none
     | some (l, _) => if Zw l = B then some (.branch l) else none) := by
    show _ = _
    unfold QV
    simp only [hB0, hB1, Option.getD_some]
    simp only [hb0]
    rfl
   have HTk : Hid (∀ W : World, W.heap[w.heap.size]? = some (.cells (u8s B).toArray 80 (0, 0)) -> _) := fun W hW => Qa2 w.heap.size b1.toNat B W hW hB (by omega)
   cases hm : qD jx b1.toNat ((B.drop 2).take 122) with
   | none =>
    rw [hm] at HD
    go_wp2_with fail
    refine (HTk.out _ hrow).mono ?_
    rintro e w3 ⟨ht, k3⟩
    rw [hm] at ht
    obtain ⟨f, o, rfl, hf⟩ := Thr.ex ht
    refine ⟨rfl, ?_, K2.trans k3⟩
    rw [HD.out]
    exact ht
   | some z =>
    obtain ⟨l, R'⟩ := z
    rw [hm] at HD
    have hfit := Qa6 (by rw [List.length_take]; omega) hm
    have hEl : (Zw l).length = 128 := Z3 (n := .branch l) hfit
    go_wp2_with fail
    refine (HTk.out _ hrow).mono ?_
    rintro e w3 ⟨hres, k3⟩
    rw [hm] at hres
    obtain ⟨v, rfl, hl3, ho3⟩ := hres
    have K3 := K2.trans k3
    obtain ⟨p, cc, ev⟩ := hl3.shape
    rw [List.length_map] at ev
    subst ev
    have hrow3 := k3.get hrow (by simp)
    have HBB : Hid (Calls prog 213 #[.slice p l.length cc] w3.drew fun e w' => e = .returned (.agg (u8s (Zw l)).toArray) /\ y5 [] w3.drew w') := by
     have := Q6p (.slice p l.length cc) (l.map kx) w3.drew (by rw [(Qa7 l).1]; exact SL.kept hl3 (y5.refl [] w3).drew) (by rw [(Qa7 l).2]; exact hfit) (by intro x hx; obtain ⟨k, _, rfl⟩ := List.mem_map.1 hx; exact Or.inl rfl)
     rw [(Qa7 l).2] at this
     exact this
    have HL3 : Hid (SL w3 75 3 (.slice p l.length cc) (l.map pk0)) := hl3
    clear HTk
    go_wp2_with fail
    have hSd : TnS w.heap.size B w3.drew := hrow3
    obtain ⟨tt, et, hmb, heb⟩ := Q6o p l.length cc
    cases et
    have HBk : Hid (Calls _ _ _ _ _) := HBB.out
    refine yj (TnS w.heap.size B) (by kernel_rfl) ?_
    refine hu 0 ((.iface 180 (.slice p l.length cc))) rfl (fun W hW => by rfl) hSd ?_
    simp only [zP, zA, zC, zD, zE, zF]
    refine hu 1 ((.bool true)) rfl (fun W hW => by rfl) hSd ?_
    simp only [zP, zA, zB, zC, zD, zE, zF]
    refine hu 2 ((.bool true)) rfl (fun W hW => by rfl) hSd ?_
    simp only [zP, zA, zB, zC, zD, zE, zF]
    refine hu 3 ((.iface 180 (.slice p l.length cc))) rfl (fun W hW => by rfl) hSd ?_
    simp only [zP, zA, zB, zC, zD, zE, zF]
    refine hu 5 ((.agg (u8s B).toArray)) rfl (fun W hW => y9 80 (.tmp 1) rfl ⟨w.heap.size, 0, none⟩ rfl _ (Q80 hW hB)) hSd ?_
    simp only [zP, zA, zB, zC, zD, zE, zF]
    refine yf (i := 4) (by kernel_rfl) (yo rfl (by rfl) _ #[(.slice p l.length cc)] (QO (.tmp 27) "store/tree.block" rfl 180 (.slice p l.length cc) rfl _ (hmb _) (heb _ _)) _ HBk.out ?_)
    rintro e wz ⟨rfl, kz⟩
    have hSz : TnS w.heap.size B wz := kz.get hSd (by simp)
    refine ⟨_, rfl, hSz, ?_⟩
    simp only [zP, zA, zB, zC, zD, zE, zF]
    refine hu 6 ((.bool (decide (Zw l = B)))) rfl (fun W hW => Qa3 80 80 (.tmp 28) (.tmp 29) rfl (Zw l) B rfl rfl 128 5 hEl hB underlying80 underlying5 su8 (by kernel_rfl)) hSz ?_
    simp only [zP, zA, zB, zC, zD, zE, zF]
    by_cases hEq : Zw l = B
    ·rw [show decide (Zw l = B) = true from decide_eq_true hEq]
     refine hu 7 ((.bool true)) rfl (fun W hW => by rfl) hSz ?_
     simp only [zP, zA, zB, zC, zD, zE, zF]
     refine yf (i := 8) (by kernel_rfl) (yo rfl (by rfl) 141 #[.bool true] (yk _ _ _ rfl _ (by simp [Act.eval]) (j9 _ _)) _ (gk _) ?_)
     rintro e wy ⟨rfl, ey⟩
     subst ey
     refine ⟨_, rfl, hSz, ?_⟩
     simp only [zP, zA, zB, zC, zD, zE, zF]
     refine wpAnyH_done (by kernel_rfl) ?_ _
     rw [if_pos hEq] at HD
     have KZ : y5 [] w wy := (K3.trans (y5.refl [] w3).drew).trans kz
     have FIN : Hid (NbV wy (fun y => w.heap.size <= y) (.branch l) (.iface 180 (.slice p l.length cc))) := ⟨_, rfl, SL.kept HL3.out ((y5.refl [] w3).drew.trans kz), fun b hb => Nat.le_trans K2.size (ho3 b hb)⟩
     clear hSd hSz hl3
     go_wp2
     go_ret
     refine ⟨?_, KZ⟩
     rw [HD.out]
     exact ⟨_, rfl, FIN.out⟩
    ·rw [show decide (Zw l = B) = false from decide_eq_false hEq]
     refine hu 7 ((.bool false)) rfl (fun W hW => by rfl) hSz ?_
     simp only [zP, zA, zB, zC, zD, zE, zF]
     refine yf (i := 8) (by kernel_rfl) (gM rfl (by rfl) 141 #[.bool false] (yk _ _ _ rfl _ (by simp [Act.eval]) (j9 _ _)) _ (gg _) ?_)
     rintro e wy ⟨ht, ky⟩
     obtain ⟨f, o, rfl, hf⟩ := ht.ex
     refine Or.inr ⟨_, rfl, rfl, ?_⟩
     rw [if_neg hEq] at HD
     refine ⟨?_, ((K3.trans (y5.refl [] w3).drew).trans kz).trans ky⟩
     rw [HD.out]
     exact ht
  ·have hi7 : ¬ (b0.toNat : Int) = 76 := fun e => hb0 (UInt8.toNat_inj.1 (by show b0.toNat = 76; omega))
   have hi6 : ¬ (b0.toNat : Int) = 66 := fun e => hb6 (UInt8.toNat_inj.1 (by show b0.toNat = 66; omega))
   have HD : Hid (QV B = none) := by
    show _ = _
    unfold QV
    simp only [hB0]
    rw [if_neg (by simpa using hb0), if_neg (by simpa using hb6)]
   go_wp2_with fail
   have hSd : TnS w.heap.size B w2.drew := hrow
   refine yj (TnS w.heap.size B) (by kernel_rfl) ?_
   refine hu 0 (.nilIface) rfl (fun W hW => by rfl) hSd ?_
   simp only [zP, zA, zC, zD, zE, zF]
   refine hu 1 ((.bool false)) rfl (fun W hW => by rfl) hSd ?_
   simp only [zP, zA, zB, zC, zD, zE, zF]
   refine hu 2 ((.bool false)) rfl (fun W hW => by rfl) hSd ?_
   simp only [zP, zA, zB, zC, zD, zE, zF]
   refine wpAnyH_take (i := 3) (v := undef) rfl (by kernel_rfl) (by kernel_rfl) (by kernel_rfl) (fun _ _ _ h => h) (Or.inr ⟨by rfl, rfl⟩) hSd ?_
   simp only [zP, zA, zB, zC, zD, zE, zF]
   refine wpAnyH_take (i := 4) (v := undef) rfl (by kernel_rfl) (by kernel_rfl) (by kernel_rfl) (fun _ _ _ h => h) (Or.inr ⟨by rfl, rfl⟩) hSd ?_
   simp only [zP, zA, zB, zC, zD, zE, zF]
   refine wpAnyH_take (i := 5) (v := undef) rfl (by kernel_rfl) (by kernel_rfl) (by kernel_rfl) (fun _ _ _ h => h) (Or.inr ⟨by rfl, rfl⟩) hSd ?_
   simp only [zP, zA, zB, zC, zD, zE, zF]
   refine wpAnyH_take (i := 6) (v := undef) rfl (by kernel_rfl) (by kernel_rfl) (by kernel_rfl) (fun _ _ _ h => h) (Or.inr ⟨by rfl, rfl⟩) hSd ?_
   simp only [zP, zA, zB, zC, zD, zE, zF]
   refine hu 7 ((.bool false)) rfl (fun W hW => by rfl) hSd ?_
   simp only [zP, zA, zB, zC, zD, zE, zF]
   refine yf (i := 8) (by kernel_rfl) (gM rfl (by rfl) 141 #[.bool false] (yk _ _ _ rfl _ (by simp [Act.eval]) (j9 _ _)) _ (gg _) ?_)
   rintro e wy ⟨ht, ky⟩
   obtain ⟨f, o, rfl, hf⟩ := ht.ex
   refine Or.inr ⟨_, rfl, rfl, ?_, (K2.trans (y5.refl [] w2).drew).trans ky⟩
   rw [HD.out]
   exact ht
end Go.Proofs.YtcklgafpgdhnaabGreatDoor
