import Derived.Test.YtcklgafpgdhnaaaGreatDoorPtac
import Derived.Laws.AppendOwnNone
import Derived.Laws.ResultCell
set_option maxRecDepth 100000
set_option maxHeartbeats 4000000
open Go.Proofs.Tryz
open Go.Act renaming put → zP
open List renaming getElem_toArray → zA, getElem_cons_succ → zB, getElem_cons_zero → zC, setIfInBounds_toArray → zD, set_cons_succ → zE, set_cons_zero → zF
namespace Go.Proofs.YtcklgafpgdhnaaaGreatDoor
open Go.RowKit
def put1 (L : List UInt8) (x : Wt) (s : Nat) : List UInt8 := splice L (x.1 * 128 + s * 32) ((x.2.drop (s * 32)).take 32)
def svN (c : Nat -> Bool) (L : List UInt8) (x : Wt) : Nat -> List UInt8
 | 0 => L
 | s + 1 => if c s then put1 (svN c L x s) x s else svN c L x s
inductive Sr (L : List UInt8) : List Wt -> List UInt8 -> Prop
 | nil : Sr L [] L
 | snoc {q : List Wt} {L1 : List UInt8} (h : Sr L q L1) (x : Wt) (c : Nat -> Bool) : Sr L (q ++ [x]) (svN c L1 x 4)
theorem Q22 {c c' : Nat -> Bool} {L : List UInt8} {x : Wt} : ∀ s, (∀ k, k < s -> c k = c' k) -> svN c L x s = svN c' L x s
 | 0, _ => rfl
 | s + 1, h => by rw [svN, svN, Q22 s fun k hk => h k (by omega), h s (by omega)]
theorem Q23 (L : List UInt8) (x : Wt) : ∀ s, svN (fun _ => false) L x s = L
 | 0 => rfl
 | s + 1 => by rw [svN, Q23 L x s]; rfl
theorem Sr.rest {L L1 : List UInt8} {q : List Wt} (h : Sr L q L1) : ∀ r, Sr L (q ++ r) L1 := by
 intro r
 induction r generalizing q with
 | nil => simpa using h
 | cons x r ih =>
  have := h.snoc x fun _ => false
  rw [Q23] at this
  simpa using ih this
theorem Q24 {c : Nat -> Bool} {L : List UInt8} {x : Wt} {n : Nat} (hL : L.length = n * 128) (hx : x.1 < n) (h2 : x.2.length = 128) : ∀ s, s <= 4 -> (svN c L x s).length = n * 128
 | 0, _ => hL
 | s + 1, hs => by
  have ih := Q24 (c := c) hL hx h2 s (by omega)
  rw [svN]
  split
  ·rw [put1, length_splice _ _ _ (by rw [List.length_take, List.length_drop]; omega), ih]
  ·exact ih
theorem Sr.len {L L1 : List UInt8} {q : List Wt} {n : Nat} (h : Sr L q L1) (hL : L.length = n * 128) (hq : Fit n q) : L1.length = n * 128 := by
 induction h with
 | nil => exact hL
 | snoc h x c ih => exact Q24 (ih fun y hy => hq y (by simp [hy])) (hq x (by simp)).1 (hq x (by simp)).2 4 (by omega)
def Q25 (c : Nat -> Bool) (s : Nat) (b : Bool) : Nat -> Bool := fun k => if k = s then b else c k
theorem Q26 (c : Nat -> Bool) (s : Nat) (b : Bool) (L : List UInt8) (x : Wt) : svN (Q25 c s b) L x (s + 1) = if b then put1 (svN c L x s) x s else svN c L x s := by
 rw [svN, Q22 (c := Q25 c s b) (c' := c) s fun k hk => by simp [Q25]; omega]
 simp [Q25]
theorem Q27 (x : Wt) (s : Nat) : ∀ k u, (u8s ((x.2.drop (s * 32)).take 32))[k]? = some u -> (wc x)[1 + s * 32 + k]? = some u := by
 intro k u hu
 rw [Q0a, List.getElem?_take] at hu
 split at hu
 ·rw [List.getElem?_drop] at hu
  rw [show 1 + s * 32 + k = s * 32 + k + 1 by omega, wc, Q0Q, List.getElem?_cons_succ, Q0a]
  exact hu
 ·cases hu
def ints (ms : List Int) : List Value := ms.map (.int .i64)
structure Aft (L : List UInt8) (n a : Nat) (bv : Value) (w w' : World) : Prop where
 d : DQ w' a bv n (.slice none 0 0) (.new L)
 a : w.heap.size <= a
 b : ∀ y, bv.ownBlock = some y -> w.heap.size <= y
 k : Kept [] w w'
def AfI (D : Dv) (n a : Nat) (bv : Value) (w : World) (ix : Value) (wr : World) : Prop :=
 ∃ (j : Nat) (L1 : List UInt8), j <= D.q.length /\ ix = .int .i64 j /\ Sr D.L (D.q.take j) L1 /\ Aft L1 n a bv w wr
def AgI (L1 : List UInt8) (x : Wt) (n a : Nat) (bv : Value) (w : World) (lb : Nat) (sv : Value) (wr : World) : Prop :=
 ∃ (s : Nat) (c : Nat -> Bool), s <= 4 /\ sv = .int .i64 s /\ Aft (svN c L1 x s) n a bv w wr /\ wr.heap[lb]? = some (.cells (wc x).toArray 94 (0, 0))
def Q28 (D : Dv) (n : Nat) (w : World) (e : Ending) (w' : World) : Prop := ∃ L1 a bv, e = .returned (.pointer (some ⟨a, 0, none⟩)) /\ Sr D.L D.q L1 /\ Aft L1 n a bv w w'
theorem sint : (prog.info? 3).map (·.size) = some 1 := by kernel_rfl
theorem Q29 (a : Nat) (bv : Value) (n : Nat) (cv : Value) (D : Dv) (kv : Value) (ms : List Int) (w : World) (h : DQ w a bv n cv D) (hn : n < 1000) (hq : D.q.length <= 9223372036854775807) (hkv : w.ownsRow 0 3 1 kv ms.length (ints ms)) :
  Calls prog 24 #[.pointer (some ⟨a, 0, none⟩), kv] w (Q28 D n w) := by
 obtain ⟨bp, bc, rfl⟩ := Q0X h.b
 obtain ⟨p, cap, rfl⟩ := Q0X h.o
 have c0 : w.cell? ⟨a, 0, none⟩ = some (.slice bp n bc) := Q02 h.d rfl
 have c1 : w.cell? ⟨a, 1, none⟩ = some (.slice p D.q.length cap) := Q02 h.d rfl
 obtain ⟨kp, kc, rfl⟩ := Q0X hkv
 obtain ⟨ie, hie, hz1, hz2, hz3⟩ := info_parts iblk
 go_enter func24, ntmps24
 go_wp2_with (first
  | (at_builtin; refine Q21 rfl _ (.tmp 12) 88 rfl w.heap.size 92 ie _ 128 128 underlying88 hie hz1 hz2 hz3 (by simp [Value.cells, zl]) (by omega) (.slice none 0 0) 0 [] rfl (World.ownsRow_nil _ _ _ _) (.slice bp n bc) 0 n (u8s D.L) rfl h.b (Q09 _) (by unfold maxLen; omega) (by omega) (Nat.le_refl _) ?_; intro bv1 w1 hown1 hgr1; rw [Nat.zero_add, List.nil_append] at hown1; have k1 := Q1A hgr1 [] (by simp [Value.ownBlock]); obtain ⟨bp1, bc1, rfl⟩ := Q0X hown1)
  | (refine Q06 rfl _ _ (Q1n 91 (.tmp 14) rfl (Q0C (.slice bp1 n bc1) (.slice none 0 0) (.new D.L)) rfl) ?_; intro w2 hn2 k2 _; have c12 : w2.cell? ⟨a, 1, none⟩ = some (.slice p D.q.length cap) := Q02 ((k1.trans k2).get h.d (by simp)) rfl))
 have A0 : Aft D.L n w1.heap.size (.slice bp1 n bc1) w w2 := ⟨⟨hn2, Q20 (Q0W hown1 k2 (by simp)) (Nat.zero_le _), World.ownsRow_nil _ _ _ _, by simp [Fit, Dv.new], fun _ => rfl⟩, k1.size, fun y hy => (hown1.lt y hy).1, k1.trans k2⟩
 clear c0 c1 c12 hn2
 go_loopw [6, 7, 8, 21] (fun _ _ _ ix wr => AfI D n w1.heap.size (.slice bp1 n bc1) w ix wr) (fun _ _ _ ix _ => D.q.length - (intOf ix).toNat)
 case atStart => exact ⟨0, D.L, Nat.zero_le _, rfl, Sr.nil, A0⟩
 case round =>
  obtain ⟨j, L1, hj, rfl, hsr, hA⟩ := hrel
  clear A0
  by_cases hlt : j < D.q.length
  ·have hlt' : (j : Int) < (D.q.length : Int) := by omega
   obtain ⟨x, hx⟩ : ∃ x, D.q[j]? = some x := ⟨_, List.getElem?_eq_getElem hlt⟩
   obtain ⟨x1, x2⟩ := h.q x (List.mem_of_getElem? hx)
   obtain ⟨b, cap', cur, e, hbq, hcur⟩ := (h.k0 hA.k).at_ hx
   cases e
   have hwl : (wc x).length = 129 := by simp [wc, Q0Q, Q08, x2]
   have hld := Q0r (P := prog) wr b (j * 129) 94 94 cur (wc x) (0, 0) _ hbq underlying94 rfl (by rw [Q0S, hwl]) hcur
   by_cases hjm : j < ms.length
   ·have hjm' : ¬ (ms.length : Int) <= (j : Int) := by omega
    go_wp2_with (first
     | (refine Q04 rfl _ _ (Q0v 89 (.tmp 19) (.tmp 21) rfl b 0 D.q.length cap j 129 rfl rfl 94 underlying89 Q0S hlt (j * 129) (by omega)) ?_)
     | (refine Q0t rfl 94 (.tmp 24) rfl ⟨b, j * 129, none⟩ rfl (.agg (wc x).toArray) hld ?_)
     | (refine Q0b rfl 94 rfl _ (Q0T _) ?_; intro w5 hn5 hk5 _)
     | (refine Q0c rfl 94 (.tmp 7) (.tmp 25) rfl wr.heap.size (wc x).toArray rfl rfl 94 _ hn5 (by rw [Q0S]; simp [hwl]) (by simp [hwl, Q0Q, zl]) (Q0P (Q0U x)) ?_; intro w6 hn6 hk6))
    have K6 : Kept [] wr w6 := hk5.trans2 hk6 (by intro y hy; simp at hy; subst hy; exact Or.inr (Nat.le_refl _))
    have A6 : Aft L1 n w1.heap.size (.slice bp1 n bc1) w w6 := ⟨hA.d.k0 K6, hA.a, hA.b, hA.k.trans K6⟩
    obtain ⟨kb, kc', kcur, ek, hkb, _, hk1, hk2, hk3, hk4⟩ := Q0Y hkv (by omega)
    cases ek
    clear hld hcur hbq hn5 hk5 hk6
    generalize hlb : wr.heap.size = lb at *
    go_loopw [8] (fun sv wr' => AgI L1 x n w1.heap.size (.slice bp1 n bc1) w lb sv wr') (fun sv _ => 4 - (intOf sv).toNat)
    case atStart => exact ⟨0, fun _ => false, by omega, rfl, A6, hn6⟩
    case round =>
     obtain ⟨s, c, hs, rfl, hB, hloc⟩ := hrel
     by_cases hs4 : s < 4
     ·have hs4' : (s : Int) < 4 := by omega
      have hkb' := hB.k.get hkb (by simp)
      obtain ⟨m, hm⟩ : ∃ m, ms[j]? = some m := ⟨_, List.getElem?_eq_getElem hjm⟩
      have hcm : kcur[j]? = some (.int .i64 m) := Q10 hk4 (by simp [ints, hm])
      have cm := Q02 hkb' (j := j) (by simpa using hcm)
      go_wp2_with (first
       | (refine Q04 rfl _ _ (Q0v 24 (.tmp 34) (.tmp 35) rfl kb 0 ms.length kc j 1 rfl rfl 3 underlying24 sint hjm j (by omega)) ?_))
      ·obtain ⟨g1, bc', bcur, e1, hbg, _, hb1, hb2, hb3, hb4⟩ := Q0Y hB.d.b (by omega)
       cases e1
       have hL := hB.d.l
       simp only [Dv.new] at hL
       have hsl : (u8s ((x.2.drop (s * 32)).take 32)).length = 32 := by rw [Q08, List.length_take, List.length_drop, x2]; omega
       have hS : (fun W : World => DC W w1.heap.size (.slice (some ⟨g1, 0, none⟩) n bc1) (.slice none 0 0) (.new (svN c L1 x s)) /\ W.heap[lb]? = some (.cells (wc x).toArray 94 (0, 0))) wr.drew := ⟨hB.d.d, hloc⟩
       have hcp : ∀ ty, (Builtin.copy_ #[60, 60] ty #[.slice (some ⟨g1, x.1 * 128 + s * 32, none⟩) 32 (128 - s * 32), .slice (some ⟨lb, 1 + s * 32, none⟩) 32 (128 - s * 32)]).run prog wr.drew = .ok (goInt 32) (wr.drew.setRow g1 (splice bcur (x.1 * 128 + s * 32) (u8s ((x.2.drop (s * 32)).take 32))).toArray) := fun ty => by
        rw [run_copy_row (P := prog) wr.drew 60 60 ty 5 g1 (x.1 * 128 + s * 32) 32 (128 - s * 32) ⟨lb, 1 + s * 32, none⟩ 32 (128 - s * 32) bcur.toArray 92 (u8s ((x.2.drop (s * 32)).take 32)) underlying60 su8 hbg hsl (Q18 hloc (Q27 x s)) (by rw [hsl]; simp; omega) (Q09 _), hsl]
        simp [splice, hsl]
       have k7 : Kept [g1] wr (wr.drew.setRow g1 (splice bcur (x.1 * 128 + s * 32) (u8s ((x.2.drop (s * 32)).take 32))).toArray) := (Kept.refl _ _).drew.setRow (Or.inl (by simp)) _
       have r7 := Q0Z (w := wr.drew.setRow g1 (splice bcur (x.1 * 128 + s * 32) (u8s ((x.2.drop (s * 32)).take 32))).toArray) (base := 0) (size := 128) (xs := u8s (put1 (svN c L1 x s) x s)) (by rw [Q08, put1, length_splice _ _ _ (by rw [<- Q08, hsl]; omega), hL]) (setRow_heap wr.drew g1 _ _ 92 _ hbg) (Nat.zero_le _) hb1 hb2 (by rw [length_splice _ _ _ (by rw [hsl]; omega), hb3]) (by rw [Q11 hb4 (by rw [hsl]; omega) (by rw [hb3]; omega), Q1G]; rfl)
       have hln : lb ≠ g1 := Q01 hloc hbg (by decide)
       have B7 : ∀ z : Int, z = (s : Int) + 1 -> AgI L1 x n w1.heap.size (.slice (some ⟨g1, 0, none⟩) n bc1) w lb (.int .i64 z) (wr.drew.setRow g1 (splice bcur (x.1 * 128 + s * 32) (u8s ((x.2.drop (s * 32)).take 32))).toArray) := by
        rintro z rfl
        refine ⟨s + 1, Q25 c s true, by omega, by simp, ?_, k7.get hloc (by simpa using hln)⟩
        rw [Q26]
        exact ⟨⟨k7.get hB.d.d (by simpa using (hB.d.nb g1 rfl).symm), r7, World.ownsRow_nil _ _ _ _, by simp [Fit, Dv.new], fun _ => rfl⟩, hB.a, hB.b, hB.k.trans2 k7 (by intro y hy; simp at hy; subst hy; exact Or.inr (hB.b _ rfl))⟩
       have HB7 : Hid (∀ z : Int, _ -> AgI _ _ _ _ _ _ _ _ _) := B7
       have hS7 : Hid (DC (wr.drew.setRow g1 (splice bcur (x.1 * 128 + s * 32) (u8s ((x.2.drop (s * 32)).take 32))).toArray) w1.heap.size (.slice (some ⟨g1, 0, none⟩) n bc1) (.slice none 0 0) (.new (svN c L1 x s)) /\ _) := ⟨k7.get hB.d.d (by simpa using (hB.d.nb g1 rfl).symm), k7.get hloc (by simpa using hln)⟩
       clear B7 r7 k7
       generalize wr.drew.setRow g1 (splice bcur (x.1 * 128 + s * 32) (u8s ((x.2.drop (s * 32)).take 32))).toArray = w7 at *
       refine Q1m (fun W : World => DC W w1.heap.size (.slice (some ⟨g1, 0, none⟩) n bc1) (.slice none 0 0) (.new (svN c L1 x s)) /\ W.heap[lb]? = some (.cells (wc x).toArray 94 (0, 0))) (by kernel_rfl) ?_
       obtain rfl | rfl | rfl | rfl : s = 0 \/ s = 1 \/ s = 2 \/ s = 3 := by omega
       ·skip
        refine ht (i := 0) (v := .pointer (some ⟨w1.heap.size, 0, none⟩)) rfl (by kernel_rfl) (by kernel_rfl) (fun W hW => by kernel_rfl) (fun _ _ _ h => h) hS ?_
        refine ht (i := 1) (v := .pointer (some ⟨w1.heap.size, 0, none⟩)) rfl (by kernel_rfl) (by kernel_rfl) (fun W hW => by kernel_rfl) (fun _ _ _ h => h) hS ?_
        refine ht (i := 2) (v := .pointer (some ⟨w1.heap.size, 0, none⟩)) rfl (by kernel_rfl) (by kernel_rfl) (fun W hW => by kernel_rfl) (fun _ _ _ h => h) hS ?_
        refine ht (i := 3) (v := .slice (some ⟨g1, 0, none⟩) n bc1) rfl (by kernel_rfl) (by kernel_rfl) (fun W hW => Q0l 88 (.tmp 44) rfl ⟨w1.heap.size, 0, none⟩ (by kernel_rfl) _ (Q0p underlying88 rfl (Q02 hW.1 rfl))) (fun _ _ _ h => h) hS ?_
        refine ht (i := 4) (v := .pointer (some ⟨lb, 0, none⟩)) rfl (by kernel_rfl) (by kernel_rfl) (fun W hW => by kernel_rfl) (fun _ _ _ h => h) hS ?_
        refine ht (i := 5) (v := .int .i64 x.1) rfl (by kernel_rfl) (by kernel_rfl) (fun W hW => Q0l 3 (.tmp 46) rfl ⟨lb, 0, none⟩ (by kernel_rfl) _ (Q0p underlying3 rfl (Q02 hW.2 rfl))) (fun _ _ _ h => h) hS ?_
        refine ht (i := 6) (v := .pointer (some ⟨g1, x.1 * 128, none⟩)) rfl (by kernel_rfl) (by kernel_rfl) (fun W hW => Q0v 88 (.tmp 45) (.tmp 47) rfl g1 0 n bc1 x.1 128 (by kernel_rfl) (by kernel_rfl) 92 underlying88 sblk x1 _ (by simp)) (fun _ _ _ h => h) hS ?_
        refine ht (i := 7) (v := .int .i64 ((0 : Nat) : Int)) rfl (by kernel_rfl) (by kernel_rfl) (fun W hW => by kernel_rfl) (fun _ _ _ h => h) hS ?_
        refine ht (i := 8) (v := .int .i64 (0 * 32)) rfl (by kernel_rfl) (by kernel_rfl) (fun W hW => by kernel_rfl) (fun _ _ _ h => h) hS ?_
        refine ht (i := 9) (v := .int .i64 ((0 : Nat) : Int)) rfl (by kernel_rfl) (by kernel_rfl) (fun W hW => by kernel_rfl) (fun _ _ _ h => h) hS ?_
        refine ht (i := 10) (v := .int .i64 (0 + 1)) rfl (by kernel_rfl) (by kernel_rfl) (fun W hW => by kernel_rfl) (fun _ _ _ h => h) hS ?_
        refine ht (i := 11) (v := .int .i64 ((0 + 1) * 32)) rfl (by kernel_rfl) (by kernel_rfl) (fun W hW => by kernel_rfl) (fun _ _ _ h => h) hS ?_
        refine ht (i := 12) (v := .slice (some ⟨g1, x.1 * 128 + 0 * 32, none⟩) 32 (128 - 0 * 32)) rfl (by kernel_rfl) (by kernel_rfl) (fun W hW => by kernel_rfl) (fun _ _ _ h => h) hS ?_
        refine ht (i := 13) (v := .pointer (some ⟨lb, 1, none⟩)) rfl (by kernel_rfl) (by kernel_rfl) (fun W hW => by kernel_rfl) (fun _ _ _ h => h) hS ?_
        refine ht (i := 14) (v := .int .i64 ((0 : Nat) : Int)) rfl (by kernel_rfl) (by kernel_rfl) (fun W hW => by kernel_rfl) (fun _ _ _ h => h) hS ?_
        refine ht (i := 15) (v := .int .i64 (0 * 32)) rfl (by kernel_rfl) (by kernel_rfl) (fun W hW => by kernel_rfl) (fun _ _ _ h => h) hS ?_
        refine ht (i := 16) (v := .int .i64 ((0 : Nat) : Int)) rfl (by kernel_rfl) (by kernel_rfl) (fun W hW => by kernel_rfl) (fun _ _ _ h => h) hS ?_
        refine ht (i := 17) (v := .int .i64 (0 + 1)) rfl (by kernel_rfl) (by kernel_rfl) (fun W hW => by kernel_rfl) (fun _ _ _ h => h) hS ?_
        refine ht (i := 18) (v := .int .i64 ((0 + 1) * 32)) rfl (by kernel_rfl) (by kernel_rfl) (fun W hW => by kernel_rfl) (fun _ _ _ h => h) hS ?_
        refine ht (i := 19) (v := .slice (some ⟨lb, 1 + 0 * 32, none⟩) 32 (128 - 0 * 32)) rfl (by kernel_rfl) (by kernel_rfl) (fun W hW => by kernel_rfl) (fun _ _ _ h => h) hS ?_
        refine Q0j (i := 20) (by kernel_rfl) (Q0h rfl rfl _ _ (Q1s (.tmp 54) (.tmp 61) 60 60 rfl _ _ (by kernel_rfl) (by kernel_rfl) _ (hcp _)) ⟨hS7.out, ?_⟩)
        refine wpAnyH_done (by kernel_rfl) ?_ _
        simp only [zP, zA, zB, zC, zD, zE, zF]
        go_wp2
        go_roundw
        case rel => exact HB7.out _ (by decide)
        case measure => simp [intOf]
       ·skip
        refine ht (i := 0) (v := .pointer (some ⟨w1.heap.size, 0, none⟩)) rfl (by kernel_rfl) (by kernel_rfl) (fun W hW => by kernel_rfl) (fun _ _ _ h => h) hS ?_
        refine ht (i := 1) (v := .pointer (some ⟨w1.heap.size, 0, none⟩)) rfl (by kernel_rfl) (by kernel_rfl) (fun W hW => by kernel_rfl) (fun _ _ _ h => h) hS ?_
        refine ht (i := 2) (v := .pointer (some ⟨w1.heap.size, 0, none⟩)) rfl (by kernel_rfl) (by kernel_rfl) (fun W hW => by kernel_rfl) (fun _ _ _ h => h) hS ?_
        refine ht (i := 3) (v := .slice (some ⟨g1, 0, none⟩) n bc1) rfl (by kernel_rfl) (by kernel_rfl) (fun W hW => Q0l 88 (.tmp 44) rfl ⟨w1.heap.size, 0, none⟩ (by kernel_rfl) _ (Q0p underlying88 rfl (Q02 hW.1 rfl))) (fun _ _ _ h => h) hS ?_
        refine ht (i := 4) (v := .pointer (some ⟨lb, 0, none⟩)) rfl (by kernel_rfl) (by kernel_rfl) (fun W hW => by kernel_rfl) (fun _ _ _ h => h) hS ?_
        refine ht (i := 5) (v := .int .i64 x.1) rfl (by kernel_rfl) (by kernel_rfl) (fun W hW => Q0l 3 (.tmp 46) rfl ⟨lb, 0, none⟩ (by kernel_rfl) _ (Q0p underlying3 rfl (Q02 hW.2 rfl))) (fun _ _ _ h => h) hS ?_
        refine ht (i := 6) (v := .pointer (some ⟨g1, x.1 * 128, none⟩)) rfl (by kernel_rfl) (by kernel_rfl) (fun W hW => Q0v 88 (.tmp 45) (.tmp 47) rfl g1 0 n bc1 x.1 128 (by kernel_rfl) (by kernel_rfl) 92 underlying88 sblk x1 _ (by simp)) (fun _ _ _ h => h) hS ?_
        refine ht (i := 7) (v := .int .i64 ((1 : Nat) : Int)) rfl (by kernel_rfl) (by kernel_rfl) (fun W hW => by kernel_rfl) (fun _ _ _ h => h) hS ?_
        refine ht (i := 8) (v := .int .i64 (1 * 32)) rfl (by kernel_rfl) (by kernel_rfl) (fun W hW => by kernel_rfl) (fun _ _ _ h => h) hS ?_
        refine ht (i := 9) (v := .int .i64 ((1 : Nat) : Int)) rfl (by kernel_rfl) (by kernel_rfl) (fun W hW => by kernel_rfl) (fun _ _ _ h => h) hS ?_
        refine ht (i := 10) (v := .int .i64 (1 + 1)) rfl (by kernel_rfl) (by kernel_rfl) (fun W hW => by kernel_rfl) (fun _ _ _ h => h) hS ?_
        refine ht (i := 11) (v := .int .i64 ((1 + 1) * 32)) rfl (by kernel_rfl) (by kernel_rfl) (fun W hW => by kernel_rfl) (fun _ _ _ h => h) hS ?_
        refine ht (i := 12) (v := .slice (some ⟨g1, x.1 * 128 + 1 * 32, none⟩) 32 (128 - 1 * 32)) rfl (by kernel_rfl) (by kernel_rfl) (fun W hW => by kernel_rfl) (fun _ _ _ h => h) hS ?_
        refine ht (i := 13) (v := .pointer (some ⟨lb, 1, none⟩)) rfl (by kernel_rfl) (by kernel_rfl) (fun W hW => by kernel_rfl) (fun _ _ _ h => h) hS ?_
        refine ht (i := 14) (v := .int .i64 ((1 : Nat) : Int)) rfl (by kernel_rfl) (by kernel_rfl) (fun W hW => by kernel_rfl) (fun _ _ _ h => h) hS ?_
        refine ht (i := 15) (v := .int .i64 (1 * 32)) rfl (by kernel_rfl) (by kernel_rfl) (fun W hW => by kernel_rfl) (fun _ _ _ h => h) hS ?_
        refine ht (i := 16) (v := .int .i64 ((1 : Nat) : Int)) rfl (by kernel_rfl) (by kernel_rfl) (fun W hW => by kernel_rfl) (fun _ _ _ h => h) hS ?_
        refine ht (i := 17) (v := .int .i64 (1 + 1)) rfl (by kernel_rfl) (by kernel_rfl) (fun W hW => by kernel_rfl) (fun _ _ _ h => h) hS ?_
        refine ht (i := 18) (v := .int .i64 ((1 + 1) * 32)) rfl (by kernel_rfl) (by kernel_rfl) (fun W hW => by kernel_rfl) (fun _ _ _ h => h) hS ?_
        refine ht (i := 19) (v := .slice (some ⟨lb, 1 + 1 * 32, none⟩) 32 (128 - 1 * 32)) rfl (by kernel_rfl) (by kernel_rfl) (fun W hW => by kernel_rfl) (fun _ _ _ h => h) hS ?_
        refine Q0j (i := 20) (by kernel_rfl) (Q0h rfl rfl _ _ (Q1s (.tmp 54) (.tmp 61) 60 60 rfl _ _ (by kernel_rfl) (by kernel_rfl) _ (hcp _)) ⟨hS7.out, ?_⟩)
        refine wpAnyH_done (by kernel_rfl) ?_ _
        simp only [zP, zA, zB, zC, zD, zE, zF]
        go_wp2
        go_roundw
        case rel => exact HB7.out _ (by decide)
        case measure => simp [intOf]
       ·skip
        refine ht (i := 0) (v := .pointer (some ⟨w1.heap.size, 0, none⟩)) rfl (by kernel_rfl) (by kernel_rfl) (fun W hW => by kernel_rfl) (fun _ _ _ h => h) hS ?_
        refine ht (i := 1) (v := .pointer (some ⟨w1.heap.size, 0, none⟩)) rfl (by kernel_rfl) (by kernel_rfl) (fun W hW => by kernel_rfl) (fun _ _ _ h => h) hS ?_
        refine ht (i := 2) (v := .pointer (some ⟨w1.heap.size, 0, none⟩)) rfl (by kernel_rfl) (by kernel_rfl) (fun W hW => by kernel_rfl) (fun _ _ _ h => h) hS ?_
        refine ht (i := 3) (v := .slice (some ⟨g1, 0, none⟩) n bc1) rfl (by kernel_rfl) (by kernel_rfl) (fun W hW => Q0l 88 (.tmp 44) rfl ⟨w1.heap.size, 0, none⟩ (by kernel_rfl) _ (Q0p underlying88 rfl (Q02 hW.1 rfl))) (fun _ _ _ h => h) hS ?_
        refine ht (i := 4) (v := .pointer (some ⟨lb, 0, none⟩)) rfl (by kernel_rfl) (by kernel_rfl) (fun W hW => by kernel_rfl) (fun _ _ _ h => h) hS ?_
        refine ht (i := 5) (v := .int .i64 x.1) rfl (by kernel_rfl) (by kernel_rfl) (fun W hW => Q0l 3 (.tmp 46) rfl ⟨lb, 0, none⟩ (by kernel_rfl) _ (Q0p underlying3 rfl (Q02 hW.2 rfl))) (fun _ _ _ h => h) hS ?_
        refine ht (i := 6) (v := .pointer (some ⟨g1, x.1 * 128, none⟩)) rfl (by kernel_rfl) (by kernel_rfl) (fun W hW => Q0v 88 (.tmp 45) (.tmp 47) rfl g1 0 n bc1 x.1 128 (by kernel_rfl) (by kernel_rfl) 92 underlying88 sblk x1 _ (by simp)) (fun _ _ _ h => h) hS ?_
        refine ht (i := 7) (v := .int .i64 ((2 : Nat) : Int)) rfl (by kernel_rfl) (by kernel_rfl) (fun W hW => by kernel_rfl) (fun _ _ _ h => h) hS ?_
        refine ht (i := 8) (v := .int .i64 (2 * 32)) rfl (by kernel_rfl) (by kernel_rfl) (fun W hW => by kernel_rfl) (fun _ _ _ h => h) hS ?_
        refine ht (i := 9) (v := .int .i64 ((2 : Nat) : Int)) rfl (by kernel_rfl) (by kernel_rfl) (fun W hW => by kernel_rfl) (fun _ _ _ h => h) hS ?_
        refine ht (i := 10) (v := .int .i64 (2 + 1)) rfl (by kernel_rfl) (by kernel_rfl) (fun W hW => by kernel_rfl) (fun _ _ _ h => h) hS ?_
        refine ht (i := 11) (v := .int .i64 ((2 + 1) * 32)) rfl (by kernel_rfl) (by kernel_rfl) (fun W hW => by kernel_rfl) (fun _ _ _ h => h) hS ?_
        refine ht (i := 12) (v := .slice (some ⟨g1, x.1 * 128 + 2 * 32, none⟩) 32 (128 - 2 * 32)) rfl (by kernel_rfl) (by kernel_rfl) (fun W hW => by kernel_rfl) (fun _ _ _ h => h) hS ?_
        refine ht (i := 13) (v := .pointer (some ⟨lb, 1, none⟩)) rfl (by kernel_rfl) (by kernel_rfl) (fun W hW => by kernel_rfl) (fun _ _ _ h => h) hS ?_
        refine ht (i := 14) (v := .int .i64 ((2 : Nat) : Int)) rfl (by kernel_rfl) (by kernel_rfl) (fun W hW => by kernel_rfl) (fun _ _ _ h => h) hS ?_
        refine ht (i := 15) (v := .int .i64 (2 * 32)) rfl (by kernel_rfl) (by kernel_rfl) (fun W hW => by kernel_rfl) (fun _ _ _ h => h) hS ?_
        refine ht (i := 16) (v := .int .i64 ((2 : Nat) : Int)) rfl (by kernel_rfl) (by kernel_rfl) (fun W hW => by kernel_rfl) (fun _ _ _ h => h) hS ?_
        refine ht (i := 17) (v := .int .i64 (2 + 1)) rfl (by kernel_rfl) (by kernel_rfl) (fun W hW => by kernel_rfl) (fun _ _ _ h => h) hS ?_
        refine ht (i := 18) (v := .int .i64 ((2 + 1) * 32)) rfl (by kernel_rfl) (by kernel_rfl) (fun W hW => by kernel_rfl) (fun _ _ _ h => h) hS ?_
        refine ht (i := 19) (v := .slice (some ⟨lb, 1 + 2 * 32, none⟩) 32 (128 - 2 * 32)) rfl (by kernel_rfl) (by kernel_rfl) (fun W hW => by kernel_rfl) (fun _ _ _ h => h) hS ?_
        refine Q0j (i := 20) (by kernel_rfl) (Q0h rfl rfl _ _ (Q1s (.tmp 54) (.tmp 61) 60 60 rfl _ _ (by kernel_rfl) (by kernel_rfl) _ (hcp _)) ⟨hS7.out, ?_⟩)
        refine wpAnyH_done (by kernel_rfl) ?_ _
        simp only [zP, zA, zB, zC, zD, zE, zF]
        go_wp2
        go_roundw
        case rel => exact HB7.out _ (by decide)
        case measure => simp [intOf]
       ·skip
        refine ht (i := 0) (v := .pointer (some ⟨w1.heap.size, 0, none⟩)) rfl (by kernel_rfl) (by kernel_rfl) (fun W hW => by kernel_rfl) (fun _ _ _ h => h) hS ?_
        refine ht (i := 1) (v := .pointer (some ⟨w1.heap.size, 0, none⟩)) rfl (by kernel_rfl) (by kernel_rfl) (fun W hW => by kernel_rfl) (fun _ _ _ h => h) hS ?_
        refine ht (i := 2) (v := .pointer (some ⟨w1.heap.size, 0, none⟩)) rfl (by kernel_rfl) (by kernel_rfl) (fun W hW => by kernel_rfl) (fun _ _ _ h => h) hS ?_
        refine ht (i := 3) (v := .slice (some ⟨g1, 0, none⟩) n bc1) rfl (by kernel_rfl) (by kernel_rfl) (fun W hW => Q0l 88 (.tmp 44) rfl ⟨w1.heap.size, 0, none⟩ (by kernel_rfl) _ (Q0p underlying88 rfl (Q02 hW.1 rfl))) (fun _ _ _ h => h) hS ?_
        refine ht (i := 4) (v := .pointer (some ⟨lb, 0, none⟩)) rfl (by kernel_rfl) (by kernel_rfl) (fun W hW => by kernel_rfl) (fun _ _ _ h => h) hS ?_
        refine ht (i := 5) (v := .int .i64 x.1) rfl (by kernel_rfl) (by kernel_rfl) (fun W hW => Q0l 3 (.tmp 46) rfl ⟨lb, 0, none⟩ (by kernel_rfl) _ (Q0p underlying3 rfl (Q02 hW.2 rfl))) (fun _ _ _ h => h) hS ?_
        refine ht (i := 6) (v := .pointer (some ⟨g1, x.1 * 128, none⟩)) rfl (by kernel_rfl) (by kernel_rfl) (fun W hW => Q0v 88 (.tmp 45) (.tmp 47) rfl g1 0 n bc1 x.1 128 (by kernel_rfl) (by kernel_rfl) 92 underlying88 sblk x1 _ (by simp)) (fun _ _ _ h => h) hS ?_
        refine ht (i := 7) (v := .int .i64 ((3 : Nat) : Int)) rfl (by kernel_rfl) (by kernel_rfl) (fun W hW => by kernel_rfl) (fun _ _ _ h => h) hS ?_
        refine ht (i := 8) (v := .int .i64 (3 * 32)) rfl (by kernel_rfl) (by kernel_rfl) (fun W hW => by kernel_rfl) (fun _ _ _ h => h) hS ?_
        refine ht (i := 9) (v := .int .i64 ((3 : Nat) : Int)) rfl (by kernel_rfl) (by kernel_rfl) (fun W hW => by kernel_rfl) (fun _ _ _ h => h) hS ?_
        refine ht (i := 10) (v := .int .i64 (3 + 1)) rfl (by kernel_rfl) (by kernel_rfl) (fun W hW => by kernel_rfl) (fun _ _ _ h => h) hS ?_
        refine ht (i := 11) (v := .int .i64 ((3 + 1) * 32)) rfl (by kernel_rfl) (by kernel_rfl) (fun W hW => by kernel_rfl) (fun _ _ _ h => h) hS ?_
        refine ht (i := 12) (v := .slice (some ⟨g1, x.1 * 128 + 3 * 32, none⟩) 32 (128 - 3 * 32)) rfl (by kernel_rfl) (by kernel_rfl) (fun W hW => by kernel_rfl) (fun _ _ _ h => h) hS ?_
        refine ht (i := 13) (v := .pointer (some ⟨lb, 1, none⟩)) rfl (by kernel_rfl) (by kernel_rfl) (fun W hW => by kernel_rfl) (fun _ _ _ h => h) hS ?_
        refine ht (i := 14) (v := .int .i64 ((3 : Nat) : Int)) rfl (by kernel_rfl) (by kernel_rfl) (fun W hW => by kernel_rfl) (fun _ _ _ h => h) hS ?_
        refine ht (i := 15) (v := .int .i64 (3 * 32)) rfl (by kernel_rfl) (by kernel_rfl) (fun W hW => by kernel_rfl) (fun _ _ _ h => h) hS ?_
        refine ht (i := 16) (v := .int .i64 ((3 : Nat) : Int)) rfl (by kernel_rfl) (by kernel_rfl) (fun W hW => by kernel_rfl) (fun _ _ _ h => h) hS ?_
        refine ht (i := 17) (v := .int .i64 (3 + 1)) rfl (by kernel_rfl) (by kernel_rfl) (fun W hW => by kernel_rfl) (fun _ _ _ h => h) hS ?_
        refine ht (i := 18) (v := .int .i64 ((3 + 1) * 32)) rfl (by kernel_rfl) (by kernel_rfl) (fun W hW => by kernel_rfl) (fun _ _ _ h => h) hS ?_
        refine ht (i := 19) (v := .slice (some ⟨lb, 1 + 3 * 32, none⟩) 32 (128 - 3 * 32)) rfl (by kernel_rfl) (by kernel_rfl) (fun W hW => by kernel_rfl) (fun _ _ _ h => h) hS ?_
        refine Q0j (i := 20) (by kernel_rfl) (Q0h rfl rfl _ _ (Q1s (.tmp 54) (.tmp 61) 60 60 rfl _ _ (by kernel_rfl) (by kernel_rfl) _ (hcp _)) ⟨hS7.out, ?_⟩)
        refine wpAnyH_done (by kernel_rfl) ?_ _
        simp only [zP, zA, zB, zC, zD, zE, zF]
        go_wp2
        go_roundw
        case rel => exact HB7.out _ (by decide)
        case measure => simp [intOf]
      ·have HB7 : AgI L1 x n w1.heap.size (.slice bp1 n bc1) w lb (.int .i64 ((s : Int) + 1)) wr := by
        refine ⟨s + 1, Q25 c s false, by omega, by simp, ?_, hloc⟩
        rw [Q26]
        exact hB
       exact ⟨HB7, by simp [intOf]; omega⟩
     ·have hs4' : ¬ (s : Int) < 4 := by omega
      have es : s = 4 := by omega
      subst es
      go_wp2
      go_roundw
      case rel =>
       refine ⟨j + 1, _, by omega, by go_num, ?_, hB⟩
       rw [Q1a D.q j x hx]
       exact hsr.snoc x c
      case measure => simp [intOf]; omega
   ·have hjm' : (ms.length : Int) <= (j : Int) := by omega
    go_wp2_with (first
     | (refine Q04 rfl _ _ (Q0v 89 (.tmp 19) (.tmp 21) rfl b 0 D.q.length cap j 129 rfl rfl 94 underlying89 Q0S hlt (j * 129) (by omega)) ?_)
     | (refine Q0t rfl 94 (.tmp 24) rfl ⟨b, j * 129, none⟩ rfl (.agg (wc x).toArray) hld ?_)
     | (refine Q0b rfl 94 rfl _ (Q0T _) ?_; intro w5 hn5 hk5 _)
     | (refine Q0c rfl 94 (.tmp 7) (.tmp 25) rfl wr.heap.size (wc x).toArray rfl rfl 94 _ hn5 (by rw [Q0S]; simp [hwl]) (by simp [hwl, Q0Q, zl]) (Q0P (Q0U x)) ?_; intro w6 hn6 hk6))
    have K6 : Kept [] wr w6 := hk5.trans2 hk6 (by intro y hy; simp at hy; subst hy; exact Or.inr (Nat.le_refl _))
    have hall := hsr.rest (D.q.drop j)
    rw [List.take_append_drop] at hall
    go_ret
    exact ⟨L1, _, _, rfl, hall, hA.d.k0 K6, hA.a, hA.b, hA.k.trans K6⟩
  ·have hge : ¬ (j : Int) < (D.q.length : Int) := by omega
   have ej : j = D.q.length := by omega
   subst ej
   rw [List.take_length] at hsr
   go_wp2
   go_ret
   exact ⟨L1, _, _, rfl, hsr, hA⟩
end Go.Proofs.YtcklgafpgdhnaaaGreatDoor
