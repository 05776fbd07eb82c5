import Derived.Test.YtcklgafpgdhnaabGreatDoorPqac
import Derived.BigRegion
import Derived.Deep.RegionWith
import Derived.Lib.BufferWrite
import Derived.Test.YtcklgafpgdhnaabGreatDoorPqaa
set_option maxRecDepth 100000
set_option maxHeartbeats 4000000
open Go.Proofs.Tryz
open List renaming set_cons_zero → zF
namespace Go.Proofs.YtcklgafpgdhnaabGreatDoor
open Go.RowKit
structure Qt (D D' : Dv) : Prop where
 L : D'.L = D.L
 q : D'.q = D.q
 wr : D'.wr = D.wr
 t : D'.t = D.t
 off : D'.off = D.off
 fr : D'.fr = D.fr
 to : D'.to = D.to
def qc (D : Dv) : Prop := D.off = -1 /\ D.fr = D.to /\ D.to = D.to
structure Er (D D' : Dv) : Prop where
 L : D'.L = D.L
 q : D'.q = D.q
 wr : D'.wr = D.wr
 t : D'.t = wrap64 (D.t + 1)
 off : D'.off = D.off
 fr : D'.fr = D.fr
 to : D'.to = D.to
 bad : ¬ qc D
structure Wn (D : Dv) (i : Nat) (B : List UInt8) (D' : Dv) : Prop where
 L : D'.L = D.L
 q : D'.q = D.q ++ [(i, B)]
 wr : D'.wr = wrap64 (D.wr + 1)
 t : D'.t = D.t
 off : D'.off = D.off
 fr : D'.fr = D.fr
 to : D'.to = D.to
structure Fl (D D' : Dv) : Prop where
 L : D'.L = lay D.L D.q
 q : D'.q = []
 wr : D'.wr = D.wr
 t : D'.t = D.t
 off : D'.off = D.off
 fr : D'.fr = D.fr
 to : D'.to = D.to
theorem qc.bad {D : Dv} (h : qc D) : D.bad = false := by
 obtain ⟨h1, h2, _⟩ := h
 have h4 : decide ((0 : Int) <= D.off) = false := decide_eq_false (by omega)
 unfold Dv.bad
 rw [h4, h2, Bool.false_and, Bool.false_or]
 cases h5 : decide (D.to <= D.c) with
 | false => rfl
 | true =>
  have := of_decide_eq_true h5
  exact decide_eq_false (by omega)
theorem Qt.refl (D : Dv) : Qt D D := ⟨rfl, rfl, rfl, rfl, rfl, rfl, rfl⟩
theorem Qt.trans {D E F : Dv} (h : Qt D E) (g : Qt E F) : Qt D F :=
 ⟨g.L.trans h.L, g.q.trans h.q, g.wr.trans h.wr, g.t.trans h.t, g.off.trans h.off, g.fr.trans h.fr, g.to.trans h.to⟩
theorem Qt.good {D E : Dv} (h : Qt D E) : qc E ↔ qc D := by unfold qc; rw [h.off, h.fr, h.to]
theorem Qt.er {D E F : Dv} (h : Qt D E) (g : Er E F) : Er D F :=
 ⟨g.L.trans h.L, g.q.trans h.q, g.wr.trans h.wr, by rw [g.t, h.t], g.off.trans h.off, g.fr.trans h.fr, g.to.trans h.to, fun hg => g.bad (h.good.2 hg)⟩
theorem Qt.wn {D E F : Dv} {i : Nat} {B : List UInt8} (h : Qt D E) (g : Wn E i B F) : Wn D i B F :=
 ⟨g.L.trans h.L, by rw [g.q, h.q], by rw [g.wr, h.wr], g.t.trans h.t, g.off.trans h.off, g.fr.trans h.fr, g.to.trans h.to⟩
theorem Qt.view {D E : Dv} (h : Qt D E) (i : Nat) : E.view i = D.view i := by unfold Dv.view; rw [h.L, h.q]
theorem Qt.tick {D : Dv} (hb : D.bad = false) : Qt D D.tick := by
 refine ⟨rfl, rfl, rfl, ?_, rfl, rfl, rfl⟩
 simp [Dv.tick, hb]
theorem Er.tick {D : Dv} (hb : D.bad = true) : Er D D.tick := by
 refine ⟨rfl, rfl, rfl, ?_, rfl, rfl, rfl, fun hg => ?_⟩
 ·simp [Dv.tick, hb]
 ·rw [hg.bad] at hb; cases hb
theorem Wn.put {D : Dv} (hb : D.bad = false) (i : Nat) (B : List UInt8) : Wn D i B (D.put i B) := by
 refine ⟨rfl, rfl, rfl, ?_, rfl, rfl, rfl⟩
 simp [Dv.put, Dv.tick, hb]
theorem Fl.flush {D : Dv} (hb : D.bad = false) : Fl D D.flush := by
 refine ⟨rfl, rfl, rfl, ?_, rfl, rfl, rfl⟩
 simp [Dv.flush, Dv.tick, hb]
theorem Wn.good {D E : Dv} {i : Nat} {B : List UInt8} (h : Wn D i B E) : qc E ↔ qc D := by unfold qc; rw [h.off, h.fr, h.to]
theorem Fl.good {D E : Dv} (h : Fl D E) : qc E ↔ qc D := by unfold qc; rw [h.off, h.fr, h.to]
def qe : List UInt8 -> Nat
 | [] => 0
 | b :: r => b.toNat + 256 * qe r
theorem Q0Y (l : List UInt8) (b : UInt8) : qe (l ++ [b]) = qe l + b.toNat * 2 ^ (8 * l.length) := by
 induction l with
 | nil => simp [qe]
 | cons a r ih =>
  simp only [List.cons_append, qe, ih, List.length_cons, Nat.mul_add, Nat.mul_one]
  rw [show 8 * r.length + 8 = 8 * r.length + 8 from rfl, Nat.pow_add]
  have : (2 : Nat) ^ 8 = 256 := rfl
  have e2 : 256 * (b.toNat * 2 ^ (8 * r.length)) = b.toNat * (2 ^ (8 * r.length) * 256) := by rw [Nat.mul_comm 256, Nat.mul_assoc]
  rw [this]
  omega
theorem Ql (l : List UInt8) : qe l < 2 ^ (8 * l.length) := by
 induction l with
 | nil => simp [qe]
 | cons a r ih =>
  have ha := a.toNat_lt
  simp only [qe, List.length_cons, Nat.mul_add, Nat.mul_one, Nat.pow_add]
  have : (2 : Nat) ^ 8 = 256 := rfl
  omega
theorem Q0Z (a b k : Nat) (ha : a < 2 ^ (8 * k)) (hb : b < 256) (hk : k < 8) :
  bits .or .u64 (a : Int) (IntKind.u64.wrap (IntKind.u64.wrap (b : Int) * 2 ^ (8 * k))) = ((a + b * 2 ^ (8 * k) : Nat) : Int) := by
 have h2 : b * 2 ^ (8 * k) < 2 ^ (8 * (k + 1)) := by rw [Nat.mul_add, Nat.pow_add]; have : (2 : Nat) ^ (8 * 1) = 256 := rfl; rw [this, Nat.mul_comm]; exact Nat.mul_lt_mul_of_pos_left hb (Nat.two_pow_pos _)
 have h3 : 2 ^ (8 * (k + 1)) <= 2 ^ 64 := Nat.pow_le_pow_right (by omega) (by omega)
 have h4 : 2 ^ (8 * k) <= 2 ^ 64 := Nat.pow_le_pow_right (by omega) (by omega)
 have e64 : (2 : Nat) ^ 64 = 18446744073709551616 := by decide
 rw [e64] at h3 h4
 have w1 : IntKind.u64.wrap (b : Int) = b := by rw [IntKind.wrap_u64]; omega
 have e1 : (b : Int) * 2 ^ (8 * k) = ((b * 2 ^ (8 * k) : Nat) : Int) := by simp
 have w2 : IntKind.u64.wrap ((b * 2 ^ (8 * k) : Nat) : Int) = ((b * 2 ^ (8 * k) : Nat) : Int) := by rw [IntKind.wrap_u64]; omega
 rw [w1, e1, w2, u64_or_nat a (b * 2 ^ (8 * k)) (by omega) (by omega), Nat.mul_comm b, Nat.or_comm, <- Nat.two_pow_add_eq_or_of_lt ha, Nat.add_comm]
theorem Q10 (s off cap : Nat) (cs : Array Value) (L : List UInt8) (t' : TypeId) (fr : Nat × Nat) (w : World) (h : w.heap[s]? = some (.cells cs t' fr)) (hl : L.length <= 8)
  (hc : ∀ j (hj : j < L.length), cs[off + j]? = some (.int .u8 (L[j].toNat : Int))) :
  Calls prog 120 #[.slice (some ⟨s, off, none⟩) L.length cap] w fun e w' => e = .returned (.int .u64 (qe L)) /\ w' = w := by
 go_enter func120, ntmps120
 go_wp2
 go_loop [3, 8] (fun v i => ∃ (k : Nat), k <= L.length /\ i = .int .i64 k /\ v = .int .u64 (qe (L.take k))) (fun _ i => L.length - (intOf i).toNat)
 case atStart => exact ⟨0, Nat.zero_le _, rfl, rfl⟩
 case round =>
  obtain ⟨k, hk, rfl, rfl⟩ := hrel
  by_cases hlt : k < L.length
  ·have hcx : w.cell? ⟨s, off + k, none⟩ = some (.int .u8 (L[k].toNat : Int)) := y6 h (hc k hlt)
   have hlen : (L.take k).length = k := by rw [List.length_take]; omega
   have hst : bits .or .u64 (qe (L.take k) : Int) (IntKind.u64.wrap (IntKind.u64.wrap (L[k].toNat : Int) * 2 ^ (8 * k))) = (qe (L.take (k + 1)) : Int) := by
    rw [Q0Z _ _ _ (by have := Ql (L.take k); rwa [hlen] at this) L[k].toNat_lt (by omega), List.take_succ_eq_append_getElem hlt, Q0Y, hlen]
   have HS : Hid (bits .or .u64 (qe (L.take k) : Int) (IntKind.u64.wrap (IntKind.u64.wrap (L[k].toNat : Int) * 2 ^ (8 * k))) = (qe (L.take (k + 1)) : Int)) := hst
   clear hst hlen
   generalize qe (L.take k) = z at *
   go_wp2
   go_round
   case rel => exact ⟨k + 1, by omega, by go_num, congrArg (Value.int .u64) HS.out⟩
   case measure => simp [intOf]; omega
  ·have hkl : k = L.length := by omega
   subst hkl
   rw [List.take_length]
   go_wp2
   go_ret
   exact ⟨rfl, rfl⟩
def jH (n i : Nat) : UInt8 := UInt8.ofNat (n / 2 ^ (8 * i) % 256)
theorem Q11 (n i : Nat) : ((n : Int) / 2 ^ (8 * i) % 256) = ((jH n i).toNat : Int) := by
 have h : (jH n i).toNat = n / 2 ^ (8 * i) % 256 := by
  unfold jH
  rw [UInt8.toNat_ofNat']
  exact Nat.mod_eq_of_lt (by have : (2 : Nat) ^ 8 = 256 := rfl; omega)
 rw [h]; simp
def yC (n len : Nat) : List UInt8 := (List.range len).map (jH n)
theorem Qd (n len : Nat) : qe (yC n len) = n % 2 ^ (8 * len) := by
 induction len with
 | zero => simp [yC, qe, Nat.mod_one]
 | succ k ih =>
  have e : yC n (k + 1) = yC n k ++ [jH n k] := by simp [yC, List.range_succ]
  have hl : (yC n k).length = k := by simp [yC]
  rw [e, Q0Y, ih, hl]
  have hb : (jH n k).toNat = n / 2 ^ (8 * k) % 256 := by
   unfold jH
   rw [UInt8.toNat_ofNat']
   exact Nat.mod_eq_of_lt (by have : (2 : Nat) ^ 8 = 256 := rfl; omega)
  rw [hb, Nat.mul_add, Nat.pow_add, Nat.mod_mul, Nat.mul_comm (2 ^ (8 * k))]
theorem Q12 (s off len cap : Nat) (cs : List UInt8) (n : Nat) (t' : TypeId) (w : World) (h : w.heap[s]? = some (.cells (u8s cs).toArray t' (0, 0))) (hl : len <= 8) (hfit : off + len <= cs.length) (_h1 : (n : Int) < 18446744073709551616) :
  Calls prog 117 #[.slice (some ⟨s, off, none⟩) len cap, .int .u64 n] w fun e w' => e = .returned (.tuple #[]) /\
   w'.heap[s]? = some (.cells (u8s (splice cs off (yC n len))).toArray t' (0, 0)) /\ y5 [s] w w' := by
 go_enter func117, ntmps117
 go_wp2
 go_loopw [7] (fun i wr => ∃ (k : Nat), k <= len /\ i = .int .i64 k /\ wr.heap[s]? = some (.cells (u8s (splice cs off (yC n k))).toArray t' (0, 0)) /\ y5 [s] w wr) (fun i _ => len - (intOf i).toNat)
 case atStart => exact ⟨0, Nat.zero_le _, rfl, by simpa [yC, splice] using h, y5.refl _ _⟩
 case round =>
  obtain ⟨k, hk, rfl, hc2, hkr⟩ := hrel
  by_cases hlt : k < len
  ·have hbl : (yC n k).length = k := by simp [yC]
   have hsl : (splice cs off (yC n k)).length = cs.length := length_splice _ _ _ (by omega)
   obtain ⟨old, hold⟩ : ∃ old, wr.cell? ⟨s, off + k, none⟩ = some old := ⟨_, y6 hc2 (Array.getElem?_eq_getElem (by simp only [List.size_toArray, yd]; omega))⟩
   have hf : wr.frozen? ⟨s, off + k, none⟩ = false := frozen_of_row _ _ _ _ _ hc2
   have hset : (splice cs off (yC n k)).set (off + k) (jH n k) = splice cs off (yC n (k + 1)) := by
    have e : yC n (k + 1) = yC n k ++ [jH n k] := by simp [yC, List.range_succ]
    have h0 : off + k < cs.length := by omega
    rw [e, splice, splice, List.length_append, hbl]
    rw [List.set_append_right _ _ (by simp; omega), List.set_append_right _ _ (by simp; omega)]
    have e2 : off + k - (List.take off cs).length - (yC n k).length = 0 := by rw [List.length_take, hbl]; omega
    rw [e2, List.drop_eq_getElem_cons h0, zF]
    simp [Nat.add_assoc]
   have H1 := yg (i := off + k) (.int .u8 ((jH n k).toNat : Int)) hc2
   rw [Q0O, hset] at H1
   have H2 : y5 [s] w (wr.setCell ⟨s, off + k, none⟩ (.int .u8 ((jH n k).toNat : Int))) := hkr.setCell (Or.inl (by simp)) _
   have HB : Hid ((n : Int) / 2 ^ (8 * k) % 256 = ((jH n k).toNat : Int)) := Q11 n k
   clear hset hsl hbl hc2 hkr
   go_wp2
   go_roundw
   case rel => rw [HB.out]; exact ⟨k + 1, by omega, by go_num, H1, H2⟩
   case measure => simp [intOf]; omega
  ·have hkl : k = len := by omega
   subst hkl
   go_wp2
   go_end0
   exact ⟨rfl, hc2, hkr⟩
def Q13 (y : Int) : Int := bits .xor .u32 (y / 2) (bits .and .u32 3988292384 (-bits .and .u32 y 1 % 4294967296))
def QZ : Nat -> Int -> Int
 | 0, y => y
 | n + 1, y => Q13 (QZ n y)
def Q14 (z : Int) (b : UInt8) : Int := QZ 8 (bits .xor .u32 z ((b.toNat : Int) % 4294967296))
def csum (L : List UInt8) : Int := L.foldl Q14 4294967295
theorem Q15 (L : List UInt8) (b : UInt8) : csum (L ++ [b]) = Q14 (csum L) b := by simp [csum]
def crc (L : List UInt8) : Nat := (bits .xor .u32 IntKind.u32.max (csum L)).toNat
theorem Q16 (L : List UInt8) : bits .xor .u32 IntKind.u32.max (csum L) = (crc L : Int) /\ crc L < 4294967296 := by
 have h : 0 <= bits .xor .u32 IntKind.u32.max (csum L) /\ bits .xor .u32 IntKind.u32.max (csum L) < 4294967296 := by
  unfold bits
  simp only [IntKind.wrap_u32]
  omega
 unfold crc
 omega
theorem Q17 (s off cap : Nat) (cs : Array Value) (L : List UInt8) (t' : TypeId) (fr : Nat × Nat) (w : World) (h : w.heap[s]? = some (.cells cs t' fr)) (hl : L.length <= 1000)
  (hc : ∀ j (hj : j < L.length), cs[off + j]? = some (.int .u8 (L[j].toNat : Int))) :
  Calls prog 128 #[.slice (some ⟨s, off, none⟩) L.length cap] w fun e w' => e = .returned (.int .u32 (crc L)) /\ w' = w := by
 go_enter func128, ntmps128
 go_wp2
 go_loop [3, 8] (fun v i => ∃ (k : Nat), k <= L.length /\ i = .int .i64 k /\ v = .int .u32 (csum (L.take k))) (fun _ i => L.length - (intOf i).toNat)
 case atStart => exact ⟨0, Nat.zero_le _, rfl, rfl⟩
 case round =>
  obtain ⟨k, hk, rfl, rfl⟩ := hrel
  by_cases hlt : k < L.length
  ·have hcx : w.cell? ⟨s, off + k, none⟩ = some (.int .u8 (L[k].toNat : Int)) := y6 h (hc k hlt)
   have HS : Hid (QZ 8 (bits .xor .u32 (csum (L.take k)) ((L[k].toNat : Int) % 4294967296)) = csum (L.take (k + 1))) := by
    show _ = _
    rw [List.take_succ_eq_append_getElem hlt, Q15]; rfl
   generalize csum (L.take k) = z at *
   go_wp2
   go_loop [3, 16] (fun v i => ∃ (j : Nat), j <= 8 /\ i = .int .i64 j /\ v = .int .u32 (QZ j (bits .xor .u32 z ((L[k].toNat : Int) % 4294967296)))) (fun _ i => 8 - (intOf i).toNat)
   case atStart => exact ⟨0, by omega, rfl, rfl⟩
   case round =>
    obtain ⟨j, hj, rfl, rfl⟩ := hrel
    by_cases hj8 : j < 8
    ·have HB : Hid (bits .xor .u32 (QZ j (bits .xor .u32 z ((L[k].toNat : Int) % 4294967296)) / 2) (bits .and .u32 3988292384 (-bits .and .u32 (QZ j (bits .xor .u32 z ((L[k].toNat : Int) % 4294967296))) 1 % 4294967296)) = QZ (j + 1) (bits .xor .u32 z ((L[k].toNat : Int) % 4294967296))) := rfl
     generalize QZ j (bits .xor .u32 z ((L[k].toNat : Int) % 4294967296)) = y at *
     go_wp2
     go_round
     case rel => exact ⟨j + 1, by omega, by go_num, congrArg (Value.int .u32) HB.out⟩
     case measure => simp [intOf]; omega
    ·have hj' : j = 8 := by omega
     subst hj'
     go_wp2
     go_round
     case rel => exact ⟨k + 1, by omega, by go_num, congrArg (Value.int .u32) HS.out⟩
     case measure => simp [intOf]; omega
  ·have hkl : k = L.length := by omega
   subst hkl
   rw [List.take_length]
   have HC : Hid (bits .xor .u32 IntKind.u32.max (csum L) = (crc L : Int)) := (Q16 L).1
   generalize csum L = z at *
   go_wp2
   go_ret
   exact ⟨Q0M HC.out, rfl⟩
def hc (t r : Nat) : Array Value := #[.int .u64 t, .int .i64 r]
def nxt (t : Nat) : Nat := (t + 1) % 18446744073709551616
def nwr (t u : Nat) : Bool := decide (0 < wrap64 (IntKind.u64.wrap ((t : Int) - u)))
theorem Q18 (t r : Nat) (w : World) : Calls prog 96 #[.agg #[.int .u64 t, .int .i64 r]] w fun e w' => e = .returned (.int .i64 (t % 2 : Nat)) /\ y5 [] w w' := by
 go_enter func96, ntmps96
 go_wp2
 go_ret
 exact ⟨Q0M (by omega), (y5.refl _ _).alloc _⟩
theorem Q19 (t r : Nat) (w : World) : Calls prog 72 #[.agg #[.int .u64 t, .int .i64 r]] w fun e w' => e = .returned (.int .i64 r) /\ y5 [] w w' := by
 go_enter func72, ntmps72
 go_wp2
 go_ret
 exact ⟨rfl, (y5.refl _ _).alloc _⟩
theorem Q1a (t r x : Nat) (w : World) : Calls prog 66 #[.agg #[.int .u64 t, .int .i64 r], .int .i64 x] w fun e w' => e = .returned (.agg #[.int .u64 (nxt t), .int .i64 x]) /\ y5 [] w w' := by
 go_enter func66, ntmps66
 go_wp2
 go_returns
 refine ⟨?_, ((y5.refl _ _).alloc _).alloc _⟩
 simp [nxt, IntKind.wrap_u64]
theorem Q1b (t r u q : Nat) (w : World) : Calls prog 99 #[.agg #[.int .u64 t, .int .i64 r], .agg #[.int .u64 u, .int .i64 q]] w fun e w' => e = .returned (.bool (nwr t u)) /\ y5 [] w w' := by
 have HN : Hid (nwr t u = decide (0 < wrap64 (IntKind.u64.wrap ((t : Int) - u)))) := rfl
 go_enter func99, ntmps99
 go_wp2
 go_ret
 exact ⟨congrArg (fun b => Ending.returned (.bool b)) HN.out.symm, ((y5.refl _ _).alloc _).alloc _⟩
theorem yc {P : Program} {ops : Array Oper} {rest : List Oper} {o : Oper} {a : Act} {w : World} {Q : Exit -> Act -> World -> Prop} (hgd : o.guard = none) (d : Tmp) (_hd : o.dst = some d) (t : TypeId) (ho : o.op = .alloc t) (cs : Array Value)
  (hz : (Instr.alloc t true (.tuple #[])).run P w = .ok (.pointer (some ⟨w.heap.size, 0, none⟩)) (w.alloc (.cells cs t)))
  (h : ∀ w', w'.heap[w.heap.size]? = some (.cells cs t (0, 0)) -> y5 [] w w' -> w'.heap.size = w.heap.size + 1 -> wpList P ops Q rest (a.put o.dst (.pointer (some ⟨w.heap.size, 0, none⟩))) w') : wpList P ops Q (o :: rest) a w :=
 qx hgd t ho cs hz h
theorem Q1c {P : Program} {w : World} {o : Oper} {a : Act} {K : Act -> World -> Prop} {Q : Exit -> Act -> World -> Prop} {ty : TypeId} (dT sT : TypeId) (elem : TypeId) (hu : P.underlying dT = some (.slice elem)) (hsz : (P.info? elem).map (·.size) = some 1)
  (g off dLen dCap : Nat) (S : List UInt8) (cur : List UInt8) (t : TypeId) (hg : w.heap[g]? = some (.cells (u8s cur).toArray t (0, 0))) (hle : S.length <= dLen) (hfit : off + S.length <= cur.length)
  (h : ∀ w', w'.heap[g]? = some (.cells (u8s (splice cur off S)).toArray t (0, 0)) -> y5 [g] w w' -> K (a.put o.dst (goInt S.length)) w') :
  Oper.upon P o a K Q ((Sem.run P (Builtin.copy_ #[dT, sT] ty #[.slice (some ⟨g, off, none⟩) dLen dCap, .string ⟨S.toArray⟩]) w).andThen fun a w' => Result.ok (Next.value a) w') := by
 have hss : (ByteArray.mk S.toArray).size = S.length := rfl
 rw [Lib.run_copy_row_string (P := P) w dT sT ty elem g off dLen dCap ⟨S.toArray⟩ (u8s cur).toArray t hu hsz hg (by rw [hss]; exact hle) (by rw [hss]; simpa [yd] using hfit)]
 refine h _ ?_ ((y5.refl _ _).setRow (Or.inl (by simp)) _)
 rw [setRow_heap w g _ _ t _ hg, <- je]
 simp [splice, hss, Lib.byteCells, u8s]
theorem zsec (w : World) : (Instr.alloc 157 true (.tuple #[])).run prog w = .ok (.pointer (some ⟨w.heap.size, 0, none⟩)) (w.alloc (.cells (u8s (List.replicate 32 0)).toArray 157)) := by kernel_rfl
theorem ssec : (prog.info? 157).map (·.size) = some 32 := by kernel_rfl
def Q1d : List UInt8 := [115, 116, 111, 114, 101, 32, 49, 10]
def sec0 : List UInt8 := splice (List.replicate 32 0) 0 Q1d
def sec1 (t : Nat) : List UInt8 := splice sec0 8 (yC t 8)
def sec2 (t r : Nat) : List UInt8 := splice (sec1 t) 16 (yC r 2)
def Qm (B : List UInt8) : List UInt8 := splice B (B.length - 4) (yC (crc (B.take (B.length - 4))) 4)
def sec (t r : Nat) : List UInt8 := Qm (sec2 t r)
theorem yI (n k : Nat) : (yC n k).length = k := by simp [yC]
theorem jw : sec0.length = 32 := by decide
theorem gS (t : Nat) : (sec1 t).length = 32 := by rw [sec1, length_splice _ _ _ (by rw [yI, jw]; omega), jw]
theorem qz (t r : Nat) : (sec2 t r).length = 32 := by rw [sec2, length_splice _ _ _ (by rw [yI, gS]; omega), gS]
theorem Q1e (B : List UInt8) (h : 4 <= B.length) : (Qm B).length = B.length := by rw [Qm, length_splice _ _ _ (by rw [yI]; omega)]
theorem qG (t r : Nat) : (sec t r).length = 32 := by rw [sec, Q1e _ (by rw [qz]; omega), qz]
theorem Q1f (L : List UInt8) (off : Nat) (n : Nat) : ∀ j (hj : j < ((L.drop off).take n).length), (u8s L).toArray[off + j]? = some (.int .u8 (((L.drop off).take n)[j].toNat : Int)) := by
 intro j hj
 simp only [List.getElem?_toArray, jL]
 have h1 : j < n := by simp at hj; omega
 have h2 : off + j < L.length := by simp at hj; omega
 rw [List.getElem?_eq_getElem h2]
 simp
theorem Q1g (s off cap n m : Nat) (D : List UInt8) (t' : TypeId) (fr : Nat × Nat) (w : World) (h : w.heap[s]? = some (.cells (u8s D).toArray t' fr)) (hm : ((D.drop off).take m).length = n) (hn : n <= 1000) :
  Calls prog 128 #[.slice (some ⟨s, off, none⟩) n cap] w fun e w' => e = .returned (.int .u32 (crc ((D.drop off).take m))) /\ w' = w := by
 subst hm
 exact Q17 s off cap _ _ t' fr w h hn (Q1f D off m)
theorem Q1h (s off cap n m : Nat) (D : List UInt8) (t' : TypeId) (fr : Nat × Nat) (w : World) (h : w.heap[s]? = some (.cells (u8s D).toArray t' fr)) (hm : ((D.drop off).take m).length = n) (hn : n <= 8) :
  Calls prog 120 #[.slice (some ⟨s, off, none⟩) n cap] w fun e w' => e = .returned (.int .u64 (qe ((D.drop off).take m))) /\ w' = w := by
 subst hm
 exact Q10 s off cap _ _ t' fr w h hn (Q1f D off m)
theorem Q1i (s : Nat) (B : List UInt8) (t' : TypeId) (w : World) (h : w.heap[s]? = some (.cells (u8s B).toArray t' (0, 0))) (h4 : 4 <= B.length) (hn : B.length <= 1000) :
  Calls prog 118 #[.slice (some ⟨s, 0, none⟩) B.length B.length] w fun e w' => e = .returned (.tuple #[]) /\ w'.heap[s]? = some (.cells (u8s (Qm B)).toArray t' (0, 0)) /\ y5 [s] w w' := by
 obtain ⟨m, hm⟩ : ∃ m, B.length = m + 4 := ⟨B.length - 4, by omega⟩
 have hcr := (Q16 (B.take m)).2
 have HSM : Hid (∀ W : World, W.heap[s]? = some (.cells (u8s B).toArray t' (0, 0)) -> Calls prog 128 #[.slice (some ⟨s, 0, none⟩) m (m + 4)] W fun e w' => e = .returned (.int .u32 (crc (B.take m))) /\ w' = W) := by
  intro W hW
  have := Q1g s 0 (m + 4) m m B t' (0, 0) W hW (by rw [List.drop_zero, List.length_take]; omega) (by omega)
  rw [List.drop_zero] at this
  exact this
 have HE : Hid (splice B m (yC (crc (B.take m)) 4) = Qm B) := by
  show _ = _
  rw [Qm, hm]; rfl
 generalize hcc : crc (B.take m) = cc at *
 clear hcc
 have HW : Hid (IntKind.u64.wrap (cc : Int) = cc) := by show _ = _; rw [IntKind.wrap_u64]; omega
 have HP : Hid (∀ W : World, W.heap[s]? = some (.cells (u8s B).toArray t' (0, 0)) -> Calls prog 117 #[.slice (some ⟨s, m, none⟩) 4 4, .int .u64 cc] W fun e w' => e = .returned (.tuple #[]) /\
   w'.heap[s]? = some (.cells (u8s (splice B m (yC cc 4))).toArray t' (0, 0)) /\ y5 [s] W w') := by
  intro W hW
  exact Q12 s m 4 4 B cc t' W hW (by omega) (by omega) (by omega)
 rw [hm]
 have hl63 : m + 4 <= 1000 := by omega
 clear hm hn h4 hcr
 go_enter func118, ntmps118
 go_wp2
 go_region_with (first
  | (go_at_call 128; refine (HSM.out _ (by exact h)).mono ?_; rintro e w' ⟨rfl, rfl⟩)
  | (go_at_call 117; rw [HW.out]; refine (HP.out _ (by exact h)).mono ?_; rintro e w6 ⟨rfl, hn6, hk6⟩))
 all_goals
  rw [HE.out] at hn6
  go_end0
  exact ⟨rfl, hn6, (y5.refl [s] w).drew.trans hk6⟩
structure Tab (w : World) : Prop where
 row : ∃ cs fr, w.heap[2]? = some (.cells cs 225 fr)
 ito : ∀ W : World, W.heap[2]? = w.heap[2]? -> ∀ i : Nat, i < 70000 -> Calls prog 93 #[.int .i64 i] W fun e w' => ∃ s, e = .returned (.string s) /\ s.size <= 1000 /\ y5 [] W w'
theorem Tab.lt {w : World} (h : Tab w) : 2 < w.heap.size := by
 obtain ⟨cs, fr, hh⟩ := h.row
 exact yt hh
theorem Tab.kept {S : List Nat} {w w' : World} (h : Tab w) (k : y5 S w w') (hS : 2 ∉ S) : Tab w' := by
 have e := k.block 2 h.lt hS
 obtain ⟨cs, fr, hh⟩ := h.row
 exact ⟨⟨cs, fr, by rw [e]; exact hh⟩, fun W hW => h.ito W (by rw [hW, e])⟩
theorem Tab.k {w w' : World} (h : Tab w) (k : y5 [] w w') : Tab w' := h.kept k (by simp)
theorem Q1j {w : World} (hT : Tab w) (i : Nat) (hi : i < 70000) : Calls prog 93 #[.int .i64 i] w fun e w' => ∃ s, e = .returned (.string s) /\ s.size <= 1000 /\ y5 [] w w' := hT.ito w rfl i hi
theorem Tab.ne {w : World} (h : Tab w) {y : Nat} {cs : Array Value} {t : TypeId} {fr : Nat × Nat} (hy : w.heap[y]? = some (.cells cs t fr)) (ht : t ≠ 225) : 2 ≠ y := by
 obtain ⟨cs', fr', hh⟩ := h.row
 exact yP hh hy ht.symm
end Go.Proofs.YtcklgafpgdhnaabGreatDoor
