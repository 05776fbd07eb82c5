import Derived.Test.YtcklgafpgdhnaaaGreatDoorPsab
import Derived.BigRegion
import Derived.Test.YtcklgafpgdhnaaaGreatDoorPsbf
import Derived.Test.YtcklgafpgdhnaaaGreatDoorPsau
import Derived.RangeFuncNested
import Derived.RangeFuncBound
import Derived.RangeFuncCalls
import Derived.RangeFuncLeaves
import Derived.Shelf.Abstract
import Derived.OwnWalkIn
import Derived.TacticsInMore
import Derived.LoopNIn
import Derived.LoopIn
set_option maxRecDepth 100000
set_option maxHeartbeats 4000000
open Go.Proofs.Tryz
namespace Go.Proofs.YtcklgafpgdhnaaaGreatDoor
open Go.RowKit
theorem Qdi {n : Nat} (h : n < 256) : ((UInt8.ofNat n).toNat : Int) = (n : Int) := by
 rw [UInt8.toNat_ofNat_of_lt' (by simpa using h)]
theorem Qdj (w W : World) (cs : List Value) (l : List UInt8) (k : Nat) (hk : l.length = k) (hW : W.heap[w.heap.size]? = some (.cells cs.toArray 5 (0, 0))) (hl : cs = u8s l) : (convert 60 9 (.slice (some ⟨w.heap.size, 0, none⟩) k k)).run prog W = .ok (.string ⟨l.toArray⟩) W := by
 subst hk hl
 refine run_convert_bytes_back (P := prog) W 60 9 5 ⟨w.heap.size, 0, none⟩ _ l underlying60 underlying5 underlying9 fun j hj => ?_
 refine Q16 hW j _ ?_
 rw [Q0a, List.getElem?_eq_getElem hj]
 rfl
def kyA (n : Nat) : ByteArray := if n % 3 = 0 then (ByteArray.mk #[107, 101, 121, 48, 48, 48]).extract 0 (1 + n % 2 * 5) else (ByteArray.mk #[107]).extract 0 1
def ky (n : Nat) : ByteArray := kyA n ++ (ByteArray.mk #[97 + UInt8.ofNat (n % 26), 97 + UInt8.ofNat (n / 26 % 26)]).extract 0 (2 - n % 5 / 4)
theorem Qdk (n : Nat) : 1 <= (ky n).size /\ (ky n).size <= 8 := by
 have h1 : 1 <= (kyA n).size /\ (kyA n).size <= 6 := by
  unfold kyA
  split
  ·rw [ByteArray.size_extract]
   show 1 <= min _ 6 - 0 /\ min _ 6 - 0 <= 6
   omega
  ·rw [ByteArray.size_extract]
   show 1 <= min 1 1 - 0 /\ min 1 1 - 0 <= 6
   omega
 have h2 : ((ByteArray.mk #[97 + UInt8.ofNat (n % 26), 97 + UInt8.ofNat (n / 26 % 26)]).extract 0 (2 - n % 5 / 4)).size <= 2 := by
  rw [ByteArray.size_extract]
  show min _ 2 - 0 <= 2
  omega
 unfold ky
 rw [ByteArray.size_append]
 omega
theorem Qdl (n : Nat) (w : World) (hn : n < 1000) : Calls prog 39 #[.int .i64 (n : Nat)] w fun e w' => e = .returned (.string (ky n)) /\ Kept [] w w' := by
 have h1 : (0 : Int) <= n := by omega
 have h2 : (n : Int) < 1000 := by omega
 have hc := Qdj w (w.alloc (.cells #[.int .u8 (97 + (n : Int) % 26), .int .u8 (97 + (n : Int) / 26 % 26)] 5)).drew [.int .u8 (97 + (n : Int) % 26), .int .u8 (97 + (n : Int) / 26 % 26)] [UInt8.ofNat (97 + n % 26), UInt8.ofNat (97 + n / 26 % 26)] 2 rfl (heap_alloc_new w _) (by
  simp only [u8s, List.map_cons, List.map_nil]
  rw [Qdi (by omega), Qdi (by omega)]
  rfl)
 by_cases h3 : n % 3 = 0
 ·have h3' : ((n : Int) % 3) = 0 := by omega
  go_enter func39, ntmps39
  go_wp2
  go_region
  go_wp2
  go_ret
  exact ⟨by unfold ky kyA; rw [if_pos h3]; rfl, ((Kept.refl [] w).alloc _).drew⟩
 ·have h3' : ¬ ((n : Int) % 3) = 0 := by omega
  go_enter func39, ntmps39
  go_wp2
  go_region
  go_wp2
  go_ret
  exact ⟨by unfold ky kyA; rw [if_neg h3]; rfl, ((Kept.refl [] w).alloc _).drew⟩
def KcI (w0 w : World) (x a : Nat) (bv : Value) (n m : Nat) (c : Hd) (D : Dv) (P : List Pr -> Prop) (v i : Value) (wr : World) : Prop := ∃ (vv j : Nat) (t : Tr), v = .int .i64 (vv : Nat) /\ vv < 2147483648 /\ i = .int .i64 (j : Nat) /\ j <= m /\ Smm w0 x a bv n c t D wr /\ Sd n c t D /\ P (Q4V t) /\ Kept [x] w wr
theorem Qdm {w0 w : World} {x a : Nat} {bv : Value} {n : Nat} {c : Hd} {t : Tr} {D : Dv} (P : List Pr -> Prop) (z : Int) (m K : Nat) (h : Smm w0 x a bv n c t D w) (hs : Sd n c t D) (h8 : 8 <= n) (h4 : n <= 400) (hP : P (Q4V t))
  (hput : ∀ l j v, v.size <= 12 -> j < K -> P l -> P (Q3r (ky j) v l)) (hdel : ∀ l j, j < K -> P l -> P (Q3s (ky j) l)) (hroom : ∀ t, TW t -> P (Q4V t) -> Rm n (Q4V t)) (hm : m <= 100000) (hK : 0 < K) (hK2 : K < 1000) (hz1 : -9223372036854775808 <= z) (hz2 : z <= 9223372036854775807) :
  Calls prog 17 #[.pointer (some ⟨x, 0, none⟩), .int .i64 z, .int .i64 (m : Nat), .int .i64 (K : Nat)] w fun e w' => e = .returned (.bool true) /\ ∃ t', Smm w0 x a bv n c t' D w' /\ Sd n c t' D /\ P (Q4V t') /\ Kept [x] w w' := by
 have HQ : Hid (∀ W, Calls _ _ _ W _) := fun W => Qdb z 2147483648 W (by omega) (by omega) hz1 hz2
 have hvv : pk z 2147483648 < 2147483648 := Q1S z _ (by omega)
 generalize pk z 2147483648 = vv0 at *
 have HS : Hid (Smm w0 x a bv n c t D w /\ Sd n c t D /\ P (Q4V t)) := ⟨h, hs, hP⟩
 have HH : Hid ((∀ l j v, v.size <= 12 -> j < K -> P l -> P (Q3r (ky j) v l)) /\ (∀ l j, j < K -> P l -> P (Q3s (ky j) l)) /\ (∀ t, TW t -> P (Q4V t) -> Rm n (Q4V t))) := ⟨hput, hdel, hroom⟩
 clear h hs hP hput hdel hroom
 have hK' : (0 : Int) < K := by omega
 have hm' : (m : Int) <= 100000 := by omega
 go_enter func17, ntmps17
 go_wp2_with fail
 refine (HQ.out _).mono ?_
 rintro e w1 ⟨rfl, hw1⟩
 obtain rfl := hw1.symm
 go_wp2
 go_loopw [9, 10] (fun v i wr => KcI w0 w x a bv n m c D P v i wr) (fun _ i _ => m - (intOf i).toNat)
 case atStart => exact ⟨vv0, 0, t, rfl, hvv, rfl, Nat.zero_le _, HS.out.1, HS.out.2.1, HS.out.2.2, Kept.refl _ _⟩
 case round =>
  obtain ⟨vv, j, t1, rfl, hvv1, rfl, hj, hm1, hs1, hP1, hk1⟩ := hrel
  have HM : Hid (∀ W, Calls _ _ _ W _) := fun W => Qdf vv W hvv1
  have hmx := Qde vv
  by_cases hlt : j < m
  ·have hlt' : (j : Int) < m := by omega
   have hq2 : mx vv / 16 % K < K := Nat.mod_lt _ hK
   have HKY : Hid (∀ W, Calls _ _ _ W _) := fun W => Qdl (mx vv / 16 % K) W (by omega)
   rw [show ((mx vv / 16 % K : Nat) : Int) = (((mx vv : Nat) : Int) / 16 % (K : Int)) from by rw [Int.natCast_emod, Int.natCast_ediv]; rfl] at HKY
   have HVL : Hid (∀ W, Calls _ _ _ W _) := fun W => Qdg (mx vv / 64) W (by omega)
   rw [show ((mx vv / 64 : Nat) : Int) = ((mx vv : Nat) : Int) / 64 from by rw [Int.natCast_ediv]; rfl] at HVL
   have hvs := Qdh (mx vv / 64)
   have hko : Q3O (ky (mx vv / 16 % K)) := Qdk _
   generalize hu : mx vv = u at *
   have hmi : (u : Int) < 2147483648 := by omega
   have hm0 : (0 : Int) <= u := by omega
   generalize hkk : u / 16 % K = kk at *
   generalize hvx : val0.extract 0 (u / 64 % 13) = vx at *
   have HX : Hid (Smm w0 x a bv n c t1 D wr /\ Sd n c t1 D /\ P (Q4V t1) /\ Kept [x] w wr) := ⟨hm1, hs1, hP1, hk1⟩
   have HC : Hid (Q3O (ky kk) /\ vx.size <= 12 /\ kk < K) := ⟨hko, hvs, hq2⟩
   clear hm1 hs1 hP1 hk1 hko hvs hq2 hkk hvx
   go_wp2_with fail
   refine (HM.out _).mono ?_
   rintro e w2 ⟨rfl, hw2⟩
   obtain rfl := hw2.symm
   go_wp2_with fail
   refine (HKY.out _).mono ?_
   rintro e w3 ⟨rfl, hk3⟩
   have hm3 := HX.out.1.k0 hk3
   by_cases hd : (u : Int) / 4 % 4 = 0
   ·have HD : Hid (Calls _ _ _ _ _) := hm3.del HX.out.2.1 HC.out.1
    clear hm3
    go_wp2_with fail
    refine HD.out.mono ?_
    rintro e w4 ⟨rfl, hm4, hk4⟩
    have FIN : Hid (KcI w0 w x a bv n m c D P (.int .i64 (u : Nat)) (.int .i64 ((j + 1 : Nat) : Int)) w4) := ⟨u, j + 1, _, rfl, hmx, rfl, hlt, hm4, HX.out.2.1.del, by
     rw [(Qad _ t1 HX.out.2.1.st.tw).2]
     exact HH.out.2.1 _ _ HC.out.2.2 HX.out.2.2.1, (HX.out.2.2.2.trans (hk3.mono (by simp))).trans hk4⟩
    clear hm4 hk4
    go_wp2
    go_roundw
    case rel => exact FIN.out
    case measure => simp [intOf]; omega
   ·have hc3 := Q51 (Q4T (ky kk) vx HC.out.1 HC.out.2.1) t1 HX.out.2.1.st.tw
    have hP3 : P (Q4V (chgT (Q3r (ky kk) vx) (ky kk) t1)) := by rw [hc3.2]; exact HH.out.1 _ _ _ HC.out.2.1 HC.out.2.2 HX.out.2.2.1
    have HPu : Hid (Calls _ _ _ _ _) := hm3.put HX.out.2.1 HC.out.1 HC.out.2.1 h8 h4 (by rw [<- hc3.2]; exact HH.out.2.2 _ hc3.1 hP3)
    have HP3 : Hid (P (Q4V (chgT (Q3r (ky kk) vx) (ky kk) t1))) := hP3
    clear hm3 hP3 hc3
    have hd' : ((u : Int) / 4 % 4 == 0) = false := by rw [beq_eq_false_iff_ne]; exact hd
    clear hd
    go_wp2_with fail
    refine (HVL.out _).mono ?_
    rintro e w4 ⟨rfl, hw4⟩
    obtain rfl := hw4.symm
    go_wp2_with fail
    refine HPu.out.mono ?_
    rintro e w5 ⟨rfl, hm5, hk5⟩
    have FIN : Hid (KcI w0 w x a bv n m c D P (.int .i64 (u : Nat)) (.int .i64 ((j + 1 : Nat) : Int)) w5) := ⟨u, j + 1, _, rfl, hmx, rfl, hlt, hm5, HX.out.2.1.put HC.out.1 HC.out.2.1, HP3.out, (HX.out.2.2.2.trans (hk3.mono (by simp))).trans hk5⟩
    clear hm5 hk5
    go_wp2
    go_roundw
    case rel => exact FIN.out
    case measure => simp [intOf]; omega
  ·have hge : ¬ (j : Int) < (m : Int) := by omega
   go_wp2
   go_ret
   exact ⟨rfl, t1, hm1, hs1, hP1, hk1⟩
end Go.Proofs.YtcklgafpgdhnaaaGreatDoor
namespace Go.Proofs.YtcklgafpgdhnaaaGreatDoor
open Go.RowKit Go.Shelf
attribute [local go_sem] Oper.semAt_some
section
variable {F : Fence} {n : Nat} {P : Program} {ops : Array Oper} {rest : List Oper} {o : Oper} {a : Act} {w : World} {Q : Exit -> Act -> World -> Prop}
theorem inV (hgd : o.guard = none) (hfn : ∀ f, F.fn f) (hro : o.semAt F.round a.eval = execOp a.eval o) (v : Value) (w' : World) (hrun : (execOp a.eval o).run P w = .ok (.value v) w') (h : wpListIn F n P ops Q rest (a.put o.dst v) w') : wpListIn F n P ops Q (o :: rest) a w :=
 wpListIn_plain hgd fun K hK => ⟨fun f _ => hfn f, by rw [hro, hrun]; exact hK _ _ h⟩
end
structure KC (M : List Nat) (w w' : World) : Prop where
 os : w'.os = w.os
 tape : w'.tape = w.tape
 output : w'.output = w.output
 size : w.heap.size <= w'.heap.size
 row : ∀ k cs t fr, w.heap[k]? = some (.cells cs t fr) -> k ∉ M -> t ≠ 41 -> w'.heap[k]? = some (.cells cs t fr)
theorem KC.refl (M : List Nat) (w : World) : KC M w w := ⟨rfl, rfl, rfl, Nat.le_refl _, fun _ _ _ _ h _ _ => h⟩
theorem KC.trans {M : List Nat} {a b c : World} (h : KC M a b) (k : KC M b c) : KC M a c := ⟨k.os.trans h.os, k.tape.trans h.tape, k.output.trans h.output, Nat.le_trans h.size k.size, fun i cs t fr hi hm ht => k.row i cs t fr (h.row i cs t fr hi hm ht) hm ht⟩
theorem KC.of {M S : List Nat} {a b : World} (h : Kept S a b) (hS : ∀ x ∈ S, x ∈ M) : KC M a b := ⟨h.os, h.tape, h.output, h.size, fun _ _ _ _ hi hm _ => h.get hi fun hx => hm (hS _ hx)⟩
theorem KC.of0 {M : List Nat} {a b : World} (h : Kept [] a b) : KC M a b := KC.of h (by simp)
theorem KC.put {M : List Nat} (W : World) (l : Nat) (o o' : Obj) (h : W.heap[l]? = some o) (hc : o.isCells = false) : KC M W (W.putObj l o') := by
 have g := grownBy_putObj' W l o'
 refine ⟨g.os, g.tape, g.output, g.size, fun k cs t fr hk _ _ => (g.block k (Q00 hk) ?_).trans hk⟩
 intro e
 cases e
 rw [hk] at h
 cases h
 cases hc
theorem SL.kc {M : List Nat} {w w' : World} {t : TypeId} {d : Nat} {v : Value} {es : List El} (h : SL w t d v es) (k : KC M w w') (hb : ∀ b, v.ownBlock = some b -> b ∉ M) (ht : t ≠ 41) : SL w' t d v es := by
 rcases h with h | ⟨g, off, cap, cur, rfl, hh, r⟩
 ·exact Or.inl h
 ·exact Or.inr ⟨g, off, cap, cur, rfl, k.row _ _ _ _ hh (hb g rfl) ht, r⟩
theorem ND.kc {M : List Nat} {w w' : World} (k : KC M w w') : ∀ {h : Nat} {n : Nd h} {x : Value}, ND w (· ∉ M) h n x -> ND w' (· ∉ M) h n x
 | 0, _, _, ⟨v, e, hl, hb⟩ => ⟨v, e, SL.kc hl k hb (by decide), hb⟩
 | _ + 1, _, _, ⟨v, es, e, hl, hb, hf⟩ => ⟨v, es, e, SL.kc hl k hb (by decide), hb, hf.mono fun _ _ _ hr => ⟨hr.1, ND.kc k hr.2⟩⟩
theorem SL.from_ {P : Program} {w : World} {T t : TypeId} {d : Nat} {v : Value} {es : List El} (h : SL w t d v es) (hu : P.underlying T = some (.slice t)) (hs : (P.info? t).map (·.size) = some d) (i : Nat) (hi : i <= es.length) :
  ∃ p c, (∀ W, (Instr.sliceAt T v (some (.int .i64 (i : Int))) none none).run P W = .ok (.slice p (es.length - i) c) W) /\ SL w t d (.slice p (es.length - i) c) (es.drop i) /\ ∀ b, (Value.slice p (es.length - i) c).ownBlock = some b -> v.ownBlock = some b := by
 rcases h with ⟨rfl, rfl⟩ | ⟨g, off, cap, cur, rfl, hh, h1, h2, h3, h4⟩
 ·obtain rfl : i = 0 := by simpa using hi
  refine ⟨none, 0, fun W => ?_, Or.inl ⟨rfl, rfl⟩, fun b hb => by cases hb⟩
  cases hq : P.info? t with
  | none => simp [hq] at hs
  | some ie => simp [Instr.sliceAt, Instr.slice, run_underlying hu, Instr.sliceBounds, Instr.sliceBound, asIntOf, sizeOf, typeInfo, hq]
 ·refine ⟨some (cutA d g off cap i), cap - i, fun W => Q5H W T t d g off es.length cap hu hs i hi, Or.inr ?_, fun b hb => ?_⟩
  ·unfold cutA
   have hm : (cap - i) * d = cap * d - i * d := Nat.sub_mul cap i d
   have hle : i * d <= cap * d := Nat.mul_le_mul_right d (by omega)
   by_cases hc : cap = i
   ·rw [if_pos hc]
    refine ⟨g, off, cap - i, cur, by rw [List.length_drop], hh, by rw [List.length_drop]; omega, by omega, by omega, ?_⟩
    intro j e he
    rw [List.getElem?_drop, List.getElem?_eq_none (by omega)] at he
    cases he
   ·rw [if_neg hc]
    refine ⟨g, off + i * d, cap - i, cur, by rw [List.length_drop], hh, by rw [List.length_drop]; omega, by omega, by omega, ?_⟩
    intro j e he
    rw [List.getElem?_drop] at he
    have := h4 (i + j) e he
    rw [show off + (i + j) * d = off + i * d + j * d by rw [Nat.add_mul]; omega] at this
    exact this
  ·have : (Value.slice (some (cutA d g off cap i)) (es.length - i) (cap - i)).ownBlock = some (cutA d g off cap i).block := rfl
   rw [this, Q5F] at hb
   exact hb
def Qdn (l : Nat) (M : List Nat) (N : Nat) (J Jx : List Pr -> World -> Prop) : Prop := ∀ m pre (x : Pr) W, J pre W -> okp x -> pre.length < N -> YieldAt Fence.wide m prog l #[.agg #[.string x.1, .string x.2]] W fun e W' =>
 (e = .returned (.bool true) /\ J (pre ++ [x]) W' /\ KC M W W') \/ (e = .returned (.bool false) /\ Jx (pre ++ [x]) W')
def Qdo (M : List Nat) (J Jx : List Pr -> World -> Prop) (hi : ByteArray) (pre flat fl : List Pr) (W : World) (e : Ending) (W' : World) : Prop :=
 (e = .returned (.bool true) /\ J (pre ++ fl) W' /\ KC M W W') \/ (e = .returned (.bool false) /\ ((J (pre ++ fl) W' /\ KC M W W' /\ ∃ p ∈ flat, bl p.1 hi = false) \/ ∃ q, q <+: fl /\ Jx (pre ++ q) W'))
def LfI (l : List Pr) (hi : ByteArray) (i0 : Nat) (M : List Nat) (J : List Pr -> World -> Prop) (pre : List Pr) (W : World) (i : Value) (wr : World) : Prop := ∃ j : Nat, j <= l.length - i0 /\ i = .int .i64 j /\ J (pre ++ (l.drop i0).take j) wr /\ KC M W wr /\ ∀ p ∈ (l.drop i0).take j, bl p.1 hi = true
theorem Qdp (ll : Nat) (M : List Nat) (N : Nat) (J Jx : List Pr -> World -> Prop) (hJ : ∀ pre W W', J pre W -> Kept [] W W' -> J pre W') (hY : Qdn ll M N J Jx) (lo hi : ByteArray) (n : Nat) (v : Value) (l : List Pr) (pre : List Pr) (W : World)
  (hl : LF W v l) (hb : ∀ b, v.ownBlock = some b -> b ∉ M) (hs : Srt l) (hok : ∀ p ∈ l, okp p) (hlen : l.length <= 1000) (hJ0 : J pre W) (hN : pre.length + (flt lo hi l).length <= N) :
  CallsIn Fence.wide n prog 233 #[v, .string lo, .string hi, .func (.yield ll) #[] #[]] W (Qdo M J Jx hi pre l (flt lo hi l) W) := by
 have hpos := Q6T (Q6D hs) lo
 have hcall := (Q5i v (l.map pe) (l.map (·.1)) lo W hl (Q7y l) (Q6D hs) (by simp; omega)).mono fun _ _ h => Q6U h
 have hib := hpos.1
 rw [List.length_map] at hib
 have hl0 := hl
 obtain ⟨p, c, ev⟩ := SL.shape hl
 rw [List.length_map] at ev
 obtain ⟨ps, cs, hsl, hls, hos⟩ := SL.from_ (P := prog) (T := 116) hl underlying116 stp (pK (l.map (·.1)) lo) (by rw [List.length_map]; exact hib)
 rw [List.length_map, <- List.map_drop] at hls
 rw [List.length_map] at hsl hos
 subst ev
 generalize pK (l.map (·.1)) lo = i0 at *
 generalize bK (l.map (·.1)) lo = b0 at *
 have HF : Hid (CallsIn Fence.wide _ _ _ _ _ _) := callsIn_wide (n := n - 1) |>.2 hcall
 refine callsIn_of_wp func233 rfl trivial ?_ rfl
 simp only [ntmps233, List.size_toArray, List.length_cons, List.length_nil, Nat.reduceAdd, Nat.reduceSub, Array.replicate_succ, Array.replicate_zero, List.push_toArray, List.append_toArray, List.nil_append, List.cons_append]
 gi_wp2_with (first
  | (refine ⟨trivial, fun h => (by cases h), ?_⟩; gi_at_call 70; refine HF.out.mono ?_; rintro e w1 ⟨rfl, hk1⟩))
 have HY : Hid _ := hY
 have HFl : Hid (∀ j, (∀ p ∈ (l.drop i0).take j, bl p.1 hi = true) -> flt lo hi l = (l.drop i0).take j ++ flt lo hi (l.drop (i0 + j))) := fun j h => by
  have := Q70 (hi := hi) hpos (j := i0 + j) (by omega) (by rw [show i0 + j - i0 = j by omega]; exact h)
  rwa [show i0 + j - i0 = j by omega] at this
 have HJ : Hid _ := hJ
 have HJ0 : Hid (J pre w1) := hJ pre W w1 hJ0 hk1
 have hB1 : KC M W w1 := KC.of0 hk1
 clear hY hJ hJ0 hpos hcall
 gi_loopw [23] (fun i wr => LfI l hi i0 M J pre W i wr) (fun i _ => l.length - i0 - (intOf i).toNat)
 case atStart => exact ⟨0, Nat.zero_le _, rfl, by simpa using HJ0.out, hB1, by simp⟩
 case round =>
  obtain ⟨j, hj, rfl, hJj, hBj, hlt⟩ := hrel
  have HJj : Hid _ := hJj
  have HLt : Hid _ := hlt
  clear hJj hlt
  by_cases hjm : j < l.length - i0
  ·have hjm' : (j : Int) < ((l.length - i0 : Nat) : Int) := by omega
   obtain ⟨x, hx⟩ : ∃ x, l[i0 + j]? = some x := ⟨_, List.getElem?_eq_getElem (by omega)⟩
   have hx' : (l.drop i0)[j]? = some x := by rw [List.getElem?_drop]; exact hx
   have hlsr : SL wr 122 2 (.slice ps (l.length - i0) cs) ((l.drop i0).map pe) := SL.kc hls hBj (fun b hb' => hb b (hos b hb')) (by decide)
   obtain ⟨g, off, cap, cur, e, hg, hc1, hc2, hc3, hcur⟩ := hlsr.at_ (by rw [List.length_map, List.length_drop]; omega)
   rw [List.length_map, List.length_drop] at e
   cases e
   have hld := Q56 (P := prog) (ty := 122) _ hg (hcur j (pe x) (by rw [List.getElem?_map, hx']; rfl)) underlying122 stp
   simp only [pe] at hld
   have HX : Hid _ := hx
   have HX' : Hid _ := hx'
   cases hhi : bl x.1 hi with
   | false =>
    have hge : Op.bytesLess x.1.toList hi.toList = false := hhi
    clear hcur hx hx' hhi
    gi_wp2_with (first
     | (refine inV rfl (fun _ => trivial) rfl _ _ (Q0v 116 (.tmp 21) (.tmp 23) rfl g off (l.length - i0) cs j 2 rfl rfl 122 underlying116 stp hjm (off + j * 2) rfl) ?_)
     | (refine inV rfl (fun _ => trivial) rfl _ _ (Q0l 122 (.tmp 25) rfl ⟨g, off + j * 2, none⟩ rfl _ hld) ?_))
    refine ⟨fun _ h => (by cases h), ?_⟩
    gi_wp2
    go_ret
    have hx := HX.out
    have hbe : ∀ q ∈ l.drop (i0 + j), bl q.1 hi = false := Q6Z hs hx hge
    have hfl := HFl.out j HLt.out
    rw [Q6X lo hi _ hbe, List.append_nil] at hfl
    refine Or.inr ⟨rfl, Or.inl ⟨?_, hBj.trans (KC.of0 ((Kept.refl [] wr).alloc _)), x, List.mem_of_getElem? hx, hge⟩⟩
    rw [hfl]
    exact HJ.out _ _ _ HJj.out ((Kept.refl [] wr).alloc _)
   | true =>
    have hge : Op.bytesLess x.1.toList hi.toList = true := hhi
    have k2 := (Kept.refl [] wr).alloc (.cells #[.string x.1, .string x.2] 122)
    have hsnoc : (l.drop i0).take (j + 1) = (l.drop i0).take j ++ [x] := Q17 _ j x hx'
    have hltn : ∀ p ∈ (l.drop i0).take (j + 1), bl p.1 hi = true := by
     rw [hsnoc]
     intro p hp
     rcases List.mem_append.1 hp with hp | hp
     ·exact HLt.out p hp
     ·simp at hp; subst hp; exact hhi
    have hfl := HFl.out (j + 1) hltn
    have hlenf : (pre ++ (l.drop i0).take j).length < N := by
     have h1 := congrArg List.length hfl
     rw [hsnoc, List.length_append, List.length_append, List.length_cons, List.length_nil] at h1
     rw [List.length_append]
     omega
    obtain ⟨fn, tmps, assign, body, hy, hR⟩ := HY.out (n - 1) (pre ++ (l.drop i0).take j) x (wr.alloc (.cells #[.string x.1, .string x.2] 122)) (HJ.out _ _ _ HJj.out k2) (hok x (List.mem_of_getElem? hx)) hlenf
    have HSn : Hid _ := hsnoc
    have HLn : Hid _ := hltn
    have HFn : Hid _ := hfl
    have hBk := hBj.trans (KC.of0 (M := M) k2)
    clear hcur hx hx' hhi hsnoc hltn hfl hlenf
    gi_wp2_with (first
     | (refine inV rfl (fun _ => trivial) rfl _ _ (Q0v 116 (.tmp 21) (.tmp 23) rfl g off (l.length - i0) cs j 2 rfl rfl 122 underlying116 stp hjm (off + j * 2) rfl) ?_)
     | (refine inV rfl (fun _ => trivial) rfl _ _ (Q0l 122 (.tmp 25) rfl ⟨g, off + j * 2, none⟩ rfl _ hld) ?_)
     | ((try refine ⟨trivial, ?_⟩); (try refine ⟨fun h => (by cases h), ?_⟩); refine hR.mono ?_; clear hR; rintro e W2 (⟨rfl, hJ2, hB2⟩ | ⟨rfl, hx2⟩)))
    ·refine ⟨⟨j + 1, by omega, by simp, ?_, hBk.trans hB2, HLn.out⟩, by simp [intOf]; omega⟩
     rw [HSn.out, <- List.append_assoc]
     exact hJ2
    ·go_ret
     refine Or.inr ⟨rfl, Or.inr ⟨(l.drop i0).take (j + 1), ⟨_, HFn.out.symm⟩, ?_⟩⟩
     rw [HSn.out, <- List.append_assoc]
     exact hx2
  ·have hge : ¬ (j : Int) < ((l.length - i0 : Nat) : Int) := by omega
   have ej : j = l.length - i0 := by omega
   have hfl := HFl.out j HLt.out
   have hnil : l.drop (i0 + j) = [] := List.drop_of_length_le (by omega)
   rw [hnil, show flt lo hi [] = [] from rfl, List.append_nil] at hfl
   have FIN : Hid (J (pre ++ flt lo hi l) wr) := by show J _ _; rw [hfl]; exact HJj.out
   clear hfl ej hnil
   gi_wp2
   go_ret
   exact Or.inl ⟨rfl, FIN.out, hBj⟩
end Go.Proofs.YtcklgafpgdhnaaaGreatDoor
