import Derived.Test.YtcklgafpgdhnaaaGreatDoorPsbg
import Derived.Test.YtcklgafpgdhnaaaGreatDoorPsba
import Derived.Test.YtcklgafpgdhnaaaGreatDoorPsab
set_option maxRecDepth 100000
set_option maxHeartbeats 4000000
open Go.Proofs.Tryz
open Go.Act renaming put → zP
open List renaming getElem_toArray → zA, getElem_cons_succ → zB, getElem_cons_zero → zC, setIfInBounds_toArray → zD, set_cons_succ → zE, set_cons_zero → zF
namespace Go.Proofs.YtcklgafpgdhnaaaGreatDoor
open Go.RowKit Go.Shelf
attribute [local go_sem] Oper.semAt_some
theorem Qdq (p : Option Addr) (n c : Nat) : Disp "store/tree.feed" (.iface 116 (.slice p n c)) 233 (.slice p n c) := ⟨_, rfl, fun _ => by kernel_rfl, fun _ _ => by kernel_rfl⟩
theorem Qdr (p : Option Addr) (n c : Nat) : Disp "store/tree.feed" (.iface 168 (.slice p n c)) 252 (.slice p n c) := ⟨_, rfl, fun _ => by kernel_rfl, fun _ _ => by kernel_rfl⟩
def Qds (ll : Nat) (M : List Nat) (N : Nat) (J Jx : List Pr -> World -> Prop) (lo hi : ByteArray) (h : Nat) : Prop := ∀ (n : Nat) (f : ByteArray) (nd : Nd h) (x : Value) (pre : List Pr) (W : World), ND W (· ∉ M) h nd x -> WFN h f nd -> Q4j h nd -> Q4a h nd <= 1000 -> J pre W -> pre.length + (flt lo hi (Q49 h nd)).length <= N ->
  ∃ fn v, Disp "store/tree.feed" x fn v /\ CallsIn Fence.wide n prog fn #[v, .string lo, .string hi, .func (.yield ll) #[] #[]] W (Qdo M J Jx hi pre (Q49 h nd) (flt lo hi (Q49 h nd)) W)
def fk (lo hi : ByteArray) {h : Nat} (ks : List (Kid h)) (i0 j : Nat) : List Pr := flt lo hi (Q4b h ((ks.drop i0).take j))
theorem Qdt (lo hi : ByteArray) {h : Nat} (ks : List (Kid h)) (i0 j : Nat) (q : Kid h) (hq : ks[i0 + j]? = some q) : fk lo hi ks i0 (j + 1) = fk lo hi ks i0 j ++ flt lo hi (Q49 h q.2) := by
 unfold fk
 rw [Q17 (ks.drop i0) j q (by rw [List.getElem?_drop]; exact hq), Q4d, Q6V]
 congr 2
 simp [Q4b]
theorem Qdu (lo hi : ByteArray) {h : Nat} (ks : List (Kid h)) (i0 j : Nat) : flt lo hi (Q4b h (ks.drop i0)) = fk lo hi ks i0 j ++ flt lo hi (Q4b h (ks.drop (i0 + j))) := by
 unfold fk
 rw [<- Q6V, <- Q4d, <- List.drop_drop, List.take_append_drop]
def BfI (lo hi : ByteArray) {h : Nat} (ks : List (Kid h)) (i0 : Nat) (M : List Nat) (J : List Pr -> World -> Prop) (pre : List Pr) (W : World) (i : Value) (wr : World) : Prop := ∃ j : Nat, j <= ks.length - i0 /\ i = .int .i64 j /\ J (pre ++ fk lo hi ks i0 j) wr /\ KC M W wr
theorem Qdv (ll : Nat) (M : List Nat) (N : Nat) (J Jx : List Pr -> World -> Prop) (hJ : ∀ pre W W', J pre W -> Kept [] W W' -> J pre W') (lo hi : ByteArray) (h : Nat) (IH : Qds ll M N J Jx lo hi h) (n : Nat) (f : ByteArray) (v : Value) (xs : List KE) (ks : List (Kid h)) (pre : List Pr) (W : World)
  (hl : SL W 80 3 v (xs.map ke)) (hb : ∀ b, v.ownBlock = some b -> b ∉ M) (hf : F2 (KR W (· ∉ M) h) ks xs) (hw : WFN (h + 1) f ks) (hfu : Q4j (h + 1) ks) (hlen : ks.length <= 1000) (hJ0 : J pre W) (hN : pre.length + (flt lo hi (Q4b h ks)).length <= N) :
  CallsIn Fence.wide n prog 252 #[v, .string lo, .string hi, .func (.yield ll) #[] #[]] W (Qdo M J Jx hi pre (Q4b h ks) (flt lo hi (Q4b h ks)) W) := by
 have hkw := ((Q4i h f ks).1 hw).2
 have hfull := (Q4k h ks).1 hfu
 have hlx : xs.length = ks.length := hf.1.symm
 have hcall := Q7z h (· ∉ M) v xs ks lo W hl hf hkw hlen
 have hway := Q7A lo hw
 have hfirst : flt lo hi (Q4b h ks) = flt lo hi (Q4b h (ks.drop (wayK ks lo))) := by
  conv => lhs; rw [<- List.take_append_drop (wayK ks lo) ks, Q4d, Q6V]
  rw [Q6W lo hi _ (Q71 hkw), List.nil_append]
 obtain ⟨p, c, ev⟩ := SL.shape hl
 rw [List.length_map, hlx] at ev
 obtain ⟨ps, cs, hsl, hls, hos⟩ := SL.from_ (P := prog) (T := 168) hl underlying168 stk' (wayK ks lo) (by rw [List.length_map]; omega)
 rw [List.length_map, <- List.map_drop, hlx] at hls
 rw [List.length_map, hlx] at hsl hos
 subst ev
 have HC : Hid (CallsIn Fence.wide _ _ _ _ _ _) := callsIn_wide (n := n - 1) |>.2 hcall
 have HFk : Hid (∀ j, flt lo hi (Q4b h ks) = fk lo hi ks (wayK ks lo) j ++ flt lo hi (Q4b h (ks.drop (wayK ks lo + j)))) := fun j => hfirst.trans (Qdu lo hi ks (wayK ks lo) j)
 generalize wayK ks lo = i0 at *
 clear hcall hfirst
 refine callsIn_of_wp func252 rfl trivial ?_ rfl
 simp only [ntmps252, List.size_toArray, List.length_cons, List.length_nil, Nat.reduceAdd, Nat.reduceSub, Array.replicate_succ, Array.replicate_zero, List.push_toArray, List.append_toArray, List.nil_append, List.cons_append]
 gi_wp2_with (first
  | (refine ⟨trivial, fun h => (by cases h), ?_⟩; gi_at_call 262; refine HC.out.mono ?_; rintro e w1 ⟨rfl, hk1⟩))
 have HJ : Hid _ := hJ
 have HIH : Hid _ := IH
 have HJ0 : Hid (J pre w1) := hJ pre W w1 hJ0 hk1
 have hB1 : KC M W w1 := KC.of0 hk1
 clear hJ hJ0 IH
 gi_loopw [17] (fun i wr => BfI lo hi ks i0 M J pre W i wr) (fun i _ => ks.length - i0 - (intOf i).toNat)
 case atStart => exact ⟨0, Nat.zero_le _, rfl, by simpa [fk, Q4b, flt] using HJ0.out, hB1⟩
 case round =>
  obtain ⟨j, hj, rfl, hJj, hBj⟩ := hrel
  have HJj : Hid _ := hJj
  clear hJj
  by_cases hjm : j < ks.length - i0
  ·have hjm' : (j : Int) < ((ks.length - i0 : Nat) : Int) := by omega
   obtain ⟨q, hq⟩ : ∃ q, ks[i0 + j]? = some q := ⟨_, List.getElem?_eq_getElem (by omega)⟩
   have hqm := List.mem_of_getElem? hq
   obtain ⟨y, hy, hr⟩ := hf.get hq
   have hy' : (xs.drop i0)[j]? = some y := by rw [List.getElem?_drop]; exact hy
   have hlsr : SL wr 80 3 (.slice ps (ks.length - i0) cs) ((xs.drop i0).map ke) := SL.kc hls hBj (fun b hb' => hb b (hos b hb')) (by decide)
   obtain ⟨g, off, cap, cur, e, hg, hc1, hc2, hc3, hcur⟩ := hlsr.at_ (by rw [List.length_map, List.length_drop]; omega)
   rw [List.length_map, List.length_drop, hlx] at e
   cases e
   have hld := Q56 (P := prog) (ty := 80) _ hg (hcur j (ke y) (by rw [List.getElem?_map, hy']; rfl)) underlying80 stk'
   simp only [ke] at hld
   have hqf := hfull q hqm
   have hnext := Qdt lo hi ks i0 j q hq
   have hrest := HFk.out (j + 1)
   have hrest0 := HFk.out j
   have hflq : ∀ p ∈ Q49 h q.2, p ∈ Q4b h ks := fun p hp => Q4f.2 ⟨q, hqm, hp⟩
   cases hhi : bl q.1 hi with
   | false =>
    have hge : Op.bytesLess y.1.toList hi.toList = false := by rw [hr.1.1]; exact hhi
    obtain ⟨p0, hp0⟩ := List.exists_mem_of_ne_nil _ (Q4l (by have := hqf.1.1; omega) hqf.2)
    have hp0h : bl p0.1 hi = false := Q3T (WFN.keys (hkw.all q hqm) p0 hp0).1 hhi
    have hz := Q6X lo hi _ (Q72 hkw hq hhi)
    rw [hz, List.append_nil] at hrest0
    have FIN : Hid (∀ W', Kept [] wr W' -> Qdo M J Jx hi pre (Q4b h ks) (flt lo hi (Q4b h ks)) W (.returned (.bool false)) W') := fun W' kW => Or.inr ⟨rfl, Or.inl ⟨by rw [hrest0]; exact HJ.out _ _ _ HJj.out kW, hBj.trans (KC.of0 kW), p0, hflq p0 hp0, hp0h⟩⟩
    obtain ⟨ty, vy, ey⟩ := hr.2.iface
    rw [ey] at hld
    clear hcur hq hy hy' hhi hnext hrest hrest0 hz hflq hp0 hp0h
    gi_wp2_with (first
     | (refine inV rfl (fun _ => trivial) rfl _ _ (Q0v 168 (.tmp 15) (.tmp 17) rfl g off (ks.length - i0) cs j 3 rfl rfl 80 underlying168 stk' hjm (off + j * 3) rfl) ?_)
     | (refine inV rfl (fun _ => trivial) rfl _ _ (Q0l 80 (.tmp 19) rfl ⟨g, off + j * 3, none⟩ rfl _ hld) ?_))
    all_goals
     refine ⟨fun _ _ => trivial, ?_⟩
     gi_wp2
     go_ret
     exact FIN.out _ ((Kept.refl [] wr).alloc _)
   | true =>
    have hge : Op.bytesLess y.1.toList hi.toList = true := by rw [hr.1.1]; exact hhi
    have k2 := (Kept.refl [] wr).alloc (.cells #[.string y.1, .int .i64 y.3, y.2] 80)
    have hBk : KC M W (wr.alloc (.cells #[.string y.1, .int .i64 y.3, y.2] 80)) := hBj.trans (KC.of0 k2)
    have hlenf : (pre ++ fk lo hi ks i0 j).length + (flt lo hi (Q49 h q.2)).length <= N := by
     have h1 := congrArg List.length hrest
     rw [hnext, List.length_append, List.length_append] at h1
     rw [List.length_append]
     omega
    obtain ⟨fn, vv, ⟨t, ex, hm, he⟩, hcall⟩ := HIH.out (n - 1) q.1 q.2 y.2 (pre ++ fk lo hi ks i0 j) (wr.alloc (.cells #[.string y.1, .int .i64 y.3, y.2] 80)) (ND.kc hBk hr.2) (hkw.all q hqm) hqf.2 (by have := hqf.1.2; omega) (HJ.out _ _ _ HJj.out k2) hlenf
    have hstop : (∃ p ∈ Q49 h q.2, bl p.1 hi = false) -> flt lo hi (Q4b h ks) = fk lo hi ks i0 (j + 1) := by
     rintro ⟨p0, hp0, hp0h⟩
     have hz := Q6X lo hi _ (Q73 hkw hq hp0 hp0h)
     rw [show i0 + (j + 1) = i0 + j + 1 by omega, hz, List.append_nil] at hrest
     exact hrest
    have HN : Hid _ := hnext
    have HR : Hid _ := hrest
    have HS : Hid _ := hstop
    have HQ : Hid _ := hflq
    rw [ex] at hcall hld hBk
    have HCall : Hid (CallsIn Fence.wide _ _ _ _ _ _) := hcall
    clear hcur hq hy hy' hhi hnext hrest hrest0 hstop hcall hflq hlenf k2
    gi_wp2_with (first
     | (refine inV rfl (fun _ => trivial) rfl _ _ (Q0v 168 (.tmp 15) (.tmp 17) rfl g off (ks.length - i0) cs j 3 rfl rfl 80 underlying168 stk' hjm (off + j * 3) rfl) ?_)
     | (refine inV rfl (fun _ => trivial) rfl _ _ (Q0l 80 (.tmp 19) rfl ⟨g, off + j * 3, none⟩ rfl _ hld) ?_)
     | (refine ⟨trivial, fun h => (by cases h), ?_⟩; refine HCall.out.mono ?_; clear HCall; rintro e W2 (⟨rfl, hJ2, hB2⟩ | ⟨rfl, ⟨hJ2, hB2, hp2⟩ | ⟨q2, hq2, hx2⟩⟩)))
    ·refine ⟨⟨j + 1, by omega, by simp, ?_, hBk.trans hB2⟩, by simp [intOf]; omega⟩
     rw [HN.out, <- List.append_assoc]
     exact hJ2
    ·go_ret
     obtain ⟨p0, hp0, hp0h⟩ := hp2
     refine Or.inr ⟨rfl, Or.inl ⟨?_, hBk.trans hB2, p0, HQ.out p0 hp0, hp0h⟩⟩
     rw [HS.out ⟨p0, hp0, hp0h⟩, HN.out, <- List.append_assoc]
     exact hJ2
    ·go_ret
     refine Or.inr ⟨rfl, Or.inr ⟨fk lo hi ks i0 j ++ q2, ?_, by rw [<- List.append_assoc]; exact hx2⟩⟩
     rw [HR.out, HN.out]
     obtain ⟨r2, hr2⟩ := hq2
     exact ⟨r2 ++ flt lo hi (Q4b h (ks.drop (i0 + (j + 1)))), by rw [<- hr2]; simp [List.append_assoc]⟩
  ·have hge : ¬ (j : Int) < ((ks.length - i0 : Nat) : Int) := by omega
   have hnil : ks.drop (i0 + j) = [] := List.drop_of_length_le (by omega)
   have hfl := HFk.out j
   rw [hnil, show flt lo hi (Q4b h []) = [] from rfl, List.append_nil] at hfl
   have FIN : Hid (J (pre ++ flt lo hi (Q4b h ks)) wr) := by show J _ _; rw [hfl]; exact HJj.out
   clear hfl hnil
   gi_wp2
   go_ret
   exact Or.inl ⟨rfl, FIN.out, hBj⟩
theorem Qdw (ll : Nat) (M : List Nat) (N : Nat) (J Jx : List Pr -> World -> Prop) (hJ : ∀ pre W W', J pre W -> Kept [] W W' -> J pre W') (hY : Qdn ll M N J Jx) (lo hi : ByteArray) : ∀ h, Qds ll M N J Jx lo hi h
 | 0 => by
  intro n f nd x pre W hx hw _ hs hJ0 hN
  obtain ⟨v, rfl, hl, hb⟩ := hx
  have HC := Qdp ll M N J Jx hJ hY lo hi n v nd pre W hl hb hw.1 (fun p hp => (hw.2 p hp).2) (Sm.of hw hs).2 hJ0 hN
  obtain ⟨p, c, ev⟩ := SL.shape hl
  subst ev
  exact ⟨_, _, Qdq _ _ _, HC⟩
 | h + 1 => by
  intro n f nd x pre W hx hw hfu hs hJ0 hN
  obtain ⟨v, xs, rfl, hl, hb, hf⟩ := Q6u.1 hx
  have HC := Qdv ll M N J Jx hJ lo hi h (Qdw ll M N J Jx hJ hY lo hi h) n f v xs nd pre W hl hb hf hw hfu (by have : 11 * List.length (α := Kid h) nd <= 1000 := hs; omega) hJ0 hN
  obtain ⟨p, c, ev⟩ := SL.shape hl
  subst ev
  exact ⟨_, _, Qdr _ _ _, HC⟩
end Go.Proofs.YtcklgafpgdhnaaaGreatDoor
namespace Go.Proofs.YtcklgafpgdhnaaaGreatDoor
open Go.RowKit
theorem Qdx (args : Array Value) (w : World) : (callFunc 46 args).run prog w = .ok (.enter 46 args) w := Q31 func46 (by kernel_rfl) (by kernel_rfl) args w
def VB (q2 q3 : Nat) (V : ByteArray) (B : Bool) (W : World) : Prop := W.heap[q2]? = some (.cells #[.string V] 9 (0, 0)) /\ W.heap[q3]? = some (.cells #[.bool B] 4 (0, 0))
theorem VB.k {q2 q3 : Nat} {V : ByteArray} {B : Bool} {W W' : World} (h : VB q2 q3 V B W) (kk : Kept [] W W') : VB q2 q3 V B W' := ⟨kk.get h.1 (by simp), kk.get h.2 (by simp)⟩
theorem VB.err {q2 q3 : Nat} {V : ByteArray} {B : Bool} {W W' : World} {T : List Nat} (h : VB q2 q3 V B W) (k : Kept T W W') (hT : ∀ y ∈ T, Tg W y 35) : VB q2 q3 V B W' := by
 refine ⟨k.get h.1 fun hm => ?_, k.get h.2 fun hm => ?_⟩
 ·have := (hT _ hm).ne ⟨_, _, h.1⟩
  revert this; decide
 ·have := (hT _ hm).ne ⟨_, _, h.2⟩
  revert this; decide
theorem szb : (prog.info? 4).map (·.size) = some 1 := by kernel_rfl
theorem szs : (prog.info? 9).map (·.size) = some 1 := by kernel_rfl
theorem Qdy (b0 b1 q2 q3 x v a n : Nat) (c : Hd) (r : Value) (t : Tr) (k : ByteArray) (w : World) (hb : Bx2 b0 b1 x k w) (hq : VB q2 q3 ⟨#[]⟩ false w) (hbq : b1 ≠ q2) (h : Rec x v a n c r t w) (ht : TW t) (hk : Q3O k) :
  Calls prog 43 #[.pointer (some ⟨b0, 0, none⟩), .pointer (some ⟨b1, 0, none⟩), .pointer (some ⟨q2, 0, none⟩), .pointer (some ⟨q3, 0, none⟩)] w (Ends [q2, q3] (VB q2 q3 ((getL k (Q4V t)).getD ⟨#[]⟩) (getL k (Q4V t)).isSome) w) := by
 have c0 : w.cell? ⟨b0, 0, none⟩ = some (.pointer (some ⟨x, 0, none⟩)) := Q02 hb.1 rfl
 have HN : Hid (Calls _ _ _ _ _) := Qai x v c t r w h.st.1 h.row
 have HK : Hid (∀ W, Calls prog 45 #[.string k] W _) := fun W => Qak k W hk
 have HG : Hid (∀ W, Kept [] w W -> _) := fun W kW => Q9N (h.k kW).tv ht k
 have HRc : Hid _ := h
 have HB : Hid _ := hb
 generalize (getL k (Q4V t)).getD ⟨#[]⟩ = V at *
 generalize (getL k (Q4V t)).isSome = B at *
 have hqq : q2 ≠ q3 := by intro e; subst e; have := Tg.ne ⟨_, _, hq.1⟩ ⟨_, _, hq.2⟩; revert this; decide
 have hq2 := hq
 clear h hb
 go_enter func43, ntmps43
 go_wp2_with (first
  | (go_at_call 44; refine HN.out.mono ?_; rintro e w1 ⟨rfl, hk1⟩; have c1 : w1.cell? ⟨b1, 0, none⟩ = some (.string k) := Q02 (Bx2.k HB.out hk1).2 rfl)
  | (go_at_call 45; refine (HK.out _).mono ?_; rintro e w2 ⟨rfl, hk2⟩))
 have K3 : Kept [] w w2.drew := (hk1.trans hk2).drew
 have hR3 : Rec x v a n c r t w2.drew := Rec.k HRc.out K3
 have hS : Bx2 b0 b1 x k w2.drew /\ RowX x v c t r w2.drew := ⟨Bx2.k HB.out K3, hR3.row⟩
 refine Q1j (fun W => Bx2 b0 b1 x k W /\ RowX x v c t r W) (by kernel_rfl) ?_
 refine hu 0 (.pointer (some ⟨x, 0, none⟩)) rfl (fun W hW => Q0l 27 (.tmp 0) rfl ⟨b0, 0, none⟩ rfl _ (Q0p underlying27 rfl (Q02 hW.1.1 rfl))) hS ?_
 simp only [zP, zA, zC, zD, zE, zF]
 refine hu 1 (.pointer (some ⟨x, 0, none⟩)) rfl (fun W hW => by rfl) hS ?_
 simp only [zP, zA, zB, zC, zD, zE, zF]
 refine hu 2 (.pointer (some ⟨x, 0 + 7, none⟩)) rfl (fun W hW => Q33 84 (.tmp 10) 4 rfl x (0) rfl 7 (by rfl)) hS ?_
 simp only [zP, zA, zB, zC, zD, zE, zF]
 refine hu 3 (.agg #[.string ⟨#[]⟩, .int .i64 t.pl, r]) rfl (fun W hW => Q0l 82 (.tmp 11) rfl ⟨x, 0 + 7, none⟩ rfl _ (Qbh hW.2)) hS ?_
 simp only [zP, zA, zB, zC, zD, zE, zF]
 refine hu 4 (.string k) rfl (fun W hW => Q0l 9 (.tmp 1) rfl ⟨b1, 0, none⟩ rfl _ (Q0p underlying9 rfl (Q02 hW.1.2 rfl))) hS ?_
 simp only [zP, zA, zB, zC, zD, zE, zF]
 refine Q0j (i := 5) (by kernel_rfl) (Q2Z rfl (by rfl) 46 #[.agg #[.string ⟨#[]⟩, .int .i64 t.pl, r], .string k] (Q32 _ _ _ rfl _ (by simp [Act.eval]) (Qdx _ _)) _ (HG.out _ K3) ?_)
 rintro e w4 ⟨rfl, hk4⟩
 have hS4 : Bx2 b0 b1 x k w4 /\ RowX x v c t r w4 := ⟨hS.1.k hk4, hk4.get hS.2 (by simp)⟩
 refine ⟨_, rfl, hS4, ?_⟩
 simp only [zP, zA, zB, zC, zD, zE, zF]
 refine hu 6 (.tuple #[.string V, .bool B]) rfl (fun W hW => by rfl) hS4 ?_
 simp only [zP, zA, zB, zC, zD, zE, zF]
 refine hu 7 (.string V) rfl (fun W hW => by rfl) hS4 ?_
 simp only [zP, zA, zB, zC, zD, zE, zF]
 refine hu 8 (.bool B) rfl (fun W hW => by rfl) hS4 ?_
 simp only [zP, zA, zB, zC, zD, zE, zF]
 have hq4 := (hq.k K3).k hk4
 have k5 : Kept [q2] w4 (w4.setCell ⟨q2, 0, none⟩ (.string V)) := (Kept.refl _ _).setCell (Or.inl (by simp)) _
 have hq5 : VB q2 q3 V false (w4.setCell ⟨q2, 0, none⟩ (.string V)) := ⟨Q03 (i := 0) (.string V) hq4.1, k5.get hq4.2 (by simpa using hqq.symm)⟩
 have hS5 : Bx2 b0 b1 x k (w4.setCell ⟨q2, 0, none⟩ (.string V)) /\ RowX x v c t r (w4.setCell ⟨q2, 0, none⟩ (.string V)) := by
  refine ⟨⟨k5.get hS4.1.1 ?_, k5.get hS4.1.2 (by simpa using hbq)⟩, k5.get hS4.2 ?_⟩
  ·simp; intro e; subst e; have := Tg.ne ⟨_, _, hS4.1.1⟩ ⟨_, _, hq4.1⟩; revert this; decide
  ·simp; intro e; subst e; have := Tg.ne ⟨_, _, hS4.2⟩ ⟨_, _, hq4.1⟩; revert this; decide
 refine Q0j (i := 9) (by kernel_rfl) (Q0i rfl rfl _ (Q0m 9 (.tmp 2) (.tmp 15) rfl ⟨q2, 0, none⟩ rfl _ rfl (Q0q szs rfl hq4.1 (by simp))) ⟨hS5, ?_⟩)
 simp only [zP, zA, zB, zC]
 have k6 : Kept [q3] (w4.setCell ⟨q2, 0, none⟩ (.string V)) ((w4.setCell ⟨q2, 0, none⟩ (.string V)).setCell ⟨q3, 0, none⟩ (.bool B)) := (Kept.refl _ _).setCell (Or.inl (by simp)) _
 have hq6 : VB q2 q3 V B ((w4.setCell ⟨q2, 0, none⟩ (.string V)).setCell ⟨q3, 0, none⟩ (.bool B)) := ⟨k6.get hq5.1 (by simpa using hqq), Q03 (i := 0) (.bool B) hq5.2⟩
 have hS6 : Bx2 b0 b1 x k ((w4.setCell ⟨q2, 0, none⟩ (.string V)).setCell ⟨q3, 0, none⟩ (.bool B)) /\ RowX x v c t r ((w4.setCell ⟨q2, 0, none⟩ (.string V)).setCell ⟨q3, 0, none⟩ (.bool B)) := by
  refine ⟨⟨k6.get hS5.1.1 ?_, k6.get hS5.1.2 ?_⟩, k6.get hS5.2 ?_⟩
  ·simp; intro e; subst e; have := Tg.ne ⟨_, _, hS5.1.1⟩ ⟨_, _, hq5.2⟩; revert this; decide
  ·simp; intro e; subst e; have := Tg.ne ⟨_, _, hS5.1.2⟩ ⟨_, _, hq5.2⟩; revert this; decide
  ·simp; intro e; subst e; have := Tg.ne ⟨_, _, hS5.2⟩ ⟨_, _, hq5.2⟩; revert this; decide
 refine Q0j (i := 10) (by kernel_rfl) (Q0i rfl rfl _ (Q0m 4 (.tmp 3) (.tmp 16) rfl ⟨q3, 0, none⟩ rfl _ rfl (Q0q szb rfl hq5.2 (by simp))) ⟨hS6, ?_⟩)
 simp only [zP, zA, zB, zC]
 refine wpAnyH_done (by kernel_rfl) ?_ _
 have K6 : Hid (Kept [q2, q3] w ((w4.setCell ⟨q2, 0, none⟩ (.string V)).setCell ⟨q3, 0, none⟩ (.bool B))) := (((K3.trans hk4).mono (by simp)).trans (k5.mono (by simp))).trans (k6.mono (by simp))
 have H6 : Hid _ := hq6
 clear hS hS4 hS5 hS6 hq6 hq5 hq4
 go_wp2
 go_end0
 exact ⟨rfl, H6.out, K6.out⟩
theorem Qdz (x : Nat) (k V : ByteArray) (B : Bool) (P : Value -> World -> Prop) (hP : ∀ err W W', P err W -> Kept [] W W' -> P err W') (hV : V.size <= 1000) (w : World)
  (hc : ∀ b, Calls prog 42 #[.string b, .func (.func 43) #[] #[.pointer (some ⟨w.heap.size, 0, none⟩), .pointer (some ⟨w.heap.size + 1, 0, none⟩), .pointer (some ⟨w.heap.size + 1 + 1, 0, none⟩), .pointer (some ⟨w.heap.size + 1 + 1 + 1, 0, none⟩)]] ((((w.alloc (.cells #[.pointer (some ⟨x, 0, none⟩)] 27)).alloc (.cells #[.string k] 9)).alloc (.cells #[.string ⟨#[]⟩] 9)).alloc (.cells #[.bool false] 4)) (Qb5 (fun err W => P err W /\ VB (w.heap.size + 1 + 1) (w.heap.size + 1 + 1 + 1) V B W) [w.heap.size + 1 + 1, w.heap.size + 1 + 1 + 1] ((((w.alloc (.cells #[.pointer (some ⟨x, 0, none⟩)] 27)).alloc (.cells #[.string k] 9)).alloc (.cells #[.string ⟨#[]⟩] 9)).alloc (.cells #[.bool false] 4)))) :
  Calls prog 20 #[.pointer (some ⟨x, 0, none⟩), .string k] w fun e w' => ∃ err, e = .returned (.tuple #[.string V, .bool B, err]) /\ P err w' /\ Kept [] w w' := by
 have HC : Hid (∀ b, Calls _ _ _ _ _) := hc
 have hmf := Q2H
 have HP : Hid _ := hP
 clear hc hP
 go_enter func20, ntmps20
 go_wp2_with (go_at_call 42; refine (HC.out _).mono ?_; rintro e w2 ⟨err, rfl, ⟨hp2, hq2⟩, hk2⟩; have HP2 : Hid (P err w2) := hp2; clear hp2)
 have K2 : Kept [] w w2.drew := (((((Kept.refl [] w).alloc _).alloc _).alloc _).alloc _).trans2 hk2.drew fun z hz => Or.inr (by simp at hz; omega)
 have hS : VB (w.heap.size + 1 + 1) (w.heap.size + 1 + 1 + 1) V B w2.drew := hq2
 refine Q1j (VB (w.heap.size + 1 + 1) (w.heap.size + 1 + 1 + 1) V B) (by kernel_rfl) ?_
 refine hu 0 (.string V) rfl (fun W hW => Q0l 9 (.tmp 7) rfl ⟨w.heap.size + 1 + 1, 0, none⟩ rfl _ (Q0p underlying9 rfl (Q02 hW.1 rfl))) hS ?_
 simp only [zP, zA, zC, zD, zE, zF]
 refine hu 2 (.bool B) rfl (fun W hW => Q0l 4 (.tmp 8) rfl ⟨w.heap.size + 1 + 1 + 1, 0, none⟩ rfl _ (Q0p underlying4 rfl (Q02 hW.2 rfl))) hS ?_
 simp only [zP, zA, zB, zC, zD, zE, zF]
 refine hu 3 err rfl (fun W hW => by rfl) hS ?_
 simp only [zP, zA, zB, zC, zD, zE, zF]
 refine Q0j (i := 1) (by kernel_rfl) (Q2Z rfl (by rfl) 47 #[.string V] (Q32 _ _ _ rfl _ (by simp [Act.eval]) (Qaf _ _)) _ (Q96 V _ (by omega)) ?_)
 rintro e w3 ⟨rfl, hk3⟩
 have hS3 : VB (w.heap.size + 1 + 1) (w.heap.size + 1 + 1 + 1) V B w3 := hS.k hk3
 refine ⟨_, rfl, hS3, ?_⟩
 simp only [zP, zA, zB, zC, zD, zE, zF]
 refine hu 4 (.string V) rfl (fun W hW => by rfl) hS3 ?_
 simp only [zP, zA, zB, zC, zD, zE, zF]
 refine hu 5 (.bool B) rfl (fun W hW => by rfl) hS3 ?_
 simp only [zP, zA, zB, zC, zD, zE, zF]
 refine hu 6 err rfl (fun W hW => by rfl) hS3 ?_
 simp only [zP, zA, zB, zC, zD, zE, zF]
 refine wpAnyH_done (by kernel_rfl) ?_ _
 have FIN : Hid (P err w3 /\ Kept [] w w3) := ⟨HP.out _ _ _ HP2.out ((Kept.refl [] w2).drew.trans hk3), K2.trans hk3⟩
 clear hS hS3
 go_wp2
 refine bodyPost_ret (results_tmp3 rfl _ _ _) rfl ?_
 exact ⟨err, rfl, FIN.out⟩
end Go.Proofs.YtcklgafpgdhnaaaGreatDoor
