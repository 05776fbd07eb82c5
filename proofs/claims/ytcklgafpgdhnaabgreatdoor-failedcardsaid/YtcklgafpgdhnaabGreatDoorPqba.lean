import Derived.Test.YtcklgafpgdhnaabGreatDoorPqaz
import Derived.Test.YtcklgafpgdhnaabGreatDoorPqab
set_option maxRecDepth 100000
set_option maxHeartbeats 4000000
open Go.Proofs.Tryz
open Go.Act renaming put → zP
open List renaming getElem_toArray → zA, getElem_cons_succ → zB, getElem_cons_zero → zC, setIfInBounds_toArray → zD, set_cons_succ → zE, set_cons_zero → zF
namespace Go.Proofs.YtcklgafpgdhnaabGreatDoor
open Go.RowKit
theorem Q8d (args : Array Value) (w : World) : (callFunc 54 args).run prog w = .ok (.enter 54 args) w := qA func54 (by kernel_rfl) (by kernel_rfl) args w
def Bx2 (b0 b1 x : Nat) (k : ByteArray) (W : World) : Prop := W.heap[b0]? = some (.cells #[.pointer (some ⟨x, 0, none⟩)] 24 (0, 0)) /\ W.heap[b1]? = some (.cells #[.string k] 9 (0, 0))
theorem Bx2.k {b0 b1 x : Nat} {k : ByteArray} {W W' : World} (h : Bx2 b0 b1 x k W) (kk : y5 [] W W') : Bx2 b0 b1 x k W' := ⟨kk.get h.1 (by simp), kk.get h.2 (by simp)⟩
theorem Rec.load {x v a n : Nat} {c : Hd} {r : Value} {t : Tr} {w : World} (h : Rec x v a n c r t w) : (loadVar 77 ⟨x, 7, none⟩).run prog w = .ok (.agg #[.string ⟨#[]⟩, .int .i64 t.pl, r]) w := by
 refine yV (P := prog) w x 7 79 77 (qk c v t r).toList [.string ⟨#[]⟩, .int .i64 t.pl, r] (0, 0) _ h.row underlying77 rfl stT ?_
 intro j u hu
 rcases j with _ | _ | _ | j
 ·simpa [qk] using hu
 ·simpa [qk] using hu
 ·simpa [qk] using hu
 ·simp at hu
theorem Rec.set {x v a n : Nat} {c : Hd} {r r' : Value} {t t' : Tr} {w : World} (h : Rec x v a n c r t w) (A : Nat -> Prop) (ht : TV w A t' r') : ∃ w', (storeVar 77 ⟨x, 7, none⟩ (.agg #[.string ⟨#[]⟩, .int .i64 t'.pl, r'])).run prog w = .ok () w' /\ Rec x v a n c r' t' w' /\ y5 [x] w w' := by
 have hst := yE (P := prog) w x 7 79 77 (qk c v t r).toList [.string ⟨#[]⟩, .int .i64 t'.pl, r'] h.row (by rw [stT]; rfl) (by simp [qk]) (by intro u hu; simp at hu; rcases hu with rfl | rfl | rfl; rfl; rfl; exact ht.one)
 have k1 : y5 [x] w (w.setRow x (splice (qk c v t r).toList 7 [.string ⟨#[]⟩, .int .i64 t'.pl, r']).toArray) := (y5.refl _ _).setRow (Or.inl (by simp)) _
 have hx : Tg w x 79 := ⟨_, _, h.row⟩
 have hno : ∀ y ∈ [x], ¬ TT w y := by
  intro y hy
  simp at hy
  subst hy
  rintro (h1 | h1)
  ·have := hx.ne h1
   revert this; decide
  ·have := hx.ne h1
   revert this; decide
 refine ⟨_, hst, ⟨setRow_heap _ _ _ _ _ _ h.row, k1.get h.vol ?_, h.st, TV.kept h.lv.tags k1 hno fun _ _ => trivial, TV.kept ht.tags k1 hno fun _ _ => trivial⟩, k1⟩
 intro hm
 simp at hm
 subst hm
 have := hx.ne ⟨_, _, h.vol⟩
 revert this; decide
theorem Q8e (b0 b1 x v a n : Nat) (c : Hd) (r : Value) (t : Tr) (k : ByteArray) (w : World) (hb : Bx2 b0 b1 x k w) (h : Rec x v a n c r t w) (ht : TW t) (hs : c.s = 1 \/ c.s = 2) (hk : jy k) :
  Calls prog 53 #[.pointer (some ⟨b0, 0, none⟩), .pointer (some ⟨b1, 0, none⟩)] w (Ends [x] (fun W => ∃ r', Rec x v a n c r' (delT k t) W) w) := by
 have c0 : w.cell? ⟨b0, 0, none⟩ = some (.pointer (some ⟨x, 0, none⟩)) := y6 hb.1 rfl
 have HN : Hid (Calls _ _ _ _ _) := Qc x v c t r w hs h.row
 have HK : Hid (∀ W, Calls prog 40 #[.string k] W _) := fun W => Zb k W hk
 have HD : Hid (∀ W, y5 [] w W -> _) := fun W kW => Q7r (h.k kW).tv.tags (fun y hy => TT.lt hy) ht k
 have HRc : Hid _ := h
 have HB : Hid _ := hb
 clear h hb
 go_enter func53, ntmps53
 go_wp2_with (first
  | (go_at_call 34; refine HN.out.mono ?_; rintro e w1 ⟨rfl, hk1⟩; have c1 : w1.cell? ⟨b1, 0, none⟩ = some (.string k) := y6 (Bx2.k HB.out hk1).2 rfl)
  | (go_at_call 40; refine (HK.out _).mono ?_; rintro e w2 ⟨rfl, hk2⟩))
 have hS : Bx2 b0 b1 x k w2.drew := Bx2.k HB.out (hk1.trans hk2).drew
 have hR2 : Rec x v a n c r t w2.drew := Rec.k HRc.out (hk1.trans hk2).drew
 refine yj (Bx2 b0 b1 x k) (by kernel_rfl) ?_
 refine hu 0 (.pointer (some ⟨x, 0, none⟩)) rfl (fun W hW => y9 24 (.tmp 0) rfl ⟨b0, 0, none⟩ rfl _ (yh underlying24 rfl (y6 hW.1 rfl))) hS ?_
 simp only [zP, zA, zC, zD, zE, zF]
 refine hu 1 (.pointer (some ⟨x, 0, none⟩)) rfl (fun W hW => y9 24 (.tmp 0) rfl ⟨b0, 0, none⟩ rfl _ (yh underlying24 rfl (y6 hW.1 rfl))) hS ?_
 simp only [zP, zA, zB, zC, zD, zE, zF]
 refine hu 2 (.pointer (some ⟨x, 0, none⟩)) rfl (fun W hW => by rfl) hS ?_
 simp only [zP, zA, zB, zC, zD, zE, zF]
 refine hu 3 (.pointer (some ⟨x, 0 + 7, none⟩)) rfl (fun W hW => yv 79 (.tmp 8) 4 rfl x (0) rfl 7 (by rfl)) hS ?_
 simp only [zP, zA, zB, zC, zD, zE, zF]
 refine hu 5 (.string k) rfl (fun W hW => y9 9 (.tmp 1) rfl ⟨b1, 0, none⟩ rfl _ (yh underlying9 rfl (y6 hW.2 rfl))) hS ?_
 simp only [zP, zA, zB, zC, zD, zE, zF]
 refine yf (i := 4) (by kernel_rfl) (yy rfl (by rfl) (.agg #[.string ⟨#[]⟩, .int .i64 t.pl, r]) _ (y9 77 (.tmp 9) rfl ⟨x, 0 + 7, none⟩ rfl _ hR2.load) ⟨hS, ?_⟩)
 simp only [zP, zA, zB, zC, zD, zE, zF]
 refine yf (i := 6) (by kernel_rfl) (yo rfl (by rfl) 54 #[.agg #[.string ⟨#[]⟩, .int .i64 t.pl, r], .string k] (yk _ _ _ rfl _ (by simp [Act.eval]) (Q8d _ _)) _ (HD.out _ (hk1.trans hk2).drew) ?_)
 rintro e w3 ⟨r3, rfl, ht3, hk3⟩
 have hS3 := hS.k hk3
 refine ⟨_, rfl, hS3, ?_⟩
 simp only [zP, zA, zB, zC, zD, zE, zF]
 refine hu 7 (.pointer (some ⟨x, 0, none⟩)) rfl (fun W hW => by rfl) hS3 ?_
 simp only [zP, zA, zB, zC, zD, zE, zF]
 refine hu 8 (.pointer (some ⟨x, 0 + 7, none⟩)) rfl (fun W hW => yv 79 (.tmp 13) 4 rfl x (0) rfl 7 (by rfl)) hS3 ?_
 simp only [zP, zA, zB, zC, zD, zE, zF]
 obtain ⟨w4, hst4, hR4, hk4⟩ := (hR2.k hk3).set _ ht3
 have hS4 : Bx2 b0 b1 x k w4 := ⟨hk4.get hS3.1 (by simp; intro e; subst e; have := Tg.ne ⟨_, _, hS3.1⟩ ⟨_, _, (hR2.k hk3).row⟩; revert this; decide), hk4.get hS3.2 (by simp; intro e; subst e; have := Tg.ne ⟨_, _, hS3.2⟩ ⟨_, _, (hR2.k hk3).row⟩; revert this; decide)⟩
 refine yf (i := 9) (by kernel_rfl) (qo rfl rfl w4 (yH 77 (.tmp 14) (.tmp 12) rfl ⟨x, 0 + 7, none⟩ rfl _ rfl hst4) ⟨hS4, ?_⟩)
 simp only [zP, zA, zB, zC]
 refine wpAnyH_done (by kernel_rfl) ?_ _
 have K4 : Hid (y5 [x] w w4) := ((((hk1.trans hk2).drew).trans hk3).mono (by simp)).trans hk4
 clear hS hS3 hS4 hst4
 go_wp2
 go_end0
 exact ⟨rfl, ⟨r3, hR4⟩, K4.out⟩
theorem Q8f (x : Nat) (k : ByteArray) (P : Value -> World -> Prop) (S : List Nat) (w : World)
  (hc : ∀ b, Calls prog 32 #[.string b, .func (.func 53) #[] #[.pointer (some ⟨w.heap.size, 0, none⟩), .pointer (some ⟨w.heap.size + 1, 0, none⟩)]] ((w.alloc (.cells #[.pointer (some ⟨x, 0, none⟩)] 24)).alloc (.cells #[.string k] 9)) (ZK P S ((w.alloc (.cells #[.pointer (some ⟨x, 0, none⟩)] 24)).alloc (.cells #[.string k] 9)))) :
  Calls prog 30 #[.pointer (some ⟨x, 0, none⟩), .string k] w (ZK P S w) := by
 have HC : Hid (∀ b, Calls _ _ _ _ _) := hc
 have hmf := jb
 clear hc
 go_enter func30, ntmps30
 go_wp2_with (go_at_call 32; refine (HC.out _).mono ?_; rintro e w2 ⟨err, rfl, hp2, hk2⟩)
 go_ret
 exact ⟨err, rfl, hp2, (((y5.refl S w).alloc _).alloc _).trans hk2⟩
theorem Q8g (w : World) (x : Nat) (k : ByteArray) : Bx2 w.heap.size (w.heap.size + 1) x k ((w.alloc (.cells #[.pointer (some ⟨x, 0, none⟩)] 24)).alloc (.cells #[.string k] 9)) := by
 constructor
 ·exact ((y5.refl [] _).alloc _).get (heap_alloc_new _ _) (by simp)
 ·have := heap_alloc_new (w.alloc (.cells #[.pointer (some ⟨x, 0, none⟩)] 24)) (.cells #[.string k] 9)
  rwa [World.size_alloc] at this
theorem Q8h (x v a n : Nat) (c : Hd) (r : Value) (t : Tr) (k : ByteArray) (w : World) (h : Rec x v a n c r t w) (ht : TW t) (hs : c.s = 1 \/ c.s = 2) (hk : jy k) : Calls prog 30 #[.pointer (some ⟨x, 0, none⟩), .string k] w (ZK (IsNil fun W => ∃ r', Rec x v a n c r' (delT k t) W) [x] w) := by
 have k1 := ((y5.refl [] w).alloc (.cells #[.pointer (some ⟨x, 0, none⟩)] 24)).alloc (.cells #[.string k] 9)
 refine Q8f x k _ _ w fun b => Q8b b _ _ (fun _ _ => by kernel_rfl) [x] _ _ ?_ (fun W W' T h1 h2 h3 => ?_) fun W kW => ?_
 ·intro y hy
  simp at hy
  subst hy
  have := yt h.row
  rw [World.size_alloc, World.size_alloc]
  omega
 ·obtain ⟨r', h1⟩ := h1
  exact ⟨r', h1.err h2 h3⟩
 ·exact Q8e _ _ x v a n c r t k W ((Q8g w x k).k kW) ((h.k k1).k kW) ht hs hk
end Go.Proofs.YtcklgafpgdhnaabGreatDoor
