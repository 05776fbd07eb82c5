import Derived.Test.YtcklgafpgdhnaabGreatDoorPtbc
set_option maxRecDepth 100000
set_option maxHeartbeats 4000000
open List renaming getElem_toArray → zA, getElem_cons_succ → zB, getElem_cons_zero → zC, setIfInBounds_toArray → zD, set_cons_succ → zE, set_cons_zero → zF
namespace Go.Proofs.YtcklgafpgdhnaabGreatDoor
open Go.RowKit

theorem zst (w : World) : (Instr.build 79 #[]).run Tryz.prog w = .ok (.agg row0) w := by kernel_rfl
theorem sst : (Tryz.prog.info? 79).map (·.size) = some 10 := by kernel_rfl

def CallR (P : Value → World → Prop) (S : List Nat) (w : World) (e : Ending) (w' : World) : Prop := ∃ err, e = .returned err ∧ P err w' ∧ Kept S w w'
def IsNil (R : World → Prop) (err : Value) (W : World) : Prop := err = .nilIface ∧ R W
def IsErr (x : Int) (R : World → Prop) (err : Value) (W : World) : Prop := Chain W err x ∧ R W
theorem Chain.k {w w' : World} {err : Value} {x : Int} (h : Chain w err x) (k : Kept [] w w') : Chain w' err x := by
 obtain ⟨f1, f2, o1, o2, rfl, h1, h2⟩ := h.ex
 exact ⟨f1, f2, o1, o2, rfl, k.get h1 (by simp), k.get h2 (by simp)⟩

theorem catch_yes (b : ByteArray) (fid : FuncId) (caps : Array Value) (he : ∀ (args : Array Value) (W : World), (callFunc fid args).run Tryz.prog W = .ok (.enter fid args) W) (S : List Nat) (R : World → Prop) (w : World) (hS : ∀ x ∈ S, x < w.heap.size)
  (hR : ∀ W W' T, R W → Kept T W W' → (∀ x ∈ T, Tg W x 35) → R W') (hw : ∀ W, Kept [] w W → Calls Tryz.prog fid caps W (Ends S R W)) :
  Calls Tryz.prog 32 #[.string b, .func (.func fid) #[] caps] w (CallR (IsNil R) S w) := by
 refine (Catch_ok b fid caps he S R w hS (fun W W' T h1 h2 h3 => hR W W' T h1 h2 fun x hx => (h3 x hx).2.2) fun W k _ => hw W k).mono ?_
 rintro e w' ⟨rfl, h1, h2⟩
 exact ⟨_, rfl, ⟨rfl, h1⟩, h2⟩
theorem catch_no (b : ByteArray) (fid : FuncId) (caps : Array Value) (he : ∀ (args : Array Value) (W : World), (callFunc fid args).run Tryz.prog W = .ok (.enter fid args) W) (x : Int) (R : World → Prop) (w : World)
  (hR : ∀ W W' T, R W → Kept T W W' → (∀ x ∈ T, Tg W x 35) → R W') (hw : ∀ W, Kept [] w W → Calls Tryz.prog fid caps W (Throws x [] R W)) :
  Calls Tryz.prog 32 #[.string b, .func (.func fid) #[] caps] w (CallR (IsErr x R) [] w) := by
 refine (Catch_no b fid caps he x [] R w (by simp) (fun W W' T h1 h2 h3 => hR W W' T h1 h2 fun x hx => (h3 x hx).2.2) fun W k _ => hw W k).mono ?_
 rintro e w' ⟨err, rfl, h1, h2, h3⟩
 exact ⟨_, rfl, ⟨h1, h2⟩, h3⟩

theorem Shut.err {x : Nat} {W W' : World} {T : List Nat} (h : Shut x W) (k : Kept T W W') (hT : ∀ y ∈ T, Tg W y 35) : Shut x W' := k.get h fun hm => by
 have := (hT x hm).ne ⟨_, _, h⟩
 revert this; decide

end Go.Proofs.YtcklgafpgdhnaabGreatDoor

namespace Go.Proofs.YtcklgafpgdhnaabGreatDoor
open Go.RowKit

theorem enters_TDelete (args : Array Value) (w : World) : (callFunc 54 args).run Tryz.prog w = .ok (.enter 54 args) w := enters Tryz.func54 (by kernel_rfl) (by kernel_rfl) args w
def Bx2 (b0 b1 x : Nat) (k : ByteArray) (W : World) : Prop := W.heap[b0]? = some (.cells #[.pointer (some ⟨x, 0, none⟩)] 24 (0, 0)) ∧ W.heap[b1]? = some (.cells #[.string k] 9 (0, 0))
theorem Bx2.k {b0 b1 x : Nat} {k : ByteArray} {W W' : World} (h : Bx2 b0 b1 x k W) (kk : Kept [] W W') : Bx2 b0 b1 x k W' := ⟨kk.get h.1 (by simp), kk.get h.2 (by simp)⟩
theorem Rec.load {x v a n : Nat} {c : Hd} {r : Value} {t : Tr} {w : World} (h : Rec x v a n c r t w) : (loadVar 77 ⟨x, 7, none⟩).run Tryz.prog w = .ok (.agg #[.string ⟨#[]⟩, .int .i64 t.pl, r]) w := by
 refine run_loadVar_seg (P := Tryz.prog) w x 7 79 77 (rowS c v t r).toList [.string ⟨#[]⟩, .int .i64 t.pl, r] (0, 0) _ h.row Tryz.underlying77 rfl stT ?_
 intro j u hu
 rcases j with _ | _ | _ | j
 ·simpa [rowS] using hu
 ·simpa [rowS] using hu
 ·simpa [rowS] using hu
 ·simp at hu
theorem Rec.set {x v a n : Nat} {c : Hd} {r r' : Value} {t t' : Tr} {w : World} (h : Rec x v a n c r t w) (A : Nat → Prop) (ht : TV w A t' r') : ∃ w', (storeVar 77 ⟨x, 7, none⟩ (.agg #[.string ⟨#[]⟩, .int .i64 t'.pl, r'])).run Tryz.prog w = .ok () w' ∧ Rec x v a n c r' t' w' ∧ Kept [x] w w' := by
 have hst := run_storeVar_seg (P := Tryz.prog) w x 7 79 77 (rowS c v t r).toList [.string ⟨#[]⟩, .int .i64 t'.pl, r'] h.row (by rw [stT]; rfl) (by simp [rowS]) (by intro u hu; simp at hu; rcases hu with rfl | rfl | rfl; rfl; rfl; exact ht.one)
 have k1 : Kept [x] w (w.setRow x (splice (rowS c v t r).toList 7 [.string ⟨#[]⟩, .int .i64 t'.pl, r']).toArray) := (Kept.refl _ _).setRow (Or.inl (by simp)) _
 have hx : Tg w x 79 := ⟨_, _, h.row⟩
 have hno : ∀ y ∈ [x], ¬ TT w y := by
  intro y hy
  simp at hy
  subst hy
  rintro (h1 | h1)
  ·have := hx.ne h1
   revert this; decide
  ·have := hx.ne h1
   revert this; decide
 refine ⟨_, hst, ⟨setRow_heap _ _ _ _ _ _ h.row, k1.get h.vol ?_, h.st, TV.kept h.lv.tags k1 hno fun _ _ => trivial, TV.kept ht.tags k1 hno fun _ _ => trivial⟩, k1⟩
 intro hm
 simp at hm
 subst hm
 have := hx.ne ⟨_, _, h.vol⟩
 revert this; decide

theorem Del1_yes (b0 b1 x v a n : Nat) (c : Hd) (r : Value) (t : Tr) (k : ByteArray) (w : World) (hb : Bx2 b0 b1 x k w) (h : Rec x v a n c r t w) (ht : TW t) (hs : c.s = 1 ∨ c.s = 2) (hk : keyOk k) :
  Calls Tryz.prog 53 #[.pointer (some ⟨b0, 0, none⟩), .pointer (some ⟨b1, 0, none⟩)] w (Ends [x] (fun W => ∃ r', Rec x v a n c r' (delT k t) W) w) := by
 have c0 : w.cell? ⟨b0, 0, none⟩ = some (.pointer (some ⟨x, 0, none⟩)) := cellAt hb.1 rfl
 have HN : Hid (Calls _ _ _ _ _) := needChg_yes x v c t r w hs h.row
 have HK : Hid (∀ W, Calls Tryz.prog 40 #[.string k] W _) := fun W => needKey_yes k W hk
 have HD : Hid (∀ W, Kept [] w W → _) := fun W kW => TDelete_any (h.k kW).tv.tags (fun y hy => TT.lt hy) ht k
 have HRc : Hid _ := h
 have HB : Hid _ := hb
 clear h hb
 go_enter Tryz.func53, Tryz.ntmps53
 go_wp2_with (first
  | (go_at_call 34; refine HN.out.mono ?_; rintro e w1 ⟨rfl, hk1⟩; have c1 : w1.cell? ⟨b1, 0, none⟩ = some (.string k) := cellAt (Bx2.k HB.out hk1).2 rfl)
  | (go_at_call 40; refine (HK.out _).mono ?_; rintro e w2 ⟨rfl, hk2⟩))
 have hS : Bx2 b0 b1 x k w2.drew := Bx2.k HB.out (hk1.trans hk2).drew
 have hR2 : Rec x v a n c r t w2.drew := Rec.k HRc.out (hk1.trans hk2).drew
 refine wp_region_S (Bx2 b0 b1 x k) (by kernel_rfl) ?_
 refine wpAnyH_take (i := 0) (v := .pointer (some ⟨x, 0, none⟩)) rfl (by kernel_rfl) (by kernel_rfl) (by kernel_rfl) (fun _ _ _ h => h) (Or.inl ⟨by rfl, fun W hW => exec_load 24 (.tmp 0) rfl ⟨b0, 0, none⟩ rfl _ (run_load1 Tryz.underlying24 rfl (cellAt hW.1 rfl))⟩) hS ?_
 simp only [Act.put, zA, zC, zD, zE, zF]
 refine wpAnyH_take (i := 1) (v := .pointer (some ⟨x, 0, none⟩)) rfl (by kernel_rfl) (by kernel_rfl) (by kernel_rfl) (fun _ _ _ h => h) (Or.inl ⟨by rfl, fun W hW => exec_load 24 (.tmp 0) rfl ⟨b0, 0, none⟩ rfl _ (run_load1 Tryz.underlying24 rfl (cellAt hW.1 rfl))⟩) hS ?_
 simp only [Act.put, zA, zB, zC, zD, zE, zF]
 refine wpAnyH_take (i := 2) (v := .pointer (some ⟨x, 0, none⟩)) rfl (by kernel_rfl) (by kernel_rfl) (by kernel_rfl) (fun _ _ _ h => h) (Or.inl ⟨by rfl, fun W hW => by rfl⟩) hS ?_
 simp only [Act.put, zA, zB, zC, zD, zE, zF]
 refine wpAnyH_take (i := 3) (v := .pointer (some ⟨x, 0 + 7, none⟩)) rfl (by kernel_rfl) (by kernel_rfl) (by kernel_rfl) (fun _ _ _ h => h) (Or.inl ⟨by rfl, fun W hW => exec_fieldL 79 (.tmp 8) 4 rfl x (0) rfl 7 (by rfl)⟩) hS ?_
 simp only [Act.put, zA, zB, zC, zD, zE, zF]
 refine wpAnyH_take (i := 5) (v := .string k) rfl (by kernel_rfl) (by kernel_rfl) (by kernel_rfl) (fun _ _ _ h => h) (Or.inl ⟨by rfl, fun W hW => exec_load 9 (.tmp 1) rfl ⟨b1, 0, none⟩ rfl _ (run_load1 Tryz.underlying9 rfl (cellAt hW.2 rfl))⟩) hS ?_
 simp only [Act.put, zA, zB, zC, zD, zE, zF]
 refine held_one (i := 4) (by kernel_rfl) (wpOp_valW rfl (by rfl) (.agg #[.string ⟨#[]⟩, .int .i64 t.pl, r]) _ (exec_load 77 (.tmp 9) rfl ⟨x, 0 + 7, none⟩ rfl _ hR2.load) ⟨hS, ?_⟩)
 simp only [Act.put, zA, zB, zC, zD, zE, zF]
 refine held_one (i := 6) (by kernel_rfl) (wpOp_call rfl (by rfl) 54 #[.agg #[.string ⟨#[]⟩, .int .i64 t.pl, r], .string k] (exec_call _ _ _ rfl _ (by simp [Act.eval]) (enters_TDelete _ _)) _ (HD.out _ (hk1.trans hk2).drew) ?_)
 rintro e w3 ⟨r3, rfl, ht3, hk3⟩
 have hS3 := hS.k hk3
 refine ⟨_, rfl, hS3, ?_⟩
 simp only [Act.put, zA, zB, zC, zD, zE, zF]
 refine wpAnyH_take (i := 7) (v := .pointer (some ⟨x, 0, none⟩)) rfl (by kernel_rfl) (by kernel_rfl) (by kernel_rfl) (fun _ _ _ h => h) (Or.inl ⟨by rfl, fun W hW => by rfl⟩) hS3 ?_
 simp only [Act.put, zA, zB, zC, zD, zE, zF]
 refine wpAnyH_take (i := 8) (v := .pointer (some ⟨x, 0 + 7, none⟩)) rfl (by kernel_rfl) (by kernel_rfl) (by kernel_rfl) (fun _ _ _ h => h) (Or.inl ⟨by rfl, fun W hW => exec_fieldL 79 (.tmp 13) 4 rfl x (0) rfl 7 (by rfl)⟩) hS3 ?_
 simp only [Act.put, zA, zB, zC, zD, zE, zF]
 obtain ⟨w4, hst4, hR4, hk4⟩ := (hR2.k hk3).set _ ht3
 have hS4 : Bx2 b0 b1 x k w4 := ⟨hk4.get hS3.1 (by simp; intro e; subst e; have := Tg.ne ⟨_, _, hS3.1⟩ ⟨_, _, (hR2.k hk3).row⟩; revert this; decide), hk4.get hS3.2 (by simp; intro e; subst e; have := Tg.ne ⟨_, _, hS3.2⟩ ⟨_, _, (hR2.k hk3).row⟩; revert this; decide)⟩
 refine held_one (i := 9) (by kernel_rfl) (wpOp_skip rfl rfl w4 (exec_store 77 (.tmp 14) (.tmp 12) rfl ⟨x, 0 + 7, none⟩ rfl _ rfl hst4) ⟨hS4, ?_⟩)
 simp only [Act.put, zA, zB, zC]
 refine wpAnyH_done (by kernel_rfl) ?_ _
 have K4 : Hid (Kept [x] w w4) := ((((hk1.trans hk2).drew).trans hk3).mono (by simp)).trans hk4
 clear hS hS3 hS4 hst4
 go_wp2
 go_end0
 exact ⟨rfl, ⟨r3, hR4⟩, K4.out⟩

theorem Del1_closed (b0 b1 x : Nat) (k : ByteArray) (w : World) (hb : Bx2 b0 b1 x k w) (h : Shut x w) :
  Calls Tryz.prog 53 #[.pointer (some ⟨b0, 0, none⟩), .pointer (some ⟨b1, 0, none⟩)] w (Throws 5 [] Always w) := by
 have c0 : w.cell? ⟨b0, 0, none⟩ = some (.pointer (some ⟨x, 0, none⟩)) := cellAt hb.1 rfl
 have HN : Hid (Calls _ _ _ _ _) := needChg_closed x w h
 have HB : Hid _ := hb
 clear hb
 go_enter Tryz.func53, Tryz.ntmps53
 go_wp2_with (first
  | (go_at_call 34; refine HN.out.mono ?_; rintro e w1 ⟨f, o, rfl, h2, h3⟩))
 exact ⟨rfl, f, o, rfl, h2, trivial, h3⟩

theorem Del1_broken (b0 b1 x : Nat) (k : ByteArray) (w : World) (hb : Bx2 b0 b1 x k w) {v a n : Nat} {c : Hd} {r : Value} {t : Tr} (h : Rec x v a n c r t w) (hs : c.s = 3) :
  Calls Tryz.prog 53 #[.pointer (some ⟨b0, 0, none⟩), .pointer (some ⟨b1, 0, none⟩)] w (Throws 4 [] Always w) := by
 have c0 : w.cell? ⟨b0, 0, none⟩ = some (.pointer (some ⟨x, 0, none⟩)) := cellAt hb.1 rfl
 have HN : Hid (Calls _ _ _ _ _) := needChg_broken x v c t r w hs h.row
 have HB : Hid _ := hb
 clear hb
 go_enter Tryz.func53, Tryz.ntmps53
 go_wp2_with (first
  | (go_at_call 34; refine HN.out.mono ?_; rintro e w1 ⟨f, o, rfl, h2, h3⟩))
 exact ⟨rfl, f, o, rfl, h2, trivial, h3⟩

theorem Del1_key (b0 b1 x : Nat) (k : ByteArray) (w : World) (hb : Bx2 b0 b1 x k w) {v a n : Nat} {c : Hd} {r : Value} {t : Tr} (h : Rec x v a n c r t w) (hs : c.s = 1 ∨ c.s = 2) (hk : ¬ keyOk k) :
  Calls Tryz.prog 53 #[.pointer (some ⟨b0, 0, none⟩), .pointer (some ⟨b1, 0, none⟩)] w (Throws 1 [] Always w) := by
 have c0 : w.cell? ⟨b0, 0, none⟩ = some (.pointer (some ⟨x, 0, none⟩)) := cellAt hb.1 rfl
 have HN : Hid (Calls _ _ _ _ _) := needChg_yes x v c t r w hs h.row
 have HK : Hid (∀ W, Calls Tryz.prog 40 #[.string k] W _) := fun W => needKey_no k W hk
 have HB : Hid _ := hb
 clear hb
 go_enter Tryz.func53, Tryz.ntmps53
 go_wp2_with (first
  | (go_at_call 34; refine HN.out.mono ?_; rintro e w1 ⟨rfl, hk1⟩; have c1 : w1.cell? ⟨b1, 0, none⟩ = some (.string k) := cellAt (Bx2.k HB.out hk1).2 rfl)
  | (go_at_call 40; refine (HK.out _).mono ?_; rintro e w2 ⟨f, o, rfl, h2, h3⟩))
 exact ⟨rfl, f, o, rfl, h2, trivial, hk1.trans h3⟩

theorem Delete_of (x : Nat) (k : ByteArray) (P : Value → World → Prop) (S : List Nat) (w : World)
  (hc : ∀ b, Calls Tryz.prog 32 #[.string b, .func (.func 53) #[] #[.pointer (some ⟨w.heap.size, 0, none⟩), .pointer (some ⟨w.heap.size + 1, 0, none⟩)]] ((w.alloc (.cells #[.pointer (some ⟨x, 0, none⟩)] 24)).alloc (.cells #[.string k] 9)) (CallR P S ((w.alloc (.cells #[.pointer (some ⟨x, 0, none⟩)] 24)).alloc (.cells #[.string k] 9)))) :
  Calls Tryz.prog 30 #[.pointer (some ⟨x, 0, none⟩), .string k] w (CallR P S w) := by
 have HC : Hid (∀ b, Calls _ _ _ _ _) := hc
 have hmf := makes
 clear hc
 go_enter Tryz.func30, Tryz.ntmps30
 go_wp2_with (go_at_call 32; refine (HC.out _).mono ?_; rintro e w2 ⟨err, rfl, hp2, hk2⟩)
 go_ret
 exact ⟨err, rfl, hp2, (((Kept.refl S w).alloc _).alloc _).trans hk2⟩

theorem bx2_new (w : World) (x : Nat) (k : ByteArray) : Bx2 w.heap.size (w.heap.size + 1) x k ((w.alloc (.cells #[.pointer (some ⟨x, 0, none⟩)] 24)).alloc (.cells #[.string k] 9)) := by
 constructor
 ·exact ((Kept.refl [] _).alloc _).get (heap_alloc_new _ _) (by simp)
 ·have := heap_alloc_new (w.alloc (.cells #[.pointer (some ⟨x, 0, none⟩)] 24)) (.cells #[.string k] 9)
  rwa [World.size_alloc] at this
theorem Delete_yes (x v a n : Nat) (c : Hd) (r : Value) (t : Tr) (k : ByteArray) (w : World) (h : Rec x v a n c r t w) (ht : TW t) (hs : c.s = 1 ∨ c.s = 2) (hk : keyOk k) : Calls Tryz.prog 30 #[.pointer (some ⟨x, 0, none⟩), .string k] w (CallR (IsNil fun W => ∃ r', Rec x v a n c r' (delT k t) W) [x] w) := by
 have k1 := ((Kept.refl [] w).alloc (.cells #[.pointer (some ⟨x, 0, none⟩)] 24)).alloc (.cells #[.string k] 9)
 refine Delete_of x k _ _ w fun b => catch_yes b _ _ (fun _ _ => by kernel_rfl) [x] _ _ ?_ (fun W W' T h1 h2 h3 => ?_) fun W kW => ?_
 ·intro y hy
  simp at hy
  subst hy
  have := lt_heap h.row
  rw [World.size_alloc, World.size_alloc]
  omega
 ·obtain ⟨r', h1⟩ := h1
  exact ⟨r', h1.err h2 h3⟩
 ·exact Del1_yes _ _ x v a n c r t k W ((bx2_new w x k).k kW) ((h.k k1).k kW) ht hs hk
theorem Delete_closed (x : Nat) (k : ByteArray) (w : World) (h : Shut x w) : Calls Tryz.prog 30 #[.pointer (some ⟨x, 0, none⟩), .string k] w (CallR (IsErr 5 Always) [] w) := by
 have k1 := ((Kept.refl [] w).alloc (.cells #[.pointer (some ⟨x, 0, none⟩)] 24)).alloc (.cells #[.string k] 9)
 exact Delete_of x k _ _ w fun b => catch_no b _ _ (fun _ _ => by kernel_rfl) 5 _ _ (fun _ _ _ _ _ _ => trivial) fun W kW => Del1_closed _ _ x k W ((bx2_new w x k).k kW) (kW.get (k1.get h (by simp)) (by simp))
theorem Delete_key (x v a n : Nat) (c : Hd) (r : Value) (t : Tr) (k : ByteArray) (w : World) (h : Rec x v a n c r t w) (hs : c.s = 1 ∨ c.s = 2) (hk : ¬ keyOk k) : Calls Tryz.prog 30 #[.pointer (some ⟨x, 0, none⟩), .string k] w (CallR (IsErr 1 Always) [] w) := by
 have k1 := ((Kept.refl [] w).alloc (.cells #[.pointer (some ⟨x, 0, none⟩)] 24)).alloc (.cells #[.string k] 9)
 exact Delete_of x k _ _ w fun b => catch_no b _ _ (fun _ _ => by kernel_rfl) 1 _ _ (fun _ _ _ _ _ _ => trivial) fun W kW => Del1_key _ _ x k W ((bx2_new w x k).k kW) ((h.k k1).k kW) hs hk
theorem Delete_broken (x v a n : Nat) (c : Hd) (r : Value) (t : Tr) (k : ByteArray) (w : World) (h : Rec x v a n c r t w) (hs : c.s = 3) : Calls Tryz.prog 30 #[.pointer (some ⟨x, 0, none⟩), .string k] w (CallR (IsErr 4 Always) [] w) := by
 have k1 := ((Kept.refl [] w).alloc (.cells #[.pointer (some ⟨x, 0, none⟩)] 24)).alloc (.cells #[.string k] 9)
 exact Delete_of x k _ _ w fun b => catch_no b _ _ (fun _ _ => by kernel_rfl) 4 _ _ (fun _ _ _ _ _ _ => trivial) fun W kW => Del1_broken _ _ x k W ((bx2_new w x k).k kW) ((h.k k1).k kW) hs

end Go.Proofs.YtcklgafpgdhnaabGreatDoor
