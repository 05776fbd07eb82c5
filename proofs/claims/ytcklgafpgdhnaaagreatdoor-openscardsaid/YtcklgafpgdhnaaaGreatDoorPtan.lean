import Derived.Test.YtcklgafpgdhnaaaGreatDoorPtam
set_option maxRecDepth 100000
set_option maxHeartbeats 4000000
open List renaming getElem_toArray → zA, getElem_cons_succ → zB, getElem_cons_zero → zC, setIfInBounds_toArray → zD, set_cons_succ → zE, set_cons_zero → zF
namespace Go.Proofs.YtcklgafpgdhnaaaGreatDoor
open Go.RowKit

theorem owns_len {w : World} {base e size n : Nat} {v : Value} {xs : List Value} (h : w.ownsRow base e size v n xs) : ∃ p c, v = .slice p n c := by
 obtain ⟨_, ⟨rfl, rfl⟩ | ⟨g, cap, cur, rfl, _⟩⟩ := h
 ·exact ⟨_, _, rfl⟩
 ·exact ⟨_, _, rfl⟩

theorem step_own (I : Iface) (p : Nat) (K X A B : Int) (s t : ByteArray) (Bs N : Nat) (w : World) (hB : Bs ≤ w.heap.size)
  (hR : ∀ W, Kept [] w W → Calls Tryz.prog 96 #[.pointer (some ⟨p, 0, none⟩), .agg (opc K X A B s t)] W (StepR I Bs p N true W)) :
  Calls Tryz.prog 63 #[.pointer (some ⟨p, 0, none⟩), .agg (opc K X A B s t)] w (StepR I Bs p N true w) := by
 have k1 := (Kept.refl [] w).alloc (.cells (opc K X A B s t) 64)
 have HR : Hid (Calls _ _ _ _ _) := hR _ k1
 clear hR
 unfold opc at HR k1 ⊢
 go_enter Tryz.func63, Tryz.ntmps63
 go_wp2_with (first
  | (go_at_call 96; refine HR.out.mono ?_; rintro e w2 ⟨rfl, ds', j', h2, h3, h4, h5, h6⟩))
 go_ret
 exact ⟨rfl, ds', j', h2, h3, h4, h5, (k1.belowB hB (by simp)).trans h6⟩

theorem step_less (I : Iface) (p : Nat) (K X A B : Int) (s t : ByteArray) (Bs j N : Nat) (ds : List Dk) (w : World) (h : WI I Bs w p ds j) (hl : ds.length ≤ N) (hj : j ≤ N) (hk : ∀ d ∈ ds, d.le N) (hK : K < 1) :
  Calls Tryz.prog 63 #[.pointer (some ⟨p, 0, none⟩), .agg (opc K X A B s t)] w (StepR I Bs p N true w) := by
 obtain ⟨kv, dv, xs, h1, h2, h3, h4⟩ := h.ex
 obtain ⟨pd, cd, rfl⟩ := owns_len h4
 have k1 := (Kept.refl [] w).alloc (.cells (opc K X A B s t) 64)
 have n1 := heap_alloc_new w (.cells (opc K X A B s t) 64)
 have HR : Hid (Calls Tryz.prog 96 #[.pointer (some ⟨p, 0, none⟩), .agg (opc K X A B s t)] (w.alloc (.cells (opc K X A B s t) 64)) fun e w' => e = .returned (.bool false) ∧ Kept [] (w.alloc (.cells (opc K X A B s t) 64)) w') :=
  owner_outer p K X A B s t _ false _ (by omega) fun W hW => (outer_no p K X A B s t W (by omega)).mono fun e w' h => ⟨h.1, hW.trans h.2⟩
 have d17 : ¬ 17 < K := by omega
 have d10 : K < 10 := by omega
 have b17 : decide (17 < K) = false := by simpa using d17
 have HI : Hid (∀ w', Kept [] w w' → StepR I Bs p N true w (.returned (.bool true)) w') := fun w' k => ⟨rfl, ds, j, h.kept k, hl, hj, hk, k.belowB h.size (by simp)⟩
 have h1' : Hid (WC w p kv (.slice pd ds.length cd)) := h1
 clear h h1 h2 h3 h4
 generalize hgl : ds.length = len at *
 clear hl hgl
 unfold opc at HR k1 n1 ⊢
 rcases Nat.eq_zero_or_pos len with h0 | h0
 ·subst h0
  go_enter Tryz.func63, Tryz.ntmps63
  go_wp2_with (first
   | (go_at_call 96; refine HR.out.mono ?_; rintro e w2 ⟨rfl, hk2⟩; have k2 := k1.trans hk2; have cp1 : w2.cell? ⟨p, 1, none⟩ = some (.slice pd 0 cd) := cellAt (k2.get h1'.out (by simp)) rfl))
  go_ret
  exact HI.out _ k2
 ·have hln : ¬ (len : Int) = 0 := by omega
  have hlb : ((len : Int) == 0) = false := by simpa using hln
  go_enter Tryz.func63, Tryz.ntmps63
  go_wp2_with (first
   | (go_at_call 96; refine HR.out.mono ?_; rintro e w2 ⟨rfl, hk2⟩; have k2 := k1.trans hk2; have cp1 : w2.cell? ⟨p, 1, none⟩ = some (.slice pd len cd) := cellAt (k2.get h1'.out (by simp)) rfl; have co0 : w2.cell? ⟨w.heap.size, 0, none⟩ = some (.int .i64 K) := cellAt (hk2.get n1 (by simp)) rfl))
  go_ret
  exact HI.out _ k2

theorem step_k10_none (I : Iface) (p : Nat) (X A B : Int) (s t : ByteArray) (Bs j N : Nat) (ds : List Dk) (w : World) (h : WI I Bs w p ds j) (hl : ds.length ≤ N) (hj : j ≤ N) (hk : ∀ d ∈ ds, d.le N) (hlen : ds.length = 0) :
  Calls Tryz.prog 63 #[.pointer (some ⟨p, 0, none⟩), .agg (opc 10 X A B s t)] w (StepR I Bs p N true w) := by
 obtain ⟨kv, dv, xs, h1, h2, h3, h4⟩ := h.ex
 obtain ⟨pd, cd, rfl⟩ := owns_len h4
 have k1 := (Kept.refl [] w).alloc (.cells (opc 10 X A B s t) 64)
 have n1 := heap_alloc_new w (.cells (opc 10 X A B s t) 64)
 have HR : Hid (Calls Tryz.prog 96 #[.pointer (some ⟨p, 0, none⟩), .agg (opc 10 X A B s t)] (w.alloc (.cells (opc 10 X A B s t) 64)) fun e w' => e = .returned (.bool false) ∧ Kept [] (w.alloc (.cells (opc 10 X A B s t) 64)) w') :=
  owner_outer p 10 X A B s t _ false _ (by omega) fun W hW => (outer_no p 10 X A B s t W (by omega)).mono fun e w' h => ⟨h.1, hW.trans h.2⟩
 have HI : Hid (∀ w', Kept [] w w' → StepR I Bs p N true w (.returned (.bool true)) w') := fun w' k => ⟨rfl, ds, j, h.kept k, hl, hj, hk, k.belowB h.size (by simp)⟩
 rw [hlen] at h1
 have h1' : Hid (WC w p kv (.slice pd 0 cd)) := h1
 clear h h1 h2 h3 h4 hl hlen
 unfold opc at HR k1 n1 ⊢
 go_enter Tryz.func63, Tryz.ntmps63
 go_wp2_with (first
  | (go_at_call 96; refine HR.out.mono ?_; rintro e w2 ⟨rfl, hk2⟩; have k2 := k1.trans hk2; have cp1 : w2.cell? ⟨p, 1, none⟩ = some (.slice pd 0 cd) := cellAt (k2.get h1'.out (by simp)) rfl))
 go_ret
 exact HI.out _ k2

theorem step_k10_some (I : Iface) (p : Nat) (X A B : Int) (s t : ByteArray) (Bs j N : Nat) (ds : List Dk) (w : World) (h : WI I Bs w p ds j) (hl : ds.length ≤ N + 1) (hj : j ≤ N + 1) (hk : ∀ d ∈ ds, d.le N) (hN : N + 1 ≤ 20000) (hlen : 0 < ds.length) (hX1 : -9223372036854775808 ≤ X) (hX2 : X ≤ 9223372036854775807) :
  Calls Tryz.prog 63 #[.pointer (some ⟨p, 0, none⟩), .agg (opc 10 X A B s t)] w (StepR I Bs p (N + 1) true w) := by
 obtain ⟨kv, g0, cap, cur, xs, h1, hg0, hcur0, h2, h3, h4⟩ := h.slots hlen
 obtain ⟨d, hd⟩ : ∃ d, ds[pk X ds.length]? = some d := ⟨_, List.getElem?_eq_getElem (pk_lt X ds.length hlen)⟩
 have hcur := hcur0 _ d hd
 have k1 := (Kept.refl [] w).alloc (.cells (opc 10 X A B s t) 64)
 have n1 := heap_alloc_new w (.cells (opc 10 X A B s t) 64)
 have hS : PS w.heap.size p g0 kv (.slice (some ⟨g0, 0, none⟩) ds.length cap) (opc 10 X A B s t) cur (w.alloc (.cells (opc 10 X A B s t) 64)) := ⟨k1.get h1 (by simp), n1, k1.get hg0 (by simp)⟩
 have HR : Hid (Calls Tryz.prog 96 #[.pointer (some ⟨p, 0, none⟩), .agg (opc 10 X A B s t)] (w.alloc (.cells (opc 10 X A B s t) 64)) fun e w' => e = .returned (.bool false) ∧ Kept [] (w.alloc (.cells (opc 10 X A B s t) 64)) w') :=
  owner_outer p 10 X A B s t _ false _ (by omega) fun W hW => (outer_no p 10 X A B s t W (by omega)).mono fun e w' h => ⟨h.1, hW.trans h.2⟩
 have hoc : (opc 10 X A B s t)[1]? = some (.int .i64 X) := rfl
 have hoc0 : (opc 10 X A B s t)[0]? = some (.int .i64 10) := rfl
 have hln : ¬ (ds.length : Int) = 0 := by omega
 have hlb : ((ds.length : Int) == 0) = false := by simpa using hln
 have hkd := hk d (List.mem_of_getElem? hd)
 have HF : Hid (∀ W e w' w'', Kept [] w W → DR I d W e w' → Kept [] w' w'' → StepR I Bs p (N + 1) true w e w'') := by
  rintro W e w' w'' k ⟨rfl, d', eq, hdi, hf, hle, hK⟩ k''
  obtain ⟨hI, hB⟩ := (h.kept k).disk _ d d' hd hK hdi eq hf
  refine ⟨rfl, _, j, hI.kept k'', by simpa using hl, hj, ?_, ((k.belowB h.size (by simp)).trans hB).trans (k''.belowB hI.size (by simp))⟩
  intro e he
  rcases List.mem_or_eq_of_mem_set he with he | he
  ·exact ⟨Nat.le_succ_of_le (hk e he).1, fun s o hst => by obtain ⟨a1, a2, a3⟩ := (hk e he).2 s o hst; exact ⟨by omega, by omega, by omega⟩⟩
  ·subst he; exact hle N hkd
 have HC : Hid (∀ W, Kept [] w W → Calls Tryz.prog 98 #[.pointer (some ⟨d.q, 0, none⟩)] W (DR I d W)) := fun W k => formatted_DI I d W (h.kept k).glob ((h.kept k).all d (List.mem_of_getElem? hd)).1 (by have := hkd.1; omega)
 clear n1 hcur0 h1 h2 h3 h4 hg0 hkd hk h
 unfold opc at *
 go_enter Tryz.func63, Tryz.ntmps63
 go_wp2_with (first
  | (go_at_call 96; refine HR.out.mono ?_; rintro e w2 ⟨rfl, hk2⟩; have k2 := (k1.trans hk2).drew; have hS2 := (hS.kept hk2).kept ((Kept.refl [] w2).drew); have cp1 : w2.cell? ⟨p, 1, none⟩ = some (.slice (some ⟨g0, 0, none⟩) ds.length cap) := cellAt (hS.kept hk2).1 rfl; have co0 : w2.cell? ⟨w.heap.size, 0, none⟩ = some (.int .i64 10) := cellAt (hS.kept hk2).2.1 hoc0))
 generalize w.heap.size = ob at *
 generalize (#[.int .i64 10, .int .i64 X, .int .i64 A, .int .i64 B, .string s, .string t] : Array Value) = ocs at *
 refine wp_region_S (PS ob p g0 kv (.slice (some ⟨g0, 0, none⟩) ds.length cap) ocs cur) (by kernel_rfl) ?_
 refine wpAnyH_take (i := 0) (v := .pointer (some ⟨p, 0, none⟩)) rfl (by kernel_rfl) (by kernel_rfl) (by kernel_rfl) (fun _ _ _ h => h) (Or.inl ⟨by rfl, fun W hW => by rfl⟩) hS2 ?_
 simp only [Act.put, zA, zC, zD, zE, zF]
 refine wpAnyH_take (i := 1) (v := .pointer (some ⟨p, 0, none⟩)) rfl (by kernel_rfl) (by kernel_rfl) (by kernel_rfl) (fun _ _ _ h => h) (Or.inl ⟨by rfl, fun W hW => by rfl⟩) hS2 ?_
 simp only [Act.put, zA, zB, zC, zD, zE, zF]
 refine wpAnyH_take (i := 2) (v := .pointer (some ⟨p, 1, none⟩)) rfl (by kernel_rfl) (by kernel_rfl) (by kernel_rfl) (fun _ _ _ h => h) (Or.inl ⟨by rfl, fun W hW => by rfl⟩) hS2 ?_
 simp only [Act.put, zA, zB, zC, zD, zE, zF]
 refine wpAnyH_take (i := 3) (v := .slice (some ⟨g0, 0, none⟩) ds.length cap) rfl (by kernel_rfl) (by kernel_rfl) (by kernel_rfl) (fun _ _ _ h => h) (Or.inl ⟨by rfl, fun W hW => exec_load 102 (.tmp 31) rfl ⟨p, 1, none⟩ rfl _ (run_load1 Tryz.underlying102 rfl (cellAt hW.1 rfl))⟩) hS2 ?_
 simp only [Act.put, zA, zB, zC, zD, zE, zF]
 refine wpAnyH_take (i := 4) (v := .pointer (some ⟨ob, 1, none⟩)) rfl (by kernel_rfl) (by kernel_rfl) (by kernel_rfl) (fun _ _ _ h => h) (Or.inl ⟨by rfl, fun W hW => by rfl⟩) hS2 ?_
 simp only [Act.put, zA, zB, zC, zD, zE, zF]
 refine wpAnyH_take (i := 5) (v := .int .i64 X) rfl (by kernel_rfl) (by kernel_rfl) (by kernel_rfl) (fun _ _ _ h => h) (Or.inl ⟨by rfl, fun W hW => exec_load 3 (.tmp 33) rfl ⟨ob, 1, none⟩ rfl _ (run_load1 Tryz.underlying3 rfl (cellAt hW.2.1 hoc))⟩) hS2 ?_
 simp only [Act.put, zA, zB, zC, zD, zE, zF]
 refine wpAnyH_take (i := 6) (v := .pointer (some ⟨p, 0, none⟩)) rfl (by kernel_rfl) (by kernel_rfl) (by kernel_rfl) (fun _ _ _ h => h) (Or.inl ⟨by rfl, fun W hW => by rfl⟩) hS2 ?_
 simp only [Act.put, zA, zB, zC, zD, zE, zF]
 refine wpAnyH_take (i := 7) (v := .pointer (some ⟨p, 0, none⟩)) rfl (by kernel_rfl) (by kernel_rfl) (by kernel_rfl) (fun _ _ _ h => h) (Or.inl ⟨by rfl, fun W hW => by rfl⟩) hS2 ?_
 simp only [Act.put, zA, zB, zC, zD, zE, zF]
 refine wpAnyH_take (i := 8) (v := .pointer (some ⟨p, 1, none⟩)) rfl (by kernel_rfl) (by kernel_rfl) (by kernel_rfl) (fun _ _ _ h => h) (Or.inl ⟨by rfl, fun W hW => by rfl⟩) hS2 ?_
 simp only [Act.put, zA, zB, zC, zD, zE, zF]
 refine wpAnyH_take (i := 9) (v := .slice (some ⟨g0, 0, none⟩) ds.length cap) rfl (by kernel_rfl) (by kernel_rfl) (by kernel_rfl) (fun _ _ _ h => h) (Or.inl ⟨by rfl, fun W hW => exec_load 102 (.tmp 37) rfl ⟨p, 1, none⟩ rfl _ (run_load1 Tryz.underlying102 rfl (cellAt hW.1 rfl))⟩) hS2 ?_
 simp only [Act.put, zA, zB, zC, zD, zE, zF]
 refine wpAnyH_take (i := 10) (v := .int .i64 ds.length) rfl (by kernel_rfl) (by kernel_rfl) (by kernel_rfl) (fun _ _ _ h => h) (Or.inl ⟨by rfl, fun W hW => exec_len (.tmp 38) 102 148 rfl _ _ _ rfl Tryz.underlying102⟩) hS2 ?_
 simp only [Act.put, zA, zB, zC, zD, zE, zF]
 refine held_one (i := 11) (by kernel_rfl) (wpOp_call rfl (by rfl) 97 #[.int .i64 X, .int .i64 ds.length] (exec_call _ _ _ rfl _ (by simp [Act.eval]) (enters_pick _ _)) _ (pick_any X ds.length _ hlen (by omega) hX1 hX2) ?_)
 rintro e W5 ⟨rfl, rfl⟩
 refine ⟨_, rfl, hS2, ?_⟩
 simp only [Act.put, zA, zB, zC, zD, zE, zF]
 refine wpAnyH_take (i := 12) (v := .pointer (some ⟨g0, pk X ds.length, none⟩)) rfl (by kernel_rfl) (by kernel_rfl) (by kernel_rfl) (fun _ _ _ h => h) (Or.inl ⟨by rfl, fun W hW => exec_index 102 (.tmp 32) (.tmp 40) rfl g0 0 ds.length cap (pk X ds.length) 1 rfl rfl 148 Tryz.underlying102 spl (pk_lt X ds.length hlen) _ (by omega)⟩) hS2 ?_
 simp only [Act.put, zA, zB, zC, zD, zE, zF]
 refine wpAnyH_take (i := 13) (v := .pointer (some ⟨d.q, 0, none⟩)) rfl (by kernel_rfl) (by kernel_rfl) (by kernel_rfl) (fun _ _ _ h => h) (Or.inl ⟨by rfl, fun W hW => exec_load 148 (.tmp 41) rfl ⟨g0, pk X ds.length, none⟩ rfl _ (run_load1 Tryz.underlying148 rfl (cellAt hW.2.2 hcur))⟩) hS2 ?_
 simp only [Act.put, zA, zB, zC, zD, zE, zF]
 refine wpAnyH_take (i := 14) (v := .pointer (some ⟨d.q, 0, none⟩)) rfl (by kernel_rfl) (by kernel_rfl) (by kernel_rfl) (fun _ _ _ h => h) (Or.inl ⟨by rfl, fun W hW => by rfl⟩) hS2 ?_
 simp only [Act.put, zA, zB, zC, zD, zE, zF]
 refine wpAnyH_done (by kernel_rfl) ?_ _
 generalize w2.drew = w3 at *
 have co3 : w3.cell? ⟨ob, 0, none⟩ = some (.int .i64 10) := cellAt hS2.2.1 hoc0
 clear co0 cp1
 go_wp2_with (first
  | (go_at_call 98; refine (HC.out _ k2).mono ?_; intro e w4 hR4; have hR := HF.out _ _ _ _ k2 hR4 (Kept.refl _ _); obtain ⟨rfl, r4⟩ := hR4)
  | fail)
 go_ret
 exact hR

theorem step_k11_none (I : Iface) (p : Nat) (X A B : Int) (s t : ByteArray) (Bs j N : Nat) (ds : List Dk) (w : World) (h : WI I Bs w p ds j) (hl : ds.length ≤ N) (hj : j ≤ N) (hk : ∀ d ∈ ds, d.le N) (hlen : ds.length = 0) :
  Calls Tryz.prog 63 #[.pointer (some ⟨p, 0, none⟩), .agg (opc 11 X A B s t)] w (StepR I Bs p N true w) := by
 obtain ⟨kv, dv, xs, h1, h2, h3, h4⟩ := h.ex
 obtain ⟨pd, cd, rfl⟩ := owns_len h4
 have k1 := (Kept.refl [] w).alloc (.cells (opc 11 X A B s t) 64)
 have n1 := heap_alloc_new w (.cells (opc 11 X A B s t) 64)
 have HR : Hid (Calls Tryz.prog 96 #[.pointer (some ⟨p, 0, none⟩), .agg (opc 11 X A B s t)] (w.alloc (.cells (opc 11 X A B s t) 64)) fun e w' => e = .returned (.bool false) ∧ Kept [] (w.alloc (.cells (opc 11 X A B s t) 64)) w') :=
  owner_outer p 11 X A B s t _ false _ (by omega) fun W hW => (outer_no p 11 X A B s t W (by omega)).mono fun e w' h => ⟨h.1, hW.trans h.2⟩
 have HI : Hid (∀ w', Kept [] w w' → StepR I Bs p N true w (.returned (.bool true)) w') := fun w' k => ⟨rfl, ds, j, h.kept k, hl, hj, hk, k.belowB h.size (by simp)⟩
 rw [hlen] at h1
 have h1' : Hid (WC w p kv (.slice pd 0 cd)) := h1
 clear h h1 h2 h3 h4 hl hlen
 unfold opc at HR k1 n1 ⊢
 go_enter Tryz.func63, Tryz.ntmps63
 go_wp2_with (first
  | (go_at_call 96; refine HR.out.mono ?_; rintro e w2 ⟨rfl, hk2⟩; have k2 := k1.trans hk2; have cp1 : w2.cell? ⟨p, 1, none⟩ = some (.slice pd 0 cd) := cellAt (k2.get h1'.out (by simp)) rfl))
 go_ret
 exact HI.out _ k2

theorem step_k11_some (I : Iface) (p : Nat) (X A B : Int) (s t : ByteArray) (Bs j N : Nat) (ds : List Dk) (w : World) (h : WI I Bs w p ds j) (hl : ds.length ≤ N + 1) (hj : j ≤ N + 1) (hk : ∀ d ∈ ds, d.le N) (hN : N + 1 ≤ 20000) (hlen : 0 < ds.length) (hX1 : -9223372036854775808 ≤ X) (hX2 : X ≤ 9223372036854775807) :
  Calls Tryz.prog 63 #[.pointer (some ⟨p, 0, none⟩), .agg (opc 11 X A B s t)] w (StepR I Bs p (N + 1) true w) := by
 obtain ⟨kv, g0, cap, cur, xs, h1, hg0, hcur0, h2, h3, h4⟩ := h.slots hlen
 obtain ⟨d, hd⟩ : ∃ d, ds[pk X ds.length]? = some d := ⟨_, List.getElem?_eq_getElem (pk_lt X ds.length hlen)⟩
 have hcur := hcur0 _ d hd
 have k1 := (Kept.refl [] w).alloc (.cells (opc 11 X A B s t) 64)
 have n1 := heap_alloc_new w (.cells (opc 11 X A B s t) 64)
 have hS : PS w.heap.size p g0 kv (.slice (some ⟨g0, 0, none⟩) ds.length cap) (opc 11 X A B s t) cur (w.alloc (.cells (opc 11 X A B s t) 64)) := ⟨k1.get h1 (by simp), n1, k1.get hg0 (by simp)⟩
 have HR : Hid (Calls Tryz.prog 96 #[.pointer (some ⟨p, 0, none⟩), .agg (opc 11 X A B s t)] (w.alloc (.cells (opc 11 X A B s t) 64)) fun e w' => e = .returned (.bool false) ∧ Kept [] (w.alloc (.cells (opc 11 X A B s t) 64)) w') :=
  owner_outer p 11 X A B s t _ false _ (by omega) fun W hW => (outer_no p 11 X A B s t W (by omega)).mono fun e w' h => ⟨h.1, hW.trans h.2⟩
 have hoc : (opc 11 X A B s t)[1]? = some (.int .i64 X) := rfl
 have hoc0 : (opc 11 X A B s t)[0]? = some (.int .i64 11) := rfl
 have hln : ¬ (ds.length : Int) = 0 := by omega
 have hlb : ((ds.length : Int) == 0) = false := by simpa using hln
 have hkd := hk d (List.mem_of_getElem? hd)
 have HF : Hid (∀ W e w' w'', Kept [] w W → DR I d W e w' → Kept [] w' w'' → StepR I Bs p (N + 1) true w e w'') := by
  rintro W e w' w'' k ⟨rfl, d', eq, hdi, hf, hle, hK⟩ k''
  obtain ⟨hI, hB⟩ := (h.kept k).disk _ d d' hd hK hdi eq hf
  refine ⟨rfl, _, j, hI.kept k'', by simpa using hl, hj, ?_, ((k.belowB h.size (by simp)).trans hB).trans (k''.belowB hI.size (by simp))⟩
  intro e he
  rcases List.mem_or_eq_of_mem_set he with he | he
  ·exact ⟨Nat.le_succ_of_le (hk e he).1, fun s o hst => by obtain ⟨a1, a2, a3⟩ := (hk e he).2 s o hst; exact ⟨by omega, by omega, by omega⟩⟩
  ·subst he; exact hle N hkd
 have HC : Hid (∀ W, Kept [] w W → Calls Tryz.prog 99 #[.pointer (some ⟨d.q, 0, none⟩)] W (DR I d W)) := fun W k => opened_DI I d W (h.kept k).glob ((h.kept k).all d (List.mem_of_getElem? hd)).1 (by have := hkd.1; omega)
 clear n1 hcur0 h1 h2 h3 h4 hg0 hkd hk h
 unfold opc at *
 go_enter Tryz.func63, Tryz.ntmps63
 go_wp2_with (first
  | (go_at_call 96; refine HR.out.mono ?_; rintro e w2 ⟨rfl, hk2⟩; have k2 := (k1.trans hk2).drew; have hS2 := (hS.kept hk2).kept ((Kept.refl [] w2).drew); have cp1 : w2.cell? ⟨p, 1, none⟩ = some (.slice (some ⟨g0, 0, none⟩) ds.length cap) := cellAt (hS.kept hk2).1 rfl; have co0 : w2.cell? ⟨w.heap.size, 0, none⟩ = some (.int .i64 11) := cellAt (hS.kept hk2).2.1 hoc0))
 generalize w.heap.size = ob at *
 generalize (#[.int .i64 11, .int .i64 X, .int .i64 A, .int .i64 B, .string s, .string t] : Array Value) = ocs at *
 refine wp_region_S (PS ob p g0 kv (.slice (some ⟨g0, 0, none⟩) ds.length cap) ocs cur) (by kernel_rfl) ?_
 refine wpAnyH_take (i := 0) (v := .pointer (some ⟨p, 0, none⟩)) rfl (by kernel_rfl) (by kernel_rfl) (by kernel_rfl) (fun _ _ _ h => h) (Or.inl ⟨by rfl, fun W hW => by rfl⟩) hS2 ?_
 simp only [Act.put, zA, zC, zD, zE, zF]
 refine wpAnyH_take (i := 1) (v := .pointer (some ⟨p, 0, none⟩)) rfl (by kernel_rfl) (by kernel_rfl) (by kernel_rfl) (fun _ _ _ h => h) (Or.inl ⟨by rfl, fun W hW => by rfl⟩) hS2 ?_
 simp only [Act.put, zA, zB, zC, zD, zE, zF]
 refine wpAnyH_take (i := 2) (v := .pointer (some ⟨p, 1, none⟩)) rfl (by kernel_rfl) (by kernel_rfl) (by kernel_rfl) (fun _ _ _ h => h) (Or.inl ⟨by rfl, fun W hW => by rfl⟩) hS2 ?_
 simp only [Act.put, zA, zB, zC, zD, zE, zF]
 refine wpAnyH_take (i := 3) (v := .slice (some ⟨g0, 0, none⟩) ds.length cap) rfl (by kernel_rfl) (by kernel_rfl) (by kernel_rfl) (fun _ _ _ h => h) (Or.inl ⟨by rfl, fun W hW => exec_load 102 (.tmp 31) rfl ⟨p, 1, none⟩ rfl _ (run_load1 Tryz.underlying102 rfl (cellAt hW.1 rfl))⟩) hS2 ?_
 simp only [Act.put, zA, zB, zC, zD, zE, zF]
 refine wpAnyH_take (i := 4) (v := .pointer (some ⟨ob, 1, none⟩)) rfl (by kernel_rfl) (by kernel_rfl) (by kernel_rfl) (fun _ _ _ h => h) (Or.inl ⟨by rfl, fun W hW => by rfl⟩) hS2 ?_
 simp only [Act.put, zA, zB, zC, zD, zE, zF]
 refine wpAnyH_take (i := 5) (v := .int .i64 X) rfl (by kernel_rfl) (by kernel_rfl) (by kernel_rfl) (fun _ _ _ h => h) (Or.inl ⟨by rfl, fun W hW => exec_load 3 (.tmp 33) rfl ⟨ob, 1, none⟩ rfl _ (run_load1 Tryz.underlying3 rfl (cellAt hW.2.1 hoc))⟩) hS2 ?_
 simp only [Act.put, zA, zB, zC, zD, zE, zF]
 refine wpAnyH_take (i := 6) (v := .pointer (some ⟨p, 0, none⟩)) rfl (by kernel_rfl) (by kernel_rfl) (by kernel_rfl) (fun _ _ _ h => h) (Or.inl ⟨by rfl, fun W hW => by rfl⟩) hS2 ?_
 simp only [Act.put, zA, zB, zC, zD, zE, zF]
 refine wpAnyH_take (i := 7) (v := .pointer (some ⟨p, 0, none⟩)) rfl (by kernel_rfl) (by kernel_rfl) (by kernel_rfl) (fun _ _ _ h => h) (Or.inl ⟨by rfl, fun W hW => by rfl⟩) hS2 ?_
 simp only [Act.put, zA, zB, zC, zD, zE, zF]
 refine wpAnyH_take (i := 8) (v := .pointer (some ⟨p, 1, none⟩)) rfl (by kernel_rfl) (by kernel_rfl) (by kernel_rfl) (fun _ _ _ h => h) (Or.inl ⟨by rfl, fun W hW => by rfl⟩) hS2 ?_
 simp only [Act.put, zA, zB, zC, zD, zE, zF]
 refine wpAnyH_take (i := 9) (v := .slice (some ⟨g0, 0, none⟩) ds.length cap) rfl (by kernel_rfl) (by kernel_rfl) (by kernel_rfl) (fun _ _ _ h => h) (Or.inl ⟨by rfl, fun W hW => exec_load 102 (.tmp 37) rfl ⟨p, 1, none⟩ rfl _ (run_load1 Tryz.underlying102 rfl (cellAt hW.1 rfl))⟩) hS2 ?_
 simp only [Act.put, zA, zB, zC, zD, zE, zF]
 refine wpAnyH_take (i := 10) (v := .int .i64 ds.length) rfl (by kernel_rfl) (by kernel_rfl) (by kernel_rfl) (fun _ _ _ h => h) (Or.inl ⟨by rfl, fun W hW => exec_len (.tmp 38) 102 148 rfl _ _ _ rfl Tryz.underlying102⟩) hS2 ?_
 simp only [Act.put, zA, zB, zC, zD, zE, zF]
 refine held_one (i := 11) (by kernel_rfl) (wpOp_call rfl (by rfl) 97 #[.int .i64 X, .int .i64 ds.length] (exec_call _ _ _ rfl _ (by simp [Act.eval]) (enters_pick _ _)) _ (pick_any X ds.length _ hlen (by omega) hX1 hX2) ?_)
 rintro e W5 ⟨rfl, rfl⟩
 refine ⟨_, rfl, hS2, ?_⟩
 simp only [Act.put, zA, zB, zC, zD, zE, zF]
 refine wpAnyH_take (i := 12) (v := .pointer (some ⟨g0, pk X ds.length, none⟩)) rfl (by kernel_rfl) (by kernel_rfl) (by kernel_rfl) (fun _ _ _ h => h) (Or.inl ⟨by rfl, fun W hW => exec_index 102 (.tmp 32) (.tmp 40) rfl g0 0 ds.length cap (pk X ds.length) 1 rfl rfl 148 Tryz.underlying102 spl (pk_lt X ds.length hlen) _ (by omega)⟩) hS2 ?_
 simp only [Act.put, zA, zB, zC, zD, zE, zF]
 refine wpAnyH_take (i := 13) (v := .pointer (some ⟨d.q, 0, none⟩)) rfl (by kernel_rfl) (by kernel_rfl) (by kernel_rfl) (fun _ _ _ h => h) (Or.inl ⟨by rfl, fun W hW => exec_load 148 (.tmp 41) rfl ⟨g0, pk X ds.length, none⟩ rfl _ (run_load1 Tryz.underlying148 rfl (cellAt hW.2.2 hcur))⟩) hS2 ?_
 simp only [Act.put, zA, zB, zC, zD, zE, zF]
 refine wpAnyH_take (i := 14) (v := .pointer (some ⟨d.q, 0, none⟩)) rfl (by kernel_rfl) (by kernel_rfl) (by kernel_rfl) (fun _ _ _ h => h) (Or.inl ⟨by rfl, fun W hW => by rfl⟩) hS2 ?_
 simp only [Act.put, zA, zB, zC, zD, zE, zF]
 refine wpAnyH_done (by kernel_rfl) ?_ _
 generalize w2.drew = w3 at *
 have co3 : w3.cell? ⟨ob, 0, none⟩ = some (.int .i64 11) := cellAt hS2.2.1 hoc0
 clear co0 cp1
 go_wp2_with (first
  | (go_at_call 99; refine (HC.out _ k2).mono ?_; intro e w4 hR4; have hR := HF.out _ _ _ _ k2 hR4 (Kept.refl _ _); obtain ⟨rfl, r4⟩ := hR4)
  | fail)
 go_ret
 exact hR

end Go.Proofs.YtcklgafpgdhnaaaGreatDoor

namespace Go.Proofs.YtcklgafpgdhnaaaGreatDoor
open Go.RowKit

theorem step_k12_none (I : Iface) (p : Nat) (X A B : Int) (s t : ByteArray) (Bs j N : Nat) (ds : List Dk) (w : World) (h : WI I Bs w p ds j) (hl : ds.length ≤ N) (hj : j ≤ N) (hk : ∀ d ∈ ds, d.le N) (hlen : ds.length = 0) :
  Calls Tryz.prog 63 #[.pointer (some ⟨p, 0, none⟩), .agg (opc 12 X A B s t)] w (StepR I Bs p N true w) := by
 obtain ⟨kv, dv, xs, h1, h2, h3, h4⟩ := h.ex
 obtain ⟨pd, cd, rfl⟩ := owns_len h4
 have k1 := (Kept.refl [] w).alloc (.cells (opc 12 X A B s t) 64)
 have n1 := heap_alloc_new w (.cells (opc 12 X A B s t) 64)
 have HR : Hid (Calls Tryz.prog 96 #[.pointer (some ⟨p, 0, none⟩), .agg (opc 12 X A B s t)] (w.alloc (.cells (opc 12 X A B s t) 64)) fun e w' => e = .returned (.bool false) ∧ Kept [] (w.alloc (.cells (opc 12 X A B s t) 64)) w') :=
  owner_outer p 12 X A B s t _ false _ (by omega) fun W hW => (outer_no p 12 X A B s t W (by omega)).mono fun e w' h => ⟨h.1, hW.trans h.2⟩
 have HI : Hid (∀ w', Kept [] w w' → StepR I Bs p N true w (.returned (.bool true)) w') := fun w' k => ⟨rfl, ds, j, h.kept k, hl, hj, hk, k.belowB h.size (by simp)⟩
 rw [hlen] at h1
 have h1' : Hid (WC w p kv (.slice pd 0 cd)) := h1
 clear h h1 h2 h3 h4 hl hlen
 unfold opc at HR k1 n1 ⊢
 go_enter Tryz.func63, Tryz.ntmps63
 go_wp2_with (first
  | (go_at_call 96; refine HR.out.mono ?_; rintro e w2 ⟨rfl, hk2⟩; have k2 := k1.trans hk2; have cp1 : w2.cell? ⟨p, 1, none⟩ = some (.slice pd 0 cd) := cellAt (k2.get h1'.out (by simp)) rfl))
 go_ret
 exact HI.out _ k2

theorem step_k12_some (I : Iface) (p : Nat) (X A B : Int) (s t : ByteArray) (Bs j N : Nat) (ds : List Dk) (w : World) (h : WI I Bs w p ds j) (hl : ds.length ≤ N + 1) (hj : j ≤ N + 1) (hk : ∀ d ∈ ds, d.le N) (hN : N + 1 ≤ 20000) (hlen : 0 < ds.length) (hX1 : -9223372036854775808 ≤ X) (hX2 : X ≤ 9223372036854775807) :
  Calls Tryz.prog 63 #[.pointer (some ⟨p, 0, none⟩), .agg (opc 12 X A B s t)] w (StepR I Bs p (N + 1) true w) := by
 obtain ⟨kv, g0, cap, cur, xs, h1, hg0, hcur0, h2, h3, h4⟩ := h.slots hlen
 obtain ⟨d, hd⟩ : ∃ d, ds[pk X ds.length]? = some d := ⟨_, List.getElem?_eq_getElem (pk_lt X ds.length hlen)⟩
 have hcur := hcur0 _ d hd
 have k1 := (Kept.refl [] w).alloc (.cells (opc 12 X A B s t) 64)
 have n1 := heap_alloc_new w (.cells (opc 12 X A B s t) 64)
 have hS : PS w.heap.size p g0 kv (.slice (some ⟨g0, 0, none⟩) ds.length cap) (opc 12 X A B s t) cur (w.alloc (.cells (opc 12 X A B s t) 64)) := ⟨k1.get h1 (by simp), n1, k1.get hg0 (by simp)⟩
 have HR : Hid (Calls Tryz.prog 96 #[.pointer (some ⟨p, 0, none⟩), .agg (opc 12 X A B s t)] (w.alloc (.cells (opc 12 X A B s t) 64)) fun e w' => e = .returned (.bool false) ∧ Kept [] (w.alloc (.cells (opc 12 X A B s t) 64)) w') :=
  owner_outer p 12 X A B s t _ false _ (by omega) fun W hW => (outer_no p 12 X A B s t W (by omega)).mono fun e w' h => ⟨h.1, hW.trans h.2⟩
 have hoc : (opc 12 X A B s t)[1]? = some (.int .i64 X) := rfl
 have hoc0 : (opc 12 X A B s t)[0]? = some (.int .i64 12) := rfl
 have hln : ¬ (ds.length : Int) = 0 := by omega
 have hlb : ((ds.length : Int) == 0) = false := by simpa using hln
 have hkd := hk d (List.mem_of_getElem? hd)
 have HF : Hid (∀ W e w' w'', Kept [] w W → DR I d W e w' → Kept [] w' w'' → StepR I Bs p (N + 1) true w e w'') := by
  rintro W e w' w'' k ⟨rfl, d', eq, hdi, hf, hle, hK⟩ k''
  obtain ⟨hI, hB⟩ := (h.kept k).disk _ d d' hd hK hdi eq hf
  refine ⟨rfl, _, j, hI.kept k'', by simpa using hl, hj, ?_, ((k.belowB h.size (by simp)).trans hB).trans (k''.belowB hI.size (by simp))⟩
  intro e he
  rcases List.mem_or_eq_of_mem_set he with he | he
  ·exact ⟨Nat.le_succ_of_le (hk e he).1, fun s o hst => by obtain ⟨a1, a2, a3⟩ := (hk e he).2 s o hst; exact ⟨by omega, by omega, by omega⟩⟩
  ·subst he; exact hle N hkd
 have HKD : Hid (d.le N) := hkd
 have HI : Hid (∀ w', Kept [] w w' → StepR I Bs p (N + 1) true w (.returned (.bool true)) w') := fun w' k => ⟨rfl, ds, j, h.kept k, hl, hj, fun e he => ⟨Nat.le_succ_of_le (hk e he).1, fun s o hst => by obtain ⟨a1, a2, a3⟩ := (hk e he).2 s o hst; exact ⟨by omega, by omega, by omega⟩⟩, k.belowB h.size (by simp)⟩
 have HQ : Hid (∀ W, Kept [] w W → W.cell? ⟨d.q, 7, none⟩ = some (.pointer (stPtr d.st))) := by
  intro W k
  obtain ⟨may, were, m, L, c, wr, t0, q1, _⟩ := ((h.kept k).all d (List.mem_of_getElem? hd)).1.ex
  exact cellAt q1 rfl
 have HC : Hid (∀ so oo, d.st = some (so, oo) → ∀ W, Kept [] w W → Calls Tryz.prog 100 #[.pointer (some ⟨d.q, 0, none⟩), .string s, .string t, .bool false] W (DRS I d W)) := by
  intro so oo hst W k
  obtain ⟨di, bf⟩ := (h.kept k).all d (List.mem_of_getElem? hd)
  have hpos := h.pos
  have hgf : 1 ∉ so.fp := fun hx => by
   have := bf 1 (by simp only [Dk.foot, hst, stFoot]; exact List.mem_cons_of_mem _ (List.mem_cons_of_mem _ (List.mem_cons_of_mem _ (List.mem_cons_of_mem _ (List.mem_append_left _ (List.mem_append_left _ hx))))))
   omega
  exact put_DI I d so oo W (h.kept k).glob di hst hgf N hkd (by omega) s t
 have hoc4 : (opc 12 X A B s t)[4]? = some (.string s) := rfl
 have hoc5 : (opc 12 X A B s t)[5]? = some (.string t) := rfl
 have hoc2 : (opc 12 X A B s t)[2]? = some (.int .i64 A) := rfl
 clear n1 hcur0 h1 h2 h3 h4 hg0 hkd hk h
 unfold opc at *
 go_enter Tryz.func63, Tryz.ntmps63
 go_wp2_with (first
  | (go_at_call 96; refine HR.out.mono ?_; rintro e w2 ⟨rfl, hk2⟩; have k2 := (k1.trans hk2).drew; have hS2 := (hS.kept hk2).kept ((Kept.refl [] w2).drew); have cp1 : w2.cell? ⟨p, 1, none⟩ = some (.slice (some ⟨g0, 0, none⟩) ds.length cap) := cellAt (hS.kept hk2).1 rfl; have co0 : w2.cell? ⟨w.heap.size, 0, none⟩ = some (.int .i64 12) := cellAt (hS.kept hk2).2.1 hoc0))
 generalize w.heap.size = ob at *
 generalize (#[.int .i64 12, .int .i64 X, .int .i64 A, .int .i64 B, .string s, .string t] : Array Value) = ocs at *
 refine wp_region_S (PS ob p g0 kv (.slice (some ⟨g0, 0, none⟩) ds.length cap) ocs cur) (by kernel_rfl) ?_
 refine wpAnyH_take (i := 0) (v := .pointer (some ⟨p, 0, none⟩)) rfl (by kernel_rfl) (by kernel_rfl) (by kernel_rfl) (fun _ _ _ h => h) (Or.inl ⟨by rfl, fun W hW => by rfl⟩) hS2 ?_
 simp only [Act.put, zA, zC, zD, zE, zF]
 refine wpAnyH_take (i := 1) (v := .pointer (some ⟨p, 0, none⟩)) rfl (by kernel_rfl) (by kernel_rfl) (by kernel_rfl) (fun _ _ _ h => h) (Or.inl ⟨by rfl, fun W hW => by rfl⟩) hS2 ?_
 simp only [Act.put, zA, zB, zC, zD, zE, zF]
 refine wpAnyH_take (i := 2) (v := .pointer (some ⟨p, 1, none⟩)) rfl (by kernel_rfl) (by kernel_rfl) (by kernel_rfl) (fun _ _ _ h => h) (Or.inl ⟨by rfl, fun W hW => by rfl⟩) hS2 ?_
 simp only [Act.put, zA, zB, zC, zD, zE, zF]
 refine wpAnyH_take (i := 3) (v := .slice (some ⟨g0, 0, none⟩) ds.length cap) rfl (by kernel_rfl) (by kernel_rfl) (by kernel_rfl) (fun _ _ _ h => h) (Or.inl ⟨by rfl, fun W hW => exec_load 102 (.tmp 31) rfl ⟨p, 1, none⟩ rfl _ (run_load1 Tryz.underlying102 rfl (cellAt hW.1 rfl))⟩) hS2 ?_
 simp only [Act.put, zA, zB, zC, zD, zE, zF]
 refine wpAnyH_take (i := 4) (v := .pointer (some ⟨ob, 1, none⟩)) rfl (by kernel_rfl) (by kernel_rfl) (by kernel_rfl) (fun _ _ _ h => h) (Or.inl ⟨by rfl, fun W hW => by rfl⟩) hS2 ?_
 simp only [Act.put, zA, zB, zC, zD, zE, zF]
 refine wpAnyH_take (i := 5) (v := .int .i64 X) rfl (by kernel_rfl) (by kernel_rfl) (by kernel_rfl) (fun _ _ _ h => h) (Or.inl ⟨by rfl, fun W hW => exec_load 3 (.tmp 33) rfl ⟨ob, 1, none⟩ rfl _ (run_load1 Tryz.underlying3 rfl (cellAt hW.2.1 hoc))⟩) hS2 ?_
 simp only [Act.put, zA, zB, zC, zD, zE, zF]
 refine wpAnyH_take (i := 6) (v := .pointer (some ⟨p, 0, none⟩)) rfl (by kernel_rfl) (by kernel_rfl) (by kernel_rfl) (fun _ _ _ h => h) (Or.inl ⟨by rfl, fun W hW => by rfl⟩) hS2 ?_
 simp only [Act.put, zA, zB, zC, zD, zE, zF]
 refine wpAnyH_take (i := 7) (v := .pointer (some ⟨p, 0, none⟩)) rfl (by kernel_rfl) (by kernel_rfl) (by kernel_rfl) (fun _ _ _ h => h) (Or.inl ⟨by rfl, fun W hW => by rfl⟩) hS2 ?_
 simp only [Act.put, zA, zB, zC, zD, zE, zF]
 refine wpAnyH_take (i := 8) (v := .pointer (some ⟨p, 1, none⟩)) rfl (by kernel_rfl) (by kernel_rfl) (by kernel_rfl) (fun _ _ _ h => h) (Or.inl ⟨by rfl, fun W hW => by rfl⟩) hS2 ?_
 simp only [Act.put, zA, zB, zC, zD, zE, zF]
 refine wpAnyH_take (i := 9) (v := .slice (some ⟨g0, 0, none⟩) ds.length cap) rfl (by kernel_rfl) (by kernel_rfl) (by kernel_rfl) (fun _ _ _ h => h) (Or.inl ⟨by rfl, fun W hW => exec_load 102 (.tmp 37) rfl ⟨p, 1, none⟩ rfl _ (run_load1 Tryz.underlying102 rfl (cellAt hW.1 rfl))⟩) hS2 ?_
 simp only [Act.put, zA, zB, zC, zD, zE, zF]
 refine wpAnyH_take (i := 10) (v := .int .i64 ds.length) rfl (by kernel_rfl) (by kernel_rfl) (by kernel_rfl) (fun _ _ _ h => h) (Or.inl ⟨by rfl, fun W hW => exec_len (.tmp 38) 102 148 rfl _ _ _ rfl Tryz.underlying102⟩) hS2 ?_
 simp only [Act.put, zA, zB, zC, zD, zE, zF]
 refine held_one (i := 11) (by kernel_rfl) (wpOp_call rfl (by rfl) 97 #[.int .i64 X, .int .i64 ds.length] (exec_call _ _ _ rfl _ (by simp [Act.eval]) (enters_pick _ _)) _ (pick_any X ds.length _ hlen (by omega) hX1 hX2) ?_)
 rintro e W5 ⟨rfl, rfl⟩
 refine ⟨_, rfl, hS2, ?_⟩
 simp only [Act.put, zA, zB, zC, zD, zE, zF]
 refine wpAnyH_take (i := 12) (v := .pointer (some ⟨g0, pk X ds.length, none⟩)) rfl (by kernel_rfl) (by kernel_rfl) (by kernel_rfl) (fun _ _ _ h => h) (Or.inl ⟨by rfl, fun W hW => exec_index 102 (.tmp 32) (.tmp 40) rfl g0 0 ds.length cap (pk X ds.length) 1 rfl rfl 148 Tryz.underlying102 spl (pk_lt X ds.length hlen) _ (by omega)⟩) hS2 ?_
 simp only [Act.put, zA, zB, zC, zD, zE, zF]
 refine wpAnyH_take (i := 13) (v := .pointer (some ⟨d.q, 0, none⟩)) rfl (by kernel_rfl) (by kernel_rfl) (by kernel_rfl) (fun _ _ _ h => h) (Or.inl ⟨by rfl, fun W hW => exec_load 148 (.tmp 41) rfl ⟨g0, pk X ds.length, none⟩ rfl _ (run_load1 Tryz.underlying148 rfl (cellAt hW.2.2 hcur))⟩) hS2 ?_
 simp only [Act.put, zA, zB, zC, zD, zE, zF]
 refine wpAnyH_take (i := 14) (v := .pointer (some ⟨d.q, 0, none⟩)) rfl (by kernel_rfl) (by kernel_rfl) (by kernel_rfl) (fun _ _ _ h => h) (Or.inl ⟨by rfl, fun W hW => by rfl⟩) hS2 ?_
 simp only [Act.put, zA, zB, zC, zD, zE, zF]
 refine wpAnyH_done (by kernel_rfl) ?_ _
 generalize w2.drew = w3 at *
 have co3 : w3.cell? ⟨ob, 0, none⟩ = some (.int .i64 12) := cellAt hS2.2.1 hoc0
 have co34 : w3.cell? ⟨ob, 4, none⟩ = some (.string s) := cellAt hS2.2.1 hoc4
 have co35 : w3.cell? ⟨ob, 5, none⟩ = some (.string t) := cellAt hS2.2.1 hoc5
 have co32 : w3.cell? ⟨ob, 2, none⟩ = some (.int .i64 A) := cellAt hS2.2.1 hoc2
 have cq7 := HQ.out w3 k2
 clear co0 cp1
 cases hst : d.st with
 | none =>
  rw [hst] at cq7
  simp only [stPtr] at cq7
  go_wp2
  go_ret
  exact HI.out _ k2
 | some so =>
  obtain ⟨so, oo⟩ := so
  rw [hst] at cq7
  simp only [stPtr] at cq7
  go_wp2_with (first
   | (go_at_call 100; refine (HC.out so oo hst _ k2).mono ?_; intro e w4 hR4; have hR := hR4.dr; obtain ⟨rfl, d', s', o', hst', eq', hdi', _, hle', _⟩ := hR4; obtain ⟨_, ho', _⟩ := hdi'.st s' o' hst'; obtain ⟨_, _, _, _, _, _, _, q4, _⟩ := hdi'.ex; rw [hst'] at q4; rw [eq'] at q4; have c47 : w4.cell? ⟨d.q, 7, none⟩ = some (.pointer (some ⟨o'.b, 0, none⟩)) := cellAt q4 rfl; have hxs := ((hle' N HKD.out).2 s' o' hst').2.2; clear hdi' q4)
   | (go_at_call 105; refine (looks_any o'.b (some ⟨s'.x, 0, none⟩) o'.vl false s'.cl s'.mo o'.ch o'.lv o'.wv o'.xs _ ho'.r ho'.h (by omega)).mono ?_; rintro e w5 ⟨rfl, hk5⟩))
  go_ret
  exact HF.out _ _ _ _ k2 hR hk5

theorem step_k13_none (I : Iface) (p : Nat) (X A B : Int) (s t : ByteArray) (Bs j N : Nat) (ds : List Dk) (w : World) (h : WI I Bs w p ds j) (hl : ds.length ≤ N) (hj : j ≤ N) (hk : ∀ d ∈ ds, d.le N) (hlen : ds.length = 0) :
  Calls Tryz.prog 63 #[.pointer (some ⟨p, 0, none⟩), .agg (opc 13 X A B s t)] w (StepR I Bs p N true w) := by
 obtain ⟨kv, dv, xs, h1, h2, h3, h4⟩ := h.ex
 obtain ⟨pd, cd, rfl⟩ := owns_len h4
 have k1 := (Kept.refl [] w).alloc (.cells (opc 13 X A B s t) 64)
 have n1 := heap_alloc_new w (.cells (opc 13 X A B s t) 64)
 have HR : Hid (Calls Tryz.prog 96 #[.pointer (some ⟨p, 0, none⟩), .agg (opc 13 X A B s t)] (w.alloc (.cells (opc 13 X A B s t) 64)) fun e w' => e = .returned (.bool false) ∧ Kept [] (w.alloc (.cells (opc 13 X A B s t) 64)) w') :=
  owner_outer p 13 X A B s t _ false _ (by omega) fun W hW => (outer_no p 13 X A B s t W (by omega)).mono fun e w' h => ⟨h.1, hW.trans h.2⟩
 have HI : Hid (∀ w', Kept [] w w' → StepR I Bs p N true w (.returned (.bool true)) w') := fun w' k => ⟨rfl, ds, j, h.kept k, hl, hj, hk, k.belowB h.size (by simp)⟩
 rw [hlen] at h1
 have h1' : Hid (WC w p kv (.slice pd 0 cd)) := h1
 clear h h1 h2 h3 h4 hl hlen
 unfold opc at HR k1 n1 ⊢
 go_enter Tryz.func63, Tryz.ntmps63
 go_wp2_with (first
  | (go_at_call 96; refine HR.out.mono ?_; rintro e w2 ⟨rfl, hk2⟩; have k2 := k1.trans hk2; have cp1 : w2.cell? ⟨p, 1, none⟩ = some (.slice pd 0 cd) := cellAt (k2.get h1'.out (by simp)) rfl))
 go_ret
 exact HI.out _ k2

theorem step_k13_some (I : Iface) (p : Nat) (X A B : Int) (s t : ByteArray) (Bs j N : Nat) (ds : List Dk) (w : World) (h : WI I Bs w p ds j) (hl : ds.length ≤ N + 1) (hj : j ≤ N + 1) (hk : ∀ d ∈ ds, d.le N) (hN : N + 1 ≤ 20000) (hlen : 0 < ds.length) (hX1 : -9223372036854775808 ≤ X) (hX2 : X ≤ 9223372036854775807) :
  Calls Tryz.prog 63 #[.pointer (some ⟨p, 0, none⟩), .agg (opc 13 X A B s t)] w (StepR I Bs p (N + 1) true w) := by
 obtain ⟨kv, g0, cap, cur, xs, h1, hg0, hcur0, h2, h3, h4⟩ := h.slots hlen
 obtain ⟨d, hd⟩ : ∃ d, ds[pk X ds.length]? = some d := ⟨_, List.getElem?_eq_getElem (pk_lt X ds.length hlen)⟩
 have hcur := hcur0 _ d hd
 have k1 := (Kept.refl [] w).alloc (.cells (opc 13 X A B s t) 64)
 have n1 := heap_alloc_new w (.cells (opc 13 X A B s t) 64)
 have hS : PS w.heap.size p g0 kv (.slice (some ⟨g0, 0, none⟩) ds.length cap) (opc 13 X A B s t) cur (w.alloc (.cells (opc 13 X A B s t) 64)) := ⟨k1.get h1 (by simp), n1, k1.get hg0 (by simp)⟩
 have HR : Hid (Calls Tryz.prog 96 #[.pointer (some ⟨p, 0, none⟩), .agg (opc 13 X A B s t)] (w.alloc (.cells (opc 13 X A B s t) 64)) fun e w' => e = .returned (.bool false) ∧ Kept [] (w.alloc (.cells (opc 13 X A B s t) 64)) w') :=
  owner_outer p 13 X A B s t _ false _ (by omega) fun W hW => (outer_no p 13 X A B s t W (by omega)).mono fun e w' h => ⟨h.1, hW.trans h.2⟩
 have hoc : (opc 13 X A B s t)[1]? = some (.int .i64 X) := rfl
 have hoc0 : (opc 13 X A B s t)[0]? = some (.int .i64 13) := rfl
 have hln : ¬ (ds.length : Int) = 0 := by omega
 have hlb : ((ds.length : Int) == 0) = false := by simpa using hln
 have hkd := hk d (List.mem_of_getElem? hd)
 have HF : Hid (∀ W e w' w'', Kept [] w W → DR I d W e w' → Kept [] w' w'' → StepR I Bs p (N + 1) true w e w'') := by
  rintro W e w' w'' k ⟨rfl, d', eq, hdi, hf, hle, hK⟩ k''
  obtain ⟨hI, hB⟩ := (h.kept k).disk _ d d' hd hK hdi eq hf
  refine ⟨rfl, _, j, hI.kept k'', by simpa using hl, hj, ?_, ((k.belowB h.size (by simp)).trans hB).trans (k''.belowB hI.size (by simp))⟩
  intro e he
  rcases List.mem_or_eq_of_mem_set he with he | he
  ·exact ⟨Nat.le_succ_of_le (hk e he).1, fun s o hst => by obtain ⟨a1, a2, a3⟩ := (hk e he).2 s o hst; exact ⟨by omega, by omega, by omega⟩⟩
  ·subst he; exact hle N hkd
 have HKD : Hid (d.le N) := hkd
 have HI : Hid (∀ w', Kept [] w w' → StepR I Bs p (N + 1) true w (.returned (.bool true)) w') := fun w' k => ⟨rfl, ds, j, h.kept k, hl, hj, fun e he => ⟨Nat.le_succ_of_le (hk e he).1, fun s o hst => by obtain ⟨a1, a2, a3⟩ := (hk e he).2 s o hst; exact ⟨by omega, by omega, by omega⟩⟩, k.belowB h.size (by simp)⟩
 have HQ : Hid (∀ W, Kept [] w W → W.cell? ⟨d.q, 7, none⟩ = some (.pointer (stPtr d.st))) := by
  intro W k
  obtain ⟨may, were, m, L, c, wr, t0, q1, _⟩ := ((h.kept k).all d (List.mem_of_getElem? hd)).1.ex
  exact cellAt q1 rfl
 have HC : Hid (∀ so oo, d.st = some (so, oo) → ∀ W, Kept [] w W → Calls Tryz.prog 100 #[.pointer (some ⟨d.q, 0, none⟩), .string s, .string t, .bool true] W (DRS I d W)) := by
  intro so oo hst W k
  obtain ⟨di, bf⟩ := (h.kept k).all d (List.mem_of_getElem? hd)
  have hpos := h.pos
  have hgf : 1 ∉ so.fp := fun hx => by
   have := bf 1 (by simp only [Dk.foot, hst, stFoot]; exact List.mem_cons_of_mem _ (List.mem_cons_of_mem _ (List.mem_cons_of_mem _ (List.mem_cons_of_mem _ (List.mem_append_left _ (List.mem_append_left _ hx))))))
   omega
  exact del_DI I d so oo W (h.kept k).glob di hst hgf N hkd (by omega) s t
 have hoc4 : (opc 13 X A B s t)[4]? = some (.string s) := rfl
 have hoc5 : (opc 13 X A B s t)[5]? = some (.string t) := rfl
 have hoc2 : (opc 13 X A B s t)[2]? = some (.int .i64 A) := rfl
 clear n1 hcur0 h1 h2 h3 h4 hg0 hkd hk h
 unfold opc at *
 go_enter Tryz.func63, Tryz.ntmps63
 go_wp2_with (first
  | (go_at_call 96; refine HR.out.mono ?_; rintro e w2 ⟨rfl, hk2⟩; have k2 := (k1.trans hk2).drew; have hS2 := (hS.kept hk2).kept ((Kept.refl [] w2).drew); have cp1 : w2.cell? ⟨p, 1, none⟩ = some (.slice (some ⟨g0, 0, none⟩) ds.length cap) := cellAt (hS.kept hk2).1 rfl; have co0 : w2.cell? ⟨w.heap.size, 0, none⟩ = some (.int .i64 13) := cellAt (hS.kept hk2).2.1 hoc0))
 generalize w.heap.size = ob at *
 generalize (#[.int .i64 13, .int .i64 X, .int .i64 A, .int .i64 B, .string s, .string t] : Array Value) = ocs at *
 refine wp_region_S (PS ob p g0 kv (.slice (some ⟨g0, 0, none⟩) ds.length cap) ocs cur) (by kernel_rfl) ?_
 refine wpAnyH_take (i := 0) (v := .pointer (some ⟨p, 0, none⟩)) rfl (by kernel_rfl) (by kernel_rfl) (by kernel_rfl) (fun _ _ _ h => h) (Or.inl ⟨by rfl, fun W hW => by rfl⟩) hS2 ?_
 simp only [Act.put, zA, zC, zD, zE, zF]
 refine wpAnyH_take (i := 1) (v := .pointer (some ⟨p, 0, none⟩)) rfl (by kernel_rfl) (by kernel_rfl) (by kernel_rfl) (fun _ _ _ h => h) (Or.inl ⟨by rfl, fun W hW => by rfl⟩) hS2 ?_
 simp only [Act.put, zA, zB, zC, zD, zE, zF]
 refine wpAnyH_take (i := 2) (v := .pointer (some ⟨p, 1, none⟩)) rfl (by kernel_rfl) (by kernel_rfl) (by kernel_rfl) (fun _ _ _ h => h) (Or.inl ⟨by rfl, fun W hW => by rfl⟩) hS2 ?_
 simp only [Act.put, zA, zB, zC, zD, zE, zF]
 refine wpAnyH_take (i := 3) (v := .slice (some ⟨g0, 0, none⟩) ds.length cap) rfl (by kernel_rfl) (by kernel_rfl) (by kernel_rfl) (fun _ _ _ h => h) (Or.inl ⟨by rfl, fun W hW => exec_load 102 (.tmp 31) rfl ⟨p, 1, none⟩ rfl _ (run_load1 Tryz.underlying102 rfl (cellAt hW.1 rfl))⟩) hS2 ?_
 simp only [Act.put, zA, zB, zC, zD, zE, zF]
 refine wpAnyH_take (i := 4) (v := .pointer (some ⟨ob, 1, none⟩)) rfl (by kernel_rfl) (by kernel_rfl) (by kernel_rfl) (fun _ _ _ h => h) (Or.inl ⟨by rfl, fun W hW => by rfl⟩) hS2 ?_
 simp only [Act.put, zA, zB, zC, zD, zE, zF]
 refine wpAnyH_take (i := 5) (v := .int .i64 X) rfl (by kernel_rfl) (by kernel_rfl) (by kernel_rfl) (fun _ _ _ h => h) (Or.inl ⟨by rfl, fun W hW => exec_load 3 (.tmp 33) rfl ⟨ob, 1, none⟩ rfl _ (run_load1 Tryz.underlying3 rfl (cellAt hW.2.1 hoc))⟩) hS2 ?_
 simp only [Act.put, zA, zB, zC, zD, zE, zF]
 refine wpAnyH_take (i := 6) (v := .pointer (some ⟨p, 0, none⟩)) rfl (by kernel_rfl) (by kernel_rfl) (by kernel_rfl) (fun _ _ _ h => h) (Or.inl ⟨by rfl, fun W hW => by rfl⟩) hS2 ?_
 simp only [Act.put, zA, zB, zC, zD, zE, zF]
 refine wpAnyH_take (i := 7) (v := .pointer (some ⟨p, 0, none⟩)) rfl (by kernel_rfl) (by kernel_rfl) (by kernel_rfl) (fun _ _ _ h => h) (Or.inl ⟨by rfl, fun W hW => by rfl⟩) hS2 ?_
 simp only [Act.put, zA, zB, zC, zD, zE, zF]
 refine wpAnyH_take (i := 8) (v := .pointer (some ⟨p, 1, none⟩)) rfl (by kernel_rfl) (by kernel_rfl) (by kernel_rfl) (fun _ _ _ h => h) (Or.inl ⟨by rfl, fun W hW => by rfl⟩) hS2 ?_
 simp only [Act.put, zA, zB, zC, zD, zE, zF]
 refine wpAnyH_take (i := 9) (v := .slice (some ⟨g0, 0, none⟩) ds.length cap) rfl (by kernel_rfl) (by kernel_rfl) (by kernel_rfl) (fun _ _ _ h => h) (Or.inl ⟨by rfl, fun W hW => exec_load 102 (.tmp 37) rfl ⟨p, 1, none⟩ rfl _ (run_load1 Tryz.underlying102 rfl (cellAt hW.1 rfl))⟩) hS2 ?_
 simp only [Act.put, zA, zB, zC, zD, zE, zF]
 refine wpAnyH_take (i := 10) (v := .int .i64 ds.length) rfl (by kernel_rfl) (by kernel_rfl) (by kernel_rfl) (fun _ _ _ h => h) (Or.inl ⟨by rfl, fun W hW => exec_len (.tmp 38) 102 148 rfl _ _ _ rfl Tryz.underlying102⟩) hS2 ?_
 simp only [Act.put, zA, zB, zC, zD, zE, zF]
 refine held_one (i := 11) (by kernel_rfl) (wpOp_call rfl (by rfl) 97 #[.int .i64 X, .int .i64 ds.length] (exec_call _ _ _ rfl _ (by simp [Act.eval]) (enters_pick _ _)) _ (pick_any X ds.length _ hlen (by omega) hX1 hX2) ?_)
 rintro e W5 ⟨rfl, rfl⟩
 refine ⟨_, rfl, hS2, ?_⟩
 simp only [Act.put, zA, zB, zC, zD, zE, zF]
 refine wpAnyH_take (i := 12) (v := .pointer (some ⟨g0, pk X ds.length, none⟩)) rfl (by kernel_rfl) (by kernel_rfl) (by kernel_rfl) (fun _ _ _ h => h) (Or.inl ⟨by rfl, fun W hW => exec_index 102 (.tmp 32) (.tmp 40) rfl g0 0 ds.length cap (pk X ds.length) 1 rfl rfl 148 Tryz.underlying102 spl (pk_lt X ds.length hlen) _ (by omega)⟩) hS2 ?_
 simp only [Act.put, zA, zB, zC, zD, zE, zF]
 refine wpAnyH_take (i := 13) (v := .pointer (some ⟨d.q, 0, none⟩)) rfl (by kernel_rfl) (by kernel_rfl) (by kernel_rfl) (fun _ _ _ h => h) (Or.inl ⟨by rfl, fun W hW => exec_load 148 (.tmp 41) rfl ⟨g0, pk X ds.length, none⟩ rfl _ (run_load1 Tryz.underlying148 rfl (cellAt hW.2.2 hcur))⟩) hS2 ?_
 simp only [Act.put, zA, zB, zC, zD, zE, zF]
 refine wpAnyH_take (i := 14) (v := .pointer (some ⟨d.q, 0, none⟩)) rfl (by kernel_rfl) (by kernel_rfl) (by kernel_rfl) (fun _ _ _ h => h) (Or.inl ⟨by rfl, fun W hW => by rfl⟩) hS2 ?_
 simp only [Act.put, zA, zB, zC, zD, zE, zF]
 refine wpAnyH_done (by kernel_rfl) ?_ _
 generalize w2.drew = w3 at *
 have co3 : w3.cell? ⟨ob, 0, none⟩ = some (.int .i64 13) := cellAt hS2.2.1 hoc0
 have co34 : w3.cell? ⟨ob, 4, none⟩ = some (.string s) := cellAt hS2.2.1 hoc4
 have co35 : w3.cell? ⟨ob, 5, none⟩ = some (.string t) := cellAt hS2.2.1 hoc5
 have co32 : w3.cell? ⟨ob, 2, none⟩ = some (.int .i64 A) := cellAt hS2.2.1 hoc2
 have cq7 := HQ.out w3 k2
 clear co0 cp1
 cases hst : d.st with
 | none =>
  rw [hst] at cq7
  simp only [stPtr] at cq7
  go_wp2
  go_ret
  exact HI.out _ k2
 | some so =>
  obtain ⟨so, oo⟩ := so
  rw [hst] at cq7
  simp only [stPtr] at cq7
  go_wp2_with (first
   | (go_at_call 100; refine (HC.out so oo hst _ k2).mono ?_; intro e w4 hR4; have hR := hR4.dr; obtain ⟨rfl, d', s', o', hst', eq', hdi', _, hle', _⟩ := hR4; obtain ⟨_, ho', _⟩ := hdi'.st s' o' hst'; obtain ⟨_, _, _, _, _, _, _, q4, _⟩ := hdi'.ex; rw [hst'] at q4; rw [eq'] at q4; have c47 : w4.cell? ⟨d.q, 7, none⟩ = some (.pointer (some ⟨o'.b, 0, none⟩)) := cellAt q4 rfl; have hxs := ((hle' N HKD.out).2 s' o' hst').2.2; clear hdi' q4)
   | (go_at_call 105; refine (looks_any o'.b (some ⟨s'.x, 0, none⟩) o'.vl false s'.cl s'.mo o'.ch o'.lv o'.wv o'.xs _ ho'.r ho'.h (by omega)).mono ?_; rintro e w5 ⟨rfl, hk5⟩))
  go_ret
  exact HF.out _ _ _ _ k2 hR hk5

end Go.Proofs.YtcklgafpgdhnaaaGreatDoor
