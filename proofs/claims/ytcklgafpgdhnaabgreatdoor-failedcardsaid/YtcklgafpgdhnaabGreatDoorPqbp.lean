import Derived.Test.YtcklgafpgdhnaabGreatDoorPqbn
import Derived.Test.YtcklgafpgdhnaabGreatDoorPqbo
import Derived.Test.YtcklgafpgdhnaabGreatDoorPqab
import Derived.Test.YtcklgafpgdhnaabGreatDoorPqar
set_option maxRecDepth 100000
set_option maxHeartbeats 4000000
open Go.Proofs.Tryz
open Go.Act renaming put → zP
open List renaming getElem_toArray → zA, getElem_cons_succ → zB, getElem_cons_zero → zC, setIfInBounds_toArray → zD, set_cons_succ → zE, set_cons_zero → zF
namespace Go.Proofs.YtcklgafpgdhnaabGreatDoor
open Go.RowKit Go.Shelf
theorem Qbf (args : Array Value) (w : World) : (callFunc 82 args).run prog w = .ok (.enter 82 args) w := qA func82 (by kernel_rfl) (by kernel_rfl) args w
def TaB (b0 b1 b2 : Nat) (t : Tr) (r : Value) (lo hi : ByteArray) (W : World) : Prop := Zd b0 t r W /\ W.heap[b1]? = some (.cells #[.string lo] 9 (0, 0)) /\ W.heap[b2]? = some (.cells #[.string hi] 9 (0, 0))
theorem TaB.k {b0 b1 b2 : Nat} {t : Tr} {r : Value} {lo hi : ByteArray} {W W' : World} (h : TaB b0 b1 b2 t r lo hi W) (kk : y5 [] W W') : TaB b0 b1 b2 t r lo hi W' := ⟨kk.get h.1 (by simp), kk.get h.2.1 (by simp), kk.get h.2.2 (by simp)⟩
theorem Qbg {o : Oper} {a : Act} {w : World} (x : Operand) (nm : String) (y1 y2 y3 : Operand) (ts : Array TypeId) (ho : o.op = .call { callee := .invoke x nm, args := #[y1, y2, y3], argTypes := ts }) (t : TypeId) (v : Value) (hx : a.eval x = .iface t v) (v1 v2 v3 : Value) (h1 : a.eval y1 = v1) (h2 : a.eval y2 = v2) (h3 : a.eval y3 = v3) (f : FuncId)
  (hm : (Go.method 391 t v nm).run prog w = .ok (f, v) w) (he : (callFunc f #[v, v1, v2, v3]).run prog w = .ok (.enter f #[v, v1, v2, v3]) w) : (execOp a.eval o).run prog w = .ok (.enter f #[v, v1, v2, v3]) w := by
 have hp : (program : Sem Program).run prog w = .ok prog w := rfl
 simp [execOp, ho, resolve, invoke, callMethod, hx, h1, h2, h3, hp, Q5p, hm, he]
theorem Qbh (ll : Nat) (M : List Nat) (b0 b1 b2 : Nat) (lo hi : ByteArray) (r : Value) (t : Tr) (J Jx : List Pr -> World -> Prop) (hJ : ∀ pre W W', J pre W -> y5 [] W W' -> J pre W') (hY : QaX ll M (flt lo hi (y7 t)).length J Jx) (ht : TW t) (W : World) (hb : TaB b0 b1 b2 t r lo hi W) (hv : TV W (· ∉ M) t r) (hJ0 : J [] W) :
  Calls prog 113 #[.func (.yield ll) #[] #[], .pointer (some ⟨b0, 0, none⟩), .pointer (some ⟨b1, 0, none⟩), .pointer (some ⟨b2, 0, none⟩)] W fun e W' => (∃ v, e = .returned v) /\ (J (flt lo hi (y7 t)) W' \/ ∃ q, q <+: flt lo hi (y7 t) /\ Jx q W') := by
 have HF : Hid (∀ W' x, y5 [] W W' -> ND W' (· ∉ M) t.h t.n x -> _) := fun W' x kW hx => Qb6 ll M _ J Jx hJ hY lo hi t.h 1 yp t.n x [] W' hx ht.wf ht.full (by have := ht.hi; omega) (hJ _ _ _ hJ0 kW) (by rw [List.length_nil, Nat.zero_add]; exact Nat.le_refl _)
 have HT : Hid (∀ W', y5 [] W W' -> Calls prog 82 #[.agg #[.string ⟨#[]⟩, .int .i64 t.pl, r]] W' _) := fun W' kW => QN (hv.k kW)
 have hS : TaB b0 b1 b2 t r lo hi W.drew := hb
 clear hJ hJ0 hY hv
 go_enter func113, ntmps113
 go_wp2_with fail
 refine Q8 (TaB b0 b1 b2 t r lo hi) 5 (by kernel_rfl) ?_
 refine Q6 (i := 2) (v := .string lo) rfl (by kernel_rfl) (by kernel_rfl) (by kernel_rfl) (by kernel_rfl) (fun _ _ _ h => h) (Or.inl ⟨by rfl, fun W hW => y9 9 (.tmp 2) rfl ⟨b1, 0, none⟩ rfl _ (yh underlying9 rfl (y6 hW.2.1 rfl))⟩) hS ?_
 simp only [zP, zA, zB, zC, zD, zE, zF]
 refine Q6 (i := 3) (v := .string hi) rfl (by kernel_rfl) (by kernel_rfl) (by kernel_rfl) (by kernel_rfl) (fun _ _ _ h => h) (Or.inl ⟨by rfl, fun W hW => y9 9 (.tmp 3) rfl ⟨b2, 0, none⟩ rfl _ (yh underlying9 rfl (y6 hW.2.2 rfl))⟩) hS ?_
 simp only [zP, zA, zB, zC, zD, zE, zF]
 refine Q6 (i := 4) (v := .func (.yield ll) #[] #[]) rfl (by kernel_rfl) (by kernel_rfl) (by kernel_rfl) (by kernel_rfl) (fun _ _ _ h => h) (Or.inl ⟨by rfl, fun W hW => by rfl⟩) hS ?_
 simp only [zP, zA, zB, zC, zD, zE, zF]
 refine Qk (i := 0) (by kernel_rfl) (yy rfl (by rfl) (.agg #[.string ⟨#[]⟩, .int .i64 t.pl, r]) _ (y9 77 (.tmp 1) rfl ⟨b0, 0, none⟩ rfl _ (QQ hS.1)) ⟨fun _ => hS, ?_⟩)
 simp only [zP, zA, zC, zD, zE, zF]
 refine Qk (i := 1) (by kernel_rfl) (yo rfl (by rfl) 82 #[.agg #[.string ⟨#[]⟩, .int .i64 t.pl, r]] (yk _ _ _ rfl _ (by simp [Act.eval]) (Qbf _ _)) _ (HT.out _ (y5.refl [] W).drew) ?_)
 rintro e w1 ⟨x, rfl, hx, hk1⟩
 have hS1 := hS.k hk1
 obtain ⟨fn, v, ⟨ty, ex, hm, he⟩, hcall⟩ := HF.out w1 x ((y5.refl [] W).drew.trans hk1) hx
 refine ⟨_, rfl, fun _ => hS1, ?_⟩
 simp only [zP, zA, zB, zC, zD, zE, zF]
 subst ex
 refine Qk (i := 5) (by kernel_rfl) (yo rfl (by rfl) fn #[v, .string lo, .string hi, .func (.yield ll) #[] #[]] (Qbg (.tmp 6) _ (.tmp 7) (.tmp 8) (.tmp 9) _ rfl ty v rfl _ _ _ rfl rfl rfl fn (hm _) (he _ _)) _ ((callsIn_wide (n := 1)).1 hcall) ?_)
 rintro e w2 hres
 have hv2 : ∃ bb, e = .returned (.bool bb) := by
  rcases hres with ⟨rfl, _⟩ | ⟨rfl, _⟩
  ·exact ⟨_, rfl⟩
  ·exact ⟨_, rfl⟩
 obtain ⟨bb, rfl⟩ := hv2
 refine ⟨_, rfl, fun h => absurd rfl h, ?_⟩
 simp only [zP, zA, zB, zC, zD, zE, zF]
 refine Q7 (by kernel_rfl) ?_ _
 have FIN : Hid (J (flt lo hi (y7 t)) w2 \/ ∃ q, q <+: flt lo hi (y7 t) /\ Jx q w2) := by
  rcases hres with ⟨_, h1, _⟩ | ⟨_, ⟨h1, _⟩ | ⟨q, hq, h1⟩⟩
  ·exact Or.inl (by rw [List.nil_append] at h1; exact h1)
  ·exact Or.inl (by rw [List.nil_append] at h1; exact h1)
  ·exact Or.inr ⟨q, hq, by rw [List.nil_append] at h1; exact h1⟩
 clear hres hS hS1 hcall
 go_wp2
 go_end0
 exact ⟨⟨_, rfl⟩, FIN.out⟩
def encP (x : Pr) : Array Value := #[.agg #[.string x.1, .string x.2]]
theorem Qbi (M : List Nat) (b0 b1 b2 : Nat) (lo hi : ByteArray) (r : Value) (t : Tr) (ht : TW t) (w : World) (hb : TaB b0 b1 b2 t r lo hi w) (hv : TV w (· ∉ M) t r) :
  Itr 113 #[.pointer (some ⟨b0, 0, none⟩), .pointer (some ⟨b1, 0, none⟩), .pointer (some ⟨b2, 0, none⟩)] encP (fun x _ => okp x) M (fun ys => ys = flt lo hi (y7 t)) (fun pre => pre <+: flt lo hi (y7 t)) (flt lo hi (y7 t)).length w := by
 intro l J Jx W kW hJ hJx hY h0
 refine (Qbh l M b0 b1 b2 lo hi r t J Jx (fun pre A B h k => hJ _ _ _ h (Gr.of k)) ?_ ht W (hb.k kW) (hv.k kW) h0).mono ?_
 ·intro m pre x A hA hok hlen
  refine YieldAt.mono (hY m pre x A hA hok hlen) ?_
  rintro e B (⟨h1, h2, h3, _⟩ | ⟨h1, h2, _⟩)
  ·exact Or.inl ⟨h1, h2, h3⟩
  ·exact Or.inr ⟨h1, h2⟩
 ·rintro e B ⟨h1, h2 | ⟨q, h2, h3⟩⟩
  ·exact ⟨h1, Or.inl ⟨_, rfl, h2⟩⟩
  ·exact ⟨h1, Or.inr ⟨q, h2, h3⟩⟩
theorem Qbj (t : Tr) (r : Value) (lo hi : ByteArray) (w : World) : Calls prog 87 #[.agg #[.string ⟨#[]⟩, .int .i64 t.pl, r], .string lo, .string hi] w fun e w' => e = .returned (.func (.func 113) #[] #[.pointer (some ⟨w.heap.size, 0, none⟩), .pointer (some ⟨w.heap.size + 1, 0, none⟩), .pointer (some ⟨w.heap.size + 1 + 1, 0, none⟩)]) /\ TaB w.heap.size (w.heap.size + 1) (w.heap.size + 1 + 1) t r lo hi w' /\ w'.heap.size = w.heap.size + 3 /\ y5 [] w w' := by
 have hmf := jb
 go_enter func87, ntmps87
 go_wp2
 go_ret
 refine ⟨rfl, ⟨?_, ?_, ?_⟩, by simp, (((y5.refl _ _).alloc _).alloc _).alloc _⟩
 ·exact (((y5.refl [] _).alloc _).alloc _).get (heap_alloc_new _ _) (by simp)
 ·have := heap_alloc_new (w.alloc (.cells #[.string ⟨#[]⟩, .int .i64 t.pl, r] 77)) (.cells #[.string lo] 9)
  rw [World.size_alloc] at this
  exact ((y5.refl [] _).alloc _).get this (by simp)
 ·have := heap_alloc_new ((w.alloc (.cells #[.string ⟨#[]⟩, .int .i64 t.pl, r] 77)).alloc (.cells #[.string lo] 9)) (.cells #[.string hi] 9)
  rwa [World.size_alloc, World.size_alloc] at this
theorem QS (b0 b1 x v a n : Nat) (c : Hd) (r : Value) (t : Tr) (w : World) (hb : w.heap[b0]? = some (.cells #[.pointer (some ⟨x, 0, none⟩)] 24 (0, 0))) (h : Rec x v a n c r t w) :
  Calls prog 86 #[.pointer (some ⟨b0, 0, none⟩), .pointer (some ⟨b1, 0, none⟩)] w fun e w' => e = .returned (.bool false) /\ y5 [] w w' := by
 have c0 : w.cell? ⟨b0, 0, none⟩ = some (.pointer (some ⟨x, 0, none⟩)) := y6 hb rfl
 have hmf := jb
 have HC : Hid (∀ b, Calls prog 32 #[.string b, .func (.func 48) #[.pointer (some ⟨x, 0, none⟩)] #[]] w fun e w' => e = .returned .nilIface /\ Q6S w' /\ y5 [] w w') := fun b =>
  Q6t b 48 _ (fun _ _ => by kernel_rfl) [] Q6S w (by simp) (fun _ _ _ _ _ _ => trivial) fun W kW _ => (jO x v c t r W h.st.1 (h.k kW).row).mono fun e w' h => ⟨h.1, trivial, h.2⟩
 clear h
 go_enter func86, ntmps86
 go_wp2_with (first | (go_at_call 32; refine (HC.out _).mono ?_; rintro e w1 ⟨rfl, _, hk1⟩))
 go_ret
 exact ⟨rfl, hk1⟩
theorem Qbk (x : Nat) (lo hi : ByteArray) (w : World) : Calls prog 51 #[.pointer (some ⟨x, 0, none⟩), .string lo, .string hi] w fun e w' => e = .returned (.func (.func 85) #[] #[.pointer (some ⟨w.heap.size, 0, none⟩), .pointer (some ⟨w.heap.size + 1, 0, none⟩), .pointer (some ⟨w.heap.size + 1 + 1, 0, none⟩)]) /\ Bx3 w.heap.size (w.heap.size + 1) (w.heap.size + 1 + 1) x lo hi w' /\ w'.heap.size = w.heap.size + 3 /\ y5 [] w w' := by
 have hmf := jb
 go_enter func51, ntmps51
 go_wp2
 go_ret
 exact ⟨rfl, Q8o w x lo hi, by simp, (((y5.refl _ _).alloc _).alloc _).alloc _⟩
end Go.Proofs.YtcklgafpgdhnaabGreatDoor
