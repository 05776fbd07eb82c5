import Derived.Test.YtnofaofjgjgkgaaGreatDoorHeadA
import Derived.Deep.RegionWith
import Derived.Lib.BufferWrite
namespace Go.Proofs.YtnofaofjgjgkgaaGreatDoor
open Go.RowKit

theorem wpList_alloc_d {P : Program} {ops : Array Oper} {rest : List Oper} {o : Oper} {a : Act} {w : World} {Q : Exit → Act → World → Prop} (hgd : o.guard = none) (d : Tmp) (_hd : o.dst = some d) (t : TypeId) (ho : o.op = .alloc t) (cs : Array Value)
    (hz : (Instr.alloc t true (.tuple #[])).run P w = .ok (.pointer (some ⟨w.heap.size, 0, none⟩)) (w.alloc (.cells cs t)))
    (h : ∀ w', w'.heap[w.heap.size]? = some (.cells cs t (0, 0)) → Kept [] w w' → w'.heap.size = w.heap.size + 1 → wpList P ops Q rest (a.put o.dst (.pointer (some ⟨w.heap.size, 0, none⟩))) w') : wpList P ops Q (o :: rest) a w :=
  wpList_alloc_k hgd t ho cs hz h

theorem upon_copy_str {P : Program} {w : World} {o : Oper} {a : Act} {K : Act → World → Prop} {Q : Exit → Act → World → Prop} {ty : TypeId} (dT sT : TypeId) (elem : TypeId) (hu : P.underlying dT = some (.slice elem)) (hsz : (P.info? elem).map (·.size) = some 1)
    (g off dLen dCap : Nat) (S : List UInt8) (cur : List UInt8) (t : TypeId) (hg : w.heap[g]? = some (.cells (u8s cur).toArray t (0, 0))) (hle : S.length ≤ dLen) (hfit : off + S.length ≤ cur.length)
    (h : ∀ w', w'.heap[g]? = some (.cells (u8s (splice cur off S)).toArray t (0, 0)) → Kept [g] w w' → K (a.put o.dst (goInt S.length)) w') :
    Oper.upon P o a K Q ((Sem.run P (Builtin.copy_ #[dT, sT] ty #[.slice (some ⟨g, off, none⟩) dLen dCap, .string ⟨S.toArray⟩]) w).andThen fun a w' => Result.ok (Next.value a) w') := by
  have hss : (ByteArray.mk S.toArray).size = S.length := rfl
  rw [Lib.run_copy_row_string (P := P) w dT sT ty elem g off dLen dCap ⟨S.toArray⟩ (u8s cur).toArray t hu hsz hg (by rw [hss]; exact hle) (by rw [hss]; simpa [length_u8s] using hfit)]
  refine h _ ?_ ((Kept.refl _ _).setRow (Or.inl (by simp)) _)
  rw [setRow_heap w g _ _ t _ hg, ← u8s_splice]
  simp [splice, hss, Lib.byteCells, u8s]

theorem zsec (w : World) : (Instr.alloc 150 true (.tuple #[])).run Tryz.prog w = .ok (.pointer (some ⟨w.heap.size, 0, none⟩)) (w.alloc (.cells (u8s (List.replicate 32 0)).toArray 150)) := by kernel_rfl
theorem ssec : (Tryz.prog.info? 150).map (·.size) = some 32 := by kernel_rfl

def markL : List UInt8 := [115, 116, 111, 114, 101, 32, 49, 10]
def sec0 : List UInt8 := splice (List.replicate 32 0) 0 markL
def sec1 (t : Nat) : List UInt8 := splice sec0 8 (bytesOf t 8)
/-- a head's sector -/
def sec (t : Nat) : List UInt8 := splice (sec1 t) 28 (bytesOf (crc ((sec1 t).take 28)) 4)
theorem length_bytesOf (n k : Nat) : (bytesOf n k).length = k := by simp [bytesOf]
theorem length_sec0 : sec0.length = 32 := by decide
theorem length_sec1 (t : Nat) : (sec1 t).length = 32 := by rw [sec1, length_splice _ _ _ (by rw [length_bytesOf, length_sec0]; omega), length_sec0]
theorem length_sec (t : Nat) : (sec t).length = 32 := by rw [sec, length_splice _ _ _ (by rw [length_bytesOf, length_sec1]; omega), length_sec1]

theorem u8cells (L : List UInt8) (off : Nat) (n : Nat) : ∀ j (hj : j < ((L.drop off).take n).length), (u8s L).toArray[off + j]? = some (.int .u8 (((L.drop off).take n)[j].toNat : Int)) := by
  intro j hj
  simp only [List.getElem?_toArray, u8s_get]
  have h1 : j < n := by simp at hj; omega
  have h2 : off + j < L.length := by simp at hj; omega
  rw [List.getElem?_eq_getElem h2]
  simp

theorem sum_n (s off cap n m : Nat) (D : List UInt8) (t' : TypeId) (fr : Nat × Nat) (w : World) (h : w.heap[s]? = some (.cells (u8s D).toArray t' fr)) (hm : ((D.drop off).take m).length = n) (hn : n ≤ 1000) :
    Calls Tryz.prog 97 #[.slice (some ⟨s, off, none⟩) n cap] w fun e w' => e = .returned (.int .u32 (crc ((D.drop off).take m))) ∧ w' = w := by
  subst hm
  exact sum_any s off cap _ _ t' fr w h hn (u8cells D off m)
theorem number_n (s off cap n m : Nat) (D : List UInt8) (t' : TypeId) (fr : Nat × Nat) (w : World) (h : w.heap[s]? = some (.cells (u8s D).toArray t' fr)) (hm : ((D.drop off).take m).length = n) (hn : n ≤ 8) :
    Calls Tryz.prog 95 #[.slice (some ⟨s, off, none⟩) n cap] w fun e w' => e = .returned (.int .u64 (leNum ((D.drop off).take m))) ∧ w' = w := by
  subst hm
  exact number_any s off cap _ _ t' fr w h hn (u8cells D off m)

set_option maxRecDepth 100000 in
set_option maxHeartbeats 1000000 in
theorem sector_any (t : Nat) (w : World) (ht : (t : Int) < 9223372036854775807) :
    Calls Tryz.prog 86 #[.agg #[.int .u64 t]] w fun e w' => e = .returned (.agg (u8s (sec t)).toArray) ∧ Kept [] w w' := by
  go_enter Tryz.func86, Tryz.ntmps86
  go_wp2_with (first
    | (refine wpList_alloc_d rfl 2 rfl 150 rfl _ (zsec _) ?_; intro w2 hn2 hk2 hs2; have HS2 : Hid _ := hs2; clear hs2)
    | (refine wpList_alloc_d rfl 3 rfl 150 rfl _ (zsec _) ?_; intro w3 hn3 hk3 hs3; have HS3 : Hid _ := hs3; clear hs3)
    | (refine upon_copy_str 109 9 5 Tryz.underlying109 su8 w2.heap.size 0 32 32 markL (List.replicate 32 0) 150 hn3 (by decide) (by decide) ?_; intro w4 hn4 hk4))
  have hb0 : w4.heap[w.heap.size]? = some (.cells #[.int .u64 t] 119 (0, 0)) := by
    have h0 := hk3.get (hk2.get (heap_alloc_new w (.cells #[.int .u64 t] 119)) (by simp)) (by simp)
    exact hk4.get h0 (by have := HS2.out; simp at this ⊢; omega)
  have hz : w2.heap.size = w.heap.size + 1 + 1 := by have := HS2.out; simpa using this
  have HZ : Hid (w2.heap.size = w.heap.size + 1 + 1) := hz
  have hr : w4.heap[w.heap.size + 1]? = some (.cells (u8s (List.replicate 32 0)).toArray 150 (0, 0)) := by
    rw [World.size_alloc] at hn2
    exact hk4.get (hk3.get hn2 (by simp)) (by simp; omega)
  have c0 : w4.cell? ⟨w.heap.size, 0, none⟩ = some (.int .u64 t) := cellAt hb0 rfl
  have hk14 : Kept [] w w4 := by
    refine Kept.trans2 (Kept.trans (Kept.trans ((Kept.refl _ _).alloc _) hk2) hk3) hk4 ?_
    intro x hx; simp at hx; subst hx; exact Or.inr (by omega)
  have hn4' : w4.heap[w2.heap.size]? = some (.cells (u8s sec0).toArray 150 (0, 0)) := hn4
  clear hn4 hn3 hn2 hk2 hk3 hk4 hb0 hz
  go_region_with (go_at_call 96; refine (put_any w2.heap.size 8 8 24 sec0 t 150 _ (by exact hn4') (by omega) (by rw [length_sec0]; omega) (by omega)).mono ?_; rintro e w5 ⟨rfl, hn5, hk5⟩)
  have hn5' : w5.heap[w2.heap.size]? = some (.cells (u8s (sec1 t)).toArray 150 (0, 0)) := hn5
  have hr5 := hk5.get (w := w4.drew) hr (by have := HZ.out; simp; omega)
  have hk15 : Kept [] w w5 := hk14.drew.trans2 hk5 (by intro x hx; simp at hx; subst hx; have := HZ.out; exact Or.inr (by omega))
  have hcr := (crc_val ((sec1 t).take 28)).2
  have hcr' : ((crc ((sec1 t).take 28) : Nat) : Int) < 4294967296 := by omega
  have HSM : Hid (∀ W, W.heap[w2.heap.size]? = some (.cells (u8s (sec1 t)).toArray 150 (0, 0)) → Calls Tryz.prog 97 #[.slice (some ⟨w2.heap.size, 0, none⟩) 28 32] W fun e w' => e = .returned (.int .u32 (crc ((sec1 t).take 28))) ∧ w' = W) := by
    intro W hW
    have := sum_n w2.heap.size 0 32 28 28 (sec1 t) 150 (0, 0) W hW (by rw [List.drop_zero, List.length_take, length_sec1]; rfl) (by omega)
    rw [List.drop_zero] at this
    exact this
  clear hn5 hk5 hr hn4' c0 hk14 hcr
  generalize hcc : crc ((sec1 t).take 28) = cc at *
  have HCC : Hid (crc ((sec1 t).take 28) = cc) := hcc
  clear hcc
  have HW : Hid (IntKind.u64.wrap (cc : Int) = cc) := by show _ = _; rw [IntKind.wrap_u64]; omega
  go_wp2
  go_region_with (first
    | (go_at_call 97; refine (HSM.out _ (by exact hn5')).mono ?_; rintro e w' ⟨rfl, rfl⟩)
    | (go_at_call 96; rw [HW.out]; refine (put_any w2.heap.size 28 4 4 (sec1 t) cc 150 _ (by exact hn5') (by omega) (by rw [length_sec1]; omega) (by omega)).mono ?_; rintro e w6 ⟨rfl, hn6, hk6⟩))
  have hk16 : Kept [] w w6 := hk15.drew.trans2 hk6 (by intro x hx; simp at hx; subst hx; have := HZ.out; exact Or.inr (by omega))
  have hr6 := hk6.get (w := w5.drew) hr5 (by have := HZ.out; simp; omega)
  have hn6' : w6.heap[w2.heap.size]? = some (.cells (u8s (sec t)).toArray 150 (0, 0)) := by rw [sec, HCC.out]; exact hn6
  clear hn6 hn5' hr5 hk6 hk15 hcr' HSM
  go_wp2_with (first
    | (refine wpList_load_row rfl 150 (.tmp 3) rfl w2.heap.size rfl 150 (u8s (sec t)).toArray (0, 0) _ hn6' Tryz.underlying150 rfl (by rw [ssec]; simp [length_u8s, length_sec]) ?_)
    | (refine wpList_store_k rfl 150 (.tmp 2) (.tmp 15) rfl (w.heap.size + 1) (u8s (sec t)).toArray rfl rfl 150 _ hr6 (by rw [ssec]; simp [length_u8s, length_sec]) (by simp [length_u8s, length_sec]) (all_of (one_u8s _)) ?_; intro w7 hg7 hk7))
  refine bodyPost_ret (results_cell_row rfl _ w7 (w.heap.size + 1) 150 _ (0, 0) _ rfl hg7 Tryz.underlying150 rfl (by rw [ssec]; simp [length_u8s, length_sec])) rfl ?_
  exact ⟨rfl, hk16.trans2 hk7 (by intro x hx; simp at hx; subst hx; exact Or.inr (by omega))⟩

end Go.Proofs.YtnofaofjgjgkgaaGreatDoor
