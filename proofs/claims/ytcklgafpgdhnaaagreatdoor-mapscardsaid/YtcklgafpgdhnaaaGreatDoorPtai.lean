import Derived.Test.YtcklgafpgdhnaaaGreatDoorPtae
import Derived.Test.YtcklgafpgdhnaaaGreatDoorPtah
set_option maxRecDepth 100000
set_option maxHeartbeats 4000000
open List renaming getElem_toArray → zA, getElem_cons_succ → zB, getElem_cons_zero → zC, setIfInBounds_toArray → zD, set_cons_succ → zE, set_cons_zero → zF
namespace Go.Proofs.YtcklgafpgdhnaaaGreatDoor
open Go.RowKit

def ldl (a : Nat) (n : Int) (may were s : Value) : List Value := [.pointer (some ⟨a, 0, none⟩), .int .i64 n, may, .bool false, were, .bool false, .bool false, s]
def LD (w : World) (q a : Nat) (n : Int) (may were s : Value) : Prop := w.heap[q]? = some (.cells (ldl a n may were s).toArray 154 (0, 0))

theorem LD.load {w : World} {q a : Nat} {n : Int} {may were s : Value} (h : LD w q a n may were s) : (loadVar 151 ⟨q, 1, none⟩).run Tryz.prog w = .ok (.agg (rcells n may false were false false)) w := by
 refine run_loadVar_seg (P := Tryz.prog) w q 1 154 151 (ldl a n may were s) [.int .i64 n, may, .bool false, were, .bool false, .bool false] (0, 0) _ h Tryz.underlying151 rfl srd ?_
 intro j v hv
 rw [List.getElem?_eq_some_iff] at hv
 obtain ⟨hj, rfl⟩ := hv
 simp at hj
 rcases j with _ | _ | _ | _ | _ | _ | j <;> first | rfl | omega

structure Sx where
 x : Nat
 a : Nat
 g : Nat
 n : Nat
 fp : List Nat
 cl : Bool
 l : List Pr
 mo : Nat

def Tl (w : World) (err : Value) (x : Int) : Prop := ∀ W, Kept [] w W → Glob W → Calls Tryz.prog 131 #[err] W fun e w' => e = .returned (.int .i64 x) ∧ Kept [] W w'

theorem Tl.nil (w : World) : Tl w .nilIface 0 := by
 intro W _ _
 exact (PTold_nil W).mono fun _ _ h => ⟨h.1, by rw [h.2]; exact Kept.refl _ _⟩
theorem Tl.chain {w : World} {err : Value} {x : Int} (h : Chain w err x) : Tl w err x := by
 intro W hk hG
 refine PTold_chain err x W hG ?_
 obtain ⟨f1, f2, o1, o2, rfl, h1, h2⟩ := h.ex
 exact ⟨f1, f2, o1, o2, rfl, hk.get h1 (by simp), hk.get h2 (by simp)⟩
theorem Tl.kept {w w' : World} {err : Value} {x : Int} (h : Tl w err x) (k : Kept [] w w') : Tl w' err x := fun W hk hG => h W (k.trans hk) hG

def lawTags : List TypeId := [195, 28, 41, 224, 189, 154, 104, 3, 148, 91, 92, 64]

def LT (w : World) (y : Nat) : Prop := ∃ cs t fr, w.heap[y]? = some (.cells cs t fr) ∧ t ∈ lawTags

def AftS (SI : World → Sx → Prop) (s s' : Sx) (L : List UInt8) (wr t : Int) (w w' : World) : Prop :=
 s'.x = s.x ∧ s'.a = s.a ∧ s'.g = s.g ∧ s'.n = s.n ∧ s'.mo = max s.mo s'.l.length ∧ (∃ c, Dev w' s.a s.g s.n L c wr t) ∧ SI w' s' ∧ Kept (s.a :: s.fp) w w' ∧ (∀ y ∈ s'.fp, y ∈ s.fp ∨ w.heap.size ≤ y)


structure Iface where
 SI : World → Sx → Prop
 DS : Nat → List UInt8 → Prop
 ds0 : ∀ n, DS 0 (List.replicate (n * 128) 0)
 fmt : ∀ (w : World) (a g n k : Nat) (L : List UInt8) (c wr t : Int), Dev w a g n L c wr t → 8 ≤ n → n ≤ 400 → k ≤ 50000 → DS k L → Calls Tryz.prog 33 #[.pointer (some ⟨a, 0, none⟩)] w fun e w' =>
  e = .returned .nilIface ∧ (∃ L' c' wr', Dev w' a g n L' c' wr' t ∧ DS (k + 1) L') ∧ Kept [a, g] w w'
 fmtNo : ∀ (w : World) (a g n : Nat) (L : List UInt8) (c wr t : Int), Dev w a g n L c wr t → (n < 8 ∨ 400 < n) → Calls Tryz.prog 33 #[.pointer (some ⟨a, 0, none⟩)] w fun e w' => ∃ err, e = .returned err ∧ Tl w' err 8 ∧ Kept [] w w'
 opn : ∀ (w : World) (a g n k : Nat) (L : List UInt8) (c wr t : Int), Dev w a g n L c wr t → 8 ≤ n → n ≤ 400 → 0 < k → k ≤ 50000 → DS k L → Calls Tryz.prog 34 #[.pointer (some ⟨a, 0, none⟩)] w fun e w' =>
  ∃ s : Sx, e = .returned (.tuple #[.pointer (some ⟨s.x, 0, none⟩), .nilIface]) ∧ SI w' s ∧ s.a = a ∧ s.g = g ∧ s.n = n ∧ s.cl = false ∧ s.l = [] ∧ s.mo = 0 ∧ (∀ y ∈ s.fp, w.heap.size ≤ y) ∧ (∃ c', Dev w' a g n L c' wr t) ∧ Kept [a] w w'
 opnNone : ∀ (w : World) (a g n : Nat) (L : List UInt8) (c wr t : Int), Dev w a g n L c wr t → 8 ≤ n → n ≤ 400 → DS 0 L → Calls Tryz.prog 34 #[.pointer (some ⟨a, 0, none⟩)] w fun e w' =>
  ∃ err, e = .returned (.tuple #[.pointer none, err]) ∧ Tl w' err 7 ∧ (∃ c', Dev w' a g n L c' wr t) ∧ Kept [a] w w'
 opnNo : ∀ (w : World) (a g n : Nat) (L : List UInt8) (c wr t : Int), Dev w a g n L c wr t → (n < 8 ∨ 400 < n) → Calls Tryz.prog 34 #[.pointer (some ⟨a, 0, none⟩)] w fun e w' =>
  ∃ err, e = .returned (.tuple #[.pointer none, err]) ∧ Tl w' err 8 ∧ Kept [] w w'
 kept : ∀ {w w' : World} {s : Sx} {S : List Nat}, SI w s → Kept S w w' → (∀ y ∈ S, y ∉ s.fp) → (∀ y ∈ S, LT w y ∨ ∃ s', SI w s' ∧ y ∈ s'.fp) → SI w' s
 fp : ∀ {w : World} {s : Sx}, SI w s → ∀ y ∈ s.fp, ∃ o, w.heap[y]? = some o ∧ ∀ cs t fr, o = .cells cs t fr → t ∉ lawTags
 get : ∀ (w : World) (s : Sx) (L : List UInt8) (c wr t : Int) (k : ByteArray), SI w s → Dev w s.a s.g s.n L c wr t → Calls Tryz.prog 20 #[.pointer (some ⟨s.x, 0, none⟩), .string k] w fun e w' =>
  ∃ s' v b err, e = .returned (.tuple #[.string v, .bool b, err]) ∧ AftS SI s s' L wr t w w' ∧ s'.cl = s.cl ∧ s'.l = s.l ∧
   (if s.cl then Tl w' err 5 ∧ v = ⟨#[]⟩ ∧ b = false else if ¬ keyOk k then Tl w' err 1 ∧ v = ⟨#[]⟩ ∧ b = false else err = .nilIface ∧ v = (getL k s.l).getD ⟨#[]⟩ ∧ b = (getL k s.l).isSome)
 scan : ∀ (w : World) (s : Sx) (L : List UInt8) (c wr t : Int) (lo hi : ByteArray) (m : Int), SI w s → Dev w s.a s.g s.n L c wr t → Calls Tryz.prog 19 #[.pointer (some ⟨s.x, 0, none⟩), .string lo, .string hi, .int .i64 m] w fun e w' =>
  ∃ s' v err, e = .returned (.tuple #[v, err]) ∧ AftS SI s s' L wr t w w' ∧ s'.cl = s.cl ∧ s'.l = s.l ∧
   (if s.cl then Tl w' err 5 ∧ v = .slice none 0 0 else err = .nilIface ∧ PL w' 41 v (scanL lo hi (mst m) s.l) ∧ ∀ y, v.ownBlock = some y → w.heap.size ≤ y)
 put : ∀ (w : World) (s : Sx) (L : List UInt8) (c wr t : Int) (k v : ByteArray), SI w s → Dev w s.a s.g s.n L c wr t → Calls Tryz.prog 36 #[.pointer (some ⟨s.x, 0, none⟩), .string k, .string v] w fun e w' =>
  ∃ s' err x, e = .returned err ∧ AftS SI s s' L wr t w w' ∧ s'.cl = s.cl ∧ Tl w' err x ∧
   (if chg s.cl false k v ≠ 0 then x = chg s.cl false k v ∧ s'.l = s.l else (x = 0 ∧ s'.l = withL k v s.l) ∨ (x = 3 ∧ s'.l = s.l ∧ ¬ roomy s.n s.mo (withL k v s.l).length))
 del : ∀ (w : World) (s : Sx) (L : List UInt8) (c wr t : Int) (k : ByteArray), SI w s → Dev w s.a s.g s.n L c wr t → Calls Tryz.prog 22 #[.pointer (some ⟨s.x, 0, none⟩), .string k] w fun e w' =>
  ∃ s' err, e = .returned err ∧ AftS SI s s' L wr t w w' ∧ s'.cl = s.cl ∧
   (if chg s.cl false k ⟨#[]⟩ ≠ 0 then Tl w' err (chg s.cl false k ⟨#[]⟩) ∧ s'.l = s.l else Tl w' err 0 ∧ s'.l = withoutL k s.l)
 close : ∀ (w : World) (s : Sx) (L : List UInt8) (c wr t : Int), SI w s → Dev w s.a s.g s.n L c wr t → Calls Tryz.prog 147 #[.pointer (some ⟨s.x, 0, none⟩)] w fun e w' =>
  ∃ s' err, e = .returned err ∧ AftS SI s s' L wr t w w' ∧ s'.cl = true ∧ s'.l = s.l ∧ (if s.cl then Tl w' err 5 else Tl w' err 0)

structure Ox where
 b : Nat
 vl : Value
 lv : Value
 wv : Value
 ch : Nat
 xs : List HLd

structure OI (w : World) (s : Sx) (o : Ox) : Prop where
 r : OR w o.b (some ⟨s.x, 0, none⟩) o.vl false s.cl s.mo o.ch o.lv o.wv
 v : PL w 224 o.vl s.l
 h : HL w o.lv o.wv o.xs
 m : s.l.length ≤ s.mo

end Go.Proofs.YtcklgafpgdhnaaaGreatDoor

namespace Go.Proofs.YtcklgafpgdhnaaaGreatDoor
open Go.RowKit

theorem Glob.ne {w : World} {b : Nat} {cs : Array Value} {t : TypeId} {fr : Nat × Nat} (hg : Glob w) (h : w.heap[b]? = some (.cells cs t fr)) (hc : ∀ v, cs[0]? = some v → ∀ i u, v ≠ .iface i u) : b ≠ 1 := by
 intro e
 subst e
 unfold Glob at hg
 rw [cell_of_row _ _ _ _ _ _ h] at hg
 exact hc _ hg _ _ rfl

theorem Glob.ld {w : World} {q a : Nat} {n : Int} {may were s : Value} (hg : Glob w) (h : LD w q a n may were s) : q ≠ 1 := by
 refine hg.ne h ?_
 intro v hv i u e
 subst e
 simp [ldl] at hv
theorem Glob.dev {w : World} {a g n : Nat} {L : List UInt8} {c wr t : Int} (hg : Glob w) (h : Dev w a g n L c wr t) : a ≠ 1 ∧ g ≠ 1 := by
 constructor
 ·refine hg.ne h.d ?_
  intro v hv i u e
  subst e
  simp [dcells] at hv
 ·refine hg.ne h.b ?_
  intro v hv i u e
  subst e
  simp [u8s] at hv

theorem OR.ne {w : World} {b : Nat} {px : Option Addr} {vl : Value} {f c : Bool} {mo ch : Int} {lv wv : Value} (h : OR w b px vl f c mo ch lv wv) {y : Nat} {cs : Array Value} {t : TypeId} {fr : Nat × Nat} (hy : w.heap[y]? = some (.cells cs t fr)) (ht : t ≠ 195) : b ≠ y := ne_tag h hy (Ne.symm ht)

theorem Iface.ne (I : Iface) {w : World} {s : Sx} (h : I.SI w s) {y : Nat} (hy : LT w y) : y ∉ s.fp := by
 intro hx
 obtain ⟨o, ho, hn⟩ := I.fp h y hx
 obtain ⟨cs, t, fr, hc, ht⟩ := hy
 rw [ho] at hc
 cases hc
 exact hn _ _ _ rfl ht

theorem LT.of {w : World} {y : Nat} {cs : Array Value} {t : TypeId} {fr : Nat × Nat} (h : w.heap[y]? = some (.cells cs t fr)) (ht : t ∈ lawTags) : LT w y := ⟨cs, t, fr, h, ht⟩

theorem LT.row {w : World} {base e n k : Nat} {v : Value} {xs : List Value} (h : w.ownsRow base e k v n xs) (he : e ∈ lawTags) {g : Nat} (hg : v.ownBlock = some g) : LT w g := by
 obtain ⟨cs, fr, hh⟩ := owns_tag h hg
 exact ⟨cs, e, fr, hh, he⟩

theorem LT.ne_a {w : World} {y a : Nat} {cs ds : Array Value} {t : TypeId} {fr fr' : Nat × Nat} (h : w.heap[y]? = some (.cells cs t fr)) (ha : w.heap[a]? = some (.cells ds 91 fr')) (ht : t ≠ 91) : y ≠ a := ne_tag h ha ht

theorem OI.aft (I : Iface) {w w' : World} {s : Sx} {o : Ox} {L : List UInt8} {c wr t : Int} (h : OI w s o) (hs : I.SI w s) (hd : Dev w s.a s.g s.n L c wr t) (k : Kept (s.a :: s.fp) w w') :
  OR w' o.b (some ⟨s.x, 0, none⟩) o.vl false s.cl s.mo o.ch o.lv o.wv ∧ PL w' 224 o.vl s.l ∧ HL w' o.lv o.wv o.xs := by
 have nt : ∀ {y : Nat} {cs : Array Value} {t : TypeId} {fr : Nat × Nat}, w.heap[y]? = some (.cells cs t fr) → t ∈ lawTags → t ≠ 91 → y ∉ s.a :: s.fp := by
  intro y cs t fr hy ht hn hx
  rcases List.mem_cons.1 hx with rfl | hx
  ·exact ne_tag hy hd.d hn rfl
  ·exact I.ne hs ⟨cs, t, fr, hy, ht⟩ hx
 have rows : ∀ {base e n k : Nat} {v : Value} {xs : List Value}, w.ownsRow base e k v n xs → e ∈ lawTags → e ≠ 91 → ∀ g, v.ownBlock = some g → g ∉ s.a :: s.fp := by
  intro base e n k v xs hr he hn g hg
  obtain ⟨cs, fr, hh⟩ := owns_tag hr hg
  exact nt hh he hn
 refine ⟨k.get h.r (nt h.r (by decide) (by decide)), h.v.kept k (rows h.v (by decide) (by decide)), h.h.kept k (rows h.h.lists (by decide) (by decide)) (rows h.h.want (by decide) (by decide)) ?_⟩
 intro x hx
 obtain ⟨a1, a2, _⟩ := h.h.all x hx
 exact ⟨rows a1 (by decide) (by decide), rows a2 (by decide) (by decide)⟩

def DiskR (I : Iface) (s : Sx) (o : Ox) (w : World) (q : Nat) (n : Int) (may were : Value) (L : List UInt8) (wr t : Int) (e : Ending) (w' : World) : Prop :=
 e = .returned (.bool true) ∧ ∃ s' o', o'.b = o.b ∧ s'.x = s.x ∧ s'.a = s.a ∧ s'.g = s.g ∧ s'.n = s.n ∧ LD w' q s.a n may were (.pointer (some ⟨o.b, 0, none⟩)) ∧ (∃ c, Dev w' s.a s.g s.n L c wr t) ∧ I.SI w' s' ∧ OI w' s' o' ∧
  (∀ y ∈ s'.fp, y ∈ s.fp ∨ w.heap.size ≤ y) ∧ (∀ y, o'.lv.ownBlock = some y → o.lv.ownBlock = some y ∨ w.heap.size ≤ y) ∧ (∀ y, o'.wv.ownBlock = some y → o.wv.ownBlock = some y ∨ w.heap.size ≤ y) ∧
  o'.xs.length ≤ o.xs.length + 2 ∧ s'.mo ≤ s.mo + 1 ∧ o'.ch ≤ o.ch + 1 ∧
  Kept (o.b :: s.a :: (s.fp ++ o.lv.ownBlock.toList ++ o.wv.ownBlock.toList)) w w'

end Go.Proofs.YtcklgafpgdhnaaaGreatDoor

namespace Go.Proofs.YtcklgafpgdhnaaaGreatDoor
open Go.RowKit

theorem OR.map {w : World} {b : Nat} {px : Option Addr} {vl : Value} {f c : Bool} {mo ch : Int} {lv wv : Value} (h : OR w b px vl f c mo ch lv wv) : (loadVar 189 ⟨b, 1, none⟩).run Tryz.prog w = .ok (.agg #[vl]) w := by
 refine run_loadVar_seg (P := Tryz.prog) w b 1 195 189 (opnc px vl f c mo ch lv wv).toList [vl] (0, 0) _ (by simpa [OR] using h) Tryz.underlying189 rfl smap ?_
 intro j v hv
 rcases j with _ | j
 ·simp at hv; subst hv; rfl
 ·simp at hv

theorem sstore : (Tryz.prog.info? 192).map (·.size) = some 5 := by kernel_rfl
theorem OR.store {w : World} {b : Nat} {px : Option Addr} {vl : Value} {f c : Bool} {mo ch : Int} {lv wv : Value} (h : OR w b px vl f c mo ch lv wv) : (loadVar 192 ⟨b, 1, none⟩).run Tryz.prog w = .ok (.agg (scells vl f c mo ch)) w := by
 refine run_loadVar_seg (P := Tryz.prog) w b 1 195 192 (opnc px vl f c mo ch lv wv).toList [vl, .bool f, .bool c, .int .i64 mo, .int .i64 ch] (0, 0) _ (by simpa [OR] using h) Tryz.underlying192 rfl sstore ?_
 intro j v hv
 rw [List.getElem?_eq_some_iff] at hv
 obtain ⟨hj, rfl⟩ := hv
 simp at hj
 rcases j with _ | _ | _ | _ | _ | j <;> first | rfl | omega

theorem DiskR.same (I : Iface) {s s' : Sx} {o : Ox} {w w2 w' : World} {q : Nat} {n : Int} {may were : Value} {L : List UInt8} {c wr t : Int} (hq : LD w q s.a n may were (.pointer (some ⟨o.b, 0, none⟩))) (hd : Dev w s.a s.g s.n L c wr t) (hs : I.SI w s) (ho : OI w s o)
  (ha : AftS I.SI s s' L wr t w w2) (hcl : s'.cl = s.cl) (hl : s'.l = s.l) (hk : Kept [] w2 w') : DiskR I s o w q n may were L wr t (.returned (.bool true)) w' := by
 obtain ⟨e1, e2, e3, e4, e5, ⟨c', hd'⟩, hs', k2, hf⟩ := ha
 obtain ⟨r1, r2, r3⟩ := ho.aft I hs hd k2
 have hmo : s'.mo = s.mo := by rw [e5, hl]; exact Nat.max_eq_left ho.m
 have nq : q ∉ s.a :: s.fp := by
  intro hx
  rcases List.mem_cons.1 hx with rfl | hx
  ·exact ne_tag hq hd.d (by decide) rfl
  ·exact I.ne hs ⟨_, _, _, hq, by decide⟩ hx
 refine ⟨rfl, s', o, rfl, e1, e2, e3, e4, (k2.get hq nq |> fun h => hk.get h (by simp)), ⟨c', hd'.kept hk (by simp) (by simp)⟩, I.kept hs' hk (by simp) (by simp), ⟨?_, ?_, r3.fresh hk, ?_⟩, ?_, fun y hy => Or.inl hy, fun y hy => Or.inl hy, by omega, by omega, by omega, ?_⟩
 ·rw [e1, hcl, hmo]; exact hk.get r1 (by simp)
 ·rw [hl]; exact r2.kept hk (by simp)
 ·rw [hl, hmo]; exact ho.m
 ·exact hf
 ·refine (k2.mono ?_).trans (hk.mono (by simp))
  intro x hx
  rcases List.mem_cons.1 hx with rfl | hx
  ·exact List.mem_cons_of_mem _ List.mem_cons_self
  ·exact List.mem_cons_of_mem _ (List.mem_cons_of_mem _ (List.mem_append_left _ (List.mem_append_left _ hx)))

theorem got_any (I : Iface) (s : Sx) (o : Ox) (q : Nat) (n : Int) (may were : Value) (L : List UInt8) (c wr t : Int) (k : ByteArray) (w : World) (hG : Glob w) (hgf : 1 ∉ s.fp) (hq : LD w q s.a n may were (.pointer (some ⟨o.b, 0, none⟩))) (hd : Dev w s.a s.g s.n L c wr t) (hs : I.SI w s) (ho : OI w s o) (hl : s.l.length ≤ 40000) :
  Calls Tryz.prog 101 #[.pointer (some ⟨q, 0, none⟩), .string k] w (DiskR I s o w q n may were L wr t) := by
 have cq0 : w.cell? ⟨q, 0, none⟩ = some (.pointer (some ⟨s.a, 0, none⟩)) := cellAt hq rfl
 have cq7 : w.cell? ⟨q, 7, none⟩ = some (.pointer (some ⟨o.b, 0, none⟩)) := cellAt hq rfl
 have cb0 : w.cell? ⟨o.b, 0, none⟩ = some (.pointer (some ⟨s.x, 0, none⟩)) := cellAt ho.r rfl
 have HT : Hid (Calls _ _ _ _ _) := DTold_o s.a _ _ _ c wr t w hd.d
 have HGt : Hid (Calls _ _ _ _ _) := I.get w s L c wr t k hs hd
 have hga := (hG.dev hd).1
 cases hcl : s.cl with
 | true =>
  go_enter Tryz.func101, Tryz.ntmps101
  go_wp2_with (first
   | (go_at_call 130; refine HT.out.mono ?_; rintro e w' ⟨rfl, rfl⟩)
   | (go_at_call 20; refine HGt.out.mono ?_; rintro e w2 ⟨s', v, bb, err, rfl, haft, hc2, hl2, hres⟩; simp only [hcl, if_true] at hres; obtain ⟨htl, rfl, rfl⟩ := hres; have k2 := haft.2.2.2.2.2.2.2.1; obtain ⟨r1, r2, r3⟩ := ho.aft I hs hd k2; have hG2 := hG.kept k2 (by simp; exact ⟨hga.symm, hgf⟩))
   | (go_at_call 131; refine (htl _ (Kept.refl _ _) hG2).mono ?_; rintro e w3 ⟨rfl, hk3⟩; have r13 : OR w3 o.b (some ⟨s.x, 0, none⟩) o.vl false s.cl s.mo o.ch o.lv o.wv := hk3.get r1 (by simp); have hm3 := r13.map; have v3 := r2.kept hk3 (by simp))
   | (go_at_call 141; refine (RKey_any _ _).mono ?_; rintro e w' ⟨rfl, rfl⟩)
   | (refine wpList_load_seg rfl 189 (.tmp 41) rfl ⟨o.b, 1, none⟩ rfl _ hm3 ?_)
   | (go_at_call 142; refine (RGet_any o.vl s.l k _ v3 (by omega)).mono ?_; rintro e w4 ⟨rfl, hk4⟩; have r14 : OR w4 o.b (some ⟨s.x, 0, none⟩) o.vl false s.cl s.mo o.ch o.lv o.wv := hk4.get r13 (by simp); have c43 : w4.cell? ⟨o.b, 3, none⟩ = some (.bool true) := (by have := cellAt (j := 3) r14 rfl; rw [hcl] at this; exact this))
   | (go_at_call 133; refine (num_any _ _).mono ?_; rintro e w' ⟨rfl, rfl⟩))
  go_ret
  exact DiskR.same I hq hd hs ho haft hc2 hl2 (hk3.trans hk4)
 | false =>
  by_cases hk : keyOk k
  ·have dk : decide (1 ≤ k.size ∧ k.size ≤ 8) = true := by simpa [keyOk] using hk
   have htl := fun W => Tl.nil W W (Kept.refl _ _)
   go_enter Tryz.func101, Tryz.ntmps101
   go_wp2_with (first
   | (go_at_call 130; refine HT.out.mono ?_; rintro e w' ⟨rfl, rfl⟩)
   | (go_at_call 20; refine HGt.out.mono ?_; rintro e w2 ⟨s', v, bb, err, rfl, haft, hc2, hl2, hres⟩; simp only [hcl, Bool.false_eq_true, if_false, hk, not_true] at hres; obtain ⟨rfl, rfl, rfl⟩ := hres; have k2 := haft.2.2.2.2.2.2.2.1; obtain ⟨r1, r2, r3⟩ := ho.aft I hs hd k2; have hG2 := hG.kept k2 (by simp; exact ⟨hga.symm, hgf⟩))
   | (go_at_call 131; refine (htl _ hG2).mono ?_; rintro e w3 ⟨rfl, hk3⟩; have r13 : OR w3 o.b (some ⟨s.x, 0, none⟩) o.vl false s.cl s.mo o.ch o.lv o.wv := hk3.get r1 (by simp); have hm3 := r13.map; have v3 := r2.kept hk3 (by simp))
   | (go_at_call 141; refine (RKey_any _ _).mono ?_; rintro e w' ⟨rfl, rfl⟩; rw [dk])
   | (refine wpList_load_seg rfl 189 (.tmp 41) rfl ⟨o.b, 1, none⟩ rfl _ hm3 ?_)
   | (go_at_call 142; refine (RGet_any o.vl s.l k _ v3 (by omega)).mono ?_; rintro e w4 ⟨rfl, hk4⟩; have r14 : OR w4 o.b (some ⟨s.x, 0, none⟩) o.vl false s.cl s.mo o.ch o.lv o.wv := hk4.get r13 (by simp); have c43 : w4.cell? ⟨o.b, 3, none⟩ = some (.bool false) := (by have := cellAt (j := 3) r14 rfl; rw [hcl] at this; exact this))
   | (go_at_call 133; refine (num_any _ _).mono ?_; rintro e w' ⟨rfl, rfl⟩))
   go_ret
   exact DiskR.same I hq hd hs ho haft hc2 hl2 (hk3.trans hk4)
  ·have dk : decide (1 ≤ k.size ∧ k.size ≤ 8) = false := by simpa [keyOk] using hk
   go_enter Tryz.func101, Tryz.ntmps101
   go_wp2_with (first
   | (go_at_call 130; refine HT.out.mono ?_; rintro e w' ⟨rfl, rfl⟩)
   | (go_at_call 20; refine HGt.out.mono ?_; rintro e w2 ⟨s', v, bb, err, rfl, haft, hc2, hl2, hres⟩; simp only [hcl, Bool.false_eq_true, if_false, hk, not_false_eq_true, if_true] at hres; obtain ⟨htl, rfl, rfl⟩ := hres; have k2 := haft.2.2.2.2.2.2.2.1; obtain ⟨r1, r2, r3⟩ := ho.aft I hs hd k2; have hG2 := hG.kept k2 (by simp; exact ⟨hga.symm, hgf⟩))
   | (go_at_call 131; refine (htl _ (Kept.refl _ _) hG2).mono ?_; rintro e w3 ⟨rfl, hk3⟩; have r13 : OR w3 o.b (some ⟨s.x, 0, none⟩) o.vl false s.cl s.mo o.ch o.lv o.wv := hk3.get r1 (by simp); have hm3 := r13.map; have v3 := r2.kept hk3 (by simp))
   | (go_at_call 141; refine (RKey_any _ _).mono ?_; rintro e w' ⟨rfl, rfl⟩; rw [dk])
   | (refine wpList_load_seg rfl 189 (.tmp 41) rfl ⟨o.b, 1, none⟩ rfl _ hm3 ?_)
   | (go_at_call 142; refine (RGet_any o.vl s.l k _ v3 (by omega)).mono ?_; rintro e w4 ⟨rfl, hk4⟩; have r14 : OR w4 o.b (some ⟨s.x, 0, none⟩) o.vl false s.cl s.mo o.ch o.lv o.wv := hk4.get r13 (by simp); have c43 : w4.cell? ⟨o.b, 3, none⟩ = some (.bool false) := (by have := cellAt (j := 3) r14 rfl; rw [hcl] at this; exact this))
   | (go_at_call 133; refine (num_any _ _).mono ?_; rintro e w' ⟨rfl, rfl⟩))
   go_ret
   exact DiskR.same I hq hd hs ho haft hc2 hl2 (hk3.trans hk4)

end Go.Proofs.YtcklgafpgdhnaaaGreatDoor
