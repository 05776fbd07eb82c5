import Derived.Test.YtcklgafpgdhnaaaGreatDoorPyao
set_option maxRecDepth 100000
set_option maxHeartbeats 4000000
set_option linter.unusedSimpArgs false
set_option linter.unusedVariables false
set_option linter.unusedSectionVars false
open Go.Proofs.Tryz
namespace Go.Proofs.YtcklgafpgdhnaaaGreatDoor
open Go.RowKit
theorem Q2V(v:Value)(w:World):(Instr.typeAssert (.iface 147 v) 20 147 true).run prog w=.ok (.tuple #[v,.bool true]) w:=by kernel_rfl
set_option maxRecDepth 10000 in
theorem Y7(f:Addr)(w:World):Calls prog 68 #[.iface 147 (.agg #[.iface 111 (.pointer (some f))])] w fun e w'=>e=.returned (.iface 111 (.pointer (some f)))/\y6 [] w w':=by
 have a:=Q2V;go_enter func68,ntmps68;go_wp2;go_ret;exact⟨rfl,(y6.refl _ _).alloc _⟩
theorem OE(p q:Addr)(w:World):
  CallsD prog 67 #[.pointer (some p),.pointer (some q)] .returning w fun e u' w'=>e=.returned (.tuple #[])/\u'=.returning/\w'=w:=by
 refine callsD_of_wpS func67 rfl fun a b hu=> ?_;apply wpS_seq;apply wpS_region;simp[wpOpsS,go_sem,recoverD,hu,ntmps67,Exit.thenS];rw[show #[Value.pointer (some p),Value.pointer (some q)]++((Array.replicate 10 undef).setIfInBounds 1 Value.nilIface).setIfInBounds 0 Value.nilIface=#[.pointer (some p),.pointer (some q),.nilIface,.nilIface,undef,undef,undef,undef,undef,undef,undef,undef]from rfl];refine wpS_of_wp ?_;go_wp2
 cases a
 simp_all[bodyPostS,results,Tryz.results67]
def Vl(x:Int)(q:Nat)(w w':World):Prop:=∃err,w'.heap[q]?=some (.cells #[err] 35 (0,0))/\gU w' err x/\y6 [q] w w'
theorem Q2Z{w w2:World}{q f:Nat}{o old:Value}{x:Int}{b:ByteArray}(hk2:y6 [] w.drew w2)(fY:w2.heap[q]?=some (.cells #[old] 35 (0,0)))
  (hf:w.heap[f]?=some (.cells #[o,.iface 100 (.int .i64 x)] 114 (0,0))):
  Vl x q w ((w2.setCell ⟨q,0,none⟩ (.iface 111 (.pointer (some ⟨w2.heap.size,0,none⟩)))).alloc (.cells #[.string b,.iface 111 (.pointer (some ⟨f,0,none⟩))] 114)):=by
 have h:y6 [] w w.drew:=(y6.refl _ _).drew;have d:=hk2.get (w:=w.drew) hf (by simp);have c:q≠f:=yP fY d (by decide);have e:y6 [q] w2 (w2.setCell ⟨q,0,none⟩ (.iface 111 (.pointer (some ⟨w2.heap.size,0,none⟩)))):=(y6.refl _ _).setCell (Or.inl (by simp)) _;have g:=yf (i:=0) (.iface 111 (.pointer (some ⟨w2.heap.size,0,none⟩))) fY;have a:=(y6.refl [] (w2.setCell ⟨q,0,none⟩ (.iface 111 (.pointer (some ⟨w2.heap.size,0,none⟩))))).alloc (.cells #[.string b,.iface 111 (.pointer (some ⟨f,0,none⟩))] 114);refine⟨.iface 111 (.pointer (some ⟨w2.heap.size,0,none⟩)),a.get g (by simp),⟨w2.heap.size,f,.string b,o,rfl,?_,a.get (e.get d (by simpa using c.symm)) (by simp)⟩,?_⟩
 ·have:=af (w2.setCell ⟨q,0,none⟩ (.iface 111 (.pointer (some ⟨w2.heap.size,0,none⟩)))) (.cells #[.string b,.iface 111 (.pointer (some ⟨f,0,none⟩))] 114)
  rwa[show(w2.setCell ⟨q,0,none⟩ (.iface 111 (.pointer (some ⟨w2.heap.size,0,none⟩)))).heap.size=w2.heap.size by simp]at this
 ·exact(((h.trans hk2).mono (by simp)).trans e).trans2 a (by simp)
theorem Zk(p q f:Nat)(o s old:Value)(x:Int)(w:World)(hp:w.heap[p]?=some (.cells #[s] 9 (0,0)))(hs:∃b,s=.string b)(hq:w.heap[q]?=some (.cells #[old] 35 (0,0)))
  (hf:w.heap[f]?=some (.cells #[o,.iface 100 (.int .i64 x)] 114 (0,0))):
  CallsD prog 67 #[.pointer (some ⟨p,0,none⟩),.pointer (some ⟨q,0,none⟩)] (.panicking [{v:=.iface 147 (.agg #[.iface 111 (.pointer (some ⟨f,0,none⟩))]),recovered:=false}]) w
   fun e u' w'=>e=.returned (.tuple #[])/\u'=.panicking [{v:=.iface 147 (.agg #[.iface 111 (.pointer (some ⟨f,0,none⟩))]),recovered:=true}]/\Vl x q w w':=by
 obtain⟨b,rfl⟩:=hs;refine callsD_of_wpS func67 rfl fun m l hu=> ?_;apply wpS_seq;apply wpS_region;simp[wpOpsS,go_sem,recoverD,hu,ntmps67,Exit.thenS];rw[show #[Value.pointer (some ⟨p,0,none⟩),Value.pointer (some ⟨q,0,none⟩)]++((Array.replicate 10 undef).setIfInBounds 1 (Value.iface 147 (.agg #[.iface 111 (.pointer (some ⟨f,0,none⟩))]))).setIfInBounds 0 (Value.iface 147 (.agg #[.iface 111 (.pointer (some ⟨f,0,none⟩))]))=#[.pointer (some ⟨p,0,none⟩),.pointer (some ⟨q,0,none⟩),.iface 147 (.agg #[.iface 111 (.pointer (some ⟨f,0,none⟩))]),.iface 147 (.agg #[.iface 111 (.pointer (some ⟨f,0,none⟩))]),undef,undef,undef,undef,undef,undef,undef,undef]from rfl];refine wpS_of_wp ?_;have k:w.cell? ⟨p,0,none⟩=some (.string b):=y7 hp rfl;go_wp2
 go_region_with (go_at_call 68;refine(Y7 _ _).mono ?_;rintro e d⟨rfl,a⟩;have g:d.cell? ⟨p,0,none⟩=some (.string b):=y7 (a.get (w:=w.drew) hp (by simp)) rfl;have c:=a.get (w:=w.drew) hq (by simp);have h:d.cell? ⟨q,0,none⟩=some old:=y7 c rfl;have i:d.frozen? ⟨q,0,none⟩=false:=ax _ _ _ _ _ c;have j:=yt c)
 all_goals exact⟨rfl,_,rfl,.tuple #[],results_none rfl _ _ _,rfl,rfl,Q2Z a c hf⟩
end Go.Proofs.YtcklgafpgdhnaaaGreatDoor
