import Derived.Test.YtcklgafpgdhnaaaGreatDoorPyaa
set_option maxRecDepth 100000
set_option maxHeartbeats 4000000
set_option linter.unusedSimpArgs false
set_option linter.unusedVariables false
set_option linter.unusedSectionVars false
namespace Go.Proofs.YtcklgafpgdhnaaaGreatDoor
open Go.RowKit
variable {listed:Array Bool}{w:World}
variable {i:Nat}{oi:Oper}{v:Value}
section
variable {P:Program} {ops:Array Oper} {Q:Exit->Act->World->Prop} {md:Region.Mode} {S:World->Prop} {k:Nat}
def jE(P:Program)(md:Region.Mode)(ops:Array Oper)(Q:Exit->Act->World->Prop)(S:World->Prop)(k:Nat):Nat->Array Bool->Act->World->Prop
 |0,listed,a,w=>Region.ready md ops listed= []/\Q .normal a w
 |fuel+1,listed,a,w=>
  (Region.ready md ops listed= []->Q .normal a w)/\
  ∀i∈Region.ready md ops listed,wpOp P ops Q i (fun a' w'=>(i≠k->S w')/\jE P md ops Q S k fuel (listed.setIfInBounds i true) a' w') a w
theorem W7:∀(fuel:Nat) (listed:Array Bool) (a:Act) (w:World),jE P md ops Q S k fuel listed a w->wpAny P md ops Q fuel listed a w
 |0,_,_,_,h=>h
 |fuel+1,_,_,_,h=>⟨h.1,fun i d=>wpOp_mono (fun b e c=>W7 fuel _ b e c.2) (h.2 i d)⟩
theorem YI{ok:Oper}(hi:ops[i]?=some oi)(hok:ops[k]?=some ok)(pN:∃e∈ok.after,Region.binds md e=true/\e.on=i)(xt:∀(j:Nat) (o:Oper) cs b,ops[j]?=some o->o.op≠ .select cs b)
  (hQ:∀c a w,Q (.panic c) (a.put oi.dst v) w->Q (.panic c) a w):
  ∀(fuel:Nat) (listed:Array Bool) (a:Act) (w:World),
   (∀j oj,ops[j]?=some oj->j≠i->listed.getD j true=false->(∀e∈oj.after,Region.binds md e=true->e.on≠i)->oi.apart ops oj=true)->
   i∈Region.ready md ops listed->YieldsIf P ops S oi v a->S w->
   jE P md ops Q S k fuel (listed.setIfInBounds i true) (a.put oi.dst v) w->jE P md ops Q S k (fuel+1) listed a w:=by
 intro fuel
 induction fuel with
 |zero=>
  intro listed a w _ l s m H;refine⟨fun h=>(by rw[h]at l;cases l),fun j r=> ?_⟩
  by_cases d:j=i
  ·subst d;exact s.wpOp hi m ⟨fun _=>m,H⟩
  ·have:=ready_mono r d;rw[H.1]at this
   cases this
 |succ fuel ih=>
  intro listed a w E l s m H;refine⟨fun h=>(by rw[h]at l;cases l),fun j r=> ?_⟩
  by_cases d:j=i
  ·subst d;exact s.wpOp hi m ⟨fun _=>m,H⟩
  ·have g:=H.2 j (ready_mono r d);obtain⟨F,oj,p,n⟩:=mem_ready.1 r;have G:∀e∈oj.after,Region.binds md e=true->e.on≠i:=fun e x u y=>by
    have g:=n e x u;have D:=(mem_ready.1 l).1;rw[y]at g;rcases bG i listed.size with t|t
    ·simp[t]at D g;rw[D]at g;cases g
    ·simp[Array.getElem?_eq_none t]at g
   have f:j≠k:=by
    intro e;subst e;rw[hok]at p
    cases p
    obtain⟨e,x,u,B⟩:=pN;exact G e x u B
   have J:=wpOp_putIf p (E j oj p d F G) (fun cs b=>xt i oi cs b hi) (fun cs b=>xt j oj cs b p) hQ s g;have L:∀k ok,ops[k]?=some ok->k≠i->(listed.setIfInBounds j true).getD k true=false->
     (∀e∈ok.after,Region.binds md e=true->e.on≠i)->oi.apart ops ok=true:=fun k ok K z C A=>by
    refine E k ok K z ?_ A
    by_cases f:j=k
    ·subst f;exact F
    ·rw[getD_set_ne true f]at C;exact C
   refine wpOp_mono (fun I M q=>⟨q.2.1,ih (listed.setIfInBounds j true) I M L (ready_mono l (Ne.symm d)) q.1 (q.2.1 f) ?_⟩) J;rw[Array.setIfInBounds_comm _ _ d];exact q.2.2
def NC(md:Region.Mode)(ops:Array Oper)(k i:Nat):Bool:=match ops[k]? with
 |some o=>o.after.any fun e=>Region.binds md e&&e.on==i
 |none=>false
theorem Q0v(h:NC md ops k i=true):∃ok,ops[k]?=some ok/\∃e∈ok.after,Region.binds md e=true/\e.on=i:=by
 unfold NC at h
 cases a:ops[k]? with
 |none=>rw[a]at h;cases h
 |some o=>
  rw[a]at h;refine⟨o,rfl,?_⟩;simp only[Array.any_eq_true]at h;obtain⟨j,b,h⟩:=h;simp only[cz,beq_iff_eq]at h;exact⟨o.after[j],Array.getElem_mem b,h.1,h.2⟩
theorem Q0w{fuel:Nat}{a:Act}(hi:ops[i]?=some oi)
  (hs:Region.noSelect ops=true)(hf:Region.free md ops listed i=true)(hr:(Region.ready md ops listed).contains i=true)(hw:NC md ops k i=true)
  (hQ:∀c a w,Q (.panic c) (a.put oi.dst v) w->Q (.panic c) a w)(hy:YieldsIf P ops S oi v a)(hS:S w)
  (h:jE P md ops Q S k fuel (listed.setIfInBounds i true) (a.put oi.dst v) w):jE P md ops Q S k (fuel+1) listed a w:=by
 obtain⟨e,b,d⟩:=Q0v hw;exact YI hi b d (Region.noSelect_spec hs) hQ fuel listed a w (Region.free_spec hi hf) (by simpa using hr) hy hS h
def okK(md:Region.Mode)(ops:Array Oper)(listed:Array Bool)(k i:Nat):Bool:=Region.noSelect ops&&Region.free md ops listed i&&(Region.ready md ops listed).contains i&&NC md ops k i
theorem kt{fuel:Nat}{a:Act}(hi:ops[i]?=some oi)(hc:okK md ops listed k i=true)(hg:Region.wanted oi (yielded ops a.tmps)=true)
  (hy:∀W,S W->(execOp a.eval oi).run P W=.ok (.value v) W)(hQ:∀c a w,Q (.panic c) (a.put oi.dst v) w->Q (.panic c) a w)(hS:S w)
  (h:jE P md ops Q S k fuel (listed.setIfInBounds i true) (a.put oi.dst v) w):jE P md ops Q S k (fuel+1) listed a w:=by
 simp only[okK,cz]at hc;exact Q0w hi hc.1.1.1 hc.1.1.2 hc.1.2 hc.2 hQ (Or.inl ⟨hg,hy⟩) hS h
theorem ku(i:Nat)(v:Value){fuel:Nat}{a:Act}(hi:ops[i]?=some oi)(hy:∀W,S W->(execOp a.eval oi).run P W=.ok (.value v) W)(hS:S w)
  (h:jE P md ops Q S k fuel (listed.setIfInBounds i true) (a.put oi.dst v) w)(hc:okK md ops listed k i=true:=by kernel_rfl)(hg:Region.wanted oi (yielded ops a.tmps)=true:=by rfl)
  (hQ:∀c a w,Q (.panic c) (a.put oi.dst v) w->Q (.panic c) a w:=by exact fun _ _ _ h=>h):jE P md ops Q S k (fuel+1) listed a w:=kt hi hc hg hy hQ hS h
theorem uk(i:Nat)(v:Value){fuel:Nat}{a a':Act}(hi:ops[i]?=some oi)(hy:∀W,S W->(execOp a.eval oi).run P W=.ok (.value v) W)(hS:S w)
  (h:jE P md ops Q S k fuel (listed.setIfInBounds i true) a' w)(ha:a.put oi.dst v=a':=by simp only[zz];rfl)
  (hc:okK md ops listed k i=true:=by kernel_rfl)(hg:Region.wanted oi (yielded ops a.tmps)=true:=by rfl)
  (hQ:∀c a w,Q (.panic c) (a.put oi.dst v) w->Q (.panic c) a w:=by exact fun _ _ _ h=>h):jE P md ops Q S k (fuel+1) listed a w:=by
 subst ha;exact kt hi hc hg hy hQ hS h
theorem qI{fuel:Nat}{a:Act}(hr:Region.ready md ops listed= [i])
  (h:wpOp P ops Q i (fun a' w'=>(i≠k->S w')/\jE P md ops Q S k fuel (listed.setIfInBounds i true) a' w') a w):jE P md ops Q S k (fuel+1) listed a w:=
 ⟨fun c=>absurd (hr▸c) (by simp),by intro j b;rw[hr]at b;simp at b;subst b;exact h⟩
theorem gq{listed:Array Bool}{a:Act}{w:World}(hr:Region.ready md ops listed= [])(h:Q .normal a w):
  ∀fuel,jE P md ops Q S k fuel listed a w
 |0=>⟨hr,h⟩
 |_+1=>⟨fun _=>h,by rw[hr];simp⟩
theorem gu{id:Nat}{a:Act}(S:World->Prop)(k:Nat)(hm:P.follows .mixedOrders=true)
  (h:jE P .any ops Q S k ops.size (Array.replicate ops.size false) a w.drew):(Code.region id ops true).wp P Q a w:=
 wp_region_any hm (W7 _ _ _ _ h)
end
end Go.Proofs.YtcklgafpgdhnaaaGreatDoor
