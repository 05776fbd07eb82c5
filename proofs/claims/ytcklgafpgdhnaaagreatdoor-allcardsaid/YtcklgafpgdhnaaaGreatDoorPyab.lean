import Derived.Test.YtcklgafpgdhnaaaGreatDoorPyaa
set_option maxRecDepth 100000
set_option maxHeartbeats 4000000
set_option linter.unusedSimpArgs false
set_option linter.unusedVariables false
set_option linter.unusedSectionVars false
namespace Go.Proofs.YtcklgafpgdhnaaaGreatDoor
open Go.RowKit
abbrev El:=List Value
def fl(es:List El):List Value:=es.flatten
def One(d:Nat)(es:List El):Prop:=∀e∈es,e.length=d/\∀u∈e,u.oneCell'=true
theorem qx(a b:List El):fl (a++b)=fl a++fl b:=by simp[fl]
theorem Qp(e:El)(b:List El):fl (e::b)=e++fl b:=rfl
def Wd(d:Nat)(es:List El):Prop:=∀e∈es,e.length=d
variable {d:Nat}{es:List El}
theorem One.wd(h:One d es):Wd d es:=fun e a=>(h e a).1
theorem Wd.tl{e:El}(h:Wd d (e::es)):Wd d es:=fun x a=>h x (aq _ a)
theorem Wd.app{a b:List El}(h:Wd d a)(h':Wd d b):Wd d (a++b):=fun x c=>(ar.1 c).elim (h x) (h' x)
theorem Wd.take{d:Nat}{a:List El}(h:Wd d a)(i:Nat):Wd d (a.take i):=fun x b=>h x (cM b)
theorem Wd.drop{d:Nat}{a:List El}(h:Wd d a)(i:Nat):Wd d (a.drop i):=fun x b=>h x (List.mem_of_mem_drop b)
theorem gj(h:Wd d es):(fl es).length=es.length*d:=by
 induction es with
 |nil=>simp[fl]
 |cons e r ih=>rw[Qp,ai,ih h.tl,h e (by simp),aB,bT];omega
theorem Nt(h:Wd d es):∀(i:Nat) (e:El),es[i]?=some e->∀(j:Nat) (u:Value),e[j]?=some u->(fl es)[i*d+j]?=some u:=by
 induction es with
 |nil=>intro i e h;simp at h
 |cons x r ih=>
  intro i e a j u hu;have b:=h x (by simp);rw[Qp]
  cases i with
  |zero=>
   simp at a;subst a;rw[dw,bL,bq (ae.1 hu).1];exact hu
  |succ i=>
   rw[bh (by rw[b,bT];omega),b,bT,Nat.one_mul,show i*d+d+j-d=i*d+j by omega];exact ih h.tl i e (by simpa using a) j u hu
theorem P3(h:Wd d es)(i:Nat):(fl es).take (i*d)=fl (es.take i):=by
 induction es generalizing i with
 |nil=>simp[fl]
 |cons x r ih=>
  cases i with
  |zero=>simp[fl]
  |succ i=>rw[cH,Qp,Qp,dS,aJ (by rw[h x (by simp),bT];omega),h x (by simp),bT,Nat.one_mul,dJ,ih h.tl]
theorem Pc(h:Wd d es)(i:Nat):(fl es).drop (i*d)=fl (es.drop i):=by
 induction es generalizing i with
 |nil=>simp[fl]
 |cons x r ih=>
  cases i with
  |zero=>simp
  |succ i=>rw[cI,Qp,List.drop_append,bC (by rw[h x (by simp),bT];omega),h x (by simp),bT,Nat.one_mul,dJ,aX,ih h.tl]
theorem One.fl(h:One d es):∀u∈fl es,u.oneCell'=true:=by
 intro u hu;obtain⟨e,a,hu⟩:=List.mem_flatten.1 hu;exact(h e a).2 u hu
end Go.Proofs.YtcklgafpgdhnaaaGreatDoor
