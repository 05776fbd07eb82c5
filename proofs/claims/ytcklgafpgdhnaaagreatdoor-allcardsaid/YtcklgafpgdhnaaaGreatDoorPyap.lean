import Derived.Test.YtcklgafpgdhnaaaGreatDoorPyao
set_option maxRecDepth 100000
set_option maxHeartbeats 4000000
set_option linter.unusedSimpArgs false
set_option linter.unusedVariables false
set_option linter.unusedSectionVars false
namespace Go.Proofs.YtcklgafpgdhnaaaGreatDoor
open Go.RowKit
def flt(lo hi:ByteArray)(l:List Pr):List Pr:=l.filter (inR lo hi)
theorem Mz(lo hi:ByteArray)(A B:List Pr):flt lo hi (A++B)=flt lo hi A++flt lo hi B:=List.filter_append ..
theorem Wk(lo hi:ByteArray)(A:List Pr)(h:∀p∈A,bl p.1 lo=true):flt lo hi A= []:=by
 unfold flt;rw[List.filter_eq_nil_iff];intro p a;simp[inR,h p a]
theorem Ra(lo hi:ByteArray)(A:List Pr)(h:∀p∈A,bl p.1 hi=false):flt lo hi A= []:=by
 unfold flt;rw[List.filter_eq_nil_iff];intro p a;simp[inR,h p a]
theorem Q62(lo hi:ByteArray)(A:List Pr)(h1:∀p∈A,bl p.1 lo=false)(h2:∀p∈A,bl p.1 hi=true):flt lo hi A=A:=by
 unfold flt;rw[List.filter_eq_self];intro p a;simp[inR,h1 p a,h2 p a]
variable {hi:ByteArray}{j:Nat}
theorem Xf{l:List Pr}{p:Pr}(hs:Srt l)(hj:l[j]?=some p)(hp:bl p.1 hi=false):∀q∈l.drop j,bl q.1 hi=false:=by
 intro q b;have c:=ae.1 hj;have d:l.drop j=p::l.drop (j+1):=by rw[aL c.1,c.2]
 have a:Srt (l.drop j):=List.Pairwise.sublist (List.drop_sublist j l) hs;rw[d]at a b;rcases an.1 b with rfl|b
 ·exact hp
 ·have:=(aP.1 a).1 q b;exact jn (Zt this) hp
variable {lo:ByteArray}
theorem Q64{l:List Pr}{i:Nat}(hp:Pos (l.map (·.1)) lo i)(hij:i<=j)(hlt:∀p∈(l.drop i).take (j-i),bl p.1 hi=true):
  flt lo hi l=(l.drop i).take (j-i)++flt lo hi (l.drop j):=by
 obtain⟨a,b⟩:=Zy hp
 conv=>lhs;rw[<-aS i l,<-aS (j-i) (l.drop i)]
 rw[Mz,Mz,Wk lo hi _ a,aX,dL,show i+(j-i)=j by omega,Q62 lo hi _ (fun p c=>b p (cM c)) hlt]
variable {h:Nat}
theorem Q65{ks:List (Kid h)}(hk:KW h ks):∀p∈yJ h (ks.take (qq ks lo)),bl p.1 lo=true:=by
 intro p k;obtain⟨a,q,k⟩:=qb.1 k;obtain⟨x,f⟩:=aU.1 q;rw[aD]at f;split at f
 ·rename_i j;have c:x+1<(ks.takeWhile fun a=> !bl lo a.1).length:=by unfold qq at j;omega
  have d:(ks.takeWhile fun a=> !bl lo a.1)<+:ks:=List.takeWhile_prefix _;obtain⟨b,m⟩:∃b,(ks.takeWhile fun a=> !bl lo a.1)[x+1]?=some b:=⟨_,aa c⟩
  have i:bl lo b.1=false:=by
   have:=List.all_takeWhile (p:=fun a:Kid h=> !bl lo a.1) (l:=ks);rw[List.all_eq_true]at this;have:=this b (ah m)
   simpa using this
  have g:ks[x+1]?=some b:=by
   obtain⟨r,s⟩:=d;rw[<-s,bq c];exact m
  have e:=ae.1 f;have n:=ae.1 g;have o:=bP.1 hk.ord x (x+1) e.1 n.1 (by omega);rw[e.2,n.2]at o;exact qF (o.2 p k) i
 ·cases f
theorem Q66{ks:List (Kid h)}{a:Kid h}(hk:KW h ks)(hj:ks[j]?=some a)(ha:bl a.1 hi=false):∀p∈yJ h (ks.drop j),bl p.1 hi=false:=by
 intro p d;have f:=ae.1 hj;have k:ks.drop j=a::ks.drop (j+1):=by rw[aL f.1,f.2]
 have c:KW h (ks.drop j):=hk.sub (List.drop_sublist j ks);rw[k]at d c;obtain⟨b,e,d⟩:=qb.1 d;have g:=c.froms b e;have i:=(WFN.keys (c.all b e) p d).1;exact jn i (jn g ha)
theorem Q67{ks:List (Kid h)}{a:Kid h}(hk:KW h ks)(hj:ks[j]?=some a){q:Pr}(hq:q∈yV h a.2)(Ho:bl q.1 hi=false):∀p∈yJ h (ks.drop (j+1)),bl p.1 hi=false:=by
 intro p d;have f:=ae.1 hj;have k:ks.drop j=a::ks.drop (j+1):=by rw[aL f.1,f.2]
 have c:KW h (ks.drop j):=hk.sub (List.drop_sublist j ks);rw[k]at c;obtain⟨b,e,d⟩:=qb.1 d;have g:=((aP.1 c.ord).1 b e).2 q hq;have i:=(WFN.keys (c.all b (by simp[e])) p d).1;exact jn i (jn (Zt g) Ho)
end Go.Proofs.YtcklgafpgdhnaaaGreatDoor
