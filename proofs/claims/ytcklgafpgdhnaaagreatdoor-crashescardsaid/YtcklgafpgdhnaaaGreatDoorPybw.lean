import Derived.Test.YtcklgafpgdhnaaaGreatDoorPybu
set_option maxRecDepth 100000
set_option maxHeartbeats 4000000
set_option linter.unusedSimpArgs false
set_option linter.unusedVariables false
set_option linter.unusedSectionVars false
open Go.Proofs.Tryz
namespace Go.Proofs.YtcklgafpgdhnaaaGreatDoor
open Go.RowKit
structure Dk where
 q:Nat
 a:Nat
 bv:Value
 cv:Value
 n:Nat
 st:Option (Sx×Ox)
def Mh:Option (Sx×Ox)->Option Addr
 |none=>none
 |some (_,o)=>some ⟨o.b,0,none⟩
def Zr:Option (Sx×Ox)->List Nat
 |none=> []
 |some (s,o)=>o.b::(s.fp++o.lv.ownBlock.toList++o.wv.ownBlock.toList)
def Dk.foot(d:Dk):List Nat:=d.q::(yk d.a d.bv d.cv++Zr d.st)
theorem QJ(d:Dk):d.q∈d.foot:=aZ
variable {d:Dk}{y:Nat}
theorem QK(h:y∈yk d.a d.bv d.cv):y∈d.foot:=aq _ (aw _ h)
theorem ZY(h:y∈Zr d.st):y∈d.foot:=aq _ (az _ h)
theorem Qa(h:y∈d.foot):y=d.q\/y∈yk d.a d.bv d.cv\/y∈Zr d.st:=by
 rcases an.1 h with h|h
 ·exact Or.inl h
 ·exact Or.inr (ar.1 h)
structure DX(I:yB)(N:Nat)(w:World)(d:Dk)(R:Rc)(r:Rk)(K:Nat)(D:Dv):Prop where
 ld:LD w d.q d.a R (.pointer (Mh d.st))
 rn:R.n=d.n
 rk:RKd w R r
 dq:DQ w d.a d.bv d.n d.cv D
 ds:Ds d.n r K D
 bk:K<=2*N
 t0:0<=D.t
 t1:D.t<=N
 bm:r.may.length<=N*20001
 bw:r.were.length<=N
 st:∀s o,d.st=some (s,o)->I.SI w s D/\OI w s o/\s.a=d.a/\s.n=d.n/\(r.wild=false->s.ll∈r.may)/\s.mo<=20000+N/\s.ch<=N/\o.xs.length<=2*N
structure DI(I:yB)(N:Nat)(w:World)(d:Dk):Prop where
 lt:d.n<1000
 ex:∃R r K D,DX I N w d R r K D
variable {N:Nat}{w:World}
theorem DX.mono{I:yB}{N':Nat}{R:Rc}{r:Rk}{K:Nat}{D:Dv}(h:DX I N w d R r K D)(hn:N<=N'):DX I N' w d R r K D:=
 ⟨h.ld,h.rn,h.rk,h.dq,h.ds,by have:=h.bk;omega,h.t0,by have:=h.t1;omega,av h.bm (bN _ hn),by have:=h.bw;omega,fun s o a=>by
  obtain⟨b,c,e,f,g,i,j,k⟩:=h.st s o a;exact⟨b,c,e,f,g,by omega,by omega,by omega⟩⟩
theorem DI.mono{I:yB}{N N':Nat}{w:World}{d:Dk}(h:DI I N w d)(hn:N<=N'):DI I N' w d:=by
 obtain⟨a,R,r,K,D,b⟩:=h;exact⟨a,R,r,K,D,b.mono hn⟩
def Me:List TypeId:= [195,28,154,104,3,148,91,92,94]
def NN:List TypeId:= [224,41,189]
def Wr(I:yB)(w:World)(y:Nat):Prop:=(∃cs t fr,w.heap[y]?=some (.cells cs t fr)/\t∈Me)\/∃s D,I.SI w s D/\y∈s.fp
variable {cs:Array Value}
theorem Wr.ne{I:yB}{t:TypeId}{fr:Nat×Nat}(h:Wr I w y)(hy:w.heap[y]?=some (.cells cs t fr))(ht:t∈NN):False:=by
 have b:∀t∈NN,t∉Me:=by decide
 have c:∀t∈NN,t∈ji:=by decide
 rcases h with⟨rP,t',rQ,h',lg⟩|⟨s,D,hs,hx⟩
 ·rw[hy]at h';cases h';exact b _ ht lg
 ·obtain⟨o,a,d⟩:=I.fp hs y hx;rw[hy]at a;cases a;exact d _ _ _ rfl (c _ ht)
theorem Wr.law{I:yB}(h:Wr I w y):LT w y\/∃s D,I.SI w s D/\y∈s.fp:=by
 have a:∀t∈Me,t∈ji:=by decide
 rcases h with⟨cs,t,fr,h,ht⟩|h
 ·exact Or.inl ⟨cs,t,fr,h,a t ht⟩
 ·exact Or.inr h
theorem Wr.of{I:yB}{t:TypeId}{fr:Nat×Nat}(h:w.heap[y]?=some (.cells cs t fr))(ht:t∈Me):Wr I w y:=Or.inl ⟨cs,t,fr,h,ht⟩
variable {base:Nat}{v:Value}{xs:List Value}
theorem Wr.row{I:yB}{e n k:Nat}(h:w.ownsRow base e k v n xs)(he:e∈Me){g:Nat}(hg:v.ownBlock=some g):Wr I w g:=by
 obtain⟨a,b,c⟩:=yD h hg;exact Or.inl ⟨a,e,b,c,he⟩
theorem Wr.lt{I:yB}(h:Wr I w y):y<w.heap.size:=by
 rcases h with⟨cs,t,fr,h,_⟩|⟨s,D,hs,hx⟩
 ·exact yt h
 ·obtain⟨o,a,_⟩:=I.fp hs y hx;exact yt a
variable {w':World}{S:List Nat}
theorem OJ{I:yB}{e n k:Nat}(h:w.ownsRow base e k v n xs)(hk:y6 S w w')(hS:∀y∈S,Wr I w y)(he:e∈NN):w'.ownsRow base e k v n xs:=by
 refine yb h hk ?_;intro g a c;obtain⟨d,f,b⟩:=yD h a;exact(hS g c).ne b he
theorem Wr.nom{I:yB}(h:∀y∈S,Wr I w y):NoM w S:=fun y b c t d a=>by
 refine⟨fun e=> ?_,fun e=> ?_⟩
 ·exact(h y b).ne a (by rw[e];decide)
 ·exact(h y b).ne a (by rw[e];decide)
theorem DX.foot{I:yB}{N:Nat}{w:World}{d:Dk}{R:Rc}{r:Rk}{K:Nat}{D:Dv}(h:DX I N w d R r K D):∀y∈d.foot,Wr I w y:=by
 intro y a;rcases Qa a with rfl|a|a
 ·exact Wr.of h.ld (by decide)
 ·obtain⟨j,t,k,f,ht⟩:=h.dq.law y a;have c:∀t∈ [91,92,94],t∈Me:=by decide
  exact Wr.of f (c t ht)
 ·cases b:d.st with
  |none=>rw[b]at a;cases a
  |some i=>
   obtain⟨s,o⟩:=i;rw[b]at a;obtain⟨g,e,_⟩:=h.st s o b;rcases an.1 a with rfl|a
   ·exact Wr.of e.r (by decide)
   rcases ar.1 a with a|a
   ·rcases ar.1 a with a|a
    ·exact Or.inr ⟨s,D,g,a⟩
    ·exact Wr.row e.h.lists (by decide) (by simpa using a)
   ·exact Wr.row e.h.want (by decide) (by simpa using a)
theorem DI.foot{I:yB}{N:Nat}{w:World}{d:Dk}(h:DI I N w d):∀y∈d.foot,Wr I w y:=by
 obtain⟨_,R,r,K,D,a⟩:=h;exact a.foot
theorem DI.kept{I:yB}{N:Nat}{S:List Nat}{w w':World}{d:Dk}(h:DI I N w d)(hk:y6 S w w')(h1:∀y∈S,y∉d.foot)(h2:∀y∈S,Wr I w y):DI I N w' d:=by
 obtain⟨q,R,r,K,D,e⟩:=h;have i:∀y∈d.foot,y∉S:=fun y a f=>h1 y f a;refine⟨q,R,r,K,D,⟨hk.get e.ld (i _ (QJ d)),e.rn,e.rk.kept hk (Wr.nom h2),e.dq.kept hk (fun y a=>i y (QK a)),e.ds,e.bk,e.t0,e.t1,e.bm,e.bw,?_⟩⟩;intro s o c;obtain⟨t,b,u⟩:=e.st s o c;have j:∀y,y∈Zr (some (s,o))->y∈d.foot:=fun y a=>ZY (by rw[c];exact a);refine⟨I.kept t hk (fun y a f=>h1 y a (j y (aq _ (aw _ (aw _ f))))) (fun y a=>(h2 y a).law),⟨hk.get b.r (i _ (j _ aZ)),OJ b.v hk h2 (by decide),?_,b.m⟩,u⟩;refine⟨yb b.h.lists hk ?_,yb b.h.want hk ?_,b.h.apart,?_⟩
 ·intro g k;exact i _ (j _ (aq _ (aw _ (az _ (by simpa using k)))))
 ·intro g k;exact i _ (j _ (aq _ (az _ (by simpa using k))))
 ·intro x f;obtain⟨l,n,p⟩:=b.h.all x f;exact⟨OJ l hk h2 (by decide),OJ n hk h2 (by decide),p⟩
def TG(d e:Dk):Prop:=∀y∈d.foot,y∉e.foot
def ptrs(ds:List Dk):List Value:=ds.map fun d=> .pointer (some ⟨d.q,0,none⟩)
def WC(w:World)(p:Nat)(kv dv:Value):Prop:=w.heap[p]?=some (.cells #[kv,dv] 104 (0,0))
def IsI(v:Value):Prop:=∃x:Int,v=.int .i64 x
structure WI(I:yB)(N:Nat)(B:Nat)(w:World)(p:Nat)(ds:List Dk)(j:Nat):Prop where
 glob:qW w
 tab:Tab w
 pos:1<B/\2<B
 size:B<=w.heap.size
 pB:B<=p
 ex:∃kv dv xs,WC w p kv dv/\w.ownsRow B 3 1 kv j xs/\(∀v∈xs,IsI v)/\w.ownsRow B 148 1 dv ds.length (ptrs ds)
 all:∀d∈ds,DI I N w d/\∀y∈d.foot,B<=y
 apart:ds.Pairwise TG
variable {B:Nat}
theorem y6.belowB(h:y6 S w w')(hB:B<=w.heap.size)(hS:∀x∈S,B<=x):Below B w w':=
 ⟨h.os,h.tape,h.output,h.size,fun k b=>h.block k (by omega) (fun a=>by have:=hS k a;omega)⟩
theorem gY{e n b:Nat}(h:w.ownsRow base e 1 v n xs)(hb:v.ownBlock=some b):∃cs fr,w.heap[b]?=some (.cells cs e fr):=yD h hb
theorem Qn{a b:Nat}{t1 t2:TypeId}(h1:∃cs fr,w.heap[a]?=some (.cells cs t1 fr))(h2:∃cs fr,w.heap[b]?=some (.cells cs t2 fr))(ht:t1≠t2):a≠b:=qH h1 h2 ht
theorem DI.not_foot{I:yB}(h:DI I N w d){t:TypeId}{fr:Nat×Nat}(hy:w.heap[y]?=some (.cells cs t fr))(ht:t∈ [104,3,148]):y∉d.foot:=by
 obtain⟨_,R,r,K,D,e⟩:=h;have c:∀t∈ [104,3,148],t≠154/\t∉ [91,92,94]/\t≠195/\t≠28/\t∈ji:=by decide
 obtain⟨i,j,k,g,l⟩:=c t ht;intro a;rcases Qa a with rfl|a|a
 ·exact yP hy e.ld i rfl
 ·exact e.dq.no hy j a
 ·cases b:d.st with
  |none=>rw[b]at a;cases a
  |some n=>
   obtain⟨s,o⟩:=n;rw[b]at a;obtain⟨m,f,_⟩:=e.st s o b;rcases an.1 a with rfl|a
   ·exact yP hy f.r k rfl
   rcases ar.1 a with a|a
   ·rcases ar.1 a with a|a
    ·exact I.ne m ⟨_,_,_,hy,l⟩ a
    ·exact qH ⟨_,_,hy⟩ (yD f.h.lists (by simpa using a)) g rfl
   ·exact qH ⟨_,_,hy⟩ (yD f.h.want (by simpa using a)) g rfl
theorem WI.mono{I:yB}{N N' B p j:Nat}{w:World}{ds:List Dk}(h:WI I N B w p ds j)(hn:N<=N'):WI I N' B w p ds j:=⟨h.glob,h.tab,h.pos,h.size,h.pB,h.ex,fun d a=>⟨(h.all d a).1.mono hn,(h.all d a).2⟩,h.apart⟩
theorem WI.kept{I:yB}{N B p j:Nat}{w w':World}{ds:List Dk}(h:WI I N B w p ds j)(hk:y6 [] w w'):WI I N B w' p ds j:=by
 obtain⟨m,a,n,e,f,g,i⟩:=h.ex;refine⟨h.glob.kept hk (by simp),h.tab.k hk,h.pos,av h.size hk.size,h.pB,⟨m,a,n,hk.get e (by simp),yb f hk (by simp),g,yb i hk (by simp)⟩,?_,h.apart⟩;intro d l;obtain⟨b,c⟩:=h.all d l;exact⟨b.kept hk (by simp) (by simp),c⟩
variable {j:Nat}
theorem WI.disk{I:yB}{p:Nat}{ds:List Dk}(h:WI I N B w p ds j)(i:Nat)(d d':Dk)(hi:ds[i]?=some d)(hk:y6 d.foot w w')(oN:DI I N w' d')(eq:d'.q=d.q)(hf:∀y∈d'.foot,y∈d.foot\/w.heap.size<=y):WI I N B w' p (ds.set i d') j/\Below B w w':=by
 obtain⟨W,P,Y,H,J,U,K⟩:=h.ex;have g:i<ds.length:=(ae.1 hi).1;have s:d∈ds:=ah hi;obtain⟨A,v⟩:=h.all d s;have wf:=A.foot;have X:ptrs (ds.set i d')=ptrs ds:=by
  apply cJ;intro m;simp only[ptrs,aA]
  by_cases c:i=m
  ·subst c;rw[dc g,hi];simp[eq]
  ·rw[cW c]
 have C:∀y∈d'.foot,B<=y:=by
  intro y k;rcases hf y k with e|e
  ·exact v y e
  ·exact av h.size e
 have r:∀(m:Nat) (e:Dk),ds[m]?=some e->i≠m->(∀y∈d.foot,y∉e.foot):=by
  intro m e c a;have t:m<ds.length:=(ae.1 c).1;have u:=bP.1 h.apart;have F:ds[i]=d:=(ae.1 hi).2;have G:ds[m]=e:=(ae.1 c).2;rcases Nat.lt_or_gt_of_ne a with n|n
  ·have:=u i m g t n;rwa[F,G]at this
  ·have:=u m i t g n;rw[F,G]at this;intro y k f;exact this y f k
 have l:∀(m:Nat) (e:Dk),ds[m]?=some e->i≠m->(∀y∈d'.foot,y∉e.foot):=by
  intro m e c a y k f;rcases hf y k with o|o
  ·exact r m e c a y o f
  ·have:=((h.all e (ah c)).1.foot y f).lt;omega
 refine⟨⟨h.glob.kept hk (fun f=>by have:=v 1 f;have:=h.pos;omega),h.tab.kept hk (fun f=>by have:=v 2 f;have:=h.pos;omega),h.pos,av h.size hk.size,h.pB,⟨W,P,Y,hk.get H (A.not_foot H (by decide)),yb J hk ?_,U,?_⟩,?_,?_⟩,hk.belowB h.size v⟩
 ·intro b D;obtain⟨O,R,o⟩:=yD J D;exact A.not_foot o (by decide)
 ·rw[X,bJ];refine yb K hk ?_;intro b D;obtain⟨O,R,o⟩:=yD K D;exact A.not_foot o (by decide)
 ·intro e L;rw[aU]at L;obtain⟨m,c⟩:=L
  by_cases a:i=m
  ·subst a;rw[dc g]at c
   cases c
   exact⟨oN,C⟩
  ·rw[cW a]at c;obtain⟨Q,be⟩:=h.all e (ah c);exact⟨Q.kept hk (r m e c a) wf,be⟩
 ·rw[bP];have u:=bP.1 h.apart;intro x y f k M;rw[bJ]at f k;have:=u x y f k M;have S:=aa f;have T:=aa k;rw[List.getElem_set,List.getElem_set];split<;>split
  ·omega
  ·subst_vars
   exact l y ds[y] T (by omega)
  ·subst_vars
   intro z V E;exact l x ds[x] S (by omega) z E V
  ·exact this
theorem WI.keep{I:yB}{p j':Nat}{ds:List Dk}{kv dv DM:Value}{oX:List Value}(h:WI I N B w p ds j)(hw:WC w p kv dv)(hd:w.ownsRow B 148 1 dv ds.length (ptrs ds))(ho:w.ownsRow B 3 1 kv j xs)
  (hk:y6 (p::kv.ownBlock.toList) w w')(eA:WC w' p DM dv)(ho':w'.ownsRow B 3 1 DM j' oX)(h1:∀v∈oX,IsI v):WI I N B w' p ds j'/\Below B w w':=by
 have n:∃c e,w.heap[p]?=some (.cells c 104 e):=⟨_,_,hw⟩
 have f:∀x∈kv.ownBlock.toList,∃c e,w.heap[x]?=some (.cells c 3 e):=by
  intro x a;simp at a;exact gY ho a
 have k:∀x∈p::kv.ownBlock.toList,B<=x:=by
  intro x a;rcases an.1 a with rfl|a
  ·exact h.pB
  ·simp at a;exact(ho.lt x a).1
 have m:∀{t:TypeId} {b:Nat},(∃c e,w.heap[b]?=some (.cells c t e))->t≠104->t≠3->b∉p::kv.ownBlock.toList:=by
  intro t b g t1 t2 a;rcases an.1 a with rfl|a
  ·exact Qn g n t1 rfl
  ·exact Qn g (f b a) t2 rfl
 have r:∀x∈p::kv.ownBlock.toList,Wr I w x:=by
  intro x a;rcases an.1 a with rfl|a
  ·exact Wr.of hw (by decide)
  ·obtain⟨c,e,l⟩:=f x a;exact Wr.of l (by decide)
 refine⟨⟨h.glob.kept hk (fun a=>by have:=k 1 a;have:=h.pos;omega),h.tab.kept hk (fun a=>by have:=k 2 a;have:=h.pos;omega),h.pos,av h.size hk.size,h.pB,⟨DM,dv,oX,eA,ho',h1,yb hd hk (fun b g=>m (gY hd g) (by decide) (by decide))⟩,?_,h.apart⟩,hk.belowB h.size k⟩;intro d hd;obtain⟨i,q⟩:=h.all d hd;refine⟨i.kept hk ?_ r,q⟩;intro y o;rcases an.1 o with rfl|o
 ·exact i.not_foot hw (by decide)
 ·obtain⟨c,e,l⟩:=f y o;exact i.not_foot l (by decide)
theorem WI.more{I:yB}{p:Nat}{ds:List Dk}{kv dv DN:Value}(h:WI I N B w p ds j)(hw:WC w p kv dv)(hd:w.ownsRow B 148 1 dv ds.length (ptrs ds))(ho:w.ownsRow B 3 1 kv j xs)(h1:∀v∈xs,IsI v)
  (hk:y6 (p::dv.ownBlock.toList) w w')(eA:WC w' p kv DN)(d:Dk)(oN:w'.ownsRow B 148 1 DN (ds.length+1) (ptrs (ds++ [d])))(oO:DI I N w d)(bf:∀y∈d.foot,B<=y)(iw:∀e∈ds,TG e d):WI I N B w' p (ds++ [d]) j/\Below B w w':=by
 have o:∃f g,w.heap[p]?=some (.cells f 104 g):=⟨_,_,hw⟩
 have i:∀x∈dv.ownBlock.toList,∃f g,w.heap[x]?=some (.cells f 148 g):=by
  intro x a;simp at a;exact gY hd a
 have l:∀x∈p::dv.ownBlock.toList,B<=x:=by
  intro x a;rcases an.1 a with rfl|a
  ·exact h.pB
  ·simp at a;exact(hd.lt x a).1
 have n:∀{t:TypeId} {b:Nat},(∃f g,w.heap[b]?=some (.cells f t g))->t≠104->t≠148->b∉p::dv.ownBlock.toList:=by
  intro t b k t1 t2 a;rcases an.1 a with rfl|a
  ·exact Qn k o t1 rfl
  ·exact Qn k (i b a) t2 rfl
 have u:∀x∈p::dv.ownBlock.toList,Wr I w x:=by
  intro x a;rcases an.1 a with rfl|a
  ·exact Wr.of hw (by decide)
  ·obtain⟨f,g,m⟩:=i x a;exact Wr.of m (by decide)
 have s:∀(e:Dk),DI I N w e->∀y∈p::dv.ownBlock.toList,y∉e.foot:=by
  intro e c y q;rcases an.1 q with rfl|q
  ·exact c.not_foot hw (by decide)
  ·obtain⟨f,g,m⟩:=i y q;exact c.not_foot m (by decide)
 refine⟨⟨h.glob.kept hk (fun a=>by have:=l 1 a;have:=h.pos;omega),h.tab.kept hk (fun a=>by have:=l 2 a;have:=h.pos;omega),h.pos,av h.size hk.size,h.pB,⟨kv,DN,xs,eA,yb ho hk (fun b k=>n (gY ho k) (by decide) (by decide)),h1,by simpa using oN⟩,?_,?_⟩,hk.belowB h.size l⟩
 ·intro e c;rcases ar.1 c with c|c
  ·obtain⟨r,z⟩:=h.all e c;exact⟨r.kept hk (s e r) u,z⟩
  ·simp at c;subst c;exact⟨oO.kept hk (s _ oO) u,bf⟩
 ·rw[aQ];exact⟨h.apart,by simp,fun e c A oN=>by simp at oN;subst oN;exact iw e c⟩
def DR(I:yB)(N:Nat)(d:Dk)(w:World)(e:Ending)(w':World):Prop:=
 e=.returned (.bool true)/\∃d':Dk,d'.q=d.q/\DI I (N+1) w' d'/\(∀y∈d'.foot,y∈d.foot\/w.heap.size<=y)/\y6 d.foot w w'
def DRS(I:yB)(N:Nat)(d:Dk)(w:World)(e:Ending)(w':World):Prop:=
 e=.returned (.bool true)/\∃(d':Dk) (s':Sx) (o':Ox),d'.st=some (s',o')/\d'.q=d.q/\DI I (N+1) w' d'/\(∀y∈d'.foot,y∈d.foot\/w.heap.size<=y)/\y6 d.foot w w'
theorem DRS.dr{I:yB}{e:Ending}(h:DRS I N d w e w'):DR I N d w e w':=by
 obtain⟨rfl,a,c,b,_,r⟩:=h;exact⟨rfl,a,r⟩
def OY(I:yB):Prop:=∀(s:Sx) (q:Nat) (R:Rc) (bv cv:Value) (D:Dv) (ms:List (List Pr)) (w:World),qW w->1∉s.fp->LD w q s.a R (.pointer none)->ML w R.may ms->ms.length<=1000000000->DQ w s.a bv s.n cv D->I.SI w s D->s.cl=false->s.fl=false->s.mo=s.l.length->s.ch=0->Rs s.l->R.wild=true->Calls prog 136 #[.pointer (some ⟨q,0,none⟩),.pointer (some ⟨s.x,0,none⟩)] w (FndR I s q R bv cv D w)
theorem TM{m:Nat}(h:m<=N*20001):m+1<=(N+1)*20001:=by rw[bT];omega
theorem Ng{m:Nat}(h:m<=N*20001)(hN:N<=20000):m<=900000000:=av h (av (bN _ hN) (by decide))
section
variable {I:yB} {N:Nat} {d:Dk} {w w':World} {R:Rc} {r:Rk} {K:Nat} {D:Dv}
theorem DX.off(h:DX I N w d R r K D):d.q∉yk d.a d.bv d.cv:=h.ld.off h.dq
theorem DX.wr(h:DX I N w d R r K D)(hS:∀y∈S,y∈d.foot):∀y∈S,Wr I w y:=fun y a=>h.foot y (hS y a)
theorem MK:∀y∈ [d.q],y∈d.foot:=fun y a=>by simp at a;subst a;exact QJ d
theorem NK:∀y∈ [d.q,d.a],y∈d.foot:=fun y b=>by
 rcases an.1 b with rfl|b
 ·exact QJ d
 ·simp at b;subst b;exact QK MW
theorem Qg3:∀y∈d.q::yk d.a d.bv d.cv,y∈d.foot:=fun y b=>by
 rcases an.1 b with rfl|b
 ·exact QJ d
 ·exact QK b
theorem DR.ofNone{e:Ending}(hl:d.n<1000)(h:DX I N w d R r K D)(hr:Oi d.q d.a d.bv d.n d.cv R D w e w'):DR I N d w e w':=by
 obtain⟨rfl,j,i,g⟩:=hr;have b:=h.mono (cG N);refine⟨rfl,{d with st:=none},rfl,⟨hl,R,r,K,D,⟨j,h.rn,h.rk.kept g (Wr.nom (h.wr MK)),i,h.ds,b.bk,b.t0,b.t1,b.bm,b.bw,by intro s o f;cases f⟩⟩,?_,g.mono MK⟩;intro y c;left;rcases Qa c with rfl|c|c
 ·exact QJ d
 ·exact QK c
 ·cases c
theorem Qg4(DO:OY I)(hN:N<=20000)(hG:qW w)(hT:Tab w)(hgd:1∉yk d.a d.bv d.cv)(hl:d.n<1000)(h:DX I N w d R r K D):Calls prog 99 #[.pointer (some ⟨d.q,0,none⟩)] w (DR I N d w):=by
 by_cases hf:8<=d.n/\d.n<=400
 ·have b1:=h.bk;have b2:=h.t1;have bmm:=Ng h.bm hN;refine(Y5 I d.q d.a d.bv d.n d.cv R D _ ⟨_,rfl⟩ w hG hgd h.ld h.dq h.rn hT hf.1 hf.2 r K h.ds (by omega) h.rk.may (by omega) h.rk.em h.rk.wild h.t0 (by omega) ?_).mono ?_
  ·intro s W T X Y Z a4 a5 a6 a7 a8 a9 U V G
   cases i:R.wild with
   |false=>exact QfF I s d.q R _ d.bv d.cv T r.may W X Y Z a4 (by omega) a5 a6 a7 a8 a9 U V i (G i) ⟨_,rfl⟩
   |true=>exact DO s d.q R d.bv d.cv T r.may W X Y Z a4 (by omega) a5 a6 a7 a8 a9 U V i
  ·rintro e E⟨rfl,k,eL,eq,et,H,B,eC⟩;have c:=h.mono (cG N);have z:=c.ds.same eL eq;have F:=h.rk.kept B (Wr.nom (h.wr NK));have S:0<=k.t:=by have:=h.t0;rcases et with e|e<;>omega
   have p:k.t<=(N+1:Nat):=by rcases et with e|e<;>omega
   rcases eC with v|⟨s,o,L,⟨sa,sn,scl,sfl,Q,smo,sch⟩,⟨P,M,O,ob⟩,v,hs,ho,mY,u,J⟩
   ·refine⟨rfl,{d with st:=none},rfl,⟨hl,R,r,K,k,⟨v,h.rn,F,H,z,c.bk,S,p,c.bm,c.bw,by intro s o g;cases g⟩⟩,?_,B.mono NK⟩;intro y f;left;rcases Qa f with rfl|f|f
    ·exact QJ d
    ·exact QK f
    ·cases f
   ·have ft:∀y∈Dk.foot {d with st:=some (s,o)},y∈d.foot\/w.heap.size<=y:=fun y f=>by
     rcases Qa f with rfl|f|f
     ·exact Or.inl (QJ d)
     ·exact Or.inl (QK f)
     ·right;rcases an.1 f with rfl|f
      ·exact ob
      ·rw[M,O]at f;simp[Value.ownBlock]at f;exact mY y f
    have hlen:=I.len hs;have g:∀(A:Rk),(A.wild=false->s.l∈A.may)->∀j C,some (s,o)=some (j,C)->I.SI E j k/\OI E j C/\j.a=d.a/\j.n=d.n/\(A.wild=false->j.ll∈A.may)/\j.mo<=20000+(N+1)/\j.ch<=N+1/\C.xs.length<=2*(N+1):=fun A h2 j C e=>by
     cases e
     exact⟨hs,ho,sa,sn,by rw[Q];exact h2,by omega,by omega,by rw[P];simp⟩
    cases i:R.wild with
    |false=>
     rw[i]at u;have u:L=R.may:=u;have v:LD E d.q d.a R (.pointer (some ⟨o.b,0,none⟩)):=by
      have e:R={R with may:=L}:=by rw[u]
      rw[e];exact v
     have m:r.wild=false:=by rw[<-h.rk.wild];exact i
     exact⟨rfl,{d with st:=some (s,o)},rfl,⟨hl,R,r,K,k,⟨v,h.rn,F,H,z,c.bk,S,p,c.bm,c.bw,g _ (fun _=>J i)⟩⟩,ft,B.mono NK⟩
    |true=>
     rw[i,if_pos rfl]at u;have m:r.wild=true:=by rw[<-h.rk.wild];exact i
     have x:Ds d.n {r with may:= [s.l]} K k:=⟨z.l,z.fit,z.ql,fun c=>by rw[m]at c;cases c⟩
     refine⟨rfl,{d with st:=some (s,o)},rfl,⟨hl,{R with may:=L},{r with may:= [s.l]},K,k,⟨v,h.rn,⟨u,h.rk.em,F.were,h.rk.wild,h.rk.bit⟩,H,x,c.bk,S,p,?_,c.bw,g _ (fun c=>by rw[m]at c;cases c)⟩⟩,ft,B.mono NK⟩;show 1<=(N+1)*20001;omega
 ·exact(QfJ I d.q d.a d.bv d.n d.cv R D _ ⟨_,rfl⟩ w hG hgd h.ld h.dq h.rn (by omega)).mono fun e E hr=>DR.ofNone hl h hr
theorem VD{cv':Value}{m:Nat}(iP:CvN d.cv cv' m)(hy:y∈yk d.a d.bv cv'):y∈d.foot\/m<=y:=(QR iP y hy).imp QK id
theorem Qg6(hN:N<=20000)(hG:qW w)(hT:Tab w)(hgd:1∉yk d.a d.bv d.cv)(hl:d.n<1000)(h:DX I N w d R r K D):Calls prog 98 #[.pointer (some ⟨d.q,0,none⟩)] w (DR I N d w):=by
 by_cases m:8<=d.n/\d.n<=400
 ·have L:=h.bk;have M:=h.t1;have O:=h.bw;have f:=Ng h.bm hN;refine(QfN I d.q d.a d.bv d.n d.cv R D _ ⟨_,rfl⟩ w hG hgd h.ld h.dq h.rn hT m.1 m.2 r K h.ds (by omega) h.rk f (by omega) h.t0 (by omega)).mono ?_;rintro e H⟨rfl,g,c,u,G,p,v,C,l,A,F,i,E,P,z,Q,x⟩;have J:0<=c.t:=by have:=h.t0;rcases l with e|e<;>omega
  have k:c.t<=(N+1:Nat):=by rcases l with e|e<;>omega
  refine⟨rfl,{d with cv:=g,st:=none},rfl,⟨hl,u,G,p,c,⟨A,by rw[F];exact h.rn,i,v,E,by omega,J,k,av z (TM h.bm),by omega,by intro s o j;cases j⟩⟩,?_,x.mono Qg3⟩;intro y b;rcases Qa b with rfl|b|b
  ·exact Or.inl (QJ d)
  ·exact VD C b
  ·cases b
 ·exact(QfM I d.q d.a d.bv d.n d.cv R D _ ⟨_,rfl⟩ w hG hgd h.ld h.dq h.rn (by omega)).mono fun e H B=>DR.ofNone hl h B
variable {s:Sx} {o:Ox}
theorem DR.ofStore{e:Ending}(hl:d.n<1000)(h:DX I N w d R r K D)(hst:d.st=some (s,o))(hr:je I s o w d.q R d.bv d.cv D e w'):DRS I N d w e w':=by
 obtain⟨T,U,i,k,F,x,v,z⟩:=h.st s o hst;obtain⟨rfl,t,p,j,P,A,B,f,m,g,E,C,H,u,M,O,S,Q,l⟩:=hr;have sub:∀y∈o.b::(s.fp++o.lv.ownBlock.toList++o.wv.ownBlock.toList),y∈d.foot:=fun y a=>ZY (by rw[hst];exact a);rw[i]at m g;rw[k]at g;have c:=h.mono (cG N);refine⟨rfl,{d with st:=some (t,p)},t,p,rfl,rfl,⟨hl,R,r,K,D,⟨by simp only[Mh,j];exact m,h.rn,h.rk.kept l (Wr.nom (h.wr sub)),g,h.ds,c.bk,c.t0,c.t1,c.bm,c.bw,?_⟩⟩,?_,l.mono sub⟩
 ·intro L J G
  cases G
  exact⟨E,C,by rw[A,i],by rw[B,k],by rw[f];exact F,by omega,by omega,by omega⟩
 ·intro y a;rcases Qa a with rfl|a|a
  ·exact Or.inl (QJ d)
  ·exact Or.inl (QK a)
  ·rcases an.1 a with rfl|a
   ·left;rw[j];exact sub _ aZ
   rcases ar.1 a with a|a
   ·rcases ar.1 a with a|a
    ·rcases H y a with e|e
     ·exact Or.inl (sub _ (aq _ (aw _ (aw _ e))))
     ·exact Or.inr e
    ·rcases u y (by simpa using a)with e|e
     ·exact Or.inl (sub _ (aq _ (aw _ (az _ (by simpa using e)))))
     ·exact Or.inr e
   ·rcases M y (by simpa using a)with e|e
    ·exact Or.inl (sub _ (aq _ (az _ (by simpa using e))))
    ·exact Or.inr e
section
variable (hG:qW w) (hl:d.n<1000) (h:DX I N w d R r K D) (hst:d.st=some (s,o)) (ig:1∉s.fp) (hN:N<=19000)
include hG hl h hst ig hN
theorem Qg7(k:ByteArray):Calls prog 101 #[.pointer (some ⟨d.q,0,none⟩),.string k] w (DRS I N d w):=by
 obtain⟨f,n,a,l,p,i,g,j⟩:=h.st s o hst;have b:=h.ld;have c:=h.dq;rw[hst,<-a]at b;rw[<-a,<-l]at c;have:=I.len f;exact(Qfi I s o d.q R d.bv d.cv D k w hG ig b c f n (by omega)).mono fun e r m=>DR.ofStore hl h hst m
theorem Qg8(lo hi:ByteArray)(mm:Int):Calls prog 102 #[.pointer (some ⟨d.q,0,none⟩),.string lo,.string hi,.int .i64 mm] w (DRS I N d w):=by
 obtain⟨f,m,a,k,n,i,g,j⟩:=h.st s o hst;have b:=h.ld;have c:=h.dq;rw[hst,<-a]at b;rw[<-a,<-k]at c;have:=I.len f;exact(Qfn I s o d.q R d.bv d.cv D lo hi mm w hG ig b c f m (by omega) (by omega)).mono fun e p l=>DR.ofStore hl h hst l
omit hN in
theorem Yg:Calls prog 104 #[.pointer (some ⟨d.q,0,none⟩)] w (DRS I N d w):=by
 obtain⟨l,m,a,j,n,g,f,i⟩:=h.st s o hst;have b:=h.ld;have c:=h.dq;rw[hst,<-a]at b;rw[<-a,<-j]at c;exact(Qfo I s o d.q R d.bv d.cv D w hG ig b c l m).mono fun e p k=>DR.ofStore hl h hst k
theorem XB(k v:ByteArray):Calls prog 100 #[.pointer (some ⟨d.q,0,none⟩),.string k,.string v,.bool false] w (DRS I N d w):=by
 obtain⟨g,n,a,b,p,j,i,l⟩:=h.st s o hst;have c:=h.ld;have f:=h.dq;rw[hst,<-a]at c;rw[<-a,<-b]at f;have:=I.len g;exact(Qft I s o d.q R d.bv d.cv D k v w hG ig c f g n (by omega) (by omega) (by omega) (by rw[h.rn,b])).mono fun e r m=>DR.ofStore hl h hst m
theorem Qgb(k v:ByteArray):Calls prog 100 #[.pointer (some ⟨d.q,0,none⟩),.string k,.string v,.bool true] w (DRS I N d w):=by
 obtain⟨g,n,a,b,p,j,i,l⟩:=h.st s o hst;have c:=h.ld;have f:=h.dq;rw[hst,<-a]at c;rw[<-a,<-b]at f;have:=I.len g;exact(Qfu I s o d.q R d.bv d.cv D k v w hG ig c f g n (by omega) (by omega) (by omega) (by rw[h.rn,b])).mono fun e r m=>DR.ofStore hl h hst m
theorem Qgc(hT:Tab w)(hgd:1∉yk d.a d.bv d.cv):Calls prog 103 #[.pointer (some ⟨d.q,0,none⟩)] w (DRS I N d w):=by
 obtain⟨Z,s2,f,g,Q,J,H,L⟩:=h.st s o hst;have v:=h.ld;have x:=h.dq;have B:=h.ds;rw[hst,<-f]at v;rw[<-f,<-g]at x;rw[<-g]at B;rw[<-f]at hgd;have b1:=h.bk;have b2:=h.t1;have b3:=h.bw;have j:=Ng h.bm (by omega);refine(Xo I s o d.q d.bv d.cv R r K D w hG hT ig hgd v x Z s2 (by rw[h.rn,g]) h.rk B (by omega) Q j (by omega) h.t0 (by omega) (by omega) (by omega)).mono ?_;rintro e w'⟨rfl,C,k,i,G,X,F,⟨f1,f2,f3,f4,f5,f6,f7⟩,A,V,l,S,P,O,m,p,hK,E,u,M,hw,U,z⟩;have wh:0<=i.t:=by have:=h.t0;rcases u with e|e<;>omega
 have n:i.t<=(N+1:Nat):=by rcases u with e|e<;>omega
 rw[f]at A l z;rw[g]at l p;have sub:∀y∈d.q::o.b::(s.fp++yk d.a d.bv d.cv),y∈d.foot:=fun y c=>by
  rcases an.1 c with rfl|c
  ·exact QJ d
  rcases an.1 c with rfl|c
  ·exact ZY (by rw[hst];exact aZ)
  rcases ar.1 c with c|c
  ·exact ZY (by rw[hst];exact aq _ (aw _ (aw _ c)))
  ·exact QK c
 refine⟨rfl,{d with cv:=k,st:=some (C,o)},C,o,rfl,rfl,⟨hl,G,X,F,i,⟨A,by rw[V];exact h.rn,m,l,p,by omega,wh,n,av M (TM h.bm),by omega,?_⟩⟩,?_,z.mono sub⟩
 ·intro Y W T
  cases T
  exact⟨P,O,by rw[f2,f],by rw[f3,g],E,by omega,by omega,by omega⟩
 ·intro y c;rcases Qa c with rfl|c|c
  ·exact Or.inl (QJ d)
  ·exact VD S c
  ·rcases an.1 c with rfl|c
   ·exact Or.inl (ZY (by rw[hst];exact aZ))
   rcases ar.1 c with c|c
   ·rcases ar.1 c with c|c
    ·rcases U y c with e|e
     ·exact Or.inl (ZY (by rw[hst];exact aq _ (aw _ (aw _ e))))
     ·exact Or.inr e
    ·exact Or.inl (ZY (by rw[hst];exact aq _ (aw _ (az _ c))))
   ·exact Or.inl (ZY (by rw[hst];exact aq _ (az _ c)))
end
end
end Go.Proofs.YtcklgafpgdhnaaaGreatDoor
