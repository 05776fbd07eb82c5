import Derived.Test.YtcklgafpgdhnaaaGreatDoorPyay
import Derived.RangeFuncNested
import Derived.RangeFuncBound
import Derived.RangeFuncCalls
import Derived.RangeFuncLeaves
import Derived.OwnWalkIn
import Derived.TacticsInMore
import Derived.LoopNIn
import Derived.LoopIn
import Derived.Test.YtcklgafpgdhnaaaGreatDoorPybe
set_option maxRecDepth 100000
set_option maxHeartbeats 4000000
set_option linter.unusedSimpArgs false
set_option linter.unusedVariables false
set_option linter.unusedSectionVars false
open Go.Proofs.Tryz
namespace Go.Proofs.YtcklgafpgdhnaaaGreatDoor
open Go.RowKit
variable {o:Nat}
theorem NG{α:Type}{l cs:List α}(h:o+cs.length<=l.length)(j:Nat):(splice l o cs)[j]?=if j<o then l[j]? else if j<o+cs.length then cs[j-o]? else l[j]?:=by
 unfold splice
 by_cases a:j<o
 ·rw[if_pos a,bq (by rw[au];omega),aD,if_pos a]
 ·rw[if_neg a,bh (by rw[au];omega),au,bS (by omega)]
  by_cases b:j<o+cs.length
  ·rw[if_pos b,bq (by omega)]
  ·rw[if_neg b,bh (by omega),aV];congr 1;omega
theorem MX{α:Type}{l cs:List α}(h:o+cs.length<=l.length)(m:Nat)(hm:m=cs.length):((splice l o cs).drop o).take m=cs:=by
 subst hm;apply cJ;intro j;rw[aD,aV,NG h]
 by_cases a:j<cs.length
 ·rw[if_pos a,if_neg (by omega),if_pos (by omega)];congr 1;omega
 ·rw[if_neg a,bY (by omega)]
theorem QO{α:Type}{l cs:List α}{p m:Nat}(h:o+cs.length<=l.length)(hp:p+m<=o\/o+cs.length<=p):((splice l o cs).drop p).take m=(l.drop p).take m:=by
 apply cJ;intro j;rw[aD,aD,aV,aV,NG h]
 by_cases a:j<m
 ·rw[if_pos a,if_pos a];rcases hp with hp|hp
  ·rw[if_pos (by omega)]
  ·rw[if_neg (by omega),if_neg (by omega)]
 ·rw[if_neg a,if_neg a]
theorem Qbu(t r:Nat):((sec t r).drop 8).take 8=yz t 8:=by
 unfold sec Zb;rw[qE,QO (by rw[yE,qE];omega) (Or.inl (by omega))];unfold sec2;rw[QO (by rw[yE,jW];omega) (Or.inl (by omega))];unfold sec1;exact MX (by rw[yE,Qv];omega) _ (by rw[yE])
theorem Qbv(t r:Nat):((sec t r).drop 16).take 2=yz r 2:=by
 unfold sec Zb;rw[qE,QO (by rw[yE,qE];omega) (Or.inl (by omega))];unfold sec2;exact MX (by rw[yE,jW];omega) _ (by rw[yE])
theorem Yh(t r:Nat):(sec t r).take 8=Mp:=by
 have h:((sec t r).drop 0).take 8=Mp:=by
  unfold sec Zb;rw[qE,QO (by rw[yE,qE];omega) (Or.inl (by omega))];unfold sec2;rw[QO (by rw[yE,jW];omega) (Or.inl (by omega))];unfold sec1;rw[QO (by rw[yE,Qv];omega) (Or.inl (by omega))];decide
 simpa using h
theorem UO(t r:Nat):(blk t r).take 32=sec t r:=by
 have h:((blk t r).drop 0).take 32=sec t r:=MX (by rw[qL,bR];omega) _ (by rw[qL])
 simpa using h
theorem Md{α:Type}(B:List α)(p m k:Nat)(h:p+m<=k):(B.drop p).take m=((B.take k).drop p).take m:=by
 rw[cC,cA,bS (by omega)]
variable {t r:Nat}{B:List UInt8}
theorem UM(hB:B.take 32=sec t r)(ht:t<18446744073709551616)(hr:r<65536):rdH (t%2) B=some (t,r):=by
 unfold rdH;rw[Md B 8 8 32 (by omega),Md B 16 2 32 (by omega),hB,Qbu,Qbv,jI,jI,show t%2^(8*8)=t from dI (by simpa using ht),show r%2^(8*2)=r from dI (by simpa using hr),if_pos ⟨rfl,rfl⟩]
theorem N7(ht:t<18446744073709551616)(hr:r<65536):rdH (t%2) (blk t r)=some (t,r):=UM (UO t r) ht hr
variable {i:Nat}
theorem jr(h:rdH i B=some (t,r)):t%2=i/\B.take 32=sec t r:=by
 unfold rdH at h;split at h
 ·rename_i hc;simp only[ba,cO]at h;rw[h.1,h.2]at hc;exact⟨hc.1,hc.2.symm⟩
 ·cases h
theorem R8(h:B.take 8≠Mp):rdH i B=none:=by
 cases hc:rdH i B with
 |none=>rfl
 |some x=>
  obtain⟨t,r⟩:=x;have b:=(jr hc).2;have a:=Yh t r;rw[<-b,cA,bS (by omega)]at a;exact absurd a h
theorem Xe{L:List UInt8}{n:Nat}(hL:L.length=n*128)(hi:i<n)(hB:B.length=128)(j:Nat):yl (jm L i B) j=if j=i then B else yl L j:=by
 have a:i*128+128<=n*128:=by omega
 unfold yl jm
 by_cases h:j=i
 ·subst h;rw[if_pos rfl];exact MX (by rw[hB,hL];omega) _ hB.symm
 ·rw[if_neg h];exact QO (by rw[hB,hL];omega) (by rw[hB];omega)
end Go.Proofs.YtcklgafpgdhnaaaGreatDoor
namespace Go.Proofs.YtcklgafpgdhnaaaGreatDoor
open Go.RowKit Go.Shelf
attribute [local go_sem] Oper.semAt_some
section
variable {F:Fence} {n:Nat} {P:Program} {ops:Array Oper} {rest:List Oper} {o:Oper} {a:Act} {w:World} {Q:Exit->Act->World->Prop}
theorem inV(hgd:o.guard=none)(oH:∀f,F.fn f)(ug:o.semAt F.round a.eval=execOp a.eval o)(v:Value)(w':World)(eJ:(execOp a.eval o).run P w=.ok (.value v) w')(h:wpListIn F n P ops Q rest (a.put o.dst v) w'):wpListIn F n P ops Q (o::rest) a w:=
 wpListIn_plain hgd fun K b=>⟨fun f _=>oH f,by rw[ug,eJ];exact b _ _ h⟩
end
structure KC(M:List Nat)(w w':World):Prop where
 os:w'.os=w.os
 tape:w'.tape=w.tape
 output:w'.output=w.output
 size:w.heap.size<=w'.heap.size
 row:∀k cs t fr,w.heap[k]?=some (.cells cs t fr)->k∉M->t≠41->w'.heap[k]?=some (.cells cs t fr)
theorem KC.refl(M:List Nat)(w:World):KC M w w:=⟨rfl,rfl,rfl,ag _,fun _ _ _ _ h _ _=>h⟩
theorem KC.trans{M:List Nat}{a b c:World}(h:KC M a b)(k:KC M b c):KC M a c:=⟨k.os.trans h.os,k.tape.trans h.tape,k.output.trans h.output,av h.size k.size,fun i d t e g f ht=>k.row i d t e (h.row i d t e g f ht) f ht⟩
variable {M:List Nat}
theorem KC.of{S:List Nat}{a b:World}(h:y6 S a b)(hS:∀x∈S,x∈M):KC M a b:=⟨h.os,h.tape,h.output,h.size,fun _ _ _ _ c d _=>h.get c fun e=>d (hS _ e)⟩
theorem KC.of0{a b:World}(h:y6 [] a b):KC M a b:=KC.of h (by simp)
theorem KC.put(W:World)(l:Nat)(o o':Obj)(h:W.heap[l]?=some o)(hc:o.isCells=false):KC M W (W.putObj l o'):=by
 have g:=grownBy_putObj' W l o';refine⟨g.os,g.tape,g.output,g.size,fun k b t c a _ _=>(g.block k (yt a) ?_).trans a⟩;intro e
 cases e
 rw[a]at h
 cases h
 cases hc
theorem SL.kc{w w':World}{t:TypeId}{d:Nat}{v:Value}{es:List El}(h:SL w t d v es)(k:KC M w w')(hb:∀b,v.ownBlock=some b->b∉M)(ht:t≠41):SL w' t d v es:=by
 rcases h with h|⟨g,e,a,c,rfl,f,r⟩
 ·exact Or.inl h
 ·exact Or.inr ⟨g,e,a,c,rfl,k.row _ _ _ _ f (hb g rfl) ht,r⟩
theorem ND.kc{M:List Nat}{w w':World}(k:KC M w w'):∀{h:Nat} {n:Nd h} {x:Value},ND w (·∉M) h n x->ND w' (·∉M) h n x
 |0,_,_,⟨v,e,b,a⟩=>⟨v,e,SL.kc b k a (by decide),a⟩
 |_+1,_,_,⟨v,d,e,b,a,f⟩=>⟨v,d,e,SL.kc b k a (by decide),a,f.mono fun _ _ _ c=>⟨c.1,ND.kc k c.2⟩⟩
theorem SL.from_{P:Program}{w:World}{T t:TypeId}{d:Nat}{v:Value}{es:List El}(h:SL w t d v es)(hu:P.underlying T=some (.slice t))(hs:(P.info? t).map (·.size)=some d)(i:Nat)(hi:i<=es.length):
  ∃p c,(∀W,(Instr.sliceAt T v (some (.int .i64 (i:Int))) none none).run P W=.ok (.slice p (es.length-i) c) W)/\SL w t d (.slice p (es.length-i) c) (es.drop i)/\∀b,(Value.slice p (es.length-i) c).ownBlock=some b->v.ownBlock=some b:=by
 rcases h with⟨rfl,rfl⟩|⟨g,off,cap,cur,rfl,hh,h1,h2,h3,h4⟩
 ·obtain rfl:i=0:=by simpa using hi
  refine⟨none,0,fun W=> ?_,Or.inl ⟨rfl,rfl⟩,fun b f=>by cases f⟩
  cases k:P.info? t with
  |none=>simp[k]at hs
  |some n=>simp[Instr.sliceAt,Instr.slice,aO hu,Instr.sliceBounds,Instr.sliceBound,asIntOf,sizeOf,typeInfo,k]
 ·refine⟨some (qS d g off cap i),cap-i,fun W=>yA W T t d g off es.length cap hu hs i hi,Or.inr ?_,fun b f=> ?_⟩
  ·unfold qS;have m:(cap-i)*d=cap*d-i*d:=Nat.sub_mul cap i d;have l:i*d<=cap*d:=bN d (by omega)
   by_cases hc:cap=i
   ·rw[if_pos hc];refine⟨g,off,cap-i,cur,by rw[aC],hh,by rw[aC];omega,by omega,by omega,?_⟩;intro j e a;rw[aV,bY (by omega)]at a
    cases a
   ·rw[if_neg hc];refine⟨g,off+i*d,cap-i,cur,by rw[aC],hh,by rw[aC];omega,by omega,by omega,?_⟩;intro j e a;rw[aV]at a;have:=h4 (i+j) e a;rw[show off+(i+j)*d=off+i*d+j*d by rw[bT];omega]at this;exact this
  ·have:(Value.slice (some (qS d g off cap i)) (es.length-i) (cap-i)).ownBlock=some (qS d g off cap i).block:=rfl;rw[this,ZN]at f;exact f
def O9(l:Nat)(M:List Nat)(N:Nat)(J Jx:List Pr->World->Prop):Prop:=∀m pre (x:Pr) W,J pre W->okp x->pre.length<N->YieldAt Fence.wide m prog l #[.agg #[.string x.1,.string x.2]] W fun e W'=>
 (e=.returned (.bool true)/\J (pre++ [x]) W'/\KC M W W')\/(e=.returned (.bool false)/\Jx (pre++ [x]) W')
def Ny(M:List Nat)(J Jx:List Pr->World->Prop)(hi:ByteArray)(pre flat fl:List Pr)(W:World)(e:Ending)(W':World):Prop:=
 (e=.returned (.bool true)/\J (pre++fl) W'/\KC M W W')\/(e=.returned (.bool false)/\((J (pre++fl) W'/\KC M W W'/\∃p∈flat,bl p.1 hi=false)\/∃q,q<+:fl/\Jx (pre++q) W'))
def LfI(l:List Pr)(hi:ByteArray)(i0:Nat)(M:List Nat)(J:List Pr->World->Prop)(pre:List Pr)(W:World)(i:Value)(wr:World):Prop:=∃j:Nat,j<=l.length-i0/\i=.int .i64 j/\J (pre++(l.drop i0).take j) wr/\KC M W wr/\∀p∈(l.drop i0).take j,bl p.1 hi=true
theorem Qd4(ll:Nat)(M:List Nat)(N:Nat)(J Jx:List Pr->World->Prop)(hJ:∀pre W W',J pre W->y6 [] W W'->J pre W')(hY:O9 ll M N J Jx)(lo hi:ByteArray)(n:Nat)(v:Value)(l:List Pr)(pre:List Pr)(W:World)
  (hl:LF W v l)(hb:∀b,v.ownBlock=some b->b∉M)(hs:Srt l)(hok:∀p∈l,okp p)(hlen:l.length<=1000)(pH:J pre W)(hN:pre.length+(flt lo hi l).length<=N):
  CallsIn Fence.wide n prog 233 #[v,.string lo,.string hi,.func (.yield ll) #[] #[]] W (Ny M J Jx hi pre l (flt lo hi l) W):=by
 have K:=ME (Q5 hs) lo;have Z:=(NL v (l.map pe) (l.map (·.1)) lo W hl (NJ l) (Q5 hs) (by simp;omega)).mono fun _ _ h=>MS h;have u:=K.1;rw[aj]at u;have hl0:=hl;obtain⟨p,c,ev⟩:=SL.shape hl;rw[aj]at ev;obtain⟨ps,G,R,pP,kN⟩:=SL.from_ (P:=prog) (T:=116) hl underlying116 stp (pK (l.map (·.1)) lo) (by rw[aj];exact u);rw[aj,<-List.map_drop]at pP;rw[aj]at R kN;subst ev;generalize pK (l.map (·.1)) lo=a at*;generalize bK (l.map (·.1)) lo=b0 at*;have HF:Hid (CallsIn Fence.wide _ _ _ _ _ _):=dH (n:=n-1)|>.2 Z
 refine callsIn_of_wp func233 rfl trivial ?_ rfl;simp only[ntmps233,bX,aB,bO,Nat.reduceAdd,Nat.reduceSub,dz,dA,dQ,dF,aX,bD]
 gi_wp2_with(first|(refine⟨trivial,fun h=>(by cases h),?_⟩;gi_at_call 70;refine HF.out.mono ?_;rintro e X⟨rfl,y⟩))
 have HY:Hid _:=hY;have D:Hid (∀j,(∀p∈(l.drop a).take j,bl p.1 hi=true)->flt lo hi l=(l.drop a).take j++flt lo hi (l.drop (a+j))):=fun j h=>by
  have:=Q64 (hi:=hi) K (j:=a+j) (by omega) (by rw[show a+j-a=j by omega];exact h)
  rwa[show a+j-a=j by omega]at this
 have Y:Hid _:=hJ;have Df:Hid (J pre X):=hJ pre W X pH y;have L:KC M W X:=KC.of0 y;clear hY hJ pH K Z
 gi_loopw [23] (fun i wr=>LfI l hi a M J pre W i wr) (fun i _=>l.length-a-(intOf i).toNat)
 case atStart=>exact⟨0,ay _,rfl,by simpa using Df.out,L,by simp⟩
 case round=>
  obtain⟨j,hj,rfl,zU,C,A⟩:=hrel;have U:Hid _:=zU;have E:Hid _:=A;clear zU A
  by_cases w:j<l.length-a
  ·have hjm':(j:Int)<((l.length-a:Nat):Int):=by omega
   obtain⟨x,s⟩:∃x,l[a+j]?=some x:=⟨_,aa (by omega)⟩
   have m:(l.drop a)[j]?=some x:=by rw[aV];exact s
   have z:SL wr 122 2 (.slice ps (l.length-a) G) ((l.drop a).map pe):=SL.kc pP C (fun b Q=>hb b (kN b Q)) (by decide);obtain⟨g,f,cap,cur,e,hg,hc1,hc2,hc3,H⟩:=z.at_ (by rw[aj,aC];omega);rw[aj,aC]at e
   cases e
   have I:=jC (P:=prog) (ty:=122) _ hg (H j (pe x) (by rw[aA,m];rfl)) underlying122 stp;simp only[pe]at I;have HX:Hid _:=s;have Lk:Hid _:=m
   cases k:bl x.1 hi with
   |false=>
    have o:Op.bytesLess x.1.toList hi.toList=false:=k;clear H s m k
    gi_wp2_with(first|(refine inV rfl (fun _=>trivial) rfl _ _ (yc 116 (.tmp 21) (.tmp 23) rfl g f (l.length-a) G j 2 rfl rfl 122 underlying116 stp w (f+j*2) rfl) ?_)|(refine inV rfl (fun _=>trivial) rfl _ _ (y9 122 (.tmp 25) rfl ⟨g,f+j*2,none⟩ rfl _ I) ?_))
    refine⟨fun _ h=>(by cases h),?_⟩
    gi_wp2
    go_ret;have s:=HX.out;have Ji:∀q∈l.drop (a+j),bl q.1 hi=false:=Xf hs s o;have d:=D.out j E.out;rw[Ra lo hi _ Ji,bo]at d;refine Or.inr ⟨rfl,Or.inl ⟨?_,C.trans (KC.of0 ((y6.refl [] wr).alloc _)),x,ah s,o⟩⟩;rw[d];exact Y.out _ _ _ U.out ((y6.refl [] wr).alloc _)
   |true=>
    have o:Op.bytesLess x.1.toList hi.toList=true:=k;have k2:=(y6.refl [] wr).alloc (.cells #[.string x.1,.string x.2] 122);have B:(l.drop a).take (j+1)=(l.drop a).take j++ [x]:=qe _ j x m;have V:∀p∈(l.drop a).take (j+1),bl p.1 hi=true:=by
     rw[B];intro p t;rcases ar.1 t with t|t
     ·exact E.out p t
     ·simp at t;subst t;exact k
    have d:=D.out (j+1) V;have mH:(pre++(l.drop a).take j).length<N:=by
     have h1:=congrArg List.length d;rw[B,ai,ai,aB,bO]at h1;rw[ai];omega
    obtain⟨fn,tmps,assign,body,hy,hR⟩:=HY.out (n-1) (pre++(l.drop a).take j) x (wr.alloc (.cells #[.string x.1,.string x.2] 122)) (Y.out _ _ _ U.out k2) (hok x (ah s)) mH;have o4:Hid _:=B;have Jj:Hid _:=V;have Jk:Hid _:=d;have xa:=C.trans (KC.of0 (M:=M) k2);clear H s m k B V d mH
    gi_wp2_with(first|(refine inV rfl (fun _=>trivial) rfl _ _ (yc 116 (.tmp 21) (.tmp 23) rfl g f (l.length-a) G j 2 rfl rfl 122 underlying116 stp w (f+j*2) rfl) ?_)|(refine inV rfl (fun _=>trivial) rfl _ _ (y9 122 (.tmp 25) rfl ⟨g,f+j*2,none⟩ rfl _ I) ?_)|((try refine⟨trivial,?_⟩);(try refine⟨fun h=>(by cases h),?_⟩);refine hR.mono ?_;clear hR;rintro e W2(⟨rfl,O,lq⟩|⟨rfl,S⟩)))
    ·refine⟨⟨j+1,by omega,by simp,?_,xa.trans lq,Jj.out⟩,by simp[intOf];omega⟩;rw[o4.out,<-aG];exact O
    ·go_ret;refine Or.inr ⟨rfl,Or.inr ⟨(l.drop a).take (j+1),⟨_,Jk.out.symm⟩,?_⟩⟩;rw[o4.out,<-aG];exact S
  ·have o:¬(j:Int)<((l.length-a:Nat):Int):=by omega
   have ej:j=l.length-a:=by omega
   have d:=D.out j E.out;have r:l.drop (a+j)= []:=bC (by omega);rw[r,show flt lo hi []= []from rfl,bo]at d;have F:Hid (J (pre++flt lo hi l) wr):=by show J _ _;rw[d];exact U.out
   clear d ej r
   gi_wp2
   go_ret;exact Or.inl ⟨rfl,F.out,C⟩
attribute [local go_sem] Oper.semAt_some
theorem Xd(p:Option Addr)(n c:Nat):jj "store/tree.feed" (.iface 116 (.slice p n c)) 233 (.slice p n c):=⟨_,rfl,fun _=>by kernel_rfl,fun _ _=>by kernel_rfl⟩
theorem Qd6(p:Option Addr)(n c:Nat):jj "store/tree.feed" (.iface 168 (.slice p n c)) 252 (.slice p n c):=⟨_,rfl,fun _=>by kernel_rfl,fun _ _=>by kernel_rfl⟩
def Uk(ll:Nat)(M:List Nat)(N:Nat)(J Jx:List Pr->World->Prop)(lo hi:ByteArray)(h:Nat):Prop:=∀(n:Nat) (f:ByteArray) (nd:Nd h) (x:Value) (pre:List Pr) (W:World),ND W (·∉M) h nd x->WFN h f nd->qd h nd->yq h nd<=1000->J pre W->pre.length+(flt lo hi (yV h nd)).length<=N->
  ∃fn v,jj "store/tree.feed" x fn v/\CallsIn Fence.wide n prog fn #[v,.string lo,.string hi,.func (.yield ll) #[] #[]] W (Ny M J Jx hi pre (yV h nd) (flt lo hi (yV h nd)) W)
def fk(lo hi:ByteArray){h:Nat}(ks:List (Kid h))(i0 j:Nat):List Pr:=flt lo hi (yJ h ((ks.drop i0).take j))
theorem Qd8(lo hi:ByteArray){h:Nat}(ks:List (Kid h))(i0 j:Nat)(q:Kid h)(hq:ks[i0+j]?=some q):fk lo hi ks i0 (j+1)=fk lo hi ks i0 j++flt lo hi (yV h q.2):=by
 unfold fk;rw[qe (ks.drop i0) j q (by rw[aV];exact hq),qz,Mz];congr 2;simp[yJ]
theorem Qd9(lo hi:ByteArray){h:Nat}(ks:List (Kid h))(i0 j:Nat):flt lo hi (yJ h (ks.drop i0))=fk lo hi ks i0 j++flt lo hi (yJ h (ks.drop (i0+j))):=by
 unfold fk;rw[<-Mz,<-qz,<-dL,aS]
def BfI(lo hi:ByteArray){h:Nat}(ks:List (Kid h))(i0:Nat)(M:List Nat)(J:List Pr->World->Prop)(pre:List Pr)(W:World)(i:Value)(wr:World):Prop:=∃j:Nat,j<=ks.length-i0/\i=.int .i64 j/\J (pre++fk lo hi ks i0 j) wr/\KC M W wr
theorem Qda(ll:Nat)(M:List Nat)(N:Nat)(J Jx:List Pr->World->Prop)(hJ:∀pre W W',J pre W->y6 [] W W'->J pre W')(lo hi:ByteArray)(h:Nat)(IH:Uk ll M N J Jx lo hi h)(n:Nat)(f:ByteArray)(v:Value)(xs:List KE)(ks:List (Kid h))(pre:List Pr)(W:World)
  (hl:SL W 80 3 v (xs.map ke))(hb:∀b,v.ownBlock=some b->b∉M)(hf:F2 (KR W (·∉M) h) ks xs)(hw:WFN (h+1) f ks)(kq:qd (h+1) ks)(hlen:ks.length<=1000)(pH:J pre W)(hN:pre.length+(flt lo hi (yJ h ks)).length<=N):
  CallsIn Fence.wide n prog 252 #[v,.string lo,.string hi,.func (.yield ll) #[] #[]] W (Ny M J Jx hi pre (yJ h ks) (flt lo hi (yJ h ks)) W):=by
 have E:=((yN h f ks).1 hw).2;have eG:=(yO h ks).1 kq;have X:xs.length=ks.length:=hf.1.symm;have D:=Ro h (·∉M) v xs ks lo W hl hf E hlen;have uO:=Pg lo hw;have rE:flt lo hi (yJ h ks)=flt lo hi (yJ h (ks.drop (qq ks lo))):=by
  conv=>lhs;rw[<-aS (qq ks lo) ks,qz,Mz]
  rw[Wk lo hi _ (Q65 E),aX]
 obtain⟨p,c,ev⟩:=SL.shape hl;rw[aj,X]at ev;obtain⟨ps,cs,hsl,pP,kN⟩:=SL.from_ (P:=prog) (T:=168) hl underlying168 QG (qq ks lo) (by rw[aj];omega);rw[aj,<-List.map_drop,X]at pP;rw[aj,X]at hsl kN;subst ev;have HC:Hid (CallsIn Fence.wide _ _ _ _ _ _):=dH (n:=n-1)|>.2 D
 have x:Hid (∀j,flt lo hi (yJ h ks)=fk lo hi ks (qq ks lo) j++flt lo hi (yJ h (ks.drop (qq ks lo+j)))):=fun j=>rE.trans (Qd9 lo hi ks (qq ks lo) j);generalize qq ks lo=a at*;clear D rE;refine callsIn_of_wp func252 rfl trivial ?_ rfl;simp only[ntmps252,bX,aB,bO,Nat.reduceAdd,Nat.reduceSub,dz,dA,dQ,dF,aX,bD]
 gi_wp2_with(first|(refine⟨trivial,fun h=>(by cases h),?_⟩;gi_at_call 262;refine HC.out.mono ?_;rintro e w1⟨rfl,K⟩))
 have HJ:Hid _:=hJ;have zb:Hid _:=IH;have Df:Hid (J pre w1):=hJ pre W w1 pH K;have hB1:KC M W w1:=KC.of0 K;clear hJ pH IH
 gi_loopw [17] (fun i wr=>BfI lo hi ks a M J pre W i wr) (fun i _=>ks.length-a-(intOf i).toNat)
 case atStart=>exact⟨0,ay _,rfl,by simpa[fk,yJ,flt]using Df.out,hB1⟩
 case round=>
  obtain⟨j,hj,rfl,zU,U⟩:=hrel;have vN:Hid _:=zU;clear zU
  by_cases I:j<ks.length-a
  ·have hjm':(j:Int)<((ks.length-a:Nat):Int):=by omega
   obtain⟨q,B⟩:∃q,ks[a+j]?=some q:=⟨_,aa (by omega)⟩
   have R:=ah B;obtain⟨y,hy,O⟩:=hf.get B;have wN:(xs.drop a)[j]?=some y:=by rw[aV];exact hy
   have L:SL wr 80 3 (.slice ps (ks.length-a) cs) ((xs.drop a).map ke):=SL.kc pP U (fun b hb'=>hb b (kN b hb')) (by decide);obtain⟨g,l,cap,cur,e,hg,hc1,hc2,hc3,dW⟩:=L.at_ (by rw[aj,aC];omega);rw[aj,aC,X]at e
   cases e
   have G:=jC (P:=prog) (ty:=80) _ hg (dW j (ke y) (by rw[aA,wN];rfl)) underlying80 QG;simp only[ke]at G;have o:=eG q R;have d:=Qd8 lo hi ks a j q B;have F:=x.out (j+1);have S:=x.out j;have V:∀p∈yV h q.2,p∈yJ h ks:=fun p hp=>qb.2 ⟨q,R,hp⟩
   cases k:bl q.1 hi with
   |false=>
    have H:Op.bytesLess y.1.toList hi.toList=false:=by rw[O.1.1];exact k
    obtain⟨r,u⟩:=dm _ (Ms (by have:=o.1.1;omega) o.2);have C:bl r.1 hi=false:=jn (WFN.keys (E.all q R) r u).1 k;have Q:=Ra lo hi _ (Q66 E B k);rw[Q,bo]at S;have w:Hid (∀W',y6 [] wr W'->Ny M J Jx hi pre (yJ h ks) (flt lo hi (yJ h ks)) W (.returned (.bool false)) W'):=fun W' kW=>Or.inr ⟨rfl,Or.inl ⟨by rw[S];exact HJ.out _ _ _ vN.out kW,U.trans (KC.of0 kW),r,V r u,C⟩⟩;obtain⟨ty,vy,ey⟩:=O.2.iface;rw[ey]at G;clear dW B hy wN k d F S Q V u C
    gi_wp2_with(first|(refine inV rfl (fun _=>trivial) rfl _ _ (yc 168 (.tmp 15) (.tmp 17) rfl g l (ks.length-a) cs j 3 rfl rfl 80 underlying168 QG I (l+j*3) rfl) ?_)|(refine inV rfl (fun _=>trivial) rfl _ _ (y9 80 (.tmp 19) rfl ⟨g,l+j*3,none⟩ rfl _ G) ?_))
    all_goals
     refine⟨fun _ _=>trivial,?_⟩
     gi_wp2
     go_ret;exact w.out _ ((y6.refl [] wr).alloc _)
   |true=>
    have H:Op.bytesLess y.1.toList hi.toList=true:=by rw[O.1.1];exact k
    have k2:=(y6.refl [] wr).alloc (.cells #[.string y.1,.int .i64 y.3,y.2] 80);have Y:KC M W (wr.alloc (.cells #[.string y.1,.int .i64 y.3,y.2] 80)):=U.trans (KC.of0 k2);have mH:(pre++fk lo hi ks a j).length+(flt lo hi (yV h q.2)).length<=N:=by
     have h1:=congrArg List.length F;rw[d,ai,ai]at h1;rw[ai];omega
    obtain⟨fn,vv,⟨t,ex,hm,he⟩,D⟩:=zb.out (n-1) q.1 q.2 y.2 (pre++fk lo hi ks a j) (wr.alloc (.cells #[.string y.1,.int .i64 y.3,y.2] 80)) (ND.kc Y O.2) (E.all q R) o.2 (by have:=o.1.2;omega) (HJ.out _ _ _ vN.out k2) mH;have nX:(∃p∈yV h q.2,bl p.1 hi=false)->flt lo hi (yJ h ks)=fk lo hi ks a (j+1):=by
     rintro⟨r,u,C⟩;have Q:=Ra lo hi _ (Q67 E B u C);rw[show a+(j+1)=a+j+1 by omega,Q,bo]at F;exact F
    have Z:Hid _:=d;have HR:Hid _:=F;have HS:Hid _:=nX;have HQ:Hid _:=V;rw[ex]at D G Y;have m:Hid (CallsIn Fence.wide _ _ _ _ _ _):=D;clear dW B hy wN k d F S nX D V mH k2
    gi_wp2_with(first|(refine inV rfl (fun _=>trivial) rfl _ _ (yc 168 (.tmp 15) (.tmp 17) rfl g l (ks.length-a) cs j 3 rfl rfl 80 underlying168 QG I (l+j*3) rfl) ?_)|(refine inV rfl (fun _=>trivial) rfl _ _ (y9 80 (.tmp 19) rfl ⟨g,l+j*3,none⟩ rfl _ G) ?_)|(refine⟨trivial,fun h=>(by cases h),?_⟩;refine m.out.mono ?_;clear m;rintro e W2(⟨rfl,z,lq⟩|⟨rfl,⟨z,lq,pC⟩|⟨q2,fY,hx2⟩⟩)))
    ·refine⟨⟨j+1,by omega,by simp,?_,Y.trans lq⟩,by simp[intOf];omega⟩;rw[Z.out,<-aG];exact z
    ·go_ret;obtain⟨r,u,C⟩:=pC;refine Or.inr ⟨rfl,Or.inl ⟨?_,Y.trans lq,r,HQ.out r u,C⟩⟩;rw[HS.out ⟨r,u,C⟩,Z.out,<-aG];exact z
    ·go_ret;refine Or.inr ⟨rfl,Or.inr ⟨fk lo hi ks a j++q2,?_,by rw[<-aG];exact hx2⟩⟩;rw[HR.out,Z.out];obtain⟨r2,fE⟩:=fY;exact⟨r2++flt lo hi (yJ h (ks.drop (a+(j+1)))),by rw[<-fE];simp[aG]⟩
  ·have H:¬(j:Int)<((ks.length-a:Nat):Int):=by omega
   have s:ks.drop (a+j)= []:=bC (by omega);have A:=x.out j;rw[s,show flt lo hi (yJ h [])= []from rfl,bo]at A;have w:Hid (J (pre++flt lo hi (yJ h ks)) wr):=by show J _ _;rw[A];exact vN.out
   clear A s
   gi_wp2
   go_ret;exact Or.inl ⟨rfl,w.out,U⟩
theorem UU(ll:Nat)(M:List Nat)(N:Nat)(J Jx:List Pr->World->Prop)(hJ:∀pre W W',J pre W->y6 [] W W'->J pre W')(hY:O9 ll M N J Jx)(lo hi:ByteArray):∀h,Uk ll M N J Jx lo hi h
 |0=>by
  intro n f d x pre W l b _ k m i;obtain⟨v,rfl,a,j⟩:=l;have e:=Qd4 ll M N J Jx hJ hY lo hi n v d pre W a j b.1 (fun p q=>(b.2 p q).2) (Sm.of b k).2 m i;obtain⟨p,c,g⟩:=SL.shape a;subst g;exact⟨_,_,Xd _ _ _,e⟩
 |h+1=>by
  intro n f d x pre W l b r k m i;obtain⟨v,s,rfl,a,j,o⟩:=gg.1 l;have e:=Qda ll M N J Jx hJ lo hi h (UU ll M N J Jx hJ hY lo hi h) n f v s d pre W a j o b r (by have:11*List.length (α:=Kid h) d<=1000:=k;omega) m i;obtain⟨p,c,g⟩:=SL.shape a;subst g;exact⟨_,_,Qd6 _ _ _,e⟩
end Go.Proofs.YtcklgafpgdhnaaaGreatDoor
namespace Go.Proofs.YtcklgafpgdhnaaaGreatDoor
open Go.RowKit
def MI:(h:Nat)->Nd h->Prop
 |0,_=>True
 |h+1,ks=>∀k:Kid h,List.Mem k ks->k.3≠0
def GlN(lk:Nat->List UInt8):(h:Nat)->Nd h->Prop
 |0,_=>True
 |h+1,ks=>∀k:Kid h,List.Mem k ks->k.1.size<=8/\GlN lk h k.2/\(k.3≠0->lk k.3=gS (nbN h k.2)/\MI h k.2)
def Gl(lk:Nat->List UInt8)(h:Nat)(k:Kid h):Prop:=k.1.size<=8/\GlN lk h k.2/\(k.3≠0->lk k.3=gS (nbN h k.2)/\MI h k.2)
theorem Sl(lk:Nat->List UInt8):∀(h:Nat) (n:Nd h),GN (Gl lk) h n↔GlN lk h n
 |0,_=>Iff.rfl
 |_+1,_=>Iff.rfl
theorem Qbb(lk:Nat->List UInt8):KP (Gl lk):=⟨fun h k g=>(Sl lk h k.2).2 g.2.1,fun h _ n a g=>⟨a,(Sl lk h n).1 g,fun e=>absurd rfl e⟩,fun _ _ g=>g.1⟩
variable {lk:Nat->List UInt8}
theorem jJ{h:Nat}{ks:List (Kid h)}:GlN lk (h+1) ks↔∀k∈ks,Gl lk h k:=Iff.rfl
theorem GlN.lies{lk:Nat->List UInt8}:∀{h:Nat} {n:Nd h},GlN lk h n->MI h n->jd lk h n/\0∉j0 h n/\QI h n=j0 h n
 |0,_,_,_=>⟨trivial,by simp[j0],rfl⟩
 |h+1,(i:List (Kid h)),g,s=>by
  have c:∀k∈i,(lk k.3=gS (nbN h k.2)/\jd lk h k.2)/\0∉gD h k/\qT h k=gD h k:=by
   intro k c;obtain⟨_,m,o⟩:=jJ.1 g k c;have d:k.3≠0:=s k c;obtain⟨e,j⟩:=o d;obtain⟨t,u,v⟩:=m.lies j;refine⟨⟨e,t⟩,?_,by rw[qT,if_neg d];rfl⟩;intro b;rcases an.1 b with l|b
   ·exact d l.symm
   ·exact u b
  refine⟨gQ.2 fun k b=>(c k b).1,?_,?_⟩
  ·intro b;obtain⟨k,p,q⟩:=cU.1 b;exact(c k p).2.1 q
  ·have:∀L:List (Kid h),(∀k∈L,qT h k=gD h k)->L.flatMap (qT h)=L.flatMap (gD h):=by
    intro L
    induction L with
    |nil=>intro _;rfl
    |cons a r ih=>intro f;rw[bF,bF,f a (by simp),ih fun k c=>f k (by simp[c])]
   exact this i fun k b=>(c k b).2.2
theorem Gl.sub{h:Nat}{k:Kid h}(g:Gl lk h k):(QI h k.2).Sublist (qT h k):=by
 unfold qT;split
 ·exact cF _
 ·rename_i a;obtain⟨_,b,c⟩:=g;obtain⟨_,_,e⟩:=b.lies (c a).2;rw[e];exact List.sublist_cons_self _ _
theorem GlN.pl{lk:Nat->List UInt8}:∀{h:Nat} {n:Nd h},GlN lk h n->PlN lk h n
 |0,_,_=>trivial
 |h+1,e,g=>TJ.2 fun k d=>by
  obtain⟨_,b,c⟩:=jJ.1 g k d;exact⟨fun a=>⟨(c a).1,(b.lies (c a).2).1⟩,fun _=>b.pl⟩
theorem Vv(h:Nat)(n m:Nd h):QI h (Q4 h n m)=QI h n++QI h m:=by
 cases h with
 |zero=>rfl
 |succ h=>
  show List.flatMap (qT h) (List.append n m)=List.flatMap (qT h) n++List.flatMap (qT h) m;exact cr
theorem Qbd(h:Nat)(n:Nd h):QI h (yW h n).1++QI h (yW h n).2=QI h n:=by
 cases h with
 |zero=>rfl
 |succ h=>
  have:∀(L:List (Kid h)) (i:Nat),(L.take i).flatMap (qT h)++(L.drop i).flatMap (qT h)=L.flatMap (qT h):=by
   intro L i;rw[<-cr,aS]
  exact this n _
theorem N5(h:Nat)(f:ByteArray)(n:Nd h):(qN h f n).flatMap (qT h)=QI h n:=by
 unfold qN;split
 ·simp[qT]
 ·simp only[bF,List.flatMap_nil,qT,if_true,bo];exact Qbd h n
theorem Qbf{h:Nat}(ks:List (Kid h))(i:Nat)(a:Kid h)(hi:ks[i]?=some a)(hl:2<=ks.length)(ho:∀j k,ks[j]?=some k->j≠i->(QI h k.2).Sublist (qT h k)):
  ((qA h ks i).flatMap (qT h)).Sublist ((ks.take i).flatMap (qT h)++(QI h a.2++(ks.drop (i+1)).flatMap (qT h))):=by
 unfold qA;rw[hi];simp only;have e:=(ae.1 hi).1;split
 ·cases i with
  |zero=>
   have c:ks[0-1+1]?=some ks[1]:=aa (by omega);have b:ks[0-1]?=some a:=hi;rw[b,c];simp only;have d:ks.drop (0+1)=ks[1]::ks.drop 2:=aL (by omega);rw[d];simp only[cr,N5,Vv,bF,cR,List.flatMap_nil,aX,Nat.zero_sub,aG];exact dE (cF _) (dE (ho 1 _ (aa (by omega)) (by omega)) (cF _))
  |succ m=>
   have b:ks[m+1-1]?=some ks[m]:=aa (by omega);have c:ks[m+1-1+1]?=some a:=hi;rw[b,c];simp only;have ht:ks.take (m+1)=ks.take m++ [ks[m]]:=cZ (by omega);rw[ht];simp only[cr,N5,Vv,bF,List.flatMap_nil,bo,dJ,aG];exact dE (cF _) (dE (ho m _ (aa (by omega)) (by omega)) (cF _))
 ·simp only[cr,N5];exact cF _
theorem UZ{lk:Nat->List UInt8}{F:List Pr->List Pr}{k:ByteArray}(hF:Zw F k):∀(h:Nat) (f:ByteArray) (n:Nd h),WFN h f n->qd h n->ge k f->(0<h->22<=yq h n)->GlN lk h n->(QI h (yL F k h n)).Sublist (QI h n)
 |0,_,_,_,_,_,_,_=>cF _
 |h+1,f,(b:List (Kid h)),D,w,y,G,g=>by
  obtain⟨⟨H,K,I,o⟩,p⟩:=(yN h f b).1 D;have v:=(yO h b).1 w;obtain⟨A,a,B,d,c,E,L⟩:=Zv f H K I k (by rw[<-o];exact p) y;rw[<-o]at d c;have i:a∈b:=by rw[d];simp
  have e:b[qq b k]?=some a:=by
   rw[<-c,d];simp
  have s:=v a i;have J:0<h->22<=yq h a.2:=fun _=>by have:=s.1.1;omega
  have q:=jJ.1 g a i;have ih:=UZ hF h a.1 a.2 (p.all a i) s.2 E J q.2.1;have m:qq b k<b.length:=(ae.1 e).1;have l:2<=b.length:=by
   have:22<=11*b.length:=G (by omega);omega
  show((chgK h (yL F k h) k b).flatMap (qT h)).Sublist (b.flatMap (qT h));unfold chgK;rw[e];simp only;have C:=Qbf (b.set (qq b k) ⟨a.1,yL F k h a.2,a.3⟩) (qq b k) ⟨a.1,yL F k h a.2,a.3⟩ (by rw[dc m]) (by rw[bJ];exact l) (by
   intro j x r z;rw[cW (by omega)]at r;exact(jJ.1 g x (ah r)).sub)
  refine C.trans ?_;have t:(b.set (qq b k) ⟨a.1,yL F k h a.2,a.3⟩).take (qq b k)=A:=by
   rw[List.take_set_of_le (ag _),<-c,d];exact List.take_left' rfl
  have u:(b.set (qq b k) ⟨a.1,yL F k h a.2,a.3⟩).drop (qq b k+1)=B:=by
   rw[List.drop_set_of_lt (by omega),<-c,d,<-aG];exact List.drop_left' (by simp)
  rw[t,u]
  conv=>rhs;rw[d]
  simp only[cr,bF,List.flatMap_nil,bo];exact dE (cF _) (dE (ih.trans q.sub) (cF _))
theorem Qbh(h:Nat)(m:Nd h):qT (lowT h m).h (rtK (lowT h m))=QI h m:=by
 cases h with
 |zero=>rfl
 |succ h=>
  match m with
  | []=>rfl
  | [a]=>
   show qT h ⟨yu,a.2,a.3⟩=List.flatMap (qT h) [a];simp[qT]
  |a::b::r=>rfl
variable {F:List Pr->List Pr}
theorem Qbi{k:ByteArray}(hF:Zw F k)(t:Tr)(ht:TW t)(g:Gl lk t.h (rtK t)):(qT (gZ F k t).h (rtK (gZ F k t))).Sublist (QI t.h t.n):=by
 have c:=UZ (lk:=lk) hF t.h yu t.n ht.wf ht.full (jQ k) ht.two g.2.1;refine List.Sublist.trans ?_ c;unfold gZ;generalize yL F k t.h t.n=m;have a:=N5 t.h yu m
 by_cases b:yq t.h m<=122
 ·have e:qN t.h yu m= [⟨yu,m,0⟩]:=by unfold qN;rw[if_pos b]
  rw[e];show(qT (lowT t.h m).h (rtK (lowT t.h m))).Sublist (QI t.h m);rw[Qbh];exact cF _
 ·have e:qN t.h yu m= [⟨yu,(yW t.h m).1,0⟩,⟨jG t.h (yW t.h m).2,(yW t.h m).2,0⟩]:=by unfold qN;rw[if_neg b]
  rw[e]at a⊢;rw[<-a];exact cF _
theorem VR{k:ByteArray}(hF:Zw F k)(t:Tr)(ht:TW t)(g:Gl lk t.h (rtK t)):(qT (gZ F k t).h (rtK (gZ F k t))).Sublist (qT t.h (rtK t)):=(Qbi hF t ht g).trans g.sub
end Go.Proofs.YtcklgafpgdhnaaaGreatDoor
