import Derived.Test.YtcklgafpgdhnaaaGreatDoorPyaj
set_option maxRecDepth 100000
set_option maxHeartbeats 4000000
set_option linter.unusedSimpArgs false
set_option linter.unusedVariables false
set_option linter.unusedSectionVars false
namespace Go.Proofs.YtcklgafpgdhnaaaGreatDoor
open Go.RowKit
def gz(k:ByteArray):Prop:=1<=k.size/\k.size<=8
instance (k:ByteArray):Decidable (gz k):=by unfold gz;infer_instance
def LK(n mo k:Nat):Prop:=3*max mo k+12<=n
end Go.Proofs.YtcklgafpgdhnaaaGreatDoor
namespace Go.Proofs.YtcklgafpgdhnaaaGreatDoor
def ge(a b:ByteArray):Prop:=bl a b=false
theorem Ns(a:ByteArray):ge a a:=jU a
theorem Zt{a b:ByteArray}(h:bl a b=true):ge b a:=by
 unfold ge
 cases c:bl b a with
 |false=>rfl
 |true=>have:=gV h c;rw[jU]at this;cases this
theorem qF{a b c:ByteArray}(h:bl a b=true)(hc:ge c b):bl a c=true:=by
 rcases QX b c with d|rfl|d
 ·exact gV h d
 ·exact h
 ·unfold ge at hc;rw[hc]at d;cases d
theorem Zc{a b c:ByteArray}(h:ge b a)(hc:bl b c=true):bl a c=true:=by
 rcases QX a b with d|rfl|d
 ·exact gV d hc
 ·exact hc
 ·unfold ge at h;rw[h]at d;cases d
theorem jn{a b c:ByteArray}(h1:ge a b)(h2:ge b c):ge a c:=by
 unfold ge
 cases h:bl a c with
 |false=>rfl
 |true=>have:=qF h h2;unfold ge at h1;rw[h1]at this;cases this
theorem jo{a b:ByteArray}(h:bl a b=true):be a b=false:=by
 rw[MY];rintro rfl;rw[jU]at h;cases h
theorem ZL(a b:ByteArray):be a b=be b a:=by
 cases h:be a b with
 |true=>rw[(QD a b).1 h,Qq]
 |false=>symm;rw[MY];rw[MY]at h;exact fun e=>h e.symm
def Srt(l:List Pr):Prop:=l.Pairwise fun p q=>bl p.1 q.1=true
theorem jY(k v:ByteArray)(l:List Pr):gK k v true l=ym k l:=by
 induction l with
 |nil=>rfl
 |cons p r ih=>
  rw[qX];simp only[Bool.not_true,Bool.false_and,bj,cQ,aX,Bool.true_or,ih,ym,List.filter_cons]
  cases be p.1 k<;>simp
theorem Z0(k:ByteArray)(l:List Pr)(h:∀p∈l,be p.1 k=false):ym k l=l:=by
 rw[ym,List.filter_eq_self];intro p a;simp[h p a]
theorem Zd(k v:ByteArray)(A l:List Pr)(h:∀p∈A,bl p.1 k=true):yy k v (A++l)=A++yy k v l:=by
 induction A with
 |nil=>rfl
 |cons p r ih=>
  have a:=h p (by simp);have:=ih fun q b=>h q (by simp[b]);unfold yy at this⊢;rw[bD,qX,a,jo a];simp[this]
theorem Q3P(k v:ByteArray)(b:Bool)(l B:List Pr)(h:∀p∈B,bl k p.1=true):gK k v b (l++B)=gK k v b l++B:=by
 induction l generalizing b with
 |nil=>
  have f:ym k B=B:=Z0 k B fun p d=>by rw[ZL];exact jo (h p d)
  cases b with
  |true=>rw[aX,jY,f,ZF];rfl
  |false=>
   cases B with
   |nil=>simp
   |cons q r=>
    have e:=h q (by simp);have g:ym k r=r:=Z0 k r fun p d=>by rw[ZL];exact jo (h p (by simp[d]))
    have a:bl q.1 k=false:=Zt e;have c:be q.1 k=false:=by rw[ZL];exact jo e
    rw[aX,qX,a,c];simp[jY,g,ZF]
 |cons p r ih=>
  rw[bD,qX,qX,ih];simp
theorem Qy(k v:ByteArray)(l B:List Pr)(h:∀p∈B,bl k p.1=true):yy k v (l++B)=yy k v l++B:=Q3P k v false l B h
theorem P2(k:ByteArray)(A B:List Pr):ym k (A++B)=ym k A++ym k B:=List.filter_append ..
theorem Vx(k:ByteArray)(A:List Pr)(h:∀p∈A,bl p.1 k=true):ym k A=A:=Z0 k A fun p a=>jo (h p a)
theorem Qj(k:ByteArray)(A:List Pr)(h:∀p∈A,bl k p.1=true):ym k A=A:=Z0 k A fun p a=>by rw[ZL];exact jo (h p a)
theorem VP{k v:ByteArray}{b:Bool}{l:List Pr}{p:Pr}(h:p∈gK k v b l):p=(k,v)\/p∈l:=by
 induction l generalizing b with
 |nil=>cases b<;>simp[gK]at h;exact Or.inl h
 |cons q r ih=>
  rw[qX]at h;simp only[ar]at h;rcases h with(h|h)|h
  ·split at h
   ·simp at h;exact Or.inl h
   ·cases h
  ·split at h
   ·cases h
   ·simp at h;subst h;exact Or.inr (by simp)
  ·rcases ih h with h|h
   ·exact Or.inl h
   ·exact Or.inr (by simp[h])
theorem Xx{k:ByteArray}{l:List Pr}{p:Pr}(h:p∈ym k l):p∈l:=(List.mem_filter.1 h).1
theorem Q3U{k:ByteArray}{l:List Pr}(h:Srt l):Srt (ym k l):=List.Pairwise.filter _ h
theorem Q3V(k v:ByteArray)(l:List Pr)(h:Srt l):Srt (yy k v l):=by
 induction l with
 |nil=>simp[yy,gK,Srt]
 |cons p r ih=>
  have i:Srt r:=(aP.1 h).2;have c:=(aP.1 h).1;rcases QX p.1 k with b|d|b
  ·have e:yy k v (p::r)=p::yy k v r:=Zd k v [p] r (by simp[b]);rw[e];refine aP.2 ⟨?_,ih i⟩;intro q a;rcases VP a with rfl|a
   ·exact b
   ·exact c q a
  ·have e:yy k v (p::r)=(k,v)::r:=by
    have f:ym k r=r:=Qj k r fun q a=>by rw[<-d];exact c q a
    unfold yy;rw[qX,d,jU,Qq];simp[jY,f]
   rw[e];exact aP.2 ⟨fun q a=>by rw[<-d];exact c q a,i⟩
  ·have g:∀q∈p::r,bl k q.1=true:=by
    intro q a;rcases an.1 a with rfl|a
    ·exact b
    ·exact gV b (c q a)
   have e:yy k v (p::r)=(k,v)::p::r:=by
    have:=Qy k v [] (p::r) g
    simpa[yy,gK]using this
   rw[e];exact aP.2 ⟨g,h⟩
structure qG(α:Type) where
 fr:ByteArray
 nd:α
 pl:Nat
def Nd:Nat->Type
 |0=>List Pr
 |h+1=>List (qG (Nd h))
abbrev Kid(h:Nat):=qG (Nd h)
def yV:(h:Nat)->Nd h->List Pr
 |0,l=>l
 |h+1,ks=>List.flatMap (fun k:Kid h=>yV h k.2) ks
def psz(p:Pr):Nat:=2+p.1.size+p.2.size
def yq:(h:Nat)->Nd h->Nat
 |0,l=>(List.map psz l).sum
 |h+1,ks=>11*List.length (α:=Kid h) ks
def j5:(h:Nat)->Nd h->Nat
 |0,_=>1
 |h+1,ks=>1+(List.map (fun k:Kid h=>j5 h k.2) ks).sum
def yJ(h:Nat)(ks:List (Kid h)):List Pr:=ks.flatMap fun k=>yV h k.2
theorem Q3W(h:Nat)(ks:List (Kid h)):yV (h+1) ks=yJ h ks:=rfl
theorem qz(h:Nat)(A B:List (Kid h)):yJ h (A++B)=yJ h A++yJ h B:=by simp[yJ]
theorem jP(h:Nat)(a:Kid h)(B:List (Kid h)):yJ h (a::B)=yV h a.2++yJ h B:=by simp[yJ]
theorem qb{h:Nat}{ks:List (Kid h)}{p:Pr}:p∈yJ h ks↔∃a∈ks,p∈yV h a.2:=by simp[yJ]
def okp(p:Pr):Prop:=1<=p.1.size/\p.1.size<=8/\p.2.size<=12
theorem LX{p:Pr}(h:okp p):psz p<=22:=by unfold psz;obtain⟨_,a,b⟩:=h;omega
theorem US(p:Pr):0<psz p:=by unfold psz;omega
def Bef(h:Nat)(a b:Kid h):Prop:=bl a.1 b.1=true/\∀p∈yV h a.2,bl p.1 b.1=true
def WFN:(h:Nat)->ByteArray->Nd h->Prop
 |0,f,l=>Srt l/\∀p:Pr,List.Mem p l->ge p.1 f/\okp p
 |h+1,f,ks=>(∃(n:Nd h) (x:Nat) (r:List (Kid h)),ks=⟨f,n,x⟩::r)/\List.Pairwise (Bef h) ks/\∀a:Kid h,List.Mem a ks->WFN h a.1 a.2
structure KW(h:Nat)(ks:List (Kid h)):Prop where
 ord:ks.Pairwise (Bef h)
 all:∀a∈ks,WFN h a.1 a.2
theorem yN(h:Nat)(f:ByteArray)(ks:List (Kid h)):WFN (h+1) f ks↔(∃n x r,ks=⟨f,n,x⟩::r)/\KW h ks:=
 ⟨fun⟨a,b,c⟩=>⟨a,⟨b,c⟩⟩,fun⟨a,b⟩=>⟨a,b.ord,b.all⟩⟩
def Rt(h:Nat)(n:Nd h):Prop:=40<=yq h n/\yq h n<=122
def qd:(h:Nat)->Nd h->Prop
 |0,_=>True
 |h+1,ks=>∀a:Kid h,List.Mem a ks->Rt h a.2/\qd h a.2
theorem yO(h:Nat)(ks:List (Kid h)):qd (h+1) ks↔∀a∈ks,Rt h a.2/\qd h a.2:=Iff.rfl
theorem WFN.keys:∀{h:Nat} {f:ByteArray} {n:Nd h},WFN h f n->∀p∈yV h n,ge p.1 f/\okp p
 |0,_,_,d,p,b=>d.2 p b
 |h+1,f,j,d,p,b=>by
  obtain⟨⟨n,x,r,e⟩,i⟩:=(yN h f j).1 d;obtain⟨a,c,b⟩:=qb.1 (show p∈yJ h j from b);obtain⟨g,k⟩:=WFN.keys (i.all a c) p b;refine⟨?_,k⟩;subst e;rcases an.1 c with rfl|c
  ·exact g
  ·have:=(aP.1 i.ord).1 a c;exact jn g (Zt this.1)
theorem KW.froms{h:Nat}{a:Kid h}{ks:List (Kid h)}(hk:KW h (a::ks)):∀b∈a::ks,ge b.1 a.1:=by
 intro b c;rcases an.1 c with rfl|c
 ·exact Ns _
 ·exact Zt ((aP.1 hk.ord).1 b c).1
theorem KW.srt{h:Nat}{ks:List (Kid h)}(hk:KW h ks)(hs:∀a∈ks,Srt (yV h a.2)):Srt (yJ h ks):=by
 induction ks with
 |nil=>simp[yJ,Srt]
 |cons a r ih=>
  rw[jP];have e:KW h r:=⟨(aP.1 hk.ord).2,fun b c=>hk.all b (by simp[c])⟩
  refine aQ.2 ⟨hs a (by simp),ih e fun b c=>hs b (by simp[c]),?_⟩;intro p g q d;obtain⟨b,c,d⟩:=qb.1 d;have f:=((aP.1 hk.ord).1 b c).2 p g;exact qF f (WFN.keys (e.all b c) q d).1
theorem WFN.srt:∀{h:Nat} {f:ByteArray} {n:Nd h},WFN h f n->Srt (yV h n)
 |0,_,_,b=>b.1
 |h+1,f,e,b=>by
  obtain⟨_,c⟩:=(yN h f e).1 b;exact c.srt fun a d=>WFN.srt (c.all a d)
theorem Ms:∀{h:Nat} {n:Nd h},0<yq h n->qd h n->yV h n≠ []
 |0,l,c,_,e=>by
  have g:l= []:=e;subst g;simp[yq]at c
 |h+1,f,c,i,e=>by
  cases b:(f:List (Kid h))with
  |nil=>rw[b]at c;simp[yq]at c
  |cons a r=>
   rw[b,Q3W,jP]at e;have d:=(yO h f).1 i a (by rw[b];simp);exact Ms (by have:=d.1.1;omega) d.2 (List.append_eq_nil_iff.1 e).1
def Za{α:Type}(sz:α->Nat)(whole:Nat):Nat->List α->Nat
 |_,[]=>0
 |part,x::r=>if 2*part<whole then Za sz whole (part+sz x) r+1 else 0
theorem Q40{α:Type}(sz:α->Nat)(whole b:Nat)(l:List α)(hb:∀x∈l,sz x<=b):∀part,2*part<whole+2*b->part+(l.map sz).sum≥whole-whole/2->
  whole<=2*(part+((l.take (Za sz whole part l)).map sz).sum)/\2*(part+((l.take (Za sz whole part l)).map sz).sum)<whole+2*b\/whole<=2*part:=by
 induction l with
 |nil=>
  intro part e d;simp[Za]at d⊢;omega
 |cons x r ih=>
  intro part e d;rw[Za];split
  ·rename_i f;have i:=hb x (by simp);have:=ih (fun y g=>hb y (by simp[g])) (part+sz x) (by omega) (by simp at d;omega);rw[cH,bn,bE];rcases this with⟨a,c⟩|a
   ·left;omega
   ·have h:Za sz whole (part+sz x) r=0:=by
     cases r with
     |nil=>rfl
     |cons y t=>rw[Za,if_neg (by omega)]
    rw[h];simp;omega
  ·right;omega
def yT{α:Type}(sz:α->Nat)(l:List α):Nat:=Za sz (l.map sz).sum 0 l
theorem Zu{α:Type}(sz:α->Nat)(l:List α)(i:Nat):((l.take i).map sz).sum+((l.drop i).map sz).sum=(l.map sz).sum:=by
 rw[<-List.sum_append,<-cS,aS]
theorem Pw{α:Type}(sz:α->Nat)(b:Nat)(l:List α)(hb:∀x∈l,sz x<=b)(h0:0<(l.map sz).sum)(G8:0<b):
  (l.map sz).sum<=2*((l.take (yT sz l)).map sz).sum/\2*((l.take (yT sz l)).map sz).sum<(l.map sz).sum+2*b:=by
 have:=Q40 sz (l.map sz).sum b l hb 0 (by omega) (by omega);simp only[bL]at this;unfold yT;rcases this with h|h
 ·exact h
 ·omega
def yW:(h:Nat)->Nd h->Nd h×Nd h
 |0,l=>(List.take (yT psz l) l,List.drop (yT psz l) l)
 |h+1,ks=>(List.take (yT (fun _:Kid h=>11) ks) ks,List.drop (yT (fun _:Kid h=>11) ks) ks)
def Mo(l:List Pr):ByteArray:=match l with
 | []=>⟨#[]⟩
 |p::_=>p.1
def L6{h:Nat}(ks:List (Kid h)):ByteArray:=match ks with
 | []=>⟨#[]⟩
 |a::_=>a.1
def jG:(h:Nat)->Nd h->ByteArray
 |0,l=>Mo l
 |h+1,ks=>L6 (h:=h) ks
def Q4:(h:Nat)->Nd h->Nd h->Nd h
 |0,a,b=>List.append a b
 |_+1,a,b=>List.append a b
def qN(h:Nat)(f:ByteArray)(n:Nd h):List (Kid h):=if yq h n<=122 then [⟨f,n,0⟩]else [⟨f,(yW h n).1,0⟩,⟨jG h (yW h n).2,(yW h n).2,0⟩]
theorem M3{h:Nat}(ks:List (Kid h)):(ks.map fun _:Kid h=>11).sum=11*ks.length:=by
 induction ks with
 |nil=>rfl
 |cons a r ih=>simp[ih];omega
theorem KW.sub{h:Nat}{A B:List (Kid h)}(hk:KW h B)(hs:A.Sublist B):KW h A:=⟨hk.ord.sublist hs,fun a b=>hk.all a (hs.subset b)⟩
theorem ja{α:Type}(sz:α->Nat)(l:List α)(h:0<(l.map sz).sum):∃a r,l=a::r:=by
 cases l with
 |nil=>simp at h
 |cons a r=>exact⟨a,r,rfl⟩
structure L8(h:Nat)(f:ByteArray)(n:Nd h)(M:List (Kid h)):Prop where
 flat:yJ h M=yV h n
 kw:KW h M
 full:∀a∈M,Rt h a.2/\qd h a.2
 head:∃n' r,M=⟨f,n',0⟩::r
 len:M.length=1\/M.length=2
 some:∀a∈M,∃p∈yV h n,ge p.1 a.1
theorem Q46(f:ByteArray)(l:List Pr)(hw:WFN 0 f l)(h1:122<yq 0 l)(h2:yq 0 l<=161):
  L8 0 f l [⟨f,(yW 0 l).1,0⟩,⟨jG 0 (yW 0 l).2,(yW 0 l).2,0⟩]:=by
 have v:∀x∈l,psz x<=22:=fun x w=>LX (hw.2 x w).2;have u:yq 0 l=(l.map psz).sum:=rfl;rw[u]at h1 h2;obtain⟨B,C⟩:=Pw psz 22 l v (by omega) (by omega);have F:=Zu psz l (yT psz l);have q:Srt l:=hw.1;show L8 0 f l [⟨f,l.take (yT psz l),0⟩,⟨Mo (l.drop (yT psz l)),l.drop (yT psz l),0⟩];have e:=aS (yT psz l) l;generalize D:l.take (yT psz l)=L at*;generalize E:l.drop (yT psz l)=R at*;obtain⟨x,G,s⟩:=ja psz L (by omega);obtain⟨y,H,i⟩:=ja psz R (by omega);rw[<-e]at q;obtain⟨A,n,m⟩:=aQ.1 q;have k:∀p∈L,ge p.1 f/\okp p:=fun p c=>hw.2 p (by rw[<-e];exact aw _ c);have z:∀p∈R,ge p.1 f/\okp p:=fun p c=>hw.2 p (by rw[<-e];exact az _ c);have j:Mo R=y.1:=by rw[i];rfl
 have t:∀p∈R,ge p.1 y.1:=by
  intro p c;rw[i]at c n;rcases an.1 c with rfl|c
  ·exact Ns _
  ·exact Zt ((aP.1 n).1 p c)
 have r:y∈R:=by rw[i];simp
 have h:x∈L:=by rw[s];simp
 have g:∀p∈L,bl p.1 y.1=true:=fun p c=>m p c y r;refine⟨?_,⟨?_,?_⟩,?_,⟨_,_,rfl⟩,Or.inr rfl,?_⟩
 ·simp only[jP];show L++(R++ [])=l
  simpa using e
 ·rw[j];refine aP.2 ⟨?_,by simp⟩;intro b o;simp at o;subst o;exact⟨Zc (k x h).1 (g x h),g⟩
 ·intro a d;simp only[an,bW,or_false]at d;rcases d with rfl|rfl
  ·exact⟨A,k⟩
  ·exact⟨n,fun p c=>⟨by show ge p.1 (Mo R);rw[j];exact t p c,(z p c).2⟩⟩
 ·intro a d;simp only[an,bW,or_false]at d;rcases d with rfl|rfl
  ·exact⟨⟨by show 40<=(L.map psz).sum;omega,by show(L.map psz).sum<=122;omega⟩,trivial⟩
  ·exact⟨⟨by show 40<=(R.map psz).sum;omega,by show(R.map psz).sum<=122;omega⟩,trivial⟩
 ·intro a d;simp only[an,bW,or_false]at d;rcases d with rfl|rfl
  ·exact⟨x,by show x∈l;rw[<-e];exact aw _ h,(k x h).1⟩
  ·exact⟨y,by show y∈l;rw[<-e];exact az _ r,by show ge y.1 (Mo R);rw[j];exact Ns _⟩
theorem Q47(h:Nat)(f:ByteArray)(ks:List (Kid h))(hw:WFN (h+1) f ks)(hf:qd (h+1) ks)(h1:122<yq (h+1) ks)(h2:yq (h+1) ks<=161):
  L8 (h+1) f ks [⟨f,(yW (h+1) ks).1,0⟩,⟨jG (h+1) (yW (h+1) ks).2,(yW (h+1) ks).2,0⟩]:=by
 obtain⟨⟨S,W,T,F⟩,u⟩:=(yN h f ks).1 hw;have I:yq (h+1) ks=(ks.map fun _:Kid h=>11).sum:=(M3 ks).symm;rw[I]at h1 h2;obtain⟨M,N⟩:=Pw (fun _:Kid h=>11) 11 ks (by simp) (by omega) (by omega);have Q:=Zu (fun _:Kid h=>11) ks (yT (fun _:Kid h=>11) ks);show L8 (h+1) f ks [⟨f,ks.take (yT (fun _:Kid h=>11) ks),0⟩,⟨L6 (ks.drop (yT (fun _:Kid h=>11) ks)),ks.drop (yT (fun _:Kid h=>11) ks),0⟩];have k:=aS (yT (fun _:Kid h=>11) ks) ks;generalize O:ks.take (yT (fun _:Kid h=>11) ks)=L at*;generalize P:ks.drop (yT (fun _:Kid h=>11) ks)=R at*;obtain⟨x,J,o⟩:=ja (fun _:Kid h=>11) L (by omega);obtain⟨y,K,r⟩:=ja (fun _:Kid h=>11) R (by omega);have n:L.Sublist ks:=by rw[<-k];exact List.sublist_append_left _ _
 have c:R.Sublist ks:=by rw[<-k];exact List.sublist_append_right _ _
 have G:=u.sub n;have H:=u.sub c;have e:=u.ord;rw[<-k]at e;obtain⟨_,_,l⟩:=aQ.1 e;have j:y∈R:=by rw[r];simp
 have C:x.1=f:=by
  rw[<-k,o,bD]at F;have:=(List.cons.inj F).1;rw[this]
 have m:x∈L:=by rw[o];simp
 have t:L6 R=y.1:=by rw[r];rfl
 have q:L=⟨f,x.2,x.3⟩::J:=by rw[o,<-C]
 have s:R=⟨y.1,y.2,y.3⟩::K:=by rw[r]
 have g:=(yO h ks).1 hf;have z:yV h y.2≠ []:=Ms (by have:=(g y (c.subset j)).1.1;omega) (g y (c.subset j)).2;have w:yV h x.2≠ []:=Ms (by have:=(g x (n.subset m)).1.1;omega) (g x (n.subset m)).2;obtain⟨B,D⟩:=dm _ z;obtain⟨A,E⟩:=dm _ w;have U:=M3 L;have V:=M3 R;refine⟨?_,⟨?_,?_⟩,?_,⟨_,_,rfl⟩,Or.inr rfl,?_⟩
 ·show yJ (h+1) [⟨f,L,0⟩,⟨L6 R,R,0⟩]=yJ h ks;rw[jP,jP];show yJ h L++(yJ h R++ [])=yJ h ks;rw[bo,<-qz,k]
 ·rw[t];refine aP.2 ⟨?_,by simp⟩;intro b i;simp at i;subst i;refine⟨by rw[<-C];exact(l x m y j).1,?_⟩;intro p v;obtain⟨a,d,v⟩:=qb.1 (show p∈yJ h L from v);exact(l a d y j).2 p v
 ·intro a d;simp only[an,bW,or_false]at d;rcases d with rfl|rfl
  ·exact(yN h f L).2 ⟨⟨_,_,_,q⟩,G⟩
  ·show WFN (h+1) (L6 R) R;rw[t];exact(yN h y.1 R).2 ⟨⟨_,_,_,s⟩,H⟩
 ·intro a d;simp only[an,bW,or_false]at d;rcases d with rfl|rfl
  ·exact⟨⟨by show 40<=11*L.length;omega,by show 11*L.length<=122;omega⟩,fun b i=>g b (n.subset i)⟩
  ·exact⟨⟨by show 40<=11*R.length;omega,by show 11*R.length<=122;omega⟩,fun b i=>g b (c.subset i)⟩
 ·intro a d;simp only[an,bW,or_false]at d;rcases d with rfl|rfl
  ·refine⟨A,?_,?_⟩
   ·exact qb.2 ⟨x,n.subset m,E⟩
   ·show ge A.1 f;rw[<-C];exact(WFN.keys (G.all x m) A E).1
  ·refine⟨B,?_,?_⟩
   ·exact qb.2 ⟨y,c.subset j,D⟩
   ·show ge B.1 (L6 R);rw[t];exact(WFN.keys (H.all y j) B D).1
theorem Pe(h:Nat)(f:ByteArray)(n:Nd h)(hw:WFN h f n)(hf:qd h n)(h1:40<=yq h n)(h2:yq h n<=161):L8 h f n (qN h f n):=by
 unfold qN;split
 ·rename_i c;have d:yV h n≠ []:=Ms (by omega) hf;obtain⟨p,e⟩:=dm _ d;refine⟨by simp[yJ],⟨by simp,by intro a b;simp at b;subst b;exact hw⟩,by intro a b;simp at b;subst b;exact⟨⟨h1,c⟩,hf⟩,⟨_,_,rfl⟩,Or.inl rfl,?_⟩;intro a b;simp at b;subst b;exact⟨p,e,(WFN.keys hw p e).1⟩
 ·cases h with
  |zero=>exact Q46 f n hw (by omega) h2
  |succ h=>exact Q47 h f n hw hf (by omega) h2
theorem Q49{h:Nat}{A M B M':List (Kid h)}{f:ByteArray}{n:Nd h}(hk:KW h (A++(M++B)))(hM:∃m x r,M=⟨f,m,x⟩::r)(hfit:L8 h f n M')(hfl:yV h n=yJ h M):KW h (A++(M'++B))/\yJ h (A++(M'++B))=yJ h (A++(M++B)):=by
 obtain⟨m,s,r,t⟩:=hM;have v:⟨f,m,s⟩∈M:=by rw[t];simp
 obtain⟨w,l,i⟩:=aQ.1 hk.ord;obtain⟨C,y,j⟩:=aQ.1 l;obtain⟨z,D,k⟩:=hfit.head;have o:∀b∈M',ge b.1 f:=by
  have:=hfit.kw;rw[k]at this⊢;exact this.froms
 refine⟨⟨?_,?_⟩,?_⟩
 ·refine aQ.2 ⟨w,aQ.2 ⟨hfit.kw.ord,y,?_⟩,?_⟩
  ·intro a d b g;refine⟨?_,?_⟩
   ·obtain⟨p,e,u⟩:=hfit.some a d;rw[hfl]at e;obtain⟨c,hc,e⟩:=qb.1 e;exact Zc u ((j c hc b g).2 p e)
   ·intro p e;have:p∈yJ h M':=qb.2 ⟨a,d,e⟩;rw[hfit.flat,hfl]at this;obtain⟨c,hc,e⟩:=qb.1 this;exact(j c hc b g).2 p e
  ·intro a d b g;rcases ar.1 g with g|g
   ·have q:=i a d ⟨f,m,s⟩ (aw _ v);exact⟨qF q.1 (o b g),fun p e=>qF (q.2 p e) (o b g)⟩
   ·exact i a d b (az _ g)
 ·intro a d;rcases ar.1 d with d|d
  ·exact hk.all a (aw _ d)
  rcases ar.1 d with d|d
  ·exact hfit.kw.all a d
  ·exact hk.all a (az _ (az _ d))
 ·rw[qz,qz,qz,qz,hfit.flat,hfl]
theorem Wu:∀(h:Nat) (a b:Nd h),yV h (Q4 h a b)=yV h a++yV h b
 |0,_,_=>rfl
 |h+1,a,b=>qz h a b
theorem YM(a b:List Pr):((a++b).map psz).sum=(a.map psz).sum+(b.map psz).sum:=by rw[cS,List.sum_append]
theorem Q4c{α:Type}(a b:List α):11*(a++b).length=11*a.length+11*b.length:=by rw[ai];omega
theorem NQ:∀(h:Nat) (a b:Nd h),yq h (Q4 h a b)=yq h a+yq h b
 |0,a,b=>YM a b
 |h+1,a,b=>Q4c (α:=Kid h) a b
theorem Q4e:∀(h:Nat) (a b:Nd h),qd h a->qd h b->qd h (Q4 h a b)
 |0,_,_,_,_=>trivial
 |h+1,a,b,d,e=>by
  intro c hc;rcases ar.1 (show c∈List.append a b from hc)with hc|hc
  ·exact d c hc
  ·exact e c hc
theorem SV:∀(h:Nat) (x y:Kid h),Bef h x y->WFN h x.1 x.2->WFN h y.1 y.2->qd h x.2->WFN h x.1 (Q4 h x.2 y.2)
 |0,x,y,e,g,f,_=>by
  refine⟨aQ.2 ⟨g.1,f.1,?_⟩,?_⟩
  ·intro p c q u;exact qF (e.2 p c) (f.2 q u).1
  ·intro p c;rcases ar.1 (show p∈List.append x.2 y.2 from c)with c|c
   ·exact g.2 p c
   ·exact⟨jn (f.2 p c).1 (Zt e.1),(f.2 p c).2⟩
 |h+1,x,y,e,g,f,t=>by
  obtain⟨⟨v,z,w,o⟩,i⟩:=(yN h x.1 x.2).1 g;obtain⟨⟨A,C,B,r⟩,j⟩:=(yN h y.1 y.2).1 f;have s:∀b:Kid h,List.Mem b y.2->ge b.1 y.1:=by
   intro b e;have k:=j;rw[r]at k e;exact k.froms b e
  refine(yN h x.1 (List.append x.2 y.2)).2 ⟨⟨v,z,List.append w y.2,by rw[o];rfl⟩,⟨aQ.2 ⟨i.ord,j.ord,?_⟩,?_⟩⟩
  ·intro a d b n;have l:∀p∈yV h a.2,bl p.1 b.1=true:=fun p c=>qF (e.2 p (qb.2 ⟨a,d,c⟩)) (s b n);refine⟨?_,l⟩;have m:=(yO h x.2).1 t a d;obtain⟨p,c⟩:=dm _ (Ms (by have:=m.1.1;omega) m.2);exact Zc (WFN.keys (i.all a d) p c).1 (l p c)
  ·intro a d;rcases ar.1 d with d|d
   ·exact i.all a d
   ·exact j.all a d
def qA(h:Nat)(ks:List (Kid h))(i:Nat):List (Kid h):=
 match ks[i]? with
 |none=>ks
 |some a=>if yq h a.2<40 then
   match ks[i-1]?,ks[i-1+1]? with
   |some x,some y=>ks.take (i-1)++(qN h x.1 (Q4 h x.2 y.2)++ks.drop (i-1+2))
   |_,_=>ks
  else ks.take i++(qN h a.1 a.2++ks.drop (i+1))
theorem NX{α:Type}(l:List α)(i:Nat)(a:α)(h:l[i]?=some a):l=l.take i++([a]++l.drop (i+1)):=by
 have b:i<l.length:=(ae.1 h).1
 conv=>lhs;rw[<-aS i l,aL b,(ae.1 h).2]
 rfl
theorem TU{α:Type}(l:List α)(i:Nat)(a b:α)(h:l[i]?=some a)(h':l[i+1]?=some b):l=l.take i++([a,b]++l.drop (i+2)):=by
 have c:i+1<l.length:=(ae.1 h').1
 conv=>lhs;rw[NX l i a h,aL c,(ae.1 h').2]
 rfl
structure LJ(h:Nat)(ks:List (Kid h))(i:Nat):Prop where
 kw:KW h ks
 two:2<=ks.length
 lt:i<ks.length
 full:∀a∈ks,qd h a.2
 rt:∀j a,ks[j]?=some a->j≠i->Rt h a.2
 lo:∀a,ks[i]?=some a->18<=yq h a.2/\yq h a.2<=144
structure UY(h:Nat)(ks ks':List (Kid h)):Prop where
 kw:KW h ks'
 flat:yJ h ks'=yJ h ks
 full:∀a∈ks',Rt h a.2/\qd h a.2
 head:∀f n x r,ks=⟨f,n,x⟩::r->∃n' x' r',ks'=⟨f,n',x'⟩::r'
 lo:ks.length<=ks'.length+1
 hi:ks'.length<=ks.length+1
theorem YX{α:Type}(l M B:List α)(i:Nat)(f:α)(r:List α)(h:l=f::r)(hi:0<i):∃r',l.take i++(M++B)=f::r':=by
 subst h;obtain⟨j,rfl⟩:∃j,i=j+1:=⟨i-1,by omega⟩
 exact⟨_,by rw[cH,bD]⟩
theorem U9{h:Nat}{ks M M':List (Kid h)}{i m:Nat}{f:ByteArray}{n:Nd h}(fP:KW h ks)(iB:ks=ks.take i++(M++ks.drop (i+m)))(hm:M.length=m)(Ha:m=1\/m=2)(hM:∃m x r,M=⟨f,m,x⟩::r)(hfit:L8 h f n M')(hfl:yV h n=yJ h M)
  (ho:∀a∈ks.take i++ks.drop (i+m),Rt h a.2/\qd h a.2):UY h ks (ks.take i++(M'++ks.drop (i+m))):=by
 have k:=fP;rw[iB]at k;obtain⟨w,y⟩:=Q49 k hM hfit hfl;have t:=congrArg List.length iB;simp only[ai]at t;refine⟨w,by rw[y,<-iB],?_,?_,?_,?_⟩
 ·intro a b;rcases ar.1 b with b|b
  ·exact ho a (aw _ b)
  rcases ar.1 b with b|b
  ·exact hfit.full a b
  ·exact ho a (az _ b)
 ·intro f0 l o v j;rcases dM i with d|d
  ·subst d;obtain⟨z,B,A,s⟩:=hM;rw[cR,aX,s,bD]at iB;rw[j]at iB;have q:=(List.cons.inj iB).1;obtain⟨u,g,c⟩:=hfit.head;refine⟨u,0,g++ks.drop (0+m),?_⟩;rw[cR,aX,c,bD,(qG.mk.inj q).1]
  ·obtain⟨g,p⟩:=YX ks M' (ks.drop (i+m)) i ⟨f0,l,o⟩ v j d;exact⟨l,o,g,p⟩
 ·simp only[ai];rcases hfit.len with e|e<;>omega
 ·simp only[ai];rcases hfit.len with e|e<;>omega
theorem Yu{h:Nat}{ks:List (Kid h)}{i:Nat}(hl:LJ h ks i):UY h ks (qA h ks i):=by
 obtain⟨a,g⟩:∃a,ks[i]?=some a:=⟨_,aa hl.lt⟩
 obtain⟨D,E⟩:=hl.lo a g;have c:∀{j b},ks[j]?=some b->b∈ks:=fun h=>ah h;have d:∀(p m:Nat),p<=i->i<p+m->∀b∈ks.take p++ks.drop (p+m),Rt h b.2/\qd h b.2:=by
  intro p m C t b k;rcases ar.1 k with k|k
  ·obtain⟨j,n⟩:=aU.1 k;have o:=n;rw[aD]at o;split at o
   ·exact⟨hl.rt j b o (by omega),hl.full b (c o)⟩
   ·cases o
  ·obtain⟨j,n⟩:=aU.1 k;rw[aV]at n;exact⟨hl.rt _ b n (by omega),hl.full b (c n)⟩
 unfold qA;rw[g];simp only
 by_cases r:yq h a.2<40
 ·rw[if_pos r];have t:=hl.two;have v:=hl.lt;obtain⟨x,f⟩:∃x,ks[i-1]?=some x:=⟨_,aa (by omega)⟩
  obtain⟨y,l⟩:∃y,ks[i-1+1]?=some y:=⟨_,aa (by omega)⟩
  rw[f,l];simp only;have s:=TU ks (i-1) x y f l;have e:=hl.kw.ord;rw[s]at e;have k:Bef h x y:=by
   have:=(aQ.1 (aQ.1 e).2.1).1;exact(aP.1 this).1 y (by simp)
  have z:=SV h x y k (hl.kw.all x (c f)) (hl.kw.all y (c l)) (hl.full x (c f));have u:=Q4e h x.2 y.2 (hl.full x (c f)) (hl.full y (c l));have w:=NQ h x.2 y.2;have F:58<=yq h x.2+yq h y.2/\yq h x.2+yq h y.2<=161:=by
   by_cases q:i=0
   ·subst q;have A:x=a:=by rw[g]at f;cases f;rfl
    have:=hl.rt _ y l (by omega);have t1:=this.1;have t2:=this.2;subst A;omega
   ·have B:y=a:=by rw[show i-1+1=i by omega,g]at l;cases l;rfl
    have:=hl.rt _ x f (by omega);have t1:=this.1;have t2:=this.2;subst B;omega
  exact U9 hl.kw s rfl (Or.inr rfl) ⟨x.2,x.3,[y],rfl⟩ (Pe h x.1 _ z u (by omega) (by omega)) (by rw[Wu];simp[yJ]) (d (i-1) 2 (by omega) (by omega))
 ·rw[if_neg r];exact U9 hl.kw (NX ks i a g) rfl (Or.inl rfl) ⟨a.2,a.3,[],rfl⟩ (Pe h a.1 a.2 (hl.kw.all a (c g)) (hl.full a (c g)) (by omega) (by omega)) (by simp[yJ]) (d i 1 (by omega) (by omega))
def qq{h:Nat}(ks:List (Kid h))(k:ByteArray):Nat:=(ks.takeWhile fun a=> !bl k a.1).length-1
theorem Zv{h:Nat}(f:ByteArray)(n:Nd h)(x0:Nat)(r:List (Kid h))(k:ByteArray)(hk:KW h (⟨f,n,x0⟩::r))(hf:ge k f):
  ∃A a B,⟨f,n,x0⟩::r=A++([a]++B)/\A.length=qq (⟨f,n,x0⟩::r) k/\ge k a.1/\(∀b∈B,bl k b.1=true):=by
 have q:(⟨f,n,x0⟩::r).takeWhile (fun a=> !bl k a.1)=⟨f,n,x0⟩::r.takeWhile fun a=> !bl k a.1:=by
  rw[List.takeWhile_cons,if_pos (by show(!bl k f)=true;rw[hf];rfl)]
 have g:(⟨f,n,x0⟩::r).takeWhile (fun a=> !bl k a.1)≠ []:=by rw[q];simp
 have o:=List.takeWhile_append_dropWhile (p:=fun a:Kid h=> !bl k a.1) (l:=⟨f,n,x0⟩::r);have e:=List.dropLast_concat_getLast g;refine⟨((⟨f,n,x0⟩::r).takeWhile fun a=> !bl k a.1).dropLast,((⟨f,n,x0⟩::r).takeWhile fun a=> !bl k a.1).getLast g,(⟨f,n,x0⟩::r).dropWhile fun a=> !bl k a.1,?_,?_,?_,?_⟩
 ·rw[<-aG,e,o]
 ·rw[List.length_dropLast];rfl
 ·have:=List.all_takeWhile (p:=fun a:Kid h=> !bl k a.1) (l:=⟨f,n,x0⟩::r);rw[List.all_eq_true]at this;have:=this _ (List.getLast_mem g)
  simpa[ge]using this
 ·intro b i
  cases j:(⟨f,n,x0⟩::r).dropWhile fun a=> !bl k a.1 with
  |nil=>rw[j]at i;cases i
  |cons d D=>
   have m:bl k d.1=true:=by
    have:=List.head?_dropWhile_not (p:=fun a:Kid h=> !bl k a.1) (l:=⟨f,n,x0⟩::r);rw[j]at this
    simpa using this
   rw[j]at i;rcases an.1 i with rfl|i
   ·exact m
   ·have c:=hk.ord;rw[<-o,j]at c;have:=(aP.1 (aQ.1 c).2.1).1 b i;exact gV m this.1
structure Zw(F:List Pr->List Pr)(k:ByteArray):Prop where
 mid:∀A l B,(∀p∈A,bl p.1 k=true)->(∀p∈B,bl k p.1=true)->F (A++(l++B))=A++(F l++B)
 srt:∀l,Srt l->Srt (F l)
 mem:∀l p,p∈F l->p∈l\/(p.1=k/\okp p)
 size:∀l,Srt l->(∀p∈l,okp p)->((F l).map psz).sum<=(l.map psz).sum+22/\(l.map psz).sum<=((F l).map psz).sum+22
def chgK(h:Nat)(g:Nd h->Nd h)(k:ByteArray)(ks:List (Kid h)):List (Kid h):=match ks[qq ks k]? with
 |none=>ks
 |some a=>qA h (ks.set (qq ks k) ⟨a.1,g a.2,a.3⟩) (qq ks k)
def yL(F:List Pr->List Pr)(k:ByteArray):(h:Nat)->Nd h->Nd h
 |0,l=>F l
 |h+1,ks=>chgK h (yL F k h) k ks
structure Chg(F:List Pr->List Pr)(h:Nat)(f:ByteArray)(n n':Nd h):Prop where
 wf:WFN h f n'
 full:qd h n'
 flat:yV h n'=F (yV h n)
 hi:yq h n'<=yq h n+22
 lo:yq h n<=yq h n'+22
theorem Q4n{F:List Pr->List Pr}{k:ByteArray}(hF:Zw F k)(h:Nat)(IH:∀(f:ByteArray) (n:Nd h),WFN h f n->qd h n->ge k f->(0<h->22<=yq h n)->Chg F h f n (yL F k h n))
  (f:ByteArray)(ks:List (Kid h))(hw:WFN (h+1) f ks)(hf:qd (h+1) ks)(hk:ge k f)(lF:0<h+1->22<=yq (h+1) ks):Chg F (h+1) f ks (yL F k (h+1) ks):=by
 obtain⟨⟨S,T,r0,G⟩,w⟩:=(yN h f ks).1 hw;have y:=(yO h ks).1 hf;obtain⟨A,a,B,d,i,R,Q⟩:=Zv f S T r0 k (by rw[<-G];exact w) hk;rw[<-G]at d i;have O:a∈ks:=by rw[d];simp
 have C:ks[qq ks k]?=some a:=by
  rw[<-i,d];simp
 have I:=y a O;have ih:=IH a.1 a.2 (w.all a O) I.2 R (fun _=>by have:=I.1.1;omega);have Z:ks.set (qq ks k) ⟨a.1,yL F k h a.2,a.3⟩=A++([⟨a.1,yL F k h a.2,a.3⟩]++B):=by
  rw[<-i]
  conv=>lhs;rw[d]
  simp
 have s:=w.ord;rw[d]at s;obtain⟨pA,N,o⟩:=aQ.1 s;obtain⟨_,pB,E⟩:=aQ.1 N;have se:∀p∈yJ h A,bl p.1 k=true:=by
  intro p m;obtain⟨c,hc,m⟩:=qb.1 m;exact qF ((o c hc a (by simp)).2 p m) R
 have z:∀p∈yJ h B,bl k p.1=true:=by
  intro p m;obtain⟨c,hc,m⟩:=qb.1 m;exact qF (Q c hc) (WFN.keys (w.all c (by rw[d];simp[hc])) p m).1
 have u:∀p∈yV h (yL F k h a.2),p∈yV h a.2\/p.1=k:=by
  intro p m;rw[ih.flat]at m;rcases hF.mem _ p m with e|e
  ·exact Or.inl e
  ·exact Or.inr e.1
 have L:KW h (A++([⟨a.1,yL F k h a.2,a.3⟩]++B)):=by
  refine⟨aQ.2 ⟨pA,aQ.2 ⟨by simp,pB,?_⟩,?_⟩,?_⟩
  ·intro x g b q;simp at g;subst g;have P:=E a (by simp) b q;refine⟨P.1,fun p m=> ?_⟩;rcases u p m with e|e
   ·exact P.2 p e
   ·rw[e];exact Q b q
  ·intro x g b q;rcases ar.1 q with q|q
   ·simp at q;subst q;exact o x g a (by simp)
   ·exact o x g b (az _ q)
  ·intro x g;rcases ar.1 g with g|g
   ·exact w.all x (by rw[d];simp[g])
   rcases ar.1 g with g|g
   ·simp at g;subst g;exact ih.wf
   ·exact w.all x (by rw[d];simp[g])
 have Y:yq (h+1) ks=11*ks.length:=rfl;have K:ks.length=A.length+(1+B.length):=by rw[d];simp;omega
 have BX:=lF (by omega);have v:LJ h (A++([⟨a.1,yL F k h a.2,a.3⟩]++B)) (qq ks k):=by
  rw[<-i];refine⟨L,?_,by simp,?_,?_,?_⟩
  ·simp only[ai,aB,bO];omega
  ·intro x g;rcases ar.1 g with g|g
   ·exact(y x (by rw[d];simp[g])).2
   rcases ar.1 g with g|g
   ·simp at g;subst g;exact ih.full
   ·exact(y x (by rw[d];simp[g])).2
  ·intro j x H X;have:x∈A\/x∈B:=by
    rcases bG j A.length with M|M
    ·rw[bq M]at H;exact Or.inl (ah H)
    ·rw[bh M,bh (by simp;omega)]at H;exact Or.inr (ah H)
   rcases this with g|g
   ·exact(y x (by rw[d];simp[g])).1
   ·exact(y x (by rw[d];simp[g])).1
  ·intro x g;simp at g;subst g;have:=ih.hi;have:=ih.lo;have:=I.1.1;have:=I.1.2;exact⟨by show 18<=yq h (yL F k h a.2);omega,by show yq h (yL F k h a.2)<=144;omega⟩
 have l:=Yu v;have D:yL F k (h+1) ks=qA h (A++([⟨a.1,yL F k h a.2,a.3⟩]++B)) (qq ks k):=by
  show chgK h (yL F k h) k ks=_;unfold chgK;rw[C];simp only;rw[Z]
 have t:∃n x r,A++([⟨a.1,yL F k h a.2,a.3⟩]++B)=⟨f,n,x⟩::r:=by
  cases A with
  |nil=>
   rw[G]at d;have:=(List.cons.inj d).1;refine⟨yL F k h a.2,a.3,B,?_⟩;rw[<-this];rfl
  |cons x U=>
   rw[G]at d;have:=(List.cons.inj d).1;exact⟨S,T,U++([⟨a.1,yL F k h a.2,a.3⟩]++B),by rw[this];rfl⟩
 obtain⟨n1,x1,r1,V⟩:=t;obtain⟨n2,x2,r2,W⟩:=l.head f n1 x1 r1 V;have J:(A++(([⟨a.1,yL F k h a.2,a.3⟩]:List (Kid h))++B)).length=ks.length:=by rw[K];simp;omega
 have f1:=l.lo;have f2:=l.hi;rw[J]at f1 f2;rw[D];refine⟨(yN h f _).2 ⟨⟨n2,x2,r2,W⟩,l.kw⟩,fun x g=>l.full x g,?_,?_,?_⟩
 ·show yJ h (qA h _ _)=F (yJ h ks);rw[l.flat]
  conv=>rhs;rw[d]
  simp only[qz];rw[show yJ h [⟨a.1,yL F k h a.2,a.3⟩]=yV h (yL F k h a.2)by simp[yJ],show yJ h [a]=yV h a.2 by simp[yJ],ih.flat,hF.mid _ _ _ se z]
 ·show 11*(qA h _ _).length<=11*ks.length+22;omega
 ·show 11*ks.length<=11*(qA h _ _).length+22;omega
theorem Zn{F:List Pr->List Pr}{k:ByteArray}(hF:Zw F k):∀(h:Nat) (f:ByteArray) (n:Nd h),WFN h f n->qd h n->ge k f->(0<h->22<=yq h n)->Chg F h f n (yL F k h n)
 |0,f,l,a,_,b,_=>by
  have d:=hF.size l a.1 fun p c=>(a.2 p c).2;refine⟨⟨hF.srt l a.1,?_⟩,trivial,rfl,d.1,d.2⟩;intro p c;rcases hF.mem l p c with h|⟨e,g⟩
  ·exact a.2 p h
  ·exact⟨by rw[e];exact b,g⟩
 |h+1,f,j,a,i,b,m=>Q4n hF h (Zn hF h) f j a i b m
end Go.Proofs.YtcklgafpgdhnaaaGreatDoor
