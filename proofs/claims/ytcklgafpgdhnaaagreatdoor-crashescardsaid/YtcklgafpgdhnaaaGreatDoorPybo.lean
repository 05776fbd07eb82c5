import Derived.Test.YtcklgafpgdhnaaaGreatDoorPybm
set_option maxRecDepth 100000
set_option maxHeartbeats 4000000
set_option linter.unusedSimpArgs false
set_option linter.unusedVariables false
set_option linter.unusedSectionVars false
namespace Go.Proofs.YtcklgafpgdhnaaaGreatDoor
open Go.RowKit
theorem T5{n:Nat}{L:List UInt8}{q:List Wt}(hL:L.length=n*128)(hq:Fit n q)(i:Nat):yl (lay L q) i=vf (yl L i) i q:=by
 induction q generalizing L with
 |nil=>rfl
 |cons x r ih=>
  have a:=hq x (by simp);have b:=ih (L:=jm L x.1 x.2) (Vw L x.2 n x.1 hL a.1 a.2) (fun y c=>hq y (by simp[c]));show yl (lay (jm L x.1 x.2) r) i=vf (if x.1=i then x.2 else yl L i) i r;rw[b,Xe hL a.1 a.2]
  by_cases e:x.1=i
  ·rw[if_pos e,if_pos e.symm]
  ·rw[if_neg e,if_neg fun h=>e h.symm]
theorem Fl.view{n:Nat}{D E:Dv}(h:Fl D E)(hL:D.L.length=n*128)(hq:Fit n D.q)(i:Nat):E.view i=D.view i:=by
 unfold Dv.view;rw[h.q,h.L];exact T5 hL hq i
theorem Wn.view{D E:Dv}{i:Nat}{B:List UInt8}(h:Wn D i B E)(j:Nat):E.view j=if i=j then B else D.view j:=by
 unfold Dv.view;rw[h.q,h.L,Ur]
theorem Wo{b:List UInt8}{i:Nat}{q:List Wt}(h:∀x∈q,x.1≠i):vf b i q=b:=by
 induction q generalizing b with
 |nil=>rfl
 |cons x r ih=>
  show vf (if x.1=i then x.2 else b) i r=b;rw[if_neg (h x (by simp))];exact ih fun y a=>h y (by simp[a])
theorem RB(b:List UInt8)(i:Nat)(q r:List Wt):vf b i (q++r)=vf (vf b i q) i r:=by simp[vf,List.foldl_append]
theorem QbG{b:List UInt8}{q:List Wt}{x:Wt}(hn:(q.map fun y=>y.1).Nodup)(hx:x∈q):vf b x.1 q=x.2:=by
 induction q generalizing b with
 |nil=>cases hx
 |cons y r ih=>
  rw[bn,dj]at hn;show vf (if y.1=x.1 then y.2 else b) x.1 r=x.2;rcases an.1 hx with e|hx
  ·subst e;rw[if_pos rfl];exact Wo fun z a e=>hn.1 (bg.2 ⟨z,a,e⟩)
  ·exact ih hn.2 hx
variable {D:Dv}
theorem Wrs.other{E:Dv}{ws:List (Nat×List UInt8)}(h:Wrs D ws E){i:Nat}(hi:∀x∈ws,x.1≠i):E.view i=D.view i:=by
 unfold Dv.view;rw[h.q,h.L,RB];exact Wo hi
theorem Wrs.at{E:Dv}{ws:List (Nat×List UInt8)}(h:Wrs D ws E)(hn:(ws.map fun y=>y.1).Nodup){x:Nat×List UInt8}(hx:x∈ws):E.view x.1=x.2:=by
 unfold Dv.view;rw[h.q,RB];exact QbG hn hx
theorem Stp.ws{s s':Ls}(h:Stp s s'):∃ws,s'.ws=s.ws++ws/\s'.us=(ws.map fun x=>x.1).reverse++s.us/\(ws.map fun x=>x.1).Nodup/\∀x∈ws,x.1∉s.us:=by
 induction h with
 |refl=>exact⟨[],by simp,by simp,List.nodup_nil,fun x c=>by cases c⟩
 |step _ B ih=>
  rename_i g _;obtain⟨ws,k,i,l,m⟩:=ih;have f:=Ma g.us;have d:∀y,y∈(ws.map fun x=>x.1).reverse++_->y∈g.us:=fun y p=>by rw[i];exact p
  refine⟨ws++ [(tk g.us,B)],?_,?_,?_,?_⟩
  ·simp[Ls.step,k]
  ·simp[Ls.step,i]
  ·rw[cS,cL];refine⟨l,by simp,?_⟩;intro a n b j e;simp at j;subst j;subst e;exact f (d _ (aw _ (cD.2 n)))
  ·intro x c;rcases ar.1 c with c|c
   ·exact m x c
   ·simp at c;subst c;intro o;exact f (d _ (az _ o))
theorem OV(c:Hd)(t:Tr):((yG c t).2.ws.map fun x=>x.1).Nodup/\∀x∈(yG c t).2.ws,x.1∉usL c.lt:=by
 obtain⟨ws,a,_,b,d⟩:=(Rr t ⟨usL c.lt,[]⟩).1.ws;have e:(yG c t).2.ws=ws:=by
  have:(yG c t).2.ws= []++ws:=a;rw[this];rfl
 rw[e];exact⟨b,d⟩
theorem Sy0.view{c:Hd}{n:Nat}{D D0:Dv}(h:Sy0 c D D0)(hL:D.L.length=n*128)(hq:Fit n D.q):(∀b,D0.view b=D.view b)/\D0.L.length=n*128/\Fit n D0.q:=by
 rcases h with⟨_,h⟩|⟨_,rfl⟩
 ·refine⟨h.view hL hq,by rw[h.L];exact gG hL hq,?_⟩;rw[h.q];exact fun x a=>by cases a
 ·exact⟨fun _=>rfl,hL,hq⟩
variable {t:Tr}
theorem QbI{n:Nat}{c:Hd}{D0 D':Dv}{fq fy:Nat}(h:StK n D.view c.lt t)(hn:2<=n)(hL:D.L.length=n*128)(hq:Fit n D.q)(h0:Sy0 c D D0)(hk:SyOk c t D0 fq fy D')(hb:Bd n (yG c t).2)(hfr:FrW c.lt n (yG c t).2.ws):
  StK n D'.view (yG c t).1 (yG c t).1:=by
 obtain⟨y,v,z⟩:=h0.view hL hq;obtain⟨A,s⟩:=OV c t;have p:∀{f:Dv},Wrs D0 (yG c t).2.ws f->(∀b∈usL c.lt,f.view b=D.view b)/\(∀x∈(yG c t).2.ws,f.view x.1=x.2)/\f.L.length=n*128/\Fit n f.q:=by
  intro f g;refine⟨fun b a=> ?_,fun x d=>g.at A d,by rw[g.L];exact v,?_⟩
  ·rw[g.other fun x d e=>s x d (by rw[e];exact a),y]
  ·rw[g.q];intro x d;rcases ar.1 d with d|d
   ·exact z x d
   ·exact(hfr.1 x d).2
 rcases hk with⟨_,_,_,g⟩|⟨_,_,_,f,D2,D3,g,ik,iH,fU⟩
 ·obtain⟨j,k,_,_⟩:=p g;exact h.sync hb (fun b a=>j b (Ml a)) k
 ·obtain⟨j,k,m,o⟩:=p g;have u:D2.L.length=n*128:=by rw[ik.L];exact gG m o
  have B:nxt c.tu%2<2:=cT _ (by omega);have w:Fit n D3.q:=by
   rw[iH.q,ik.q];intro x d;simp at d;subst d;exact⟨by show nxt c.tu%2<n;omega,gP _ _⟩
  have i:∀b,2<=b->D'.view b=f.view b:=by
   intro b a;rw[fU.view (by rw[iH.L];exact u) w,iH.view,if_neg (by omega),ik.view m o]
  refine h.sync hb (fun b a=> ?_) fun x d=> ?_
  ·rw[i b (ZX h.us a)];exact j b (Ml a)
  ·have l:2<=x.1:=by
    rcases bG x.1 2 with r|r
    ·refine absurd (az _ ?_) (s x d);have:x.1=0\/x.1=1:=by omega
     rcases this with e|e<;>rw[e]<;>simp
    ·exact r
   rw[i x.1 l];exact k x d
theorem Nc(c:Hd)(t:Tr):yH (yG c t).1=yH t/\gh (yG c t).1=gh t:=by
 unfold yG
 cases b:g9 t.h t.n with
 |true=>
  have e:(ZB t ⟨usL c.lt,[]⟩).1=t:=by unfold ZB;simp[b]
  rw[e];exact⟨rfl,rfl⟩
 |false=>
  rw[ZU b]
  by_cases d:t.pl=0
  ·rw[show qr t.h ⟨yu,t.n,t.pl⟩ ⟨usL c.lt,[]⟩=_ from Z1 (k:=rtK t) d ⟨usL c.lt,[]⟩];have a:=OG (Mv t.h t.n ⟨usL c.lt,[]⟩);refine⟨a.1,?_⟩;unfold gh;show(if g9 t.h (qg t.h t.n ⟨usL c.lt,[]⟩).1=true then 0 else j5 t.h (qg t.h t.n ⟨usL c.lt,[]⟩).1)=_;rw[a.2.2.2.1,a.2.2.1]
  ·rw[show qr t.h ⟨yu,t.n,t.pl⟩ ⟨usL c.lt,[]⟩=_ from Q6 (k:=rtK t) d ⟨usL c.lt,[]⟩];exact⟨rfl,rfl⟩
theorem QbK{t:Nat}(h:t<18446744073709551616):nwr (nxt t) t=true/\nwr t (nxt t)=false:=by
 have c:IntKind.u64.wrap 1=1:=by kernel_rfl
 have d:IntKind.u64.wrap (-18446744073709551615)=1:=by kernel_rfl
 have e:IntKind.u64.wrap (-1)=18446744073709551615:=by kernel_rfl
 have f:IntKind.u64.wrap 18446744073709551615=18446744073709551615:=by kernel_rfl
 unfold nwr nxt
 by_cases g:t+1=18446744073709551616
 ·have:(t+1)%18446744073709551616=0:=by rw[g]
  rw[this];have a:(((0:Nat):Int)-(t:Int))= -18446744073709551615:=by omega
  have b:((t:Int)-((0:Nat):Int))=18446744073709551615:=by omega
  rw[a,b,d,f];exact⟨bM (by simp[wrap64]),ct (by simp[wrap64])⟩
 ·have:(t+1)%18446744073709551616=t+1:=dI (by omega);rw[this];have a:(((t+1:Nat):Int)-(t:Int))=1:=by omega
  have b:((t:Int)-((t+1:Nat):Int))= -1:=by omega
  rw[a,b,c,e];exact⟨bM (by simp[wrap64]),ct (by simp[wrap64])⟩
theorem Mi{t:Nat}:nxt t%2=(t+1)%2:=by unfold nxt;omega
theorem RN{t r:Nat}(h:yg D=((t,r),true)):rdH (t%2) (D.view (t%2))=some (t,r):=by
 unfold yg at h
 cases b:rdH 0 (D.view 0)with
 |none=>rw[b]at h;cases a:rdH 1 (D.view 1)<;>rw[a]at h<;>cases h
 |some x=>
  cases a:rdH 1 (D.view 1)with
  |none=>rw[b,a]at h;cases h
  |some y=>
   rw[b,a]at h;simp only[nwst]at h;split at h
   ·cases h
    rw[(jr a).1];exact a
   ·cases h
    rw[(jr b).1];exact b
theorem Rx{t r r':Nat}(ht:t<18446744073709551616)(h1:rdH (t%2) (D.view (t%2))=some (t,r))(h2:rdH (nxt t%2) (D.view (nxt t%2))=some (nxt t,r')):yg D=((nxt t,r'),true):=by
 obtain⟨b,c⟩:=QbK ht;unfold yg;rw[Mi]at h2;rcases dK t with e|e
 ·have a:(t+1)%2=1:=by omega
  rw[e]at h1;rw[a]at h2;rw[h1,h2];simp[nwst,b]
 ·have a:(t+1)%2=0:=by omega
  rw[e]at h1;rw[a]at h2;rw[h1,h2];simp[nwst,c]
theorem Xi{n:Nat}{c:Hd}{D0 D':Dv}{fq fy:Nat}(hn:2<=n)(hL:D.L.length=n*128)(hq:Fit n D.q)(h0:Sy0 c D D0)(hk:SyOk c t D0 fq fy D')(hfr:FrW c.lt n (yG c t).2.ws)(hh:yg D=((c.tu,c.ro),true))(ug:c.ro=c.lt.pl)(nR:c.tu<18446744073709551616)(hpl:(yG c t).1.pl<65536):
  yg D'=((fq,fy),true)/\fy=(yG c t).1.pl/\fq<18446744073709551616:=by
 obtain⟨v,p,w⟩:=h0.view hL hq;obtain⟨_,y⟩:=OV c t;have l:∀{f:Dv},Wrs D0 (yG c t).2.ws f->(∀b,b<2->f.view b=D.view b)/\f.L.length=n*128/\Fit n f.q:=by
  intro f d;refine⟨fun b m=> ?_,by rw[d.L];exact p,?_⟩
  ·rw[d.other fun x a e=>y x a (by
    rw[e];refine az _ ?_;have:b=0\/b=1:=by omega
    rcases this with e|e<;>rw[e]<;>simp),v]
  ·rw[d.q];intro x a;rcases ar.1 a with a|a
   ·exact w x a
   ·exact(hfr.1 x a).2
 rcases hk with⟨e1,rfl,rfl,d⟩|⟨_,rfl,rfl,f,D2,D3,d,ik,iH,fU⟩
 ·obtain⟨i,_,_⟩:=l d;refine⟨?_,by rw[e1];exact ug,nR⟩;rw[<-hh];unfold yg;rw[i 0 (by omega),i 1 (by omega)]
 ·obtain⟨i,j,k⟩:=l d;have o:D2.L.length=n*128:=by rw[ik.L];exact gG j k
  have u:nxt c.tu%2<2:=cT _ (by omega);have s:Fit n D3.q:=by
   rw[iH.q,ik.q];intro x a;simp at a;subst a;exact⟨by show nxt c.tu%2<n;omega,gP _ _⟩
  have g:nxt c.tu<18446744073709551616:=cT _ (by omega);have h:∀b,b<2->D'.view b=if nxt c.tu%2=b then blk (nxt c.tu) (yG c t).1.pl else D.view b:=by
   intro b m;rw[fU.view (by rw[iH.L];exact o) s,iH.view];split
   ·rfl
   ·rw[ik.view j k,i b m]
  refine⟨Rx (r:=c.ro) nR ?_ ?_,rfl,g⟩
  ·rw[h _ (cT _ (by omega)),if_neg (by rw[Mi];omega)];exact RN hh
  ·rw[h _ u,if_pos rfl];exact N7 g hpl
def ft(x a:Nat)(bv:Value):List Nat:=x::yk a bv (.slice none 0 0)
def Rm(n:Nat)(l:List Pr):Prop:=4*l.length+8<=3*n
theorem Rm.two{n:Nat}{u:Tr}(h:Rm n (yH t))(g:Rm n (yH u))(hn:8<=n)(ht:TW t)(hu:TW u):gh t+2+gh u<=n:=by
 have a:=Od t ht;have b:=Od u hu;unfold Rm at h g;omega
variable {lk:Nat->List UInt8}{lt:Tr}
section
variable {w0 w w':World} {x a:Nat} {bv:Value} {n:Nat} {c:Hd} {t:Tr} {D:Dv}
theorem StK.del{k:ByteArray}(h:StK n lk lt t):StK n lk lt (delT k t):=by
 unfold delT;split
 ·exact h.chg (Rj k)
 ·exact h
end
theorem Qe3{n:Nat}{c:Hd}(h:StK n lk c.lt t)(e:(yG c t).1.pl=c.lt.pl):(yG c t).2.ws= []:=by
 unfold yG at*
 cases d:g9 t.h t.n with
 |true=>
  have e:(ZB t ⟨usL c.lt,[]⟩).2=⟨usL c.lt,[]⟩:=by unfold ZB;simp[d]
  rw[e]
 |false=>
  rw[ZU d]at*
  by_cases f:t.pl=0
  ·exfalso;have g:qr t.h ⟨yu,t.n,t.pl⟩ ⟨usL c.lt,[]⟩=_:=Z1 (k:=rtK t) f ⟨usL c.lt,[]⟩;rw[g]at e;have e:tk (qg t.h t.n ⟨usL c.lt,[]⟩).2.us=c.lt.pl:=e;have a:=Ma (qg t.h t.n ⟨usL c.lt,[]⟩).2.us;obtain⟨ws,_,i,_,_⟩:=Stp.ws (Zf t.h t.n ⟨usL c.lt,[]⟩).1;rw[e,i]at a;apply a;apply az;show c.lt.pl∈usL c.lt;unfold usL
   cases b:g9 c.lt.h c.lt.n with
   |true=>rw[h.ltw.nil b];simp
   |false=>exact aw _ (cD.2 (by unfold qZ;rw[b];simp))
  ·rw[show qr t.h ⟨yu,t.n,t.pl⟩ ⟨usL c.lt,[]⟩=_ from Q6 (k:=rtK t) f ⟨usL c.lt,[]⟩]
theorem StK.lpl{n:Nat}(h:StK n lk lt t)(hn:n<=65536):lt.pl<65536:=by
 cases a:g9 lt.h lt.n with
 |true=>rw[h.ltw.nil a];omega
 |false=>
  have:=h.ub lt.pl (by unfold qZ;rw[a];simp);omega
def Pd:(h:Nat)->Nd h->Prop
 |0,_=>True
 |h+1,ks=>∀k:Kid h,List.Mem k ks->k.3≠0/\Pd h k.2
theorem Wx{h:Nat}{ks:List (Kid h)}:Pd (h+1) ks↔∀k∈ks,k.3≠0/\Pd h k.2:=Iff.rfl
def frS(h:Nat)(ks:List (Kid h)):Nat:=(ks.map fun k:Kid h=>if k.3=0 then 1+frN h k.2 else 0).sum
theorem jM(h:Nat)(a b:List (Kid h)):frS h (a++b)=frS h a+frS h b:=by unfold frS;rw[cS,List.sum_append]
theorem QeB{h:Nat}{ks:List (Kid h)}(H:∀k∈ks,k.3≠0):frS h ks=0:=by
 induction ks with
 |nil=>rfl
 |cons a r ih=>
  have b:=ih fun k c=>H k (by simp[c]);unfold frS at b⊢;rw[bn,bE,b,if_neg (H a (by simp))]
theorem Pd.fr{h:Nat}{n:Nd h}(H:Pd h n):frN h n=0:=by
 cases h with
 |zero=>rfl
 |succ h=>exact QeB fun k a=>(Wx.1 H k a).1
theorem QeC(h:Nat)(n:Nd h):frN h (yW h n).1+frN h (yW h n).2=frN h n:=by
 cases h with
 |zero=>rfl
 |succ h=>
  have a:∀(l:List (Kid h)) (i:Nat),frS h (l.take i)+frS h (l.drop i)=frS h l:=fun l i=>by rw[<-jM,aS]
  exact a n _
theorem QeD(h:Nat)(a b:Nd h):frN h (Q4 h a b)=frN h a+frN h b:=by
 cases h with
 |zero=>rfl
 |succ h=>exact jM h a b
theorem P8(h:Nat)(f:ByteArray)(n:Nd h):frS h (qN h f n)<=2+frN h n:=by
 have:=QeC h n;unfold qN frS;split
 ·simp only[bn,List.map_nil,bE,List.sum_nil,if_true];omega
 ·simp only[bn,List.map_nil,bE,List.sum_nil,if_true];omega
def frT(t:Tr):Nat:=if g9 t.h t.n=true\/t.pl≠0 then 0 else 1+frN t.h t.n
theorem SQ(c:Hd)(t:Tr):(yG c t).2.ws.length=frT t:=by
 unfold yG frT
 cases b:g9 t.h t.n with
 |true=>
  have e:(ZB t ⟨usL c.lt,[]⟩).2=⟨usL c.lt,[]⟩:=by unfold ZB;simp[b]
  rw[e];simp
 |false=>
  rw[ZU b]
  by_cases a:t.pl=0
  ·rw[show qr t.h ⟨yu,t.n,t.pl⟩ ⟨usL c.lt,[]⟩=_ from Z1 (k:=rtK t) a ⟨usL c.lt,[]⟩];have:=(Zf t.h t.n ⟨usL c.lt,[]⟩).2;simp[a,Ls.step];show List.length (qg t.h t.n ⟨usL c.lt,[]⟩).2.ws+1=_;rw[this];simp;omega
  ·rw[show qr t.h ⟨yu,t.n,t.pl⟩ ⟨usL c.lt,[]⟩=_ from Q6 (k:=rtK t) a ⟨usL c.lt,[]⟩];simp[a]
theorem OP(p:Prop)[Decidable p](n:Nat):(if p then 0 else n)<=n:=by split<;>omega
theorem QeH(h:Nat)(m:Nd h):frT (lowT h m)<=1+frN h m:=by
 unfold frT
 cases h with
 |zero=>simp[lowT];split<;>omega
 |succ h=>
  match(show List (Kid h)from m)with
  | []=>exact OP _ (1+frS h [])
  | [a]=>
   show(if g9 h a.2=true\/a.3≠0 then 0 else 1+frN h a.2)<=1+frS h [a];unfold frS;split
   ·omega
   ·rename_i c;have:a.3=0:=Decidable.byContradiction fun e=>c (Or.inr e);simp[this]
  |a::b::r=>exact OP _ (1+frS h (a::b::r))
def Hp:(h:Nat)->Nd h->Prop
 |0,_=>True
 |h+1,ks=>∀k:Kid h,List.Mem k ks->(k.3≠0->Pd h k.2)/\Hp h k.2
theorem Py{h:Nat}{ks:List (Kid h)}:Hp (h+1) ks↔∀k∈ks,(k.3≠0->Pd h k.2)/\Hp h k.2:=Iff.rfl
theorem Ry{lk:Nat->List UInt8}:∀{h:Nat} {n:Nd h},GlN lk h n->MI h n->Pd h n
 |0,_,_,_=>trivial
 |h+1,(c:List (Kid h)),g,a=>Wx.2 fun k b=>by
  have g:=jJ.1 g k b;have a:k.3≠0:=a k b;exact⟨a,Ry g.2.1 (g.2.2 a).2⟩
theorem Te{lk:Nat->List UInt8}:∀{h:Nat} {n:Nd h},GlN lk h n->Hp h n
 |0,_,_=>trivial
 |h+1,(c:List (Kid h)),g=>Py.2 fun k a=>by
  have g:=jJ.1 g k a;exact⟨fun b=>Ry g.2.1 (g.2.2 b).2,Te g.2.1⟩
theorem VC(h:Nat)(a:Kid h)(r:List (Kid h)):frS h (a::r)=(if a.3=0 then 1+frN h a.2 else 0)+frS h r:=by unfold frS;rw[bn,bE]
theorem Oz{h:Nat}{a:Kid h}(H:a.3≠0->Pd h a.2):frN h a.2<=frS h [a]:=by
 rw[VC];split
 ·omega
 ·rename_i e;rw[(H e).fr];omega
theorem QeT{h:Nat}(ks:List (Kid h))(i:Nat)(a:Kid h)(hi:ks[i]?=some a)(ho:∀j k,ks[j]?=some k->j≠i->k.3≠0->Pd h k.2):frS h (qA h ks i)<=2+frN h a.2+frS h (ks.take i)+frS h (ks.drop (i+1)):=by
 have c:frS h ks<=2+frN h a.2+frS h (ks.take i)+frS h (ks.drop (i+1)):=by
  have e:frS h ks=frS h (ks.take i++([a]++ks.drop (i+1))):=by rw[<-NX ks i a hi]
  rw[e,jM,jM,VC];have:frS h []=0:=rfl;split<;>omega
 unfold qA;rw[hi];simp only;split
 ·split
  ·rename_i x y d f;rw[jM,jM];have p:=P8 h x.1 (Q4 h x.2 y.2);rw[QeD]at p
   by_cases q:i-1=i
   ·have n:i=0:=by omega
    subst n;have g:x=a:=by
     have d:ks[0]?=some x:=d;rw[hi]at d;exact(aH d).symm
    subst g;have s:=Oz (ho 1 y f (by omega));have l:ks.drop 1= [y]++ks.drop 2:=by
     have f:ks[1]?=some y:=f;obtain⟨m,b⟩:=ae.1 f;rw[aL m,b];rfl
    have b:frS h (ks.drop (0+1))=frS h [y]+frS h (ks.drop 2):=by
     show frS h (ks.drop 1)=_;rw[l,jM]
    show frS h (ks.take 0)+(_+frS h (ks.drop 2))<=_;rw[b];omega
   ·have g:i-1+1=i:=by omega
    have o:y=a:=by
     rw[g,hi]at f;exact(aH f).symm
    subst o;have r:=Oz (ho (i-1) x d (by omega));have l:ks.take i=ks.take (i-1)++ [x]:=by
     obtain⟨m,b⟩:=ae.1 d;have:=cZ m;rw[g,b]at this;exact this
    have b:i-1+2=i+1:=by omega
    rw[l,jM,b];omega
  ·exact c
 ·rw[jM,jM];have:=P8 h a.1 a.2;omega
theorem SW(F:List Pr->List Pr)(k:ByteArray):∀(h:Nat) (n:Nd h),Hp h n->frN h (yL F k h n)<=frN h n+2*h
 |0,_,_=>Nat.le_add_right _ _
 |h+1,(b:List (Kid h)),H=>by
  show frS h (chgK h (yL F k h) k b)<=frS h b+2*(h+1);unfold chgK;split
  ·omega
  ·rename_i a c;have l:qq b k<b.length:=(ae.1 c).1;have f:=Py.1 H a (ah c);have d:=QeT (b.set (qq b k) ⟨a.1,yL F k h a.2,a.3⟩) (qq b k) ⟨a.1,yL F k h a.2,a.3⟩ (dc l) (by
    intro j x e m;rw[cW (by omega)]at e;exact(Py.1 H x (ah e)).1)
   have p:=SW F k h a.2 f.2;have q:=Oz f.1;have g:(b.set (qq b k) (⟨a.1,yL F k h a.2,a.3⟩:Kid h)).take (qq b k)=b.take (qq b k):=by rw[dx,dR (by rw[au];omega)]
   have i:(b.set (qq b k) (⟨a.1,yL F k h a.2,a.3⟩:Kid h)).drop (qq b k+1)=b.drop (qq b k+1):=by rw[List.drop_set,if_pos (by omega)]
   rw[g,i]at d;have o:frS h b=frS h (b.take (qq b k))+(frS h [a]+frS h (b.drop (qq b k+1))):=by
    rw[<-jM,<-jM,<-NX b _ a c]
   simp only at d;omega
theorem QeV{n:Nat}(h:StK n lk lt t):frN t.h t.n<=frT t:=by
 unfold frT
 by_cases b:t.pl=0
 ·cases c:g9 t.h t.n with
  |true=>
   obtain⟨a,d,e⟩:=t
   cases a with
   |zero=>simp;rfl
   |succ a=>cases c
  |false=>simp[b]
 ·have:Pd t.h t.n:=Ry h.g.2.1 (h.g.2.2 b).2;rw[this.fr];exact ay _
theorem UW{n:Nat}(F:List Pr->List Pr)(k:ByteArray)(h:StK n lk lt t):frT (gZ F k t)<=frT t+2*t.h+3:=by
 have d:=SW F k t.h t.n (Te h.g.2.1);have c:=QeV h;unfold gZ;generalize yL F k t.h t.n=m at*
 by_cases a:yq t.h m<=122
 ·have e:qN t.h yu m= [⟨yu,m,0⟩]:=by unfold qN;rw[if_pos a]
  rw[e];have:=QeH t.h m;show frT (lowT t.h m)<=_;omega
 ·have b:=P8 t.h yu m;have e:qN t.h yu m= [⟨yu,(yW t.h m).1,0⟩,⟨jG t.h (yW t.h m).2,(yW t.h m).2,0⟩]:=by unfold qN;rw[if_neg a]
  rw[e]at b⊢;refine av (OP _ (1+frS t.h [⟨yu,(yW t.h m).1,0⟩,⟨jG t.h (yW t.h m).2,(yW t.h m).2,0⟩])) ?_;omega
theorem Vr{n:Nat}(h:StK n lk lt lt):frT lt=0:=by
 unfold frT;refine if_pos ?_
 cases a:g9 lt.h lt.n with
 |true=>exact Or.inl rfl
 |false=>
  right;have:=ZX h.us (b:=lt.pl) (by unfold qZ;rw[a];simp);omega
theorem UV{h m:Nat}(ks:List (Kid h))(H:∀k∈ks,m<=j5 h k.2):ks.length*m<=(ks.map fun k:Kid h=>j5 h k.2).sum:=by
 induction ks with
 |nil=>simp
 |cons a r ih=>
  have c:=ih fun k b=>H k (by simp[b]);have d:=H a (by simp);rw[bn,bE,aB,Nat.succ_mul];omega
theorem SO:∀(h:Nat) (n:Nd h),qd h n->40<=yq h n->4^h<=j5 h n
 |0,_,_,_=>ag _
 |h+1,(a:List (Kid h)),b,e=>by
  have b:=(yO h a).1 b;have f:=UV (m:=4^h) a fun k c=>SO h k.2 (b k c).2 (b k c).1.1;have i:40<=11*a.length:=e;have d:4<=a.length:=by omega
  have g:=bN (4^h) d;show 4^(h+1)<=1+(a.map fun k:Kid h=>j5 h k.2).sum;rw[Nat.pow_succ];omega
theorem Vc(t:Tr)(ht:TW t)(hl:gh t<=398):t.h<=4:=by
 obtain⟨h,n,i⟩:=t
 cases h with
 |zero=>exact ay _
 |succ h=>
  have c:=(yO h n).1 ht.full;have e:=UV (m:=4^h) n fun k a=>SO h k.2 (c k a).2 (c k a).1.1;have f:22<=11*List.length (α:=Kid h) n:=ht.two (Nat.succ_pos h);have d:2<=List.length (α:=Kid h) n:=by omega
  have g:=bN (4^h) d;have hl:1+(List.map (fun k:Kid h=>j5 h k.2) n).sum<=398:=hl;show h+1<=4;rcases bG h 4 with b|b
  ·omega
  ·have:=dy (n:=4) (by omega) b;omega
theorem Qf1{h:Nat}(ks:List (Kid h))(i:Nat)(a:Kid h)(hi:ks[i]?=some a)(hs:yq h a.2<=122):(qA h ks i).length<=ks.length:=by
 have f:i<ks.length:=(ae.1 hi).1;unfold qA;rw[hi];simp only;split
 ·split
  ·rename_i x y d b;have e:i-1+1<ks.length:=(ae.1 b).1;have c:(qN h x.1 (Q4 h x.2 y.2)).length<=2:=by unfold qN;split<;>simp
   rw[ai,ai,au,aC];omega
  ·exact ag _
 ·have c:(qN h a.1 a.2).length=1:=by unfold qN;rw[if_pos hs];rfl
  rw[ai,ai,au,aC];omega
theorem Wz(f:Pr->Bool):∀l:List Pr,((l.filter f).map psz).sum<=(l.map psz).sum
 | []=>ag _
 |p::r=>by
  have:=Wz f r;rw[List.filter_cons];split
  ·simp only[bn,bE];omega
  ·simp only[bn,bE];omega
theorem RO(k:ByteArray):∀(h:Nat) (n:Nd h),qd h n->yq h (yL (ym k) k h n)<=yq h n
 |0,(l:List Pr),_=>by
  exact Wz _ l
 |h+1,(b:List (Kid h)),f=>by
  have e:∀l:List (Kid h),yq (h+1) l=11*l.length:=fun _=>rfl;show yq (h+1) (chgK h (yL (ym k) k h) k b)<=_;rw[e,e];refine dD 11 ?_;unfold chgK;split
  ·exact ag _
  ·rename_i a c;have g:qq b k<b.length:=(ae.1 c).1;have d:=(yO h b).1 f a (ah c);have i:=RO k h a.2 d.2;have j:=d.1.2;have:=Qf1 (b.set (qq b k) ⟨a.1,yL (ym k) k h a.2,a.3⟩) (qq b k) ⟨a.1,yL (ym k) k h a.2,a.3⟩ (dc g) (by show yq h (yL _ _ _ _)<=122;omega);rw[bJ]at this;exact this
theorem Qf4(h:Nat)(m:Nd h):(lowT h m).h<=h:=by
 cases h with
 |zero=>exact ag _
 |succ h=>
  match(show List (Kid h)from m)with
  | []=>exact ag _
  | [a]=>exact cG _
  |a::b::r=>exact ag _
theorem YC(k:ByteArray)(t:Tr)(ht:TW t):(delT k t).h<=t.h:=by
 unfold delT;split
 ·unfold gZ;have a:=RO k t.h t.n ht.full;have b:=ht.hi;have e:qN t.h yu (yL (ym k) k t.h t.n)= [⟨yu,yL (ym k) k t.h t.n,0⟩]:=by unfold qN;rw[if_pos (by omega)]
  rw[e];exact Qf4 _ _
 ·exact ag _
theorem Qf6{n:Nat}(k:ByteArray)(h:StK n lk lt t):frT (delT k t)<=frT t+2*t.h+3:=by
 unfold delT;split
 ·exact UW _ _ h
 ·omega
end Go.Proofs.YtcklgafpgdhnaaaGreatDoor
