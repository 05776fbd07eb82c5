import Derived.Test.YtcklgafpgdhnaaaGreatDoorPybq
set_option maxRecDepth 100000
set_option maxHeartbeats 4000000
set_option linter.unusedSimpArgs false
set_option linter.unusedVariables false
set_option linter.unusedSectionVars false
namespace Go.Proofs.YtcklgafpgdhnaaaGreatDoor
open Go.RowKit
def Wdw(K t t':Nat):Prop:=∃d,d<=K/\t=(t'+d)%18446744073709551616
variable {K t t':Nat}
theorem Wdw.mono{K':Nat}(h:Wdw K t t')(hk:K<=K'):Wdw K' t t':=by
 obtain⟨d,b,a⟩:=h;exact⟨d,by omega,a⟩
theorem Wdw.next(h:Wdw K t t'):Wdw (K+1) (nxt t) t':=by
 obtain⟨d,a,b⟩:=h;refine⟨d+1,by omega,?_⟩;unfold nxt;omega
theorem Wdw.refl(h:t<18446744073709551616):Wdw K t t:=⟨0,ay _,by omega⟩
theorem Of{d:Nat}(_:t'<18446744073709551616)(h0:0<d)(hd:d<=4611686018427387904)(e:t=(t'+d)%18446744073709551616):nwr t t'=true/\nwr t' t=false:=by
 have a:IntKind.u64.wrap ((t:Int)-t')=d:=by rw[IntKind.wrap_u64];omega
 have b:IntKind.u64.wrap ((t':Int)-t)=18446744073709551616-d:=by rw[IntKind.wrap_u64];omega
 unfold nwr;rw[a,b];exact⟨bM (by simp only[wrap64];omega),ct (by simp only[wrap64];omega)⟩
def hdL(L:List UInt8)(i:Nat):Option (Nat×Nat):=rdH i (yl L i)
theorem O6(L:List UInt8):yg (.new L)=nwst (hdL L 0) (hdL L 1):=rfl
variable {i:Nat}{B:List UInt8}
theorem Mc{r:Nat}(h:rdH i B=some (t,r)):t<18446744073709551616:=by
 unfold rdH at h;split at h
 ·cases h
  have a:=QY ((B.drop 8).take 8);have b:2^(8*((B.drop 8).take 8).length)<=2^64:=dy (by decide) (by rw[au];omega);exact bz a b
 ·cases h
theorem QS(h:i<2):i=0\/i=1:=by omega
variable {L:List UInt8}
theorem RG{T:Nat}(hK:K<=4611686018427387904)(h:∀i,i<2->∀t r,hdL L i=some (t,r)->Wdw K T t):∀i,i<2->∀t r,hdL L i=some (t,r)->Wdw K (yg (.new L)).1.1 t:=by
 rw[O6];intro i f t r e
 cases b:hdL L 0 with
 |none=>
  cases a:hdL L 1 with
  |none=>
   rcases QS f with rfl|rfl
   ·rw[b]at e;cases e
   ·rw[a]at e;cases e
  |some o=>
   rcases QS f with rfl|rfl
   ·rw[b]at e;cases e
   ·rw[a]at e;cases e;exact Wdw.refl (Mc a)
 |some x=>
  cases a:hdL L 1 with
  |none=>
   rcases QS f with rfl|rfl
   ·rw[b]at e;cases e;exact Wdw.refl (Mc b)
   ·rw[a]at e;cases e
  |some o=>
   obtain⟨t0,u⟩:=x;obtain⟨t1,v⟩:=o;obtain⟨d0,n,q⟩:=h 0 (by omega) _ _ b;obtain⟨d1,p,s⟩:=h 1 (by omega) _ _ a;have g:t0<18446744073709551616:=Mc b;have j:t1<18446744073709551616:=Mc a;have c:t=t0\/t=t1:=by
    rcases QS f with rfl|rfl
    ·rw[b]at e;cases e;exact Or.inl rfl
    ·rw[a]at e;cases e;exact Or.inr rfl
   simp only[nwst]
   by_cases m:d1<d0
   ·have d:t1=(t0+(d0-d1))%18446744073709551616:=by omega
    rw[(Of g (by omega) (by omega) d).1,if_pos rfl];rcases c with rfl|rfl
    ·exact⟨d0-d1,by omega,d⟩
    ·exact Wdw.refl j
   ·by_cases k:d0<d1
    ·have d:t0=(t1+(d1-d0))%18446744073709551616:=by omega
     rw[(Of j (by omega) (by omega) d).2,if_neg (by simp)];rcases c with rfl|rfl
     ·exact Wdw.refl g
     ·exact⟨d1-d0,by omega,d⟩
    ·have:t1=t0:=by omega
     subst this;have l:t=t1:=by rcases c with e|e<;>exact e
     subst l;split<;>exact Wdw.refl g
variable {D:Dv}
theorem XF{T ro r':Nat}(hK:K<=4611686018427387903)(h1:rdH (nxt T%2) (D.view (nxt T%2))=some (nxt T,ro))(h2:rdH ((nxt T+1)%2) (D.view ((nxt T+1)%2))=some (t',r'))(hw:Wdw K T t'):yg D=((nxt T,ro),true):=by
 obtain⟨d,c,f⟩:=hw;have e:nxt T=(t'+(d+1))%18446744073709551616:=by unfold nxt;omega
 obtain⟨a,b⟩:=Of (Mc h2) (by omega) (by omega) e;unfold yg;rcases dK (nxt T)with e0|e0
 ·rw[e0]at h1;rw[show(nxt T+1)%2=1 by omega]at h2;rw[h1,h2];simp[nwst,b]
 ·rw[e0]at h1;rw[show(nxt T+1)%2=0 by omega]at h2;rw[h1,h2];simp[nwst,a]
theorem Vg(hi:i<2)(h:rdH i (D.view i)=none):(yg D).2=false:=by
 unfold yg;rcases QS hi with rfl|rfl
 ·rw[h];cases rdH 1 (D.view 1)<;>rfl
 ·rw[h];cases rdH 0 (D.view 0)<;>rfl
theorem Oy(h:(yg D).2=true)(hi:i<2):∃x,rdH i (D.view i)=some x:=by
 cases e:rdH i (D.view i)with
 |none=>rw[Vg hi e]at h;cases h
 |some x=>exact⟨x,rfl⟩
theorem Qew(D:Dv):rdH ((yg D).1.1%2) (D.view ((yg D).1.1%2))=some (yg D).1\/rdH ((yg D).1.1%2) (D.view ((yg D).1.1%2))=none:=by
 unfold yg
 cases a:rdH 0 (D.view 0)with
 |none=>
  cases b:rdH 1 (D.view 1)with
  |none=>exact Or.inr a
  |some o=>left;simp only[nwst];rw[(jr b).1];exact b
 |some x=>
  cases b:rdH 1 (D.view 1)with
  |none=>left;simp only[nwst];rw[(jr a).1];exact a
  |some o=>
   left;simp only[nwst];split
   ·rw[(jr b).1];exact b
   ·rw[(jr a).1];exact a
theorem RE{E:Dv}{T ro:Nat}(hT:(yg D).1.1=T)(ug:ro<65536)(hv:∀b,E.view b=if nxt T%2=b then blk (nxt T) ro else D.view b):(yg E).1=(nxt T,ro):=by
 have h:nxt T<18446744073709551616:=by unfold nxt;omega
 have c:rdH (nxt T%2) (E.view (nxt T%2))=some (nxt T,ro):=by rw[hv,if_pos rfl];exact N7 h ug
 have a:=Qew D;rw[hT]at a;have e:nxt T%2≠T%2:=by rw[Mi];omega
 have f:E.view (T%2)=D.view (T%2):=by rw[hv,if_neg e]
 rcases a with a|a
 ·have g:rdH (T%2) (E.view (T%2))=some (T,(yg D).1.2):=by rw[f,a,<-hT]
  rw[Rx (Mc g) g c]
 ·rw[<-f]at a;unfold yg;rw[Mi]at c;rcases dK T with d|d
  ·rw[d]at a;rw[show(T+1)%2=1 by omega]at c;rw[a,c];rfl
  ·rw[d]at a;rw[show(T+1)%2=0 by omega]at c;rw[a,c];rfl
variable {n fq fy:Nat}{T:Tr}
theorem Fnd.uniq{tu ro:Nat}{T':Tr}(h:Fnd n L tu ro T)(g:Fnd n L fq fy T')(hn:n<=65536):T'=T:=by
 have a:=h.tree hn;rw[g.tree hn]at a;exact aH a
theorem Fnd.agree{n:Nat}{L L1:List UInt8}{tu ro:Nat}{T:Tr}(h:Fnd n L tu ro T)(hl:L1.length=n*128)(hb:∀b,2<=b->yl L1 b=yl L b)(hh:∀i,i<2->hdL L1 i=hdL L i):Fnd n L1 tu ro T:=by
 refine⟨hl,?_,h.ro,h.st.agree fun b a=> ?_,h.tu⟩
 ·rw[O6,hh 0 (by omega),hh 1 (by omega),<-O6];exact h.hd
 ·rw[qh,qh];exact hb b (ZX h.st.us a)
theorem Fnd.none{tu ro:Nat}(h:Fnd n L tu ro T)(hi:i<2):hdL L i≠none:=by
 intro e;have a:=Vg (D:=.new L) hi e;rw[h.hd]at a
 cases a
theorem Fnd.nil{tu:Nat}(hl:L.length=n*128)(h:yg (.new L)=((tu,0),true))(ht:tu<18446744073709551616):Fnd n L tu 0 ⟨0,([]:List Pr),0⟩:=⟨hl,h,rfl,StK.none n _,ht⟩
theorem SD:yH ⟨0,([]:List Pr),0⟩= []:=rfl
theorem Fnd.of(hn:2<=n)(hl:D.L.length=n*128)(hq:Fit n D.q)(h2:(yg D).2=true)(ht:jL n D=some T):Fnd n (lay D.L D.q) (yg D).1.1 (yg D).1.2 T:=by
 have e:=Tb hl hq;have a:yg (.new (lay D.L D.q))=yg D:=by unfold yg;rw[e]
 refine⟨gG hl hq,?_,?_,?_,?_⟩
 ·rw[a,<-h2]
 ·unfold jL at ht;exact(Ug ht).symm
 ·rw[e];exact SK hn ht
 ·have b:yg D=(((yg D).1.1,(yg D).1.2),true):=by rw[<-h2]
  exact Mc (RN b)
structure Rk where
 may:List (List Pr)
 em:Bool
 were:List (List Pr)
 wild:Bool
 bit:Bool
def Svk(n:Nat)(r:Rk)(L:List UInt8):Prop:=(∀tu ro T,Fnd n L tu ro T->yH T∈r.may)/\((∀tu ro T,¬Fnd n L tu ro T)->r.em=true\/r.may= [])
structure DsN(n:Nat)(r:Rk)(K:Nat)(D:Dv):Prop where
 sv:∀L1,Sr D.L D.q L1->Svk n r L1
 win:∀L1,Sr D.L D.q L1->∀i,i<2->∀t ro,hdL L1 i=some (t,ro)->Wdw K (yg D).1.1 t
 nz:r.bit=false->∀L1,Sr D.L D.q L1->∀i,i<2->(yl L1 i).take 32=List.replicate 32 0\/∃x,hdL L1 i=some x
 nf:r.bit=false->∀L1,Sr D.L D.q L1->(∀i,i<2->∃x,hdL L1 i=some x)->∃tu ro T,Fnd n L1 tu ro T
structure Ds(n:Nat)(r:Rk)(K:Nat)(D:Dv):Prop where
 l:D.L.length=n*128
 fit:Fit n D.q
 ql:D.q.length<=1000+K
 no:r.wild=false->8<=n->n<=400->DsN n r K D
theorem PA{E:Dv}(hL:E.L=D.L)(hq:E.q=D.q):yg E=yg D:=by unfold yg Dv.view;rw[hL,hq]
variable {L':List UInt8}
section
variable {n:Nat} {r r':Rk} {K:Nat} {D E:Dv}
theorem Ds.same(h:Ds n r K D)(hL:E.L=D.L)(hq:E.q=D.q):Ds n r K E:=by
 refine⟨by rw[hL];exact h.l,by rw[hq];exact h.fit,by rw[hq];exact h.ql,fun a b c=> ?_⟩;have g:=h.no a b c;have e:=PA hL hq;exact⟨by rw[hL,hq];exact g.sv,by rw[hL,hq,e];exact g.win,by rw[hL,hq];exact g.nz,by rw[hL,hq];exact g.nf⟩
theorem Ds.mono{K':Nat}(h:Ds n r K D)(hk:K<=K'):Ds n r K' D:=⟨h.l,h.fit,by have:=h.ql;omega,fun b c d=>let g:=h.no b c d;⟨g.sv,fun a j i f t k e=>(g.win a j i f t k e).mono hk,g.nz,g.nf⟩⟩
theorem Svk.mono(h:Svk n r L)(hm:∀m∈r.may,m∈r'.may)(he:r.em=true\/r.may= []->r'.em=true\/r'.may= []):Svk n r' L:=⟨fun c b T a=>hm _ (h.1 c b T a),fun a=>he (h.2 a)⟩
theorem Ds.more(h:Ds n r K D)(hm:∀m∈r.may,m∈r'.may)(he:r'.wild=false->r.em=true\/r.may= []->r'.em=true\/r'.may= [])(hb:r'.bit=false->r.bit=false)(hw:r'.wild=false->r.wild=false):Ds n r' K D:=
 ⟨h.l,h.fit,h.ql,fun a c d=>let g:=h.no (hw a) c d;⟨fun b f=>(g.sv b f).mono hm (he a),g.win,fun e=>g.nz (hb e),fun e=>g.nf (hb e)⟩⟩
theorem Ds.pick{L1:List UInt8}(h:Ds n r K D)(hK:K<=4611686018427387904)(hs:Sr D.L D.q L1):Ds n r K (.new L1):=by
 refine⟨hs.len h.l h.fit,(fun x i=>by cases i),ay _,fun d a f=> ?_⟩;have g:=h.no d a f;have e:∀{b:List UInt8},Sr (Dv.new L1).L (Dv.new L1).q b->b=L1:=fun h=>Sr.nil_eq h;refine⟨fun b a=> ?_,fun b a=> ?_,fun c b a=> ?_,fun c b a=> ?_⟩
 ·rw[e a];exact g.sv L1 hs
 ·rw[e a];exact RG hK (g.win L1 hs)
 ·rw[e a];exact g.nz c L1 hs
 ·rw[e a];exact g.nf c L1 hs
theorem Ds.flush(h:Ds n r K D)(hK:K<=4611686018427387904)(hf:Fl D E):Ds n r K E:=(h.pick hK (Sr.all h.l h.fit)).same hf.L hf.q
theorem Ds.only{tu ro:Nat}(h:Ds n r K D)(hq:D.q= [])(hn:n<=65536)(hf:r.wild=false->Fnd n D.L tu ro T)(hm:yH T∈r'.may)(hb:r'.bit=false->r.bit=false)(hw:r'.wild=false->r.wild=false):Ds n r' K D:=by
 refine⟨h.l,h.fit,h.ql,fun b d f=> ?_⟩;have g:=h.no (hw b) d f;have hf:=hf (hw b);refine⟨fun i c=> ?_,g.win,fun e=>g.nz (hb e),fun e=>g.nf (hb e)⟩;rw[hq]at c;rw[c.nil_eq];exact⟨fun k m j g=>by rw[hf.uniq g hn];exact hm,fun a=>absurd hf (a _ _ _)⟩
theorem Sr.snoc_inv{q:List Wt}{x:Wt}(h:Sr L (q++ [x]) L'):∃L1 c,Sr L q L1/\L'=svN c L1 x 4:=by
 generalize e:q++ [x]=g at h
 cases h with
 |nil=>simp at e
 | @snoc f a h y c=>
  obtain⟨b,d⟩:=List.append_inj' e rfl
  cases d
  subst b;exact⟨a,c,h,rfl⟩
theorem Ds.hw{ro:Nat}(h:Ds n r K D)(hK:K<=4611686018427387903)(hn:2<=n)(ug:ro<65536)(hw:Wn D (nxt (yg D).1.1%2) (blk (nxt (yg D).1.1) ro) E)
  (hm:∀m∈r.may,m∈r'.may)(he:r'.wild=false->r.em=true\/r.may= []->r'.em=true\/r'.may= [])(hb:r'.bit=false->r.bit=false)(hwl:r'.wild=false->r.wild=false)
  (im:r.wild=false->r'.em=true\/∀L1,Sr D.L D.q L1->∀i,i<2->∃x,hdL L1 i=some x)
  (fG:r.wild=false->8<=n->n<=400->∀L1 L2,Sr D.L D.q L1->L2.length=n*128->(∀b,nxt (yg D).1.1%2≠b->yl L2 b=yl L1 b)->yg (.new L2)=((nxt (yg D).1.1,ro),true)->∃T,Fnd n L2 (nxt (yg D).1.1) ro T/\yH T∈r'.may):Ds n r' (K+1) E:=by
 have J:nxt (yg D).1.1%2<n:=by have:=cT (nxt (yg D).1.1) (show 0<2 by omega);omega
 have I:Fit n E.q:=by
  rw[hw.q];intro x p;rcases ar.1 p with p|p
  ·exact h.fit x p
  ·simp at p;subst p;exact⟨J,gP _ _⟩
 refine⟨by rw[hw.L];exact h.l,I,by rw[hw.q,ai];have:=h.ql;simp;omega,fun y U S=> ?_⟩;have g:=h.no (hwl y) U S;have fG:=fG (hwl y) U S;have im:=im (hwl y);have O:=g.win;obtain⟨T,R⟩:∃T,(yg D).1.1=T:=⟨_,rfl⟩
 rw[R]at hw fG J O;have p:nxt T<18446744073709551616:=by unfold nxt;omega
 have P:(yg E).1.1=nxt T:=by rw[RE R ug hw.view]
 have w:∀L2,Sr E.L E.q L2->∃L1,Sr D.L D.q L1/\L2.length=n*128/\(∀b,nxt T%2≠b->yl L2 b=yl L1 b)/\((∀i,i<2->hdL L2 i=hdL L1 i/\(yl L2 i).take 32=(yl L1 i).take 32)\/hdL L2 (nxt T%2)=some (nxt T,ro)):=by
  intro L2 v;rw[hw.L,hw.q]at v;obtain⟨L1,c,a,rfl⟩:=v.snoc_inv;have B:=a.len h.l h.fit;have j:∀b,nxt T%2≠b->yl (svN c L1 (nxt T%2,blk (nxt T) ro) 4) b=yl L1 b:=fun b hb=>OX B J (gP _ _) hb 4 (by omega);refine⟨L1,a,Qg B J (gP _ _) 4 (by omega),j,?_⟩;rcases WV (c:=c) (x:=(nxt T%2,blk (nxt T) ro)) B J (gP _ _) 4 (by omega)with F|F
  ·right;exact UM (by rw[F];exact UO _ _) p ug
  ·left;intro i d
   by_cases e:nxt T%2=i
   ·subst e;exact⟨Nn F,F⟩
   ·have:=j i e;exact⟨by unfold hdL;rw[this],by rw[this]⟩
 have A:∀{i:Nat},i<2->i=nxt T%2\/i=(nxt T+1)%2:=by intro i d;omega
 have u:∀L1 L2,Sr D.L D.q L1->L2.length=n*128->(∀b,nxt T%2≠b->yl L2 b=yl L1 b)->hdL L2 (nxt T%2)=some (nxt T,ro)->(∃x,hdL L1 ((nxt T+1)%2)=some x)->yg (.new L2)=((nxt T,ro),true):=by
  intro L1 L2 a f j F⟨x,M⟩;obtain⟨t',N⟩:=x;refine XF (D:=.new L2) (r':=N) hK F ?_ (O L1 a _ (cT _ (by omega)) _ _ M);rw[qh,j _ (by omega)];exact M
 refine⟨fun L2 v=> ?_,fun L2 v i d t N e=> ?_,fun Q L2 v i d=> ?_,fun Q L2 v z=> ?_⟩
 ·obtain⟨L1,a,f,j,hc⟩:=w L2 v;rcases hc with hc|hc
  ·have H:∀b,2<=b->yl L2 b=yl L1 b:=fun b hb=>j b (by omega);have X:∀{s ro o},Fnd n L2 s ro o->Fnd n L1 s ro o:=fun k=>k.agree (a.len h.l h.fit) (fun b hb=>(H b hb).symm) fun i d=>(hc i d).1.symm;have Y:∀{s ro o},Fnd n L1 s ro o->Fnd n L2 s ro o:=fun k=>k.agree f H fun i d=>(hc i d).1;have:=g.sv L1 a;exact⟨fun s ro o k=>hm _ (this.1 s ro o (X k)),fun C=>he y (this.2 fun s ro o k=>C _ _ _ (Y k))⟩
  ·cases e:hdL L1 ((nxt T+1)%2)with
   |none=>
    have G:hdL L2 ((nxt T+1)%2)=none:=by unfold hdL;rw[j _ (by omega)];exact e
    refine⟨fun s ro o k=>absurd G (k.none (cT _ (by omega))),fun _=> ?_⟩;rcases im with y|y
    ·exact Or.inl y
    ·obtain⟨x,p⟩:=y L1 a ((nxt T+1)%2) (cT _ (by omega));rw[p]at e
     cases e
   |some x=>
    obtain⟨o,k,W⟩:=fG L1 L2 a f j (u L1 L2 a f j hc ⟨x,e⟩);exact⟨fun s ro Z g=>by rw[k.uniq g (by omega)];exact W,fun C=>absurd k (C _ _ _)⟩
 ·rw[P];obtain⟨L1,a,f,j,hc⟩:=w L2 v;rcases hc with hc|hc
  ·rw[(hc i d).1]at e;exact(O L1 a i d t N e).next
  ·rcases A d with rfl|rfl
   ·rw[hc]at e
    cases e
    exact Wdw.refl p
   ·have G:hdL L1 ((nxt T+1)%2)=some (t,N):=by rw[<-e];unfold hdL;rw[j _ (by omega)]
    exact(O L1 a _ d t N G).next
 ·obtain⟨L1,a,f,j,hc⟩:=w L2 v;have V:=g.nz (hb Q) L1 a;rcases hc with hc|hc
  ·rw[(hc i d).1,(hc i d).2];exact V i d
  ·rcases A d with rfl|rfl
   ·exact Or.inr ⟨_,hc⟩
   ·have:=j ((nxt T+1)%2) (by omega);unfold hdL;rw[this];exact V _ d
 ·obtain⟨L1,a,f,j,hc⟩:=w L2 v;rcases hc with hc|hc
  ·obtain⟨s,ro,o,k⟩:=g.nf (hb Q) L1 a fun i d=>by rw[<-(hc i d).1];exact z i d
   exact⟨s,ro,o,k.agree f (fun b hb=>j b (by omega)) fun i d=>(hc i d).1⟩
  ·have G:∃x,hdL L1 ((nxt T+1)%2)=some x:=by
    obtain⟨x,p⟩:=z ((nxt T+1)%2) (cT _ (by omega));refine⟨x,?_⟩;rw[<-p];unfold hdL;rw[j _ (by omega)]
   obtain⟨o,k,_⟩:=fG L1 L2 a f j (u L1 L2 a f j hc G);exact⟨_,_,o,k⟩
end
section
variable {n:Nat} {r r':Rk} {K:Nat} {D E:Dv}
theorem Lh.at{ro:Nat}(h:Lh D t ro E)(hn:2<=n)(hl:D.L.length=n*128)(hq:Fit n D.q):E.q= []/\E.L.length=n*128/\∀b,E.view b=if t%2=b then blk t ro else D.view b:=by
 obtain⟨f,d,e⟩:=h;have i:t%2<n:=by have:=cT t (show 0<2 by omega);omega
 have g:Fit n f.q:=by
  rw[d.q];intro x a;rcases ar.1 a with a|a
  ·exact hq x a
  ·simp at a;subst a;exact⟨i,gP _ _⟩
 have c:f.L.length=n*128:=by rw[d.L];exact hl
 exact⟨e.q,by rw[e.L];exact gG c g,fun b=>by rw[e.view c g,d.view]⟩
theorem QeI(h:Ds n r K D)(hn:2<=n)(hf:FmtP D E none)(hm:r'.may= [[]]):Ds n r' 1 E:=by
 obtain⟨_,M,H,I⟩:none=none/\_:=by
  rcases hf with hf|⟨e,_⟩
  ·exact hf
  ·cases e
 generalize(yg D).1.1=T at*;obtain⟨C,F,G⟩:=H.at hn h.l h.fit;obtain⟨m,y,z⟩:=I.at hn F (by rw[C];exact fun x j=>by cases j);have j:nxt T<18446744073709551616:=by unfold nxt;omega
 have c:nxt (nxt T)<18446744073709551616:=by unfold nxt;omega
 have s:rdH (nxt T%2) (E.view (nxt T%2))=some (nxt T,0):=by
  rw[z,if_neg (by rw[Mi];omega),G,if_pos rfl];exact N7 j (by omega)
 have u:rdH (nxt (nxt T)%2) (E.view (nxt (nxt T)%2))=some (nxt (nxt T),0):=by
  rw[z,if_pos rfl];exact N7 c (by omega)
 have A:=Rx j s u;have p:∀b,E.view b=yl E.L b:=LZ m;have w:yg (.new E.L)=((nxt (nxt T),0),true):=by
  rw[<-A];unfold yg;rw[qh,qh,p,p]
 have hF:Fnd n E.L (nxt (nxt T)) 0 ⟨0,([]:List Pr),0⟩:=Fnd.nil y w c;have k:∀i,i<2->∃x,hdL E.L i=some x:=fun i o=>Oy (D:=.new E.L) (by rw[w]) o;have e:∀{d:List UInt8},Sr E.L E.q d->d=E.L:=fun a=>by rw[m]at a;exact a.nil_eq
 refine⟨y,by rw[m];exact(fun x j=>by cases j),by rw[m];exact ay _,fun _ P O=>⟨fun d a=> ?_,fun d a=> ?_,fun _ d a i o=> ?_,fun _ d a _=> ?_⟩⟩
 ·rw[e a];exact⟨fun Q J N g=>by rw[hF.uniq g (by omega),hm];simp[SD],fun v=>absurd hF (v _ _ _)⟩
 ·rw[e a,A];intro i o t J f;have B:i=nxt T%2\/i=nxt (nxt T)%2:=by rw[Mi (t:=nxt T)];omega
  rcases B with rfl|rfl
  ·rw[p]at s;unfold hdL at f;rw[s]at f
   cases f
   exact⟨1,by omega,rfl⟩
  ·rw[p]at u;unfold hdL at f;rw[u]at f
   cases f
   exact Wdw.refl c
 ·rw[e a];exact Or.inr (k i o)
 ·rw[e a];exact⟨_,_,_,hF⟩
theorem QeJ{o:Int}(h:Ds n r K D)(hK:K<=1000000)(hn:2<=n)(hf:FmtP D E (some o))(hm:∀m∈r.may,m∈r'.may)(hnil: []∈r'.may)(he:r'.em=true)(hb:r'.bit=false->r.bit=false)(hw:r'.wild=false->r.wild=false):Ds n r' (K+2) E:=by
 have b:∀{s:Rk} {k:Nat} {A B:Dv},Ds n s k A->k<=2000000->(∀m∈s.may,m∈r'.may)->(r'.bit=false->s.bit=false)->(r'.wild=false->s.wild=false)->Wn A (nxt (yg A).1.1%2) (blk (nxt (yg A).1.1) 0) B->Ds n r' (k+1) B:=by
  intro s k A B h i hm hb hw w;refine h.hw (by omega) hn (by omega) w hm (fun _ _=>Or.inl he) hb hw (fun _=>Or.inl he) ?_;intro _ _ _ x y v f z u;exact⟨_,Fnd.nil f u (by unfold nxt;omega),by rw[SD];exact hnil⟩
 have g:Ds n r' K D:=h.more hm (fun _ _=>Or.inl he) hb hw;have fail:∀{k:Nat} {A B:Dv},Ds n r' k A->k<=2000000->Lf A (nxt (yg A).1.1) 0 B->Ds n r' (k+1) B:=by
  intro k A B h i hf;rcases hf with hf|⟨d,c,a⟩
  ·exact(h.same hf.L hf.q).mono (by omega)
  ·exact(b h i (fun _ h=>h) id id c).same a.L a.q
 rcases hf with⟨e,_⟩|⟨_,hf|⟨d,⟨D2,c,a⟩,h3⟩⟩
 ·cases e
 ·exact(fail g (by omega) hf).mono (by omega)
 ·have j:=b g (by omega) (fun _ h=>h) id id c;have p:=j.flush (by omega) a;have t:(yg d).1.1=nxt (yg D).1.1:=by rw[RE rfl (by omega) (Lh.at (D:=D) (E:=d) ⟨D2,c,a⟩ hn h.l h.fit).2.2]
  rw[<-t]at h3;exact fail p (by omega) h3
theorem QeK(h:B.take 8=Mp):B[0]?=some 115/\B[1]?=some 116:=by
 have a:=congrArg (fun l=>l[0]?) h;have b:=congrArg (fun l=>l[1]?) h;simp only[aD]at a b;exact⟨a.trans (by decide),b.trans (by decide)⟩
theorem QeL{j:Nat}{b:UInt8}(h:B.take 32=List.replicate 32 0)(i:Nat):rdH i (B.set j b)=none:=by
 refine R8 fun e=> ?_;obtain⟨a,c⟩:=QeK e;have g:∀k,k<32->B[k]?=some 0:=fun k d=>by
  have:=congrArg (fun l=>l[k]?) h;simp only[aD,if_pos d,List.getElem?_replicate]at this;exact this
 by_cases f:j=0
 ·rw[cW (by omega),g 1 (by omega)]at c;revert c;decide
 ·rw[cW (by omega),g 0 (by omega)]at a;revert a;decide
theorem Yd(h:B.take 32=List.replicate 32 0)(i:Nat):rdH i B=none:=by
 refine R8 fun a=> ?_;have:=congrArg (fun l:List UInt8=>l.take 8) h;simp only[cA]at this;rw[show min 8 32=8 by decide,a]at this;revert this;decide
theorem XZ{x:Nat×Nat}(hs:Ni L L')(hn:(i+1)*128<=L.length)(hz:(yl L i).take 32=List.replicate 32 0\/∃x,hdL L i=some x)(h:hdL L' i=some x):hdL L i=some x:=by
 obtain⟨j,b,n,f,rfl⟩:=hs;unfold hdL at h⊢;rw[Ve]at h;split at h
 ·rename_i e;subst e
  by_cases d:j%128<32
  ·exfalso;rcases hz with hz|⟨y,g⟩
   ·rw[QeL hz]at h;cases h
   ·obtain⟨t,l⟩:=y;obtain⟨m,k⟩:=x;have a:=(jr h).2;have c:=(jr g).2;rw[dx,c]at a;refine O0 (N3 t l) (i:=j%128) (b:=b) (by rw[qL];exact d) ?_ (by rw[a];exact N3 m k);rw[<-c,aD,if_pos d];unfold yl;rw[aD,if_pos (cT _ (by omega)),aV,show j/128*128+j%128=j by omega];exact f
  ·rw[<-h];refine Nn ?_;rw[dx,dR (by rw[au];omega)]
 ·exact h
theorem Ds.flip(h:Ds n r K D)(hK:K<=4611686018427387904)(hs:Ni D.L L')(hm:∀m∈r.may,m∈r'.may)(he:r'.em=true)(hb:r'.bit=true)(hw:r'.wild=false->r.wild=false/\r.bit=false):Ds n r' K (.new L'):=by
 have k:L'.length=n*128:=by
  obtain⟨j,b,_,_,rfl⟩:=hs;rw[bJ];exact h.l
 refine⟨k,(fun x o=>by cases o),ay _,fun F z y=> ?_⟩;obtain⟨w,A⟩:=hw F;have g:=h.no w z y;have u:=Sr.none D.L D.q;have e:∀{p:List UInt8},Sr (Dv.new L').L (Dv.new L').q p->p=L':=fun h=>Sr.nil_eq h;have E:∀i,i<2->∀x,hdL L' i=some x->hdL D.L i=some x:=fun i d x o=>XZ hs (by rw[h.l];omega) (g.nz A _ u i d) o;refine⟨fun p v=> ?_,fun p v=> ?_,(fun a=>by rw[hb]at a;cases a),(fun a=>by rw[hb]at a;cases a)⟩
 ·rw[e v];refine⟨fun M C T s=> ?_,fun _=>Or.inl he⟩;have f:∀i,i<2->∃x,hdL D.L i=some x:=fun i d=>by
   obtain⟨x,o⟩:=Oy (D:=.new L') (by rw[s.hd]) d;exact⟨x,E i d x o⟩
  obtain⟨H,I,J,B⟩:=g.nf A _ u f;rcases XK B z y hs with c|c|⟨_,c⟩
  ·rw[s.hd]at c;cases c
  ·rw[s.tree (by omega)]at c;cases c
  ·rw[s.tree (by omega)]at c
   cases c
   exact hm _ ((g.sv _ u).1 _ _ _ B)
 ·rw[e v];exact RG hK fun i d t C G=>g.win _ u i d t C (E i d _ G)
theorem Ds.new(n K:Nat)(hw:r.wild=false->r.may= []):Ds n r K (.new (List.replicate (n*128) 0)):=by
 refine⟨bR ..,(fun x f=>by cases f),ay _,fun k p o=> ?_⟩;have e:∀{c:List UInt8},Sr (Dv.new (List.replicate (n*128) 0)).L (Dv.new (List.replicate (n*128) 0)).q c->c=List.replicate (n*128) 0:=fun h=>Sr.nil_eq h;have z:∀i,i<2->(yl (List.replicate (n*128) (0:UInt8)) i).take 32=List.replicate 32 0:=fun i d=>by
  unfold yl;rw[List.drop_replicate,List.take_replicate,List.take_replicate,bS (by omega)]
 have g:∀i,i<2->hdL (List.replicate (n*128) 0) i=none:=fun i d=>Yd (z i d) i;refine⟨fun c b=> ?_,fun c b i d t m j=> ?_,fun _ c b i d=> ?_,fun _ c b a=> ?_⟩
 ·rw[e b];exact⟨fun s m T l=>absurd (g 0 (by omega)) (l.none (by omega)),fun _=>Or.inr (hw k)⟩
 ·rw[e b,g i d]at j;cases j
 ·rw[e b];exact Or.inl (z i d)
 ·rw[e b]at a;obtain⟨x,f⟩:=a 0 (by omega);rw[g 0 (by omega)]at f;cases f
end
structure Pn(n:Nat)(c:Hd)(t:Tr)(D:Dv):Prop where
 s:c.s=1\/(c.s=2/\D.q= [])
 st:StK n D.view c.lt t
 hd:yg D=((c.tu,c.ro),true)
 ro:c.ro=c.lt.pl
 tu:c.tu<18446744073709551616
section
variable {n:Nat} {r r':Rk} {K:Nat} {c:Hd} {t:Tr} {D D0 D1 D2 D3 E:Dv}
theorem Pn.same(h:Pn n c t D)(hL:E.L=D.L)(hq:E.q=D.q):Pn n c t E:=by
 have a:E.view=D.view:=by funext i;unfold Dv.view;rw[hL,hq]
 exact⟨by rw[hq];exact h.s,by rw[a];exact h.st,by rw[PA hL hq];exact h.hd,h.ro,h.tu⟩
theorem TX(Jw:∀p∈qZ c.lt,p<n)(hn:2<=n)(hfr:FrW c.lt n (yG c t).2.ws):Bd n (yG c t).2:=by
 obtain⟨ws,b,d,_,_⟩:=(Rr t ⟨usL c.lt,[]⟩).1.ws;have e:(yG c t).2.ws=ws:=by
  have:(yG c t).2.ws= []++ws:=b;rw[this];rfl
 intro u hu;have f:(yG c t).2.us=(ws.map fun x=>x.1).reverse++usL c.lt:=d;rw[f]at hu;rcases ar.1 hu with hu|hu
 ·obtain⟨x,a,rfl⟩:=bg.1 (cD.1 hu);rw[<-e]at a;exact(hfr.1 x a).2.1
 ·unfold usL at hu;rcases ar.1 hu with hu|hu
  ·exact Jw u (cD.1 hu)
  ·simp at hu;omega
theorem Pn.pre(h:Pn n c t D)(hD:Ds n r K D)(hK:K<=1000000)(h8:8<=n)(h4:n<=400)(h0:Sy0 c D D0):Pre n ⟨2,c.tu,c.ro,c.lt,c.lr⟩ t D0/\Ds n r K D0:=by
 rcases h0 with⟨_,hf⟩|⟨hs,e⟩
 ·have a:D0.view=D.view:=funext fun i=>hf.view hD.l hD.fit i;refine⟨⟨by rw[a];exact h.st,hf.q,?_,h.ro,h.tu,by rw[hf.L];exact gG hD.l hD.fit,h8,h4⟩,hD.flush (by omega) hf⟩;show yg D0=((c.tu,c.ro),true);rw[<-h.hd];unfold yg;rw[a]
 ·subst e;have b:=(h.s.resolve_left (by omega)).2;exact⟨⟨h.st,b,h.hd,h.ro,h.tu,hD.l,h8,h4⟩,hD⟩
theorem Ds.ws{ws:List (Nat×List UInt8)}(hD:Ds n r K D0)(hp:Pre n c t D0)(hm:r.wild=false->yH c.lt∈r.may)(hw:Wrs D0 ws D1)(hfr:FrW c.lt n ws):Ds n r K D1/\yg D1=yg D0:=by
 have f:Fit n ws:=fun x k=>(hfr.1 x k).2;have m:0∈usL c.lt/\1∈usL c.lt:=⟨az _ (by simp),az _ (by simp)⟩
 have v:∀b∈qZ c.lt,b∈usL c.lt:=fun b h=>Ml h;have w:yg D1=yg D0:=by
  unfold yg;rw[hw.other fun x k e=>(hfr.1 x k).1 (by rw[e];exact m.1),hw.other fun x k e=>(hfr.1 x k).1 (by rw[e];exact m.2)]
 have u:D1.q=ws:=by rw[hw.q,hp.q];rfl
 refine⟨⟨by rw[hw.L];exact hD.l,by rw[u];exact f,by rw[u];have:=hfr.2;have:=hp.n4;omega,fun y C B=> ?_⟩,w⟩;have g:=hD.no y C B;have A:=Sr.none D0.L D0.q;have p:∀a,Sr D1.L D1.q a->a.length=n*128/\∀b∈usL c.lt,yl a b=yl D0.L b:=fun a d=>by
  rw[hw.L,u]at d;exact⟨d.len hp.l f,fun b h=>d.other hp.l f fun x k e=>(hfr.1 x k).1 (by rw[e];exact h)⟩
 have o:∀a,Sr D1.L D1.q a->∀i,i<2->yl a i=yl D0.L i:=fun a d i j=>by
  rcases QS j with rfl|rfl
  ·exact(p a d).2 0 m.1
  ·exact(p a d).2 1 m.2
 have hF:∀a,Sr D1.L D1.q a->Fnd n a c.tu c.ro c.lt:=fun a d=>hp.old (p a d).1 (fun b h=>by rw[LZ hp.q];exact(p a d).2 b (v b h)) (by rw[LZ hp.q,o a d 0 (by omega)]) (by rw[LZ hp.q,o a d 1 (by omega)]);refine⟨fun a d=>⟨fun D z T g=>by rw[(hF a d).uniq g (by omega)];exact hm y,fun s=>absurd (hF a d) (s _ _ _)⟩,fun a d i j t z e=> ?_,fun h a d i j=> ?_,fun _ a d _=>⟨_,_,_,hF a d⟩⟩
 ·rw[w];exact g.win _ A i j t z (by rw[<-e];unfold hdL;rw[o a d i j])
 ·unfold hdL;rw[o a d i j];exact g.nz h _ A i j
theorem Vy(hD:Ds n r K D0)(hp:Pre n c t D0)(hK:K<=1000000)(hm:r.wild=false->yH c.lt∈r.may)(hfr:FrW c.lt n (yG c t).2.ws)(hw:Wrs D0 (yG c t).2.ws D1)(hf:Fl D1 D2)(iH:Wn D2 (nxt c.tu%2) (blk (nxt c.tu) (yG c t).1.pl) D3)
  (hV:yH t∈r'.may)(hmm:∀m∈r.may,m∈r'.may)(he:r'.wild=false->r.em=true\/r.may= []->r'.em=true\/r'.may= [])(hb:r'.bit=false->r.bit=false)(hwl:r'.wild=false->r.wild=false):Ds n r' (K+1) D3:=by
 obtain⟨g,y⟩:=hD.ws hp hm hw hfr;have w:=g.flush (by omega) hf;have N:=hp.n8;have M:=hp.n4;have d:D2.view=D1.view:=funext fun i=>hf.view g.l g.fit i;have p:yg D2=((c.tu,c.ro),true):=by
  rw[<-hp.hd,<-y];unfold yg;rw[d]
 have G:=TX hp.st.ub (by omega) hfr;obtain⟨I,H⟩:=OV c t;have o:StK n D2.view (yG c t).1 (yG c t).1:=hp.st.sync G (fun b a=>by rw[d,hw.other fun x k e=>H x k (by rw[e];exact Ml a)]) fun x k=>by rw[d];exact hw.at I k
 have A:(yg D2).1.1=c.tu:=by rw[p]
 rw[<-A]at iH;refine w.hw (by omega) (by omega) (o.lpl (by omega)) iH hmm he hb hwl (fun _=>Or.inr fun u s i C=> ?_) ?_
 ·rw[hf.q]at s;rw[s.nil_eq];exact Oy (D:=.new D2.L) (by rw[PA (E:=.new D2.L) (D:=D2) rfl hf.q.symm,p]) C
 ·intro _ _ _ u v f h F B;rw[hf.q]at f;have z:=f.nil_eq;subst z;have j:StK n (Dv.new v).view (yG c t).1 (yG c t).1:=o.agree fun b a=>by
   have J:=ZX o.us a;rw[qh,F b (by omega),LZ hf.q]
  exact⟨_,⟨h,B,rfl,j,by unfold nxt;omega⟩,by rw[(Nc c t).1];exact hV⟩
theorem Xp{o:Int}(hD:Ds n r K D0)(hp:Pre n c t D0)(hK:K<=1000000)(hm:r.wild=false->yH c.lt∈r.may)(hk:PX c t n D0 o E)
  (hV:yH t∈r'.may)(hmm:∀m∈r.may,m∈r'.may)(he:r'.wild=false->r.em=true\/r.may= []->r'.em=true\/r'.may= [])(hb:r'.bit=false->r.bit=false)(hwl:r'.wild=false->r.wild=false):Ds n r' (K+1) E:=by
 rcases hk with⟨ws,D1,hfr,hw,⟨_,iF⟩|⟨_,e,_⟩⟩|⟨_,hfr,D1,D2,hw,hf,iF|⟨D3,iH,iF⟩⟩
 ·exact(((hD.ws hp hm hw hfr.1).1.same iF.L iF.q).more hmm he hb hwl).mono (by omega)
 ·rw[e];exact((hD.ws hp hm hw hfr.1).1.more hmm he hb hwl).mono (by omega)
 ·exact((((hD.ws hp hm hw hfr).1.flush (by omega) hf).same iF.L iF.q).more hmm he hb hwl).mono (by omega)
 ·exact(Vy hD hp hK hm hfr hw hf iH hV hmm he hb hwl).same iF.L iF.q
theorem XE{lr:Value}(hD:Ds n r K D0)(hp:Pre n c t D0)(hs:c.s=2)(hK:K<=1000000)(hm:r.wild=false->yH c.lt∈r.may)(hk:SyOk c t D0 fq fy E)(hfr:FrW c.lt n (yG c t).2.ws)
  (hV:yH t∈r'.may)(hb:r'.bit=false->r.bit=false)(hwl:r'.wild=false->r.wild=false):Ds n r' (K+1) E/\Pn n ⟨2,fq,fy,(yG c t).1,lr⟩ (yG c t).1 E:=by
 have F:=hp.n8;have D:=hp.n4;have B:=TX hp.st.ub (by omega) hfr;obtain⟨d,b,_⟩:=hp.ok (D0:=D0) (D':=E) B (Or.inr ⟨hs,rfl⟩) hk hfr;have o:Ds n ⟨r.may++ [yH t],r.em,r.were,r.wild,r.bit⟩ (K+1) E:=by
  have f:∀m∈r.may,m∈r.may++ [yH t]:=fun m hm=>aw _ hm;have hV:yH t∈r.may++ [yH t]:=az _ (by simp);rcases hk with⟨_,_,_,hw⟩|⟨_,_,_,D1,D2,D3,hw,ik,iH,fU⟩
  ·have h:=(hD.ws hp hm hw hfr).1;refine⟨h.l,h.fit,by have:=h.ql;omega,fun u z k=> ?_⟩;have g:=h.no u z k;refine⟨fun j a=> ?_,fun j hs i A t v e=>(g.win j hs i A t v e).mono (by omega),g.nz,g.nf⟩;have:=g.sv j a;rw[d]at a;rw[a.nil_eq]at this⊢;exact⟨fun C v T g=>f _ (this.1 C v T g),fun p=>absurd b (p _ _ _)⟩
  ·have y:=Vy (r':=⟨r.may++ [yH t],true,r.were,r.wild,r.bit⟩) hD hp hK hm hfr hw ik iH hV f (fun _ _=>Or.inl rfl) id id;have k:=y.flush (by omega) fU;exact k.only d (by omega) (fun _=>b) (by rw[(Nc c t).1];exact hV) id id
 refine⟨o.only d (by omega) (fun _=>b) (by rw[(Nc c t).1];exact hV) hb hwl,?_⟩;have hF:Fnd n (lay E.L E.q) fq fy (yG c t).1:=by rw[d];exact b
 obtain⟨w,_,x⟩:=hF.seen o.l o.fit (by omega);exact⟨Or.inr ⟨rfl,d⟩,x,w,b.ro,b.tu⟩
theorem Qfb(hD:Ds n r K D)(hn:2<=n)(h2:(yg D).2=true)(ht:jL n D=some T)(lr:Value):Pn n ⟨1,(yg D).1.1,(yg D).1.2,T,lr⟩ T D:=by
 have f:=Fnd.of hn hD.l hD.fit h2 ht;exact⟨Or.inl rfl,SK hn ht,by rw[<-h2],f.ro,f.tu⟩
theorem Qfc(hD:Ds n r K D)(h8:8<=n)(h4:n<=400)(hw:r.wild=false)(h2:(yg D).2=true)(ht:jL n D=some T):yH T∈r.may:=
 ((hD.no hw h8 h4).sv _ (Sr.all hD.l hD.fit)).1 _ _ _ (Fnd.of (by omega) hD.l hD.fit h2 ht)
theorem Qfd(hD:Ds n r K D)(h8:8<=n)(h4:n<=400)(hw:r.wild=false)(hno:(yg D).2=false\/jL n D=none):r.em=true\/r.may= []:=
 ((hD.no hw h8 h4).sv _ (Sr.all hD.l hD.fit)).2 fun d c T f=>by
  obtain⟨a,b,_⟩:=f.seen hD.l hD.fit (by omega);rcases hno with e|e
  ·rw[a]at e;cases e
  ·rw[b]at e;cases e
theorem Sy0.wt(h:Sy0 c D D0):D0.wr=D.wr/\D0.t=D.t:=by
 rcases h with⟨_,hf⟩|⟨_,rfl⟩
 ·exact⟨hf.wr,hf.t⟩
 ·exact⟨rfl,rfl⟩
theorem XW(h0:Sy0 c D D0)(hk:SyOk c t D0 fq fy E):(∃k,k<=frT t+1/\E.wr=wrN k D.wr)/\E.t=D.t:=by
 obtain⟨a,b⟩:=h0.wt;have d:=SQ c t;rcases hk with⟨_,_,_,hw⟩|⟨_,_,_,D1,D2,D3,hw,ik,iH,fU⟩
 ·exact⟨⟨(yG c t).2.ws.length,by omega,by rw[hw.wr,a]⟩,by rw[hw.t,b]⟩
 ·exact⟨⟨(yG c t).2.ws.length+1,by omega,by rw[fU.wr,iH.wr,ik.wr,hw.wr,a];rfl⟩,by rw[fU.t,iH.t,ik.t,hw.t,b]⟩
theorem Qff{o:Int}(h0:Sy0 c D D0)(hk:PX c t n D0 o E):(∃k,k<=frT t+1/\E.wr=wrN k D.wr)/\((o=6/\E.t=wrap64 (D.t+1))\/(o=3/\E.t=D.t/\¬Bd n (yG c t).2)):=by
 obtain⟨a,b⟩:=h0.wt;have d:=SQ c t;rcases hk with⟨ws,D1,hfr,hw,⟨ho,iF⟩|⟨ho,e,hno⟩⟩|⟨ho,hfr,D1,D2,hw,hf,iF|⟨D3,iH,iF⟩⟩
 ·have:=hfr.2;exact⟨⟨ws.length,by omega,by rw[iF.wr,hw.wr,a]⟩,Or.inl ⟨ho,by rw[iF.t,hw.t,b]⟩⟩
 ·have:=hfr.2;exact⟨⟨ws.length,by omega,by rw[e,hw.wr,a]⟩,Or.inr ⟨ho,by rw[e,hw.t,b],hno⟩⟩
 ·exact⟨⟨(yG c t).2.ws.length,by omega,by rw[iF.wr,hf.wr,hw.wr,a]⟩,Or.inl ⟨ho,by rw[iF.t,hf.t,hw.t,b]⟩⟩
 ·exact⟨⟨(yG c t).2.ws.length+1,by omega,by rw[iF.wr,iH.wr,hf.wr,hw.wr,a];rfl⟩,Or.inl ⟨ho,by rw[iF.t,iH.t,hf.t,hw.t,b]⟩⟩
end
theorem StK.hgt{lk:Nat->List UInt8}{lt t:Tr}(h:StK n lk lt t)(h4:n<=400):lt.h<=4:=by
 cases a:g9 lt.h lt.n with
 |true=>
  obtain⟨d,e,f⟩:=lt
  cases d with
  |zero=>exact ay _
  |succ d=>cases a
 |false=>
  refine Vc lt h.ltw ?_;have c:(usL lt).length<=n:=jg n _ h.us fun u hu=>by
   unfold usL at hu;rcases ar.1 hu with hu|hu
   ·exact h.ub u (cD.1 hu)
   ·have:=h.ub lt.pl (by unfold qZ;rw[a];simp);have:=ZX h.us (b:=lt.pl) (by unfold qZ;rw[a];simp);simp at hu;omega
  unfold usL qZ at c;rw[a]at c;have:=Mj lt.h lt.n;simp at c;unfold gh;split<;>omega
end Go.Proofs.YtcklgafpgdhnaaaGreatDoor
