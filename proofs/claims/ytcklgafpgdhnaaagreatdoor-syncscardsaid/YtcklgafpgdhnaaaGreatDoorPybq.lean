import Derived.Test.YtcklgafpgdhnaaaGreatDoorPybp
import Derived.Test.YtcklgafpgdhnaaaGreatDoorPybk
import Derived.Test.YtcklgafpgdhnaaaGreatDoorPybo
set_option maxRecDepth 100000
set_option maxHeartbeats 4000000
set_option linter.unusedSimpArgs false
set_option linter.unusedVariables false
set_option linter.unusedSectionVars false
open Go.Proofs.Tryz
namespace Go.Proofs.YtcklgafpgdhnaaaGreatDoor
open Go.RowKit
def cntU:(d:Nat)->UNd d->Nat
 |0,_=>0
 |_+1,.inl _=>1
 |d+1,.inr ks=>1+(ks.map fun k=>cntU d k.2).sum
theorem VN{n:Nat}{lk:Nat->List UInt8}:∀{d i:Nat} {us e8:List Nat} {u:UNd d},rdU n lk d i us=some (u,e8)->us.Nodup->(∀y∈us,y<n)->e8.Nodup/\(∀y∈e8,y<n)/\e8.length=us.length+cntU d u
 |0,_,_,_,_,h,_,_=>by cases h
 |d+1,i,us,e8,u,h,C,hu=>by
  rw[rdU]at h;split at h
  ·rename_i x;have e:(i::us).Nodup:=dj.2 ⟨x.2,C⟩;have t:∀y∈i::us,y<n:=by
    intro y p;rcases an.1 p with rfl|p
    ·exact x.1
    ·exact hu y p
   split at h
   ·cases h
   ·cases h
    exact⟨e,t,rfl⟩
   ·rename_i g w;split at h
    ·cases h
    ·rename_i a D z
     cases h
     have q:∀(g:List (ByteArray×Nat)) (s c:List Nat) (a:List (qG (UNd d))),jk (rdK n lk d) g s=some (a,c)->s.Nodup->(∀y∈s,y<n)->c.Nodup/\(∀y∈c,y<n)/\c.length=s.length+(a.map fun k=>cntU d k.2).sum:=by
      intro g
      induction g with
      |nil=>intro s c a h m o;cases h;exact⟨m,o,rfl⟩
      |cons k r ih=>
       intro s c a h m o;simp only[jk]at h;split at h
       ·cases h
       ·rename_i b F f;split at h
        ·cases h
        ·rename_i H G A
         cases h
         unfold rdK at f;split at f
         ·cases f
         ·rename_i u2 E B
          cases f
          obtain⟨j,l,v⟩:=VN B m o;obtain⟨f1,f2,f3⟩:=ih _ _ _ A j l;refine⟨f1,f2,?_⟩;simp only[bn,bE];omega
     obtain⟨j,l,v⟩:=q _ (i::us) e8 a z e t;refine⟨j,l,?_⟩;simp only[cntU];simp only[aB]at v;omega
  ·cases h
variable {i:Nat}
theorem Nu{B:List UInt8}{x:Nat×Nat}(h:rdH i B=some x):x.2<65536:=by
 unfold rdH at h;split at h
 ·cases h
  have a:=QY ((B.drop 16).take 2);have b:((B.drop 16).take 2).length<=2:=by simp;omega
  have c:2^(8*((B.drop 16).take 2).length)<=2^(8*2):=dy (by omega) (by omega);have d:2^(8*2)=65536:=by decide
  show qt ((B.drop 16).take 2)<65536;omega
 ·cases h
theorem QdQ(D:Dv):(yg D).1.2<65536:=by
 unfold yg
 cases b:rdH 0 (D.view 0)with
 |none=>
  cases a:rdH 1 (D.view 1)with
  |none=>decide
  |some y=>exact Nu a
 |some x=>
  cases a:rdH 1 (D.view 1)with
  |none=>exact Nu b
  |some y=>
   simp only[nwst];split
   ·exact Nu a
   ·exact Nu b
def jL(n:Nat)(D:Dv):Option Tr:=rdT n D.view (yg D).1.2
theorem QdR(a:Nat)(bv:Value)(n:Nat)(cv:Value)(D:Dv)(w:World)(h:DQ w a bv n cv D)(fM:8<=n)(hn:n<=400)(hq:D.q.length<1000000)(hT:Tab w):
  Calls prog 55 #[.iface 26 (.pointer (some ⟨a,0,none⟩))] w (UE a bv n cv D (yg D) (jL n D) w):=
 QcN a bv n cv D (jL n D) w h fM hn hq (Or.inr hT) fun v W b g f c _ d=>by
  have e:jL n D=rdT n b.view (yg D).1.2:=by
   unfold jL;rw[show b.view=D.view from funext fun i=>c.view i]
  rw[e];exact Qd1 v a n _ bv cv b W g f fM (by omega) (by rw[c.q];omega) (d hT) (QdQ D)
variable {n:Nat}{D:Dv}
theorem StK.found{lt t:Tr}(h:StK n D.view lt t)(hh:(yg D).1.2=lt.pl)(hn:n<=65536):jL n D=some lt:=by
 unfold jL;rw[hh];exact h.read hn
theorem RT{N:Nat}{lk:Nat->List UInt8}:∀{d i:Nat} {us e8:List Nat} {u:UNd d} {h:Nat} {n:Nd h},rdU N lk d i us=some (u,e8)->Rep d u h n->lk i=gS (nbN h n)/\jd lk h n
 |0,_,_,_,_,_,_,e,_=>by cases e
 |d+1,i,us,e8,u,h,n,e,t=>by
  rw[rdU]at e;split at e
  ·split at e
   ·cases e
   ·rename_i l c
    cases e
    cases h with
    |zero=>
     have e:n=l:=t;subst e;exact⟨(MD c).1.symm,trivial⟩
    |succ h=>exact t.elim
   ·rename_i v c;split at e
    ·cases e
    ·rename_i o P F
     cases e
     cases h with
     |zero=>exact t.elim
     |succ h=>
      have t:F2 (fun(k:qG (UNd d)) (a:Kid h)=>(a.1=k.1/\a.3=k.3)/\Rep d k.2 h a.2) o n:=t;have C:∀(v:List (ByteArray×Nat)) (s D:List Nat) (o:List (qG (UNd d))) (f:List (Kid h)),jk (rdK N lk d) v s=some (o,D)->F2 (fun(k:qG (UNd d)) (a:Kid h)=>(a.1=k.1/\a.3=k.3)/\Rep d k.2 h a.2) o f->v=f.map (fun k:Kid h=>(k.1,k.3))/\∀k∈f,lk k.3=gS (nbN h k.2)/\jd lk h k.2:=by
       intro v
       induction v with
       |nil=>
        intro s D o f g p
        cases g
        have:f= []:=List.length_eq_zero_iff.1 p.1.symm;subst this;exact⟨rfl,fun k J=>by cases J⟩
       |cons q r ih=>
        intro s D o f g p;simp only[jk]at g;split at g
        ·cases g
        ·rename_i b R w;split at g
         ·cases g
         ·rename_i O S G
          cases g
          cases f with
          |nil=>have:=p.1;simp at this
          |cons k f=>
           have B:=p.2 0 b k rfl rfl;have I:F2 (fun(k:qG (UNd d)) (a:Kid h)=>(a.1=k.1/\a.3=k.3)/\Rep d k.2 h a.2) O f:=⟨by have:=p.1;simpa using this,fun j x y L M=>p.2 (j+1) x y L M⟩
           obtain⟨z,A⟩:=ih _ _ _ _ G I;unfold rdK at w;split at w
           ·cases w
           ·rename_i u2 Q H
            cases w
            have E:k.3=q.2:=B.1.2;have K:=RT H B.2;refine⟨?_,fun a m=> ?_⟩
            ·rw[bn,<-z];congr 1;exact Prod.ext B.1.1.symm E.symm
            ·rcases an.1 m with e|m
             ·subst e;rw[E];exact K
             ·exact A a m
      obtain⟨z,A⟩:=C _ _ _ _ n F t;refine⟨?_,gQ.2 A⟩;rw[<-(MD c).1,z];rfl
  ·cases e
theorem Tp{N:Nat}{lk:Nat->List UInt8}:∀{d i:Nat} {us e8:List Nat} {u:UNd d} {h:Nat} {n:Nd h},rdU N lk d i us=some (u,e8)->Rep d u h n->e8.Perm ((i::j0 h n)++us)
 |0,_,_,_,_,_,_,e,_=>by cases e
 |d+1,i,us,e8,u,h,n,e,o=>by
  rw[rdU]at e;split at e
  ·split at e
   ·cases e
   ·cases e
    cases h with
    |zero=>exact List.Perm.refl _
    |succ h=>exact o.elim
   ·rename_i t A;split at e
    ·cases e
    ·rename_i l L C
     cases e
     cases h with
     |zero=>exact o.elim
     |succ h=>
      have o:F2 (fun(k:qG (UNd d)) (a:Kid h)=>(a.1=k.1/\a.3=k.3)/\Rep d k.2 h a.2) l n:=o;have w:∀(t:List (ByteArray×Nat)) (s v:List Nat) (l:List (qG (UNd d))) (c:List (Kid h)),jk (rdK N lk d) t s=some (l,v)->F2 (fun(k:qG (UNd d)) (a:Kid h)=>(a.1=k.1/\a.3=k.3)/\Rep d k.2 h a.2) l c->v.Perm (c.flatMap (gD h)++s):=by
       intro t
       induction t with
       |nil=>
        intro s v l c f m
        cases f
        have:c= []:=List.length_eq_zero_iff.1 m.1.symm;subst this;exact List.Perm.refl _
       |cons q r ih=>
        intro s v l c f m;simp only[jk]at f;split at f
        ·cases f
        ·rename_i b O p;split at f
         ·cases f
         ·rename_i K P D
          cases f
          cases c with
          |nil=>have:=m.1;simp at this
          |cons k c=>
           have z:=m.2 0 b k rfl rfl;have F:F2 (fun(k:qG (UNd d)) (a:Kid h)=>(a.1=k.1/\a.3=k.3)/\Rep d k.2 h a.2) K c:=⟨by have:=m.1;simpa using this,fun j x y I J=>m.2 (j+1) x y I J⟩
           have G:=ih _ _ _ _ D F;unfold rdK at p;split at p
           ·cases p
           ·rename_i u2 M E
            cases p
            have H:k.3=q.2:=z.1.2;have B:=Tp E z.2;rw[<-H]at B;refine G.trans ((List.Perm.append_left _ B).trans ?_);rw[bF];show(c.flatMap (gD h)++(gD h k++s)).Perm (gD h k++c.flatMap (gD h)++s);rw[<-aG];exact List.Perm.append_right _ List.perm_append_comm
      have g:=w _ _ _ _ n C o;refine g.trans ?_;show(List.flatMap (gD h) n++i::us).Perm (i::(j0 (h+1) n++us));exact List.perm_middle
  ·cases e
theorem Rep.fms:∀{d:Nat} {u:UNd d} {h:Nat} {n:Nd h},Rep d u h n->okU d u->FmS h n
 |0,_,_,_,a,_=>a.elim
 |_+1,.inl _,0,_,_,_=>trivial
 |_+1,.inl _,_+1,_,a,_=>a.elim
 |_+1,.inr _,0,_,a,_=>a.elim
 |d+1,.inr l,h+1,(o:List (Kid h)),a,m=>by
  have a:F2 (fun(k:qG (UNd d)) (b:Kid h)=>(b.1=k.1/\b.3=k.3)/\Rep d k.2 h b.2) l o:=a;refine NP.2 fun b c=> ?_;obtain⟨i,g⟩:=aU.1 c;obtain⟨k,j⟩:∃k,l[i]?=some k:=⟨_,aa (by rw[a.1];exact(ae.1 g).1)⟩
  have e:=a.2 i k b j g;have f:=m.2 k (ah j);rw[e.1.1];exact⟨f.1,Rep.fms e.2 f.2.2⟩
variable {lk:Nat->List UInt8}
theorem S1{root:Nat}{t:Tr}(h0:root≠0)(hn:2<=n)(h:rdT n lk root=some t):Whl n lk t:=by
 simp only[rdT,if_neg h0]at h;split at h
 ·cases h
 ·rename_i u y c;split at h
  ·cases h
  ·rename_i x o
   cases h
   have a:=NI c;obtain⟨j,z,rfl,d,r,s,v,_,w,f⟩:=NH n u yu yu x o a;show Whl n lk ⟨j,toN n u j,root⟩;rw[<-d.toE];obtain⟨p,q,_⟩:=VN c (by decide) (by simp;omega);have l:=Tp c d;have k:=RT c d;have m:=cL.1 (l.nodup_iff.1 p);refine⟨⟨r,s,v,w,fun h=>by rw[f]at h;cases h⟩,f,k.1,k.2,m.1,fun b i=>⟨?_,q b (l.mem_iff.2 (aw _ i))⟩,d.fms a⟩;rcases bG b 2 with g|g
   ·refine absurd rfl (m.2.2 b i b ?_);have:b=0\/b=1:=by omega
    rcases this with e|e<;>rw[e]<;>simp
   ·exact g
theorem SK{t:Tr}(hn:2<=n)(ht:jL n D=some t):StK n D.view t t:=by
 unfold jL at ht
 by_cases a:(yg D).1.2=0
 ·rw[a,T1]at ht
  cases ht
  exact StK.none n D.view
 ·exact(S1 a hn ht).stk
theorem Nn{A B:List UInt8}(h:A.take 32=B.take 32):rdH i A=rdH i B:=by
 unfold rdH;rw[Md A 8 8 32 (by omega),Md A 16 2 32 (by omega),Md B 8 8 32 (by omega),Md B 16 2 32 (by omega),h]
theorem OX{c:Nat->Bool}{L:List UInt8}{x:Wt}{n:Nat}(hL:L.length=n*128)(hx:x.1<n)(h2:x.2.length=128){j:Nat}(hj:x.1≠j):∀s,s<=4->yl (svN c L x s) j=yl L j
 |0,_=>rfl
 |s+1,b=>by
  have ih:=OX (c:=c) hL hx h2 hj s (by omega);have a:=Qg (c:=c) hL hx h2 s (by omega);have hc:((x.2.drop (s*32)).take 32).length=32:=by rw[au,aC];omega
  rw[svN];split
  ·unfold yl put1 at*;rw[QO (by rw[hc];omega) (by rw[hc];omega),ih]
  ·exact ih
theorem Qe6(L:List UInt8)(i:Nat):(yl L i).take 32=(L.drop (i*128)).take 32:=by unfold yl;rw[cA,bS (by omega)]
theorem WV{c:Nat->Bool}{L:List UInt8}{x:Wt}{n:Nat}(hL:L.length=n*128)(hx:x.1<n)(h2:x.2.length=128):∀s,s<=4->(yl (svN c L x s) x.1).take 32=x.2.take 32\/(yl (svN c L x s) x.1).take 32=(yl L x.1).take 32
 |0,_=>Or.inr rfl
 |s+1,b=>by
  have ih:=WV (c:=c) hL hx h2 s (by omega);have a:=Qg (c:=c) hL hx h2 s (by omega);have hc:((x.2.drop (s*32)).take 32).length=32:=by rw[au,aC];omega
  rw[svN];split
  ·rw[Qe6]at*;unfold put1
   cases s with
   |zero=>
    left;rw[dw,dG,MX (by rw[dw]at hc;rw[hc];omega) _ (by rw[dw]at hc;rw[hc])];rfl
   |succ s=>
    rw[QO (by rw[hc];omega) (by rw[hc];omega)];exact ih
  ·exact ih
variable {L L1:List UInt8}
theorem Sr.nil_eq(h:Sr L [] L1):L1=L:=by
 generalize e:([]:List Wt)=q at h
 cases h with
 |nil=>rfl
 |snoc h x c=>simp at e
theorem Sr.other{q:List Wt}(h:Sr L q L1)(hL:L.length=n*128)(hq:Fit n q){j:Nat}(hj:∀x∈q,x.1≠j):yl L1 j=yl L j:=by
 induction h with
 |nil=>rfl
 | @snoc d e h x c ih=>
  have a:Fit n d:=fun y b=>hq y (by simp[b]);rw[OX (h.len hL a) (hq x (by simp)).1 (hq x (by simp)).2 (hj x (by simp)) 4 (by omega)];exact ih a fun y b=>hj y (by simp[b])
theorem Whl.agree{n:Nat}{lk fX:Nat->List UInt8}{t:Tr}(h:Whl n lk t)(ha:∀b∈qZ t,fX b=lk b):Whl n fX t:=by
 rw[h.pre]at ha;exact⟨h.tw,h.nil,by rw[ha _ (by simp)];exact h.at_,h.lies.agree fun b a=>ha b (by simp[a]),h.nd,h.off,h.frs⟩
theorem StK.agree{n:Nat}{lk fX:Nat->List UInt8}{lt t:Tr}(h:StK n lk lt t)(ha:∀b∈qZ lt,fX b=lk b):StK n fX lt lt:=by
 cases a:g9 lt.h lt.n with
 |false=>exact((h.whl a).agree ha).stk
 |true=>
  have c:=h.ltw.nil a;obtain⟨d,e,f⟩:=lt
  cases d with
  |succ d=>cases a
  |zero=>
   have:e=([]:List Pr):=List.isEmpty_iff.1 a;subst this;have c:f=0:=c;subst c;exact StK.none n fX
theorem qh(L:List UInt8)(i:Nat):(Dv.new L).view i=yl L i:=rfl
theorem LZ(h:D.q= [])(i:Nat):D.view i=yl D.L i:=by unfold Dv.view;rw[h];rfl
structure Fnd(n:Nat)(L:List UInt8)(tu ro:Nat)(T:Tr):Prop where
 len:L.length=n*128
 hd:yg (.new L)=((tu,ro),true)
 ro:ro=T.pl
 st:StK n (Dv.new L).view T T
 tu:tu<18446744073709551616
variable {T:Tr}
theorem Fnd.tree{tu ro:Nat}(h:Fnd n L tu ro T)(hn:n<=65536):jL n (.new L)=some T:=h.st.found (by rw[h.hd];exact h.ro) hn
structure Pre(n:Nat)(c:Hd)(t:Tr)(D:Dv):Prop where
 st:StK n D.view c.lt t
 q:D.q= []
 hd:yg D=((c.tu,c.ro),true)
 ro:c.ro=c.lt.pl
 tu:c.tu<18446744073709551616
 l:D.L.length=n*128
 n8:8<=n
 n4:n<=400
section
variable {n:Nat} {c:Hd} {t:Tr} {D D0 D':Dv} {L1:List UInt8}
theorem Pre.old(h:Pre n c t D)(hl:L1.length=n*128)(hv:∀b∈qZ c.lt,yl L1 b=D.view b)(h0:(yl L1 0).take 32=(D.view 0).take 32)(h1:(yl L1 1).take 32=(D.view 1).take 32):Fnd n L1 c.tu c.ro c.lt:=by
 refine⟨hl,?_,h.ro,h.st.agree fun b a=> ?_,h.tu⟩
 ·rw[<-h.hd];unfold yg;rw[qh,qh,Nn h0,Nn h1]
 ·rw[qh];exact hv b a
theorem Pre.d0(h:Pre n c t D)(h0:Sy0 c D D0):D0.L=D.L/\D0.q= []/\D0.wr=D.wr:=by
 rcases h0 with⟨_,hf⟩|⟨_,rfl⟩
 ·exact⟨by rw[hf.L,h.q];rfl,hf.q,hf.wr⟩
 ·exact⟨rfl,h.q,rfl⟩
theorem Pre.ok(h:Pre n c t D)(hb:Bd n (yG c t).2){fq fy:Nat}(h0:Sy0 c D D0)(hk:SyOk c t D0 fq fy D')(hfr:FrW c.lt n (yG c t).2.ws):D'.q= []/\Fnd n D'.L fq fy (yG c t).1/\(fq=c.tu\/fq=nxt c.tu):=by
 have e:2<=n:=by have:=h.n8;omega
 have f:Fit n D.q:=by rw[h.q];exact fun x d=>by cases d
 have g:=QbI h.st e h.l f h0 hk hb hfr;obtain⟨k,m,o⟩:=Xi e h.l f h0 hk hfr h.hd h.ro h.tu (g.lpl (by have:=h.n4;omega));obtain⟨r,j,_⟩:=h.d0 h0;have a:D'.q= []/\D'.L.length=n*128:=by
  have hF:∀{D1:Dv},Wrs D0 (yG c t).2.ws D1->D1.L.length=n*128/\Fit n D1.q:=fun b=>⟨by rw[b.L,r];exact h.l,by
   rw[b.q,j];exact fun x d=>(hfr.1 x (by simpa using d)).2⟩
  rcases hk with⟨b1,_,_,b⟩|⟨_,_,_,D1,D2,D3,b,ik,iH,fU⟩
  ·have p:=Qe3 h.st b1;refine⟨by rw[b.q,j,p];rfl,(hF b).1⟩
  ·refine⟨fU.q,?_⟩;rw[fU.L];refine gG (by rw[iH.L,ik.L];exact gG (hF b).1 (hF b).2) ?_;rw[iH.q,ik.q];intro x d;simp at d;subst d;exact⟨by show nxt c.tu%2<n;have:=cT (nxt c.tu) (show 0<2 by omega);omega,gP _ _⟩
 refine⟨a.1,⟨a.2,?_,m,?_,o⟩,?_⟩
 ·rw[<-k];unfold yg;rw[qh,qh,LZ a.1,LZ a.1]
 ·have:(Dv.new D'.L).view=D'.view:=funext fun i=>by rw[qh,LZ a.1]
  rw[this];exact g
 ·rcases hk with⟨_,b2,_⟩|⟨_,b2,_⟩
  ·exact Or.inl b2
  ·exact Or.inr b2
end
theorem Qe9(a:Nat)(bv:Value)(n:Nat)(cv:Value)(D:Dv)(z y:Int)(w:World)(h:DQ w a bv n cv D):Calls prog 161 #[.pointer (some ⟨a,0,none⟩),.int .i64 z,.int .i64 y] w fun e w'=>e=.returned (.tuple #[])/\DQ w' a bv n cv {D with fr:=wrap64 (D.c+z),toE:=wrap64 (wrap64 (D.c+z)+y)}/\y6 [a] w w':=by
 refine(Q0e a bv cv D z y w h.d).mono ?_;rintro e w'⟨f,g,b⟩;exact⟨f,h.upd b g rfl rfl,b⟩
theorem Qea(a:Nat)(bv:Value)(n:Nat)(cv:Value)(D:Dv)(z:Int)(w:World)(h:DQ w a bv n cv D):Calls prog 27 #[.pointer (some ⟨a,0,none⟩),.int .i64 z] w fun e w'=>e=.returned (.tuple #[])/\DQ w' a bv n cv {D with off:=wrap64 (D.c+z)}/\y6 [a] w w':=by
 refine(YF a bv cv D z w h.d).mono ?_;rintro e w'⟨f,g,b⟩;exact⟨f,h.upd b g rfl rfl,b⟩
theorem Qeb{B:List UInt8}(h:B.length=128){s:Nat}(hs:s<4):((B.drop (s*32)).take 32).length=32:=by rw[au,aC];omega
theorem Qec{x:Wt}(hL:L.length=n*128)(hx:x.1<n)(h2:x.2.length=128):svN (fun _=>true) L x 4=jm L x.1 x.2:=by
 have g:=fun s f=>Qg (c:=fun _=>true) hL hx h2 s f;have d:∀s,s<=4->∀j,(svN (fun _=>true) L x s)[j]?=if j<x.1*128 then L[j]? else if j<x.1*128+s*32 then x.2[j-x.1*128]? else L[j]?:=by
  intro s
  induction s with
  |zero=>
   intro _ j;show L[j]?=_;split
   ·rfl
   ·rw[if_neg (by omega)]
  |succ s ih=>
   intro f j;have hc:=Qeb h2 (s:=s) (by omega);show(put1 (svN (fun _=>true) L x s) x s)[j]?=_;unfold put1;have h:=g s (by omega);rw[NG (by rw[hc,h];omega),ih (by omega),hc]
   by_cases a:j<x.1*128
   ·rw[if_pos (by omega),if_pos a,if_pos a]
   ·by_cases b:j<x.1*128+s*32
    ·rw[if_pos b,if_neg a,if_pos b,if_neg a,if_pos (by omega)]
    ·by_cases e:j<x.1*128+s*32+32
     ·rw[if_neg b,if_pos e,if_neg a,if_pos (by omega),aD,if_pos (by omega),aV];congr 1;omega
     ·rw[if_neg b,if_neg e,if_neg a,if_neg b,if_neg a,if_neg (by omega)]
 apply cJ;intro j;rw[d 4 (by omega)];unfold jm;rw[NG (by rw[h2,hL];omega),h2]
theorem Sr.all(hL:L.length=n*128){q:List Wt}(hq:Fit n q):Sr L q (lay L q):=by
 have d:∀(r p:List Wt),Fit n (p++r)->Sr L p (lay L p)->Sr L (p++r) (lay L (p++r)):=by
  intro r
  induction r with
  |nil=>intro p _ h;simpa using h
  |cons x r ih=>
   intro p a h;have e:Fit n p:=fun y f=>a y (by simp[f]);have c:=a x (by simp);have b:=h.snoc x fun _=>true;rw[Qec (gG hL e) c.1 c.2,<-Wy]at b;have:=ih (p++ [x]) (by simpa using a) b
   simpa using this
 have:=d q [] (by simpa using hq) Sr.nil
 simpa using this
theorem Tb(hL:D.L.length=n*128)(hq:Fit n D.q):(Dv.new (lay D.L D.q)).view=D.view:=funext fun i=>by
 rw[qh,T5 hL hq];rfl
theorem Fnd.seen{tu ro:Nat}(h:Fnd n (lay D.L D.q) tu ro T)(hL:D.L.length=n*128)(hq:Fit n D.q)(hn:n<=65536):yg D=((tu,ro),true)/\jL n D=some T/\StK n D.view T T:=by
 have e:=Tb hL hq;have a:yg D=yg (.new (lay D.L D.q)):=by unfold yg;rw[e]
 refine⟨by rw[a];exact h.hd,?_,by rw[<-e];exact h.st⟩;have:=h.tree hn;unfold jL at this⊢;rw[a,<-e];exact this
def Sld(B:List UInt8):Prop:=∃p,B=p++yz (crc p) 4
theorem SB(n:Nb):Sld (gS n):=by
 cases n with
 |leaf l=>exact⟨_,rfl⟩
 |branch a=>exact⟨_,rfl⟩
theorem N3(t r:Nat):Sld (sec t r):=by
 refine⟨(sec2 t r).take 28,?_⟩;unfold sec Zb splice;rw[qE,yE];have:(sec2 t r).drop (32-4+4)= []:=List.drop_eq_nil_of_le (by rw[qE];omega);rw[this,bo]
theorem TQ(L:List UInt8):crc L<4294967296:=by
 rw[PP];exact cN (n:=32) (by omega) (Pz _ _ (by decide))
theorem Qeh{p q:List UInt8}(h:yz (crc p) 4=yz (crc q) 4):crc p=crc q:=by
 have a:=congrArg qt h;rw[jI,jI]at a;have b:=TQ p;have c:=TQ q;have e:2^(8*4)=4294967296:=by decide
 rw[e]at a;omega
theorem O0{B:List UInt8}{b:UInt8}(h:Sld B)(hi:i<B.length)(hb:B[i]?≠some b):¬Sld (B.set i b):=by
 obtain⟨p,rfl⟩:=h;rintro⟨q,e⟩;have k:=congrArg List.length e;simp only[bJ,ai,yE]at k;rw[ai,yE]at hi
 by_cases a:i<p.length
 ·rw[List.set_append_left _ _ a]at e;obtain⟨c,d⟩:=List.append_inj e (by rw[bJ];omega);have hc:=Qeh d;have j:p=p.take i++p[i]::p.drop (i+1):=by
   conv=>lhs;rw[<-aS i p,aL a]
  have l:q=p.take i++b::p.drop (i+1):=by
   rw[<-c]
   conv=>lhs;rw[j]
   rw[cP _ _ (by rw[au];omega),au,bS (by omega),Nat.sub_self];rfl
  have f:crc (p.take i++p[i]::p.drop (i+1))=crc (p.take i++b::p.drop (i+1)):=by
   rw[<-l,<-j];exact hc
  have:=Q3r (p.take i) p[i] b (p.drop (i+1)) f;apply hb;rw[bq a,aa a,this]
 ·rw[cP _ _ (by omega)]at e;obtain⟨c,d⟩:=List.append_inj e (by omega);subst c;apply hb;rw[bh (by omega)];have g:((yz (crc p) 4).set (i-p.length) b)[i-p.length]?=(yz (crc p) 4)[i-p.length]?:=by rw[d]
  rw[dc (by rw[yE];omega)]at g;exact g.symm
theorem Ve(L:List UInt8)(i j:Nat)(b:UInt8):yl (L.set i b) j=if i/128=j then(yl L j).set (i%128) b else yl L j:=by
 unfold yl
 by_cases a:i/128=j
 ·rw[if_pos a,List.drop_set,if_neg (by omega),dx,show i-j*128=i%128 by omega]
 ·rw[if_neg a,List.drop_set];split
  ·rfl
  ·rw[dx,dR (by rw[au];omega)]
theorem Ws{lk:Nat->List UInt8}:∀{h:Nat} {n:Nd h} {p:Nat},jd lk h n->p∈j0 h n->∃b,lk p=gS b
 |0,_,_,_,a=>by cases a
 |h+1,(f:List (Kid h)),p,e,a=>by
  rw[Pa]at a;obtain⟨k,d,a⟩:=cU.1 a;have c:=gQ.1 e k d;rcases an.1 a with rfl|a
  ·exact⟨_,c.1⟩
  ·exact Ws c.2 a
theorem RC{x y:Nb}(hx:Qx x)(hy:Qx y)(h:gS x=gS y):x=y:=by
 have a:=NS hx;rw[h,NS hy]at a;exact(aH a).symm
theorem Us{lk fX:Nat->List UInt8}{q:Nat}(ha:∀p,p≠q->fX p=lk p):∀{h:Nat} {n:Nd h} {h':Nat} {n':Nd h'},jd lk h n->jd fX h' n'->FitA h n->FitA h' n'->nbN h n=nbN h' n'->q∈j0 h n->∃b,fX q=gS b
 |0,_,_,_,_,_,_,_,_,a=>by cases a
 |h+1,(v:List (Kid h)),0,_,_,_,_,_,e,_=>by cases e
 |h+1,(v:List (Kid h)),h'+1,(o:List (Kid h')),A,m,t,w,e,a=>by
  rw[Pa]at a;obtain⟨k,g,a⟩:=cU.1 a;have e:v.map (fun k:Kid h=>(k.1,k.3))=o.map (fun k:Kid h'=>(k.1,k.3)):=Nb.branch.inj e;obtain⟨i,z⟩:=aU.1 g;have s:=congrArg (fun l=>l[i]?) e;simp only[aA,z,b7]at s;obtain⟨d,B,x⟩:=cj.1 s.symm;have c:=ah B;have j:d.3=k.3:=(Prod.mk.inj x).2;have r:=gQ.1 A k g;have f:=gQ.1 m d c;rcases an.1 a with rfl|a
  ·exact⟨_,by rw[<-j];exact f.1⟩
  ·by_cases u:k.3=q
   ·exact⟨_,by rw[<-u,<-j];exact f.1⟩
   ·have y:gS (nbN h k.2)=gS (nbN h' d.2):=by rw[<-r.1,<-f.1,j,ha _ u]
    exact Us ha r.2 f.2 (t.2 k g) (w.2 d c) (RC (t.2 k g).fits (w.2 d c).fits y) a
theorem Whl.fit{t:Tr}(h:Whl n lk t)(hn:n<=65536):FitA t.h t.n:=PC h.tw.wf h.tw.full h.tw.hi h.frs fun b a=>by have:=(h.off b (aq _ a)).2;omega
theorem Ug{r:Nat}{t:Tr}(h:rdT n lk r=some t):t.pl=r:=by
 unfold rdT at h;split at h
 ·cases h
  rename_i e;exact e.symm
 ·split at h
  ·cases h
  ·split at h
   ·cases h
   ·cases h
    rfl
theorem Whl.down{fX:Nat->List UInt8}{t t':Tr}{q:Nat}(h:Whl n lk t)(h':Whl n fX t')(hp:t'.pl=t.pl)(hn:n<=65536)(ha:∀p,p≠q->fX p=lk p)(hq:q∈qZ t):∃b b',lk q=gS b/\fX q=gS b':=by
 rw[h.pre]at hq
 by_cases e:t.pl=q
 ·exact⟨_,_,by rw[<-e];exact h.at_,by rw[<-e,<-hp];exact h'.at_⟩
 ·have hq:q∈j0 t.h t.n:=(an.1 hq).resolve_left fun c=>e c.symm;obtain⟨b,f⟩:=Ws h.lies hq;have d:gS (nbN t.h t.n)=gS (nbN t'.h t'.n):=by rw[<-h.at_,<-h'.at_,hp,ha _ e]
  obtain⟨b',a⟩:=Us ha h.lies h'.lies (h.fit hn) (h'.fit hn) (RC (h.fit hn).fits (h'.fit hn).fits d) hq;exact⟨b,b',f,a⟩
theorem XK{L':List UInt8}{tu ro:Nat}(hf:Fnd n L tu ro T)(h8:8<=n)(h4:n<=400)(hs:Ni L L'):(yg (.new L')).2=false\/jL n (.new L')=none\/((yg (.new L')).2=true/\jL n (.new L')=some T):=by
 obtain⟨i,b,V,N,rfl⟩:=hs;have s:(L.set i b).length=n*128:=by rw[bJ];exact hf.len
 have v:Pre n ⟨2,tu,ro,T,.nilIface⟩ T (.new L):=⟨hf.st,rfl,hf.hd,hf.ro,hf.tu,hf.len,h8,h4⟩
 have c:(yl L (i/128))[i%128]?=L[i]?:=by
  unfold yl;rw[aD,if_pos (cT _ (by omega)),aV];congr 1;omega
 have F:(yl L (i/128)).length=128:=gE L n _ hf.len (by have:=hf.len;omega);have a:=fun j=>Ve L i j b;have g:(∀K∈qZ T,yl (L.set i b) K=yl L K)->(∀j,j<2->(yl (L.set i b) j).take 32=(yl L j).take 32)->(yg (.new (L.set i b))).2=true/\jL n (.new (L.set i b))=some T:=fun w o=>by
  have:=v.old (L1:=L.set i b) s w (o 0 (by omega)) (o 1 (by omega));exact⟨by rw[this.hd],this.tree (by omega)⟩
 have f:∀p∈qZ T,2<=p:=fun p m=>ZX hf.st.us m
 by_cases W:i/128<2
 ·by_cases O:i%128<32
  ·left;have A:rdH (i/128) (yl (L.set i b) (i/128))=none:=by
    cases hc:rdH (i/128) (yl (L.set i b) (i/128))with
    |none=>rfl
    |some x=>
     exfalso;obtain⟨J,R⟩:=x;have w:=(jr hc).2;have o:∃t r,rdH (i/128) (yl L (i/128))=some (t,r):=by
      have l:=hf.hd;unfold yg at l;rw[qh,qh]at l;have E:i/128=0\/i/128=1:=by omega
      cases C:rdH 0 (yl L 0)with
      |none=>rw[C]at l;cases k:rdH 1 (yl L 1)<;>rw[k]at l<;>cases l
      |some y=>
       cases k:rdH 1 (yl L 1)with
       |none=>rw[C,k]at l;cases l
       |some z=>
        rcases E with e|e<;>rw[e]
        ·exact⟨_,_,C⟩
        ·exact⟨_,_,k⟩
     obtain⟨t,r,o⟩:=o;have M:=(jr o).2;rw[a,if_pos rfl,dx,M]at w;have I:=N3 t r;refine O0 I (i:=i%128) (b:=b) (by rw[qL];exact O) ?_ (by rw[w];exact N3 J R);rw[<-M,aD,if_pos O,c];exact N
   unfold yg;rw[qh,qh];have E:i/128=0\/i/128=1:=by omega
   rcases E with e|e
   ·rw[e]at A;rw[A]
    cases rdH 1 (yl (L.set i b) 1)<;>rfl
   ·rw[e]at A;rw[A]
    cases rdH 0 (yl (L.set i b) 0)<;>rfl
  ·right;right;refine g (fun p m=> ?_) fun j _=> ?_
   ·have:=f p m;rw[a,if_neg (by omega)]
   ·rw[a];split
    ·rw[dx,dR (by rw[au];omega)]
    ·rfl
 ·by_cases u:i/128∈qZ T
  ·right;left
   cases hc:jL n (.new (L.set i b))with
   |none=>rfl
   |some J=>
    exfalso;have P:yg (.new (L.set i b))=((tu,ro),true):=by
     rw[<-hf.hd];unfold yg;rw[qh,qh,qh,qh,a,a,if_neg (by omega),if_neg (by omega)]
    unfold jL at hc;rw[P]at hc;have hc:rdT n (Dv.new (L.set i b)).view ro=some J:=hc;have d:g9 T.h T.n=false:=by
     cases e:g9 T.h T.n with
     |false=>rfl
     |true=>unfold qZ at u;rw[e]at u;cases u
    have H:ro≠0:=by
     rw[hf.ro];have:=f T.pl (by unfold qZ;rw[d];simp);omega
    have Q:=S1 H (by omega) hc;have G:=Ug hc;obtain⟨x,S,k,D⟩:=(hf.st.whl d).down Q (by rw[G];exact hf.ro) (by omega) (q:=i/128) (fun p m=>by rw[qh,qh,a,if_neg (fun e=>m e.symm)]) u;rw[qh]at k D;rw[a,if_pos rfl]at D;refine O0 (B:=yl L (i/128)) (i:=i%128) (b:=b) (by rw[k];exact SB x) (by rw[F];exact cT _ (by omega)) (by rw[c];exact N) (by rw[D];exact SB S)
  ·right;right;refine g (fun p m=> ?_) fun j U=> ?_
   ·rw[a,if_neg (fun e=>u (by rw[e];exact m))]
   ·rw[a,if_neg (by omega)]
end Go.Proofs.YtcklgafpgdhnaaaGreatDoor
