import Derived.Test.YtcklgafpgdhnaaaGreatDoorPybc
set_option maxRecDepth 100000
set_option maxHeartbeats 4000000
set_option linter.unusedSimpArgs false
set_option linter.unusedVariables false
set_option linter.unusedSectionVars false
open Go.Proofs.Tryz
namespace Go.Proofs.YtcklgafpgdhnaaaGreatDoor
open Go.RowKit
def UND(w:World)(A:Nat->Prop):(d:Nat)->UNd d->Value->Prop
 |0,_,_=>False
 |_+1,.inl l,x=>∃v,x=.iface 116 v/\LF w v l/\∀b,v.ownBlock=some b->A b
 |d+1,.inr ks,x=>∃v xs,x=.iface 168 v/\SL w 80 3 v (xs.map ke)/\(∀b,v.ownBlock=some b->A b)/\F2 (fun(k:qG (UNd d)) (e:KE)=>(e.1=k.1/\e.3=k.3)/\UND w A d k.2 e.2) ks xs
theorem UND.iface{w:World}{A:Nat->Prop}:∀{d:Nat} {u:UNd d} {x:Value},UND w A d u x->∃t v,x=.iface t v
 |0,_,_,h=>h.elim
 |_+1,.inl _,_,⟨v,e,_⟩=>⟨_,v,e⟩
 |_+1,.inr _,_,⟨v,_,e,_⟩=>⟨_,v,e⟩
theorem UND.ka{A:Nat->Prop}{w w':World}(k:KA A w w'):∀{d:Nat} {u:UNd d} {x:Value},UND w A d u x->UND w' A d u x
 |0,_,_,h=>h.elim
 |_+1,.inl _,_,⟨v,e,b,a⟩=>⟨v,e,SL.ka b (by decide) a k,a⟩
 |_+1,.inr _,_,⟨v,f,e,b,a,g⟩=>⟨v,f,e,SL.ka b (by decide) a k,a,g.mono fun _ _ _ c=>⟨c.1,UND.ka k c.2⟩⟩
theorem UND.amono{A A':Nat->Prop}{w:World}(hA:∀y,A y->A' y):∀{d:Nat} {u:UNd d} {x:Value},UND w A d u x->UND w A' d u x
 |0,_,_,h=>h.elim
 |_+1,.inl _,_,⟨v,e,c,a⟩=>⟨v,e,c,fun b h=>hA b (a b h)⟩
 |_+1,.inr _,_,⟨v,g,e,c,a,i⟩=>⟨v,g,e,c,fun b h=>hA b (a b h),i.mono fun _ _ _ f=>⟨f.1,UND.amono hA f.2⟩⟩
theorem UND.nd{w:World}{A:Nat->Prop}:∀{d:Nat} {u:UNd d} {h:Nat} {n:Nd h} {x:Value},Rep d u h n->UND w A d u x->ND w A h n x
 |0,_,_,_,_,c,_=>c.elim
 |_+1,.inl l,0,n,x,c,m=>by
  have e:n=l:=c;subst e;exact m
 |_+1,.inl _,_+1,_,_,c,_=>c.elim
 |_+1,.inr _,0,_,_,c,_=>c.elim
 |d+1,.inr s,h+1,(z:List (Kid h)),x,c,m=>by
  obtain⟨v,B,e,y,t,q⟩:=m;have c:F2 (fun(k:qG (UNd d)) (o:Kid h)=>(o.1=k.1/\o.3=k.3)/\Rep d k.2 h o.2) s z:=c;refine gg.2 ⟨v,B,e,y,t,?_⟩;refine⟨by rw[<-c.1,q.1],fun i a b p j=> ?_⟩;obtain⟨k,r⟩:∃k,s[i]?=some k:=⟨_,aa (by rw[c.1];exact(ae.1 p).1)⟩
  have f:=c.2 i k a r p;have g:=q.2 i k b r j;exact⟨⟨by rw[g.1.1,f.1.1],by rw[g.1.2,f.1.2]⟩,UND.nd f.2 g.2⟩
theorem RU{n:Nat}{lk:Nat->List UInt8}:∀{d i:Nat} {us e8:List Nat} {u:UNd d},rdU n lk d i us=some (u,e8)->us.length<=e8.length
 |0,_,_,_,_,h=>by cases h
 |d+1,i,us,e8,u,h=>by
  rw[rdU]at h;split at h
  ·split at h
   ·cases h
   ·cases h
    simp
   ·split at h
    ·cases h
    ·rename_i a o g
     cases h
     have:∀(f:List (ByteArray×Nat)) (s e:List Nat) (a:List (qG (UNd d))),jk (rdK n lk d) f s=some (a,e)->s.length<=e.length:=by
      intro f
      induction f with
      |nil=>intro s e a h;cases h;exact ag _
      |cons k r ih=>
       intro s e a h;simp only[jk]at h;split at h
       ·cases h
       ·rename_i b m c;split at h
        ·cases h
        ·rename_i w v j
         cases h
         have t:=ih _ _ _ j;have q:s.length<=m.length:=by
          unfold rdK at c;split at c
          ·cases c
          ·rename_i u2 p l
           cases c
           exact RU l
         omega
     have:=this _ (i::us) e8 a g;simp at this;omega
  ·cases h
structure Rdr(fid:FuncId)(c1 c2:Value)(n:Nat)(lk:Nat->List UInt8)(I:List Nat->World->Prop)(J:Bool->Ending->World->Prop)(B:Nat):Prop where
 en:∀(args:Array Value) (W:World),(callFunc fid args).run prog W=.ok (.enter fid args) W
 call:∀(us:List Nat) (i:Nat) (W:World),I us W->i<65536->B<=W.heap.size->Calls prog fid #[.int .i64 (i:Nat),c1,c2] W fun e W'=>(((i<n/\i∉us)/\e=.returned (.agg (u8s (lk i)).toArray)/\I (i::us) W')\/∃b,J b e W'/\(b=true->¬(i<n/\i∉us)))/\KA Tru W W'
 fresh:∀(us:List Nat) (W W':World) (S:List Nat),I us W->y6 S W W'->(∀y∈S,B<=y/\Tg W y 80)->I us W'
 len:∀i,i<n->(lk i).length=128
 us:∀(us:List Nat) (W:World),I us W->us.Nodup/\∀u∈us,u<n
 jt:∀(us:List Nat) (W W':World) (e:Ending),I us W->Thr 7 e W'->y6 [] W W'->J true e W'
 jp:∀(b:Bool) (e:Ending) (W:World),J b e W->∃c,e=.panicked c
def KrR(n:Nat)(lk:Nat->List UInt8)(I:List Nat->World->Prop)(J:Bool->Ending->World->Prop)(d:Nat)(us:List Nat)(k:ByteArray×Nat)(W:World)(e:Ending)(W':World):Prop:=
 ((∃u e8 x',rdU n lk d k.2 us=some (u,e8)/\e=.returned (.agg #[.string k.1,.int .i64 (k.2:Nat),x'])/\UND W' (fun y=>W.heap.size<=y) d u x'/\I e8 W')\/∃b,J b e W'/\(b=true->rdU n lk d k.2 us=none))/\KA Tru W W'
def RdOk(fid:FuncId)(c1 c2:Value)(n:Nat)(lk:Nat->List UInt8)(I:List Nat->World->Prop)(J:Bool->Ending->World->Prop)(B:Nat)(d:Nat):Prop:=
 ∀(us:List Nat) (k:ByteArray×Nat) (W:World),I us W->n<=us.length+d->k.2<65536->B<=W.heap.size->Calls prog 155 #[.agg #[.string k.1,.int .i64 (k.2:Nat),.nilIface],lfv fid c1 c2] W (KrR n lk I J d us k W)
def RvI(I:List Nat->World->Prop)(n d:Nat)(bf:Value)(r:Nat)(us:List Nat)(W:World):Prop:=I us W/\n<=us.length+d/\W.heap[r]?=some (.cells #[bf] 181 (0,0))
theorem Qcp(args:Array Value)(w:World):(callFunc 174 args).run prog w=.ok (.enter 174 args) w:=qy func174 (by kernel_rfl) (by kernel_rfl) args w
variable {fid:FuncId}{c1 c2:Value}{n:Nat}{lk:Nat->List UInt8}{I:List Nat->World->Prop}
theorem YH{J:Bool->Ending->World->Prop}{B:Nat}(hL:Rdr fid c1 c2 n lk I J B){d:Nat}(IH:RdOk fid c1 c2 n lk I J B d)(r:Nat):
  Cgr (α:=ByteArray×Nat) (β:=qG (UNd d)) (σ:=List Nat) 174 (.pointer (some ⟨r,0,none⟩)) (rdK n lk d) (fun _ k e _=>e=kx k/\k.2<65536) (fun A b e W=>(e.1=b.1/\e.3=b.3)/\UND W A d b.2 e.2) (RvI I n d (lfv fid c1 c2) r) J (fun b o=>b=true->o=none) B where
 en:=Qcp
 call:=by
  intro j k e A w f c hB M;obtain⟨rfl,i⟩:=c;simp only[kx];have HI:Hid (I j w):=f.1;have hr:=f.2.2;have X:Hid (∀W,y6 [] w W->Calls prog 155 #[.agg #[.string k.1,.int .i64 (k.2:Nat),.nilIface],lfv fid c1 c2] W (KrR n lk I J d j k W)):=fun W Q=>IH j k W (hL.fresh _ _ _ [] f.1 Q (by simp)) f.2.1 i (av hB Q.size);have Y:Hid (n<=j.length+d):=f.2.1;clear f;go_enter func174,ntmps174;go_wp2_with(first|(refine yw rfl _ _ (j8 80 (.tmp 0) rfl #[.string k.1,.int .i64 (k.2:Nat),.nilIface] rfl) ?_;intro G n1 q h;have hU:Hid _:=h;clear h)|(refine yj rfl 3 rfl 80 rfl _ (zkid _) ?_;intro U n2 p z;have nO:Hid _:=z;clear z;have m2:=p.get n1 (by simp);have T:=p.get (q.get hr (by simp)) (by simp);have IK:U.cell? ⟨r,0,none⟩=some (lfv fid c1 c2):=y7 T rfl)|(refine aW rfl 80 (.tmp 2) rfl w.heap.size rfl 80 #[.string k.1,.int .i64 (k.2:Nat),.nilIface] (0,0) _ m2 underlying80 rfl stk ?_))
  refine(X.out U (q.trans p)).mono ?_;rintro e w3⟨⟨u,L,H,hu,rfl,C,R⟩|⟨b,N,D⟩,m⟩
  ·have V:H.oneCell'=true:=by obtain⟨t,v,rfl⟩:=C.iface;rfl
   have F:=m.row _ _ _ _ trivial (by decide) n2;have E:=m.row _ _ _ _ trivial (by decide) T;have K:Hid (UND _ _ _ _ _/\I _ _):=⟨C,R⟩
   clear C R;go_wp2_with(refine ye rfl 80 (.tmp 3) (.tmp 6) rfl G.heap.size #[.string k.1,.int .i64 (k.2:Nat),H] rfl rfl 80 _ F stk rfl (qf (jb _ _ V)) ?_;intro w4 n4 x)
   refine aR (aI rfl _ w4 G.heap.size 80 _ (0,0) _ rfl n4 underlying80 rfl stk) rfl ?_;have hs:=m.size;have h:=hU.out;have z:=nO.out;have P:=RU hu;have hf:=Y.out;have kq:rdK n lk d k j=some (⟨k.1,u,k.2⟩,L):=by unfold rdK;rw[hu]
   refine⟨Or.inl ⟨⟨k.1,u,k.2⟩,L,⟨k.1,H,k.2⟩,kq,rfl,⟨⟨rfl,rfl⟩,?_⟩,hL.fresh _ _ _ [G.heap.size] K.out.2 x (by intro y g;simp at g;subst g;exact⟨by omega,_,_,F⟩),by omega,x.get E (by simp;intro e;subst e;rw[F]at E;cases E)⟩,(((KA.k0 (q.trans p)).trans m).new x (by intro y g;simp at g;subst g;omega))⟩;refine UND.amono ?_ (UND.ka (KA.of x ?_) K.out.1)
   ·intro y g;exact Or.inr (by omega)
   ·intro y g;simp at g;subst g;omega
  ·obtain⟨ch,rfl⟩:=hL.jp _ _ _ N;refine⟨rfl,Or.inr ⟨b,N,fun mr=> ?_⟩,(KA.k0 (q.trans p)).trans m⟩;unfold rdK;rw[D mr];rfl
 fresh:=by
  intro j W W' S f i O;refine⟨hL.fresh _ _ _ S f.1 i O,f.2.1,i.get f.2.2 fun hm=> ?_⟩;have:=(O r hm).2.ne ⟨_,_,f.2.2⟩;revert this;decide
 pika:=fun _ _ _ _ _ c _=>c
 poka:=fun _ _ _ _ _ c i=>⟨c.1,UND.ka i c.2⟩
 pomono:=fun _ _ _ _ _ c M=>⟨c.1,UND.amono M c.2⟩
 pish:=fun _ _ _ _ c=>Or.inl (by rw[c.1];rfl)
 posh:=fun _ _ _ _ c=>c.2.iface
 xm:=fun _ l r a s s1 Z h1 h2 D=>by rw[Q9e _ l r a s s1 Z h1 (Option.map_eq_none_iff.1 (h2 D))];rfl
 jp:=hL.jp
def WrU(n:Nat)(lk:Nat->List UInt8)(I:List Nat->World->Prop)(J:Bool->Ending->World->Prop)(d i:Nat)(us:List Nat)(m:Nat)(W:World)(e:Ending)(W':World):Prop:=
 ((∃u e8 x',rdU n lk (d+1) i us=some (u,e8)/\e=.returned x'/\UND W' (fun y=>m<=y) (d+1) u x'/\I e8 W')\/∃b,J b e W'/\(b=true->rdU n lk (d+1) i us=none))/\KA Tru W W'
theorem Qcr{J:Bool->Ending->World->Prop}{B:Nat}(hL:Rdr fid c1 c2 n lk I J B){d:Nat}(IH:RdOk fid c1 c2 n lk I J B d)(us:List Nat)(i m:Nat)(nb:Nb)(x:Value)(w:World)(r:Nat)
  (hi:i<n/\i∉us)(hd:decN (lk i)=some nb)(hx:NbV w (fun y=>m<=y) nb x)(hI:RvI I n d (lfv fid c1 c2) r (i::us) w)(hB:B<=w.heap.size)(hm:m<=w.heap.size):
  ∃fn v,jj "store/tree.with" x fn v/\Calls prog fn #[v,.func (.func 174) #[] #[.pointer (some ⟨r,0,none⟩)]] w (WrU n lk (RvI I n d (lfv fid c1 c2) r) J d i us m w):=by
 cases nb with
 |leaf l=>
  obtain⟨v,rfl,k,z⟩:=hx;obtain⟨p,c,s⟩:=SL.shape k;subst s;refine⟨_,_,UC _ _ _,(UD p _ c _ w).mono ?_⟩;rintro e S⟨rfl,rfl⟩;exact⟨Or.inl ⟨.inl l,i::us,_,RV hi hd,rfl,⟨_,rfl,k,z⟩,hI⟩,KA.refl _ _⟩
 |branch q=>
  obtain⟨v,rfl,k,z⟩:=hx;have F:=(MD hd).2;have o:(q.map kx).length<=1000:=by rw[aj];have:=F.2;omega
  have t:SL w 80 3 v ((q.map kx).map ke):=by rw[(Nl q).1];exact k
  have H:=Tf (YH hL IH r) v (q.map kx) q (i::us) (fun y=>m<=y/\y<w.heap.size) w t (fun y C=>C.2) (fun b f=>⟨z b f,by
   rcases k with⟨rfl,_⟩|⟨g,off,cap,cur,rfl,hh,_⟩
   ·cases f
   ·cases f;exact yt hh⟩) ⟨by rw[aj],fun j a b E f=>by
    rw[aA,E]at f;simp only[b7,ba]at f;exact⟨f.symm,(F.1 a (ah E)).2⟩⟩ hI hB o
  obtain⟨p,c,s⟩:=SL.shape k;subst s;refine⟨_,_,WS _ _ _,H.mono ?_⟩;rintro e S⟨⟨K,P,R,T,N,rfl,u,A,L,Q⟩|⟨b,M,f⟩,D⟩
  ·refine⟨Or.inl ⟨.inr K,P,_,by rw[P6 hi hd,N],rfl,⟨R,T,rfl,u,fun b f=>av hm (A b f),?_⟩,Q⟩,D⟩;exact L.mono fun a _ b G=>⟨G.1,UND.amono (fun y C=>C.elim (fun h=>h.1) (fun h=>av hm h)) G.2⟩
  ·exact⟨Or.inr ⟨b,M,fun O=>by rw[P6 hi hd,Option.map_eq_none_iff.1 (f O)]⟩,D⟩
theorem Xs{us:List Nat}(hn:us.Nodup)(hu:∀u∈us,u<n)(hf:n<=us.length)(i:Nat):¬(i<n/\i∉us):=by
 rintro⟨b,c⟩;have:=jg n (i::us) (dj.2 ⟨c,hn⟩) (by
  intro u a;rcases an.1 a with rfl|a
  ·exact b
  ·exact hu u a)
 simp at this;omega
theorem Wi{J:Bool->Ending->World->Prop}{B:Nat}(hL:Rdr fid c1 c2 n lk I J B){d:Nat}(IH:∀d',d=d'+1->RdOk fid c1 c2 n lk I J B d'):RdOk fid c1 c2 n lk I J B d:=by
 intro l k w G kq hk Y;have p:=hL.us l w G;have uR:=hL.en;have g:Hid (∀W,y6 [] w W->Calls prog fid #[.int .i64 (k.2:Nat),c1,c2] W fun e E=>(((k.2<n/\k.2∉l)/\e=.returned (.agg (u8s (lk k.2)).toArray)/\I (k.2::l) E)\/∃b,J b e E/\(b=true->¬(k.2<n/\k.2∉l)))/\KA Tru W E):=fun W kW=>hL.call l k.2 W (hL.fresh _ _ _ [] G kW (by simp)) hk (av Y kW.size);clear G;go_enter func155,ntmps155;go_wp2_with(first|(refine yw rfl _ _ (j8 80 (.tmp 0) rfl #[.string k.1,.int .i64 (k.2:Nat),.nilIface] rfl) ?_;intro w1 n1 q1 L)|(refine yw rfl _ _ (jZ 181 (.tmp 1) rfl (lfv fid c1 c2) rfl rfl) ?_;intro w2 O Q V;rw[L]at O V)|(refine yj rfl 4 rfl 80 rfl _ (zkid _) ?_;intro A P z fV;rw[V]at P fV;have N:=z.get (Q.get n1 (by simp)) (by simp);have R:=z.get O (by simp);have ru:A.cell? ⟨w.heap.size,1,none⟩=some (.int .i64 (k.2:Nat)):=y7 N rfl;have I6:A.cell? ⟨w.heap.size+1,0,none⟩=some (.func (.func fid) #[] #[c1,c2]):=y7 R rfl))
 have o:y6 [] w A:=(q1.trans Q).trans z;refine(g.out A o).mono ?_;rintro e C⟨⟨K,rfl,vo⟩|⟨b,i,H⟩,j⟩;rotate_left
 ·obtain⟨U,rfl⟩:=hL.jp _ _ _ i;refine⟨rfl,Or.inr ⟨b,i,fun mr=>Xa (H mr)⟩,(KA.k0 o).trans j⟩
 cases d with
 |zero=>exact absurd K (Xs p.1 p.2 (by omega) k.2)
 |succ d=>
 have m4:=j.row _ _ _ _ trivial (by decide) N;have n4:=j.row _ _ _ _ trivial (by decide) P;have r4:=j.row _ _ _ _ trivial (by decide) R;have hs4:=j.size;have I7:Hid (Calls _ _ _ _ _):=Qcd (lk k.2) C (hL.len k.2 K.1);have T:Hid (I (k.2::l) C):=vo;clear vo N P R n1 O ru I6 q1 Q z g;go_wp2_with fail;refine I7.out.mono ?_;rintro e w5⟨f,h⟩
 cases c:decN (lk k.2)with
 |none=>
  rw[c]at f;have i:=hL.jt _ _ _ _ T.out f h;obtain⟨U,rfl⟩:=hL.jp _ _ _ i;exact⟨rfl,Or.inr ⟨true,i,fun _=>Q9j c⟩,((KA.k0 o).trans j).trans (KA.k0 h)⟩
 |some nb=>
  rw[c]at f;obtain⟨x,rfl,Z⟩:=f;have ui:=h.size;have m5:=h.get m4 (by simp);have n5:=h.get n4 (by simp);have r5:=h.get r4 (by simp);obtain⟨fn,vv,⟨t,et,hm,he⟩,X⟩:=Qcr hL (IH d rfl) l k.2 C.heap.size nb x w5 (w.heap.size+1) K c Z ⟨hL.fresh _ _ _ [] T.out h (by simp),by simp;omega,r5⟩ (by omega) ui;subst et;have HC:Hid (Calls _ _ _ _ _):=X;clear X Z;go_wp2_with fail;refine HC.out.mono ?_;rintro e S⟨⟨u,F,x',hu,rfl,m,sE⟩|⟨b,i,H⟩,s⟩;rotate_left
  ·obtain⟨U,rfl⟩:=hL.jp _ _ _ i;exact⟨rfl,Or.inr ⟨b,i,H⟩,(((KA.k0 o).trans j).trans (KA.k0 h)).trans s⟩
  have m6:=s.row _ _ _ _ trivial (by decide) m5;have n6:=s.row _ _ _ _ trivial (by decide) n5;obtain⟨q,r,ey⟩:=m.iface;have Le:=s.size;have wX:Hid (UND S (fun y=>C.heap.size<=y) (d+1) u x'/\I F S):=⟨m,sE.1⟩
  have D:KA Tru w S:=(((KA.k0 o).trans j).trans (KA.k0 h)).trans s;have HU:Hid (rdU n lk (d+1) k.2 l=some (u,F)):=hu;clear m sE m4 m5 n4 n5 r4 r5 hu;subst ey;go_wp2_with(first|(refine yC rfl 78 (.tmp 12) (.tmp 11) rfl w.heap.size 2 rfl (.iface q r) rfl 80 _ m6 VV rfl (by simp) ?_;intro w7 m7 v;have I8:w7.heap[w.heap.size]?=some (.cells #[.string k.1,.int .i64 (k.2:Nat),.iface q r] 80 (0,0)):=m7;have n7:=v.get n6 (by simp;omega))|(refine aW rfl 80 (.tmp 2) rfl w.heap.size rfl 80 #[.string k.1,.int .i64 (k.2:Nat),.iface q r] (0,0) _ I8 underlying80 rfl stk ?_)|(refine ye rfl 80 (.tmp 4) (.tmp 13) rfl (w.heap.size+1+1) #[.string k.1,.int .i64 (k.2:Nat),.iface q r] rfl rfl 80 _ n7 stk rfl (qf (jb _ _ rfl)) ?_;intro w8 n8 M))
  refine aR (aI rfl _ w8 (w.heap.size+1+1) 80 _ (0,0) _ rfl n8 underlying80 rfl stk) rfl ?_;have rz:=hL.fresh _ _ _ [w.heap.size] wX.out.2 v (by intro y a;simp at a;subst a;exact⟨Y,_,_,m6⟩);have AX:=hL.fresh _ _ _ [w.heap.size+1+1] rz M (by intro y a;simp at a;subst a;exact⟨by omega,_,_,n7⟩);refine⟨Or.inl ⟨u,F,.iface q r,HU.out,rfl,?_,AX⟩,(D.new v (by intro y a;simp at a;subst a;exact ag _)).new M (by intro y a;simp at a;subst a;omega)⟩;refine UND.amono (fun y a=>by omega) (UND.ka (KA.of M ?_) (UND.ka (KA.of v ?_) wX.out.1))
  ·intro y a;simp at a;subst a;omega
  ·intro y a;simp at a;subst a;omega
theorem Sg{fid:FuncId}{c1 c2:Value}{n:Nat}{lk:Nat->List UInt8}{I:List Nat->World->Prop}{J:Bool->Ending->World->Prop}{B:Nat}(hL:Rdr fid c1 c2 n lk I J B):∀d,RdOk fid c1 c2 n lk I J B d
 |0=>Wi hL fun _ e=>by cases e
 |d+1=>Wi hL fun a e=>by cases e;exact Sg hL d
theorem Vo(b:Bool)(k:ByteArray)(r:List ByteArray)(f t:ByteArray):qQ b (k::r) f t=if bl k f||(b&&be k f)then false else qQ true r k t:=rfl
def RiI(keys:List ByteArray)(f t:ByteArray)(w:World)(fv i:Value)(wr:World):Prop:=
 ∃(j:Nat) (fj:ByteArray),j<=keys.length/\fv=.string fj/\i=.int .i64 (j:Nat)/\qQ (decide (0<j)) (keys.drop j) fj t=qQ false keys f t/\y6 [] w wr
theorem Mt(t:ByteArray):be t yu=t.toList.isEmpty:=by
 unfold be;rw[jT,jT]
 cases t.data.toList<;>rfl
theorem QcA(vl:Value)(l:List Pr)(f t:ByteArray)(w:World)(h:SL w 122 2 vl (l.map pe))(hl:l.length<=200):
  Calls prog 245 #[vl,.string f,.string t] w fun e w'=>e=.returned (.bool (qQ false (l.map fun x=>x.1) f t))/\y6 [] w w':=by
 obtain⟨pv,I,B⟩:=h.shape;rw[aj]at B;subst B;have Z:=V5;have d:(l.map fun x=>x.1).length=l.length:=aj ..;go_enter func245,ntmps245;go_wp2
 go_loopw [1,11] (fun K i wr=>RiI (l.map fun x=>x.1) f t w K i wr) (fun _ i _=>l.length-(intOf i).toNat)
 case atStart=>exact⟨0,f,ay _,rfl,rfl,rfl,y6.refl _ _⟩
 case round=>
  obtain⟨j,n,R,rfl,rfl,c,o⟩:=hrel;rw[d]at R
  by_cases p:j<l.length
  ·have C:(j:Int)<(l.length:Int):=by omega
   obtain⟨x,D⟩:∃x,l[j]?=some x:=⟨_,aa p⟩
   have r:(l.map fun x=>x.1).drop j=x.1::(l.map fun x=>x.1).drop (j+1):=by
    rw[aL (by rw[d];exact p)];congr 1;have:=(ae.1 D).2;simp[this]
   rw[r,Vo]at c;obtain⟨g,q,G,H,e,O,L,M,N,z⟩:=(SL.kept h o).at_ (by simp;omega);rw[aj]at e
   cases e
   have A:=jC (P:=prog) (ty:=122) _ O (z j _ (by rw[aA,D];rfl)) underlying122 stp;simp only[pe]at A;have T:(#[.string x.1,.string x.2]:Array Value).all (·.oneCell')=true:=qf (Rv x);clear z r;have F:(Op.bytesLess x.1.toList n.toList=true/\Hid (qQ false (l.map fun x=>x.1) f t=false))\/(Op.bytesLess x.1.toList n.toList=false/\((¬(0:Int)<(j:Int))/\Hid (qQ true ((l.map fun x=>x.1).drop (j+1)) x.1 t=qQ false (l.map fun x=>x.1) f t)\/(0:Int)<(j:Int)/\((x.1.toList==n.toList)=false/\Hid (qQ true ((l.map fun x=>x.1).drop (j+1)) x.1 t=qQ false (l.map fun x=>x.1) f t)\/(x.1.toList==n.toList)=true/\Hid (qQ false (l.map fun x=>x.1) f t=false)))):=by
    cases a:bl x.1 n with
    |true=>rw[a]at c;exact Or.inl ⟨a,c.symm⟩
    |false=>
     rw[a]at c;refine Or.inr ⟨a,?_⟩
     by_cases S:j=0
     ·subst S;exact Or.inl ⟨by omega,c⟩
     ·rw[bM (by omega:0<j),Bool.false_or,Bool.true_and]at c;refine Or.inr ⟨by omega,?_⟩
      cases b:be x.1 n with
      |true=>rw[b]at c;exact Or.inr ⟨b,c.symm⟩
      |false=>rw[b]at c;exact Or.inl ⟨b,c⟩
   clear c;rcases F with⟨m,k⟩|⟨m,⟨hj0,k⟩|⟨hj0,⟨v,k⟩|⟨v,k⟩⟩⟩
   all_goals
    go_wp2_with(first|(refine ya rfl _ _ (yc 115 (.tmp 9) (.tmp 11) rfl g q l.length I j 2 rfl rfl 122 underlying115 stp p (q+j*2) rfl) ?_)|(refine y8 rfl 122 (.tmp 14) rfl ⟨g,q+j*2,none⟩ rfl _ A ?_)|(refine yj rfl 8 rfl 122 rfl _ (N0 _) ?_;intro wa X U W;clear W)|(refine ye rfl 122 (.tmp 8) (.tmp 15) rfl wr.heap.size #[.string x.1,.string x.2] rfl rfl 122 _ X stp rfl (T) ?_;intro Y s V;have kx:y6 [] wr Y:=U.trans2 V (by intro y E;simp at E;subst E;exact Or.inr (ag _)))|(refine aW rfl 122 (.tmp 8) rfl wr.heap.size rfl 122 #[.string x.1,.string x.2] (0,0) _ s underlying122 rfl stp ?_)|(go_at_call 246;refine(Wq _ _ _ rfl _).mono ?_;rintro e wc⟨rfl,u⟩;replace s:=u.get s (by simp);replace kx:=kx.trans u;clear u;have d0:wc.cell? ⟨wr.heap.size,0,none⟩=some (.string x.1):=y7 s rfl;have d1:wc.cell? ⟨wr.heap.size,1,none⟩=some (.string x.2):=y7 s rfl))
   ·go_ret;refine⟨by rw[k.out];rfl,o.trans kx⟩
   rotate_left 2
   ·go_ret;refine⟨by rw[k.out];rfl,o.trans kx⟩
   all_goals
    go_roundw
    case rel=>exact⟨j+1,x.1,by rw[d];omega,rfl,by go_num,by rw[bM (by omega)];exact k.out,o.trans kx⟩
    case measure=>simp[intOf];omega
  ·have Q:¬(j:Int)<(l.length:Int):=by omega
   have J:j=l.length:=by omega
   subst J;rw[bC (by rw[d];exact ag _)]at c;simp only[qQ]at c
   cases a:be t yu with
   |true=>
    rw[a]at c;have k:Hid (qQ false (l.map fun x=>x.1) f t=true):=c.symm;have m:t.toList.isEmpty=true:=by rw[<-Mt];exact a
    clear c a;go_wp2;go_ret;exact⟨by rw[k.out];rfl,o⟩
   |false=>
    rw[a,Bool.false_or]at c;have k:Hid (qQ false (l.map fun x=>x.1) f t=bl n t):=c.symm;have m:t.toList.isEmpty=false:=by rw[<-Mt];exact a
    clear c a
    cases b:bl n t with
    |true=>
     rw[b]at k;have v:Op.bytesLess n.toList t.toList=true:=b;clear b;go_wp2;go_ret;exact⟨by rw[k.out];rfl,o⟩
    |false=>
     rw[b]at k;have v:Op.bytesLess n.toList t.toList=false:=b;clear b;go_wp2;go_ret;exact⟨by rw[k.out];rfl,o⟩
theorem QcB(vl:Value)(l:List KE)(f t:ByteArray)(w:World)(h:SL w 80 3 vl (l.map ke))(hl:l.length<=200)(ho:∀x∈l,x.2.oneCell'=true):
  Calls prog 267 #[vl,.string f,.string t] w fun e w'=>e=.returned (.bool (qQ false (l.map fun x=>x.1) f t))/\y6 [] w w':=by
 obtain⟨pv,I,C⟩:=h.shape;rw[aj]at C;subst C;have Z:=WX;have d:(l.map fun x=>x.1).length=l.length:=aj ..;go_enter func267,ntmps267;go_wp2
 go_loopw [1,11] (fun K i wr=>RiI (l.map fun x=>x.1) f t w K i wr) (fun _ i _=>l.length-(intOf i).toNat)
 case atStart=>exact⟨0,f,ay _,rfl,rfl,rfl,y6.refl _ _⟩
 case round=>
  obtain⟨j,n,R,rfl,rfl,c,o⟩:=hrel;rw[d]at R
  by_cases p:j<l.length
  ·have D:(j:Int)<(l.length:Int):=by omega
   obtain⟨x,u⟩:∃x,l[j]?=some x:=⟨_,aa p⟩
   have s:(l.map fun x=>x.1).drop j=x.1::(l.map fun x=>x.1).drop (j+1):=by
    rw[aL (by rw[d];exact p)];congr 1;have:=(ae.1 u).2;simp[this]
   rw[s,Vo]at c;obtain⟨g,q,G,H,e,O,L,M,N,A⟩:=(SL.kept h o).at_ (by simp;omega);rw[aj]at e
   cases e
   have B:=jC (P:=prog) (ty:=80) _ O (A j _ (by rw[aA,u];rfl)) underlying80 stk;simp only[ke]at B;have T:(#[.string x.1,.int .i64 (x.3:Nat),x.2]:Array Value).all (·.oneCell')=true:=qf (jb _ _ (ho x (ah u)));clear A s;have F:(Op.bytesLess x.1.toList n.toList=true/\Hid (qQ false (l.map fun x=>x.1) f t=false))\/(Op.bytesLess x.1.toList n.toList=false/\((¬(0:Int)<(j:Int))/\Hid (qQ true ((l.map fun x=>x.1).drop (j+1)) x.1 t=qQ false (l.map fun x=>x.1) f t)\/(0:Int)<(j:Int)/\((x.1.toList==n.toList)=false/\Hid (qQ true ((l.map fun x=>x.1).drop (j+1)) x.1 t=qQ false (l.map fun x=>x.1) f t)\/(x.1.toList==n.toList)=true/\Hid (qQ false (l.map fun x=>x.1) f t=false)))):=by
    cases a:bl x.1 n with
    |true=>rw[a]at c;exact Or.inl ⟨a,c.symm⟩
    |false=>
     rw[a]at c;refine Or.inr ⟨a,?_⟩
     by_cases S:j=0
     ·subst S;exact Or.inl ⟨by omega,c⟩
     ·rw[bM (by omega:0<j),Bool.false_or,Bool.true_and]at c;refine Or.inr ⟨by omega,?_⟩
      cases b:be x.1 n with
      |true=>rw[b]at c;exact Or.inr ⟨b,c.symm⟩
      |false=>rw[b]at c;exact Or.inl ⟨b,c⟩
   clear c;rcases F with⟨m,k⟩|⟨m,⟨hj0,k⟩|⟨hj0,⟨z,k⟩|⟨z,k⟩⟩⟩
   all_goals
    go_wp2_with(first|(refine ya rfl _ _ (yc 165 (.tmp 9) (.tmp 11) rfl g q l.length I j 3 rfl rfl 80 underlying165 stk p (q+j*3) rfl) ?_)|(refine y8 rfl 80 (.tmp 14) rfl ⟨g,q+j*3,none⟩ rfl _ B ?_)|(refine yj rfl 8 rfl 80 rfl _ (zkid _) ?_;intro wa X U W;clear W)|(refine ye rfl 80 (.tmp 8) (.tmp 15) rfl wr.heap.size #[.string x.1,.int .i64 (x.3:Nat),x.2] rfl rfl 80 _ X stk rfl (T) ?_;intro Y r V;have kx:y6 [] wr Y:=U.trans2 V (by intro y E;simp at E;subst E;exact Or.inr (ag _)))|(refine aW rfl 80 (.tmp 8) rfl wr.heap.size rfl 80 #[.string x.1,.int .i64 (x.3:Nat),x.2] (0,0) _ r underlying80 rfl stk ?_)|(go_at_call 226;refine(Tj _ _ _ x.1 rfl _).mono ?_;rintro e wc⟨rfl,v⟩;replace r:=v.get r (by simp);replace kx:=kx.trans v;clear v;have d0:wc.cell? ⟨wr.heap.size,0,none⟩=some (.string x.1):=y7 r rfl;have d1:wc.cell? ⟨wr.heap.size,1,none⟩=some (.int .i64 (x.3:Nat)):=y7 r rfl;have d2:wc.cell? ⟨wr.heap.size,2,none⟩=some x.2:=y7 r rfl))
   ·go_ret;refine⟨by rw[k.out];rfl,o.trans kx⟩
   rotate_left 2
   ·go_ret;refine⟨by rw[k.out];rfl,o.trans kx⟩
   all_goals
    go_roundw
    case rel=>exact⟨j+1,x.1,by rw[d];omega,rfl,by go_num,by rw[bM (by omega)];exact k.out,o.trans kx⟩
    case measure=>simp[intOf];omega
  ·have Q:¬(j:Int)<(l.length:Int):=by omega
   have J:j=l.length:=by omega
   subst J;rw[bC (by rw[d];exact ag _)]at c;simp only[qQ]at c
   cases a:be t yu with
   |true=>
    rw[a]at c;have k:Hid (qQ false (l.map fun x=>x.1) f t=true):=c.symm;have m:t.toList.isEmpty=true:=by rw[<-Mt];exact a
    clear c a;go_wp2;go_ret;exact⟨by rw[k.out];rfl,o⟩
   |false=>
    rw[a,Bool.false_or]at c;have k:Hid (qQ false (l.map fun x=>x.1) f t=bl n t):=c.symm;have m:t.toList.isEmpty=false:=by rw[<-Mt];exact a
    clear c a
    cases b:bl n t with
    |true=>
     rw[b]at k;have z:Op.bytesLess n.toList t.toList=true:=b;clear b;go_wp2;go_ret;exact⟨by rw[k.out];rfl,o⟩
    |false=>
     rw[b]at k;have z:Op.bytesLess n.toList t.toList=false:=b;clear b;go_wp2;go_ret;exact⟨by rw[k.out];rfl,o⟩
end Go.Proofs.YtcklgafpgdhnaaaGreatDoor
