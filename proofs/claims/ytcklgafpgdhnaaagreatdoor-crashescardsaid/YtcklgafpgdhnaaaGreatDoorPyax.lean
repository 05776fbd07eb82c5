import Derived.Test.YtcklgafpgdhnaaaGreatDoorPyaw
import Derived.LoopN
set_option maxRecDepth 100000
set_option maxHeartbeats 4000000
set_option linter.unusedSimpArgs false
set_option linter.unusedVariables false
set_option linter.unusedSectionVars false
open Go.Proofs.Tryz
open List renaming set_cons_succ → zE, set_cons_zero → zF
namespace Go.Proofs.YtcklgafpgdhnaaaGreatDoor
open Go.RowKit
theorem Q77(es:List El)(hw:Wd 3 es)(i:Nat)(e:El)(u:Value)(h:es[i]?=some e):fl (es.set i (e.set 2 u))=(fl es).set (i*3+2) u:=by
 induction es generalizing i with
 |nil=>simp at h
 |cons x r ih=>
  have a:x.length=3:=hw x (by simp)
  cases i with
  |zero=>
   simp at h;subst h;rw[zF,Qp,Qp,List.set_append_left _ _ (by omega)]
  |succ i=>
   rw[zE,Qp,Qp,ih hw.tl i (by simpa using h),cP _ _ (by omega),show(i+1)*3+2-x.length=i*3+2 by omega]
variable {w:World}{cur:List Value}
theorem OW.set2{B:Nat}{t:TypeId}{es:List El}(hw:Wd 3 es){g n cap:Nat}(hB:B<=g)(hg:Rw w g t cur)(hn:n=es.length)(h1:n<=cap)(h2:cap<=maxLen)(h3:cur.length=cap*3)(htk:cur.take (n*3)=fl es)(i:Nat)(e:El)(he:es[i]?=some e)(u:Value):
  OW (w.setCell ⟨g,i*3+2,none⟩ u) B t 3 (.slice (some ⟨g,0,none⟩) n cap) (es.set i (e.set 2 u))/\y6 [g] w (w.setCell ⟨g,i*3+2,none⟩ u):=by
 have c:=yf (i:=i*3+2) u hg;have b:Wd 3 (es.set i (e.set 2 u)):=by
  intro x a;rcases List.mem_or_eq_of_mem_set a with a|a
  ·exact hw x a
  ·rw[a,bJ];exact hw e (ah he)
 refine⟨OW.close (cur:=cur.set (i*3+2) u) b hB ?_ (by simp[hn]) h1 h2 (by simp[h3]) ?_,(y6.refl _ _).setCell (Or.inl (by simp)) _⟩
 ·unfold Rw;rw[c];simp
 ·rw[dx,htk,Q77 es hw i e u he]
variable {A:Nat->Prop}
theorem Q78{h:Nat}{v2:Value}{xs:List KE}{ks:List (Kid h)}{i:Nat}{q:Kid h}{n':Nd h}{y:KE}{w1 w2 w3:World}{a:Value}{g2 eH:Nat}
  (hf:F2 (KR w A h) ks xs)(fD:∀z,A z->z<w.heap.size)(hq:ks[i]?=some q)(hy:xs[i]?=some y)(hkl:ks.length<=1000)(lQ:LJ h (ks.set i ⟨q.1,n',q.3⟩) i)
  (k1:y6 [] w w1)(k2:y6 [] w1 w2)(k3:y6 [] w2 w3)(hB:w1.heap.size<=g2)(hg:Rw w2 g2 80 cur)(hc1:ks.length<=eH)(hc2:eH<=maxLen)(hc3:cur.length=eH*3)(htk:cur.take (ks.length*3)=fl (xs.map ke))
  (fT:ND w3 (fun z=>A z\/w2.heap.size<=z) h n' a)(hv2:v2=.slice (some ⟨g2,0,none⟩) ks.length eH):
  Calls prog 264 #[v2,.int .i64 i] (w3.setCell ⟨g2,i*3+2,none⟩ a) fun e w5=>∃v5 sk,e=.returned v5/\SL w5 80 3 v5 (sk.map ke)/\(∀z,v5.ownBlock=some z->w.heap.size<=z)/\F2 (KR w5 (fun z=>A z\/w.heap.size<=z) h) (qA h (ks.set i ⟨q.1,n',q.3⟩) i) sk/\y6 [] w w5:=by
 subst hv2;have d:(xs.map ke).length=ks.length:=by rw[aj,hf.1]
 have r:g2<w2.heap.size:=(bA.1 hg).1;have t:Rw w3 g2 80 cur:=hg.kept k3 (by simp);have n:=(hf.2 i q y hq hy).1;obtain⟨k,f⟩:=OW.set2 (B:=w1.heap.size) (L4 (gO hf)).wd hB t d.symm hc1 hc2 hc3 htk i (ke y) (by rw[aA,hy];rfl) a;have v:(xs.map ke).set i ((ke y).set 2 a)=(xs.set i ⟨y.1,a,y.3⟩).map ke:=by rw[List.map_set];rfl
 rw[v]at k;have x:=k1.size;have C:=k2.size;have D:=k3.size;have E:=f.size;have g:∀z∈ [g2],¬(A z\/w2.heap.size<=z):=by
  intro z b;simp at b;subst b;rintro(c|c)
  ·have:=fD _ c;omega
  ·omega
 have u:F2 (KR (w3.setCell ⟨g2,i*3+2,none⟩ a) (fun z=>A z\/w2.heap.size<=z) h) ks xs:=hf.mono fun _ _ _ j=>KR.kept (KR.kept j ((k1.trans k2).trans k3) (by simp) fun _ h=>Or.inl h) f g fun _ h=>h;have p:KR (w3.setCell ⟨g2,i*3+2,none⟩ a) (fun z=>A z\/w2.heap.size<=z) h ⟨q.1,n',q.3⟩ ⟨y.1,a,y.3⟩:=⟨n,ND.kept f g (fun _ h=>h) fT⟩
 refine(Q6Z k (by omega) (u.set i p) (fun z b e=>g g2 (by simp) (by cases e;exact b)) (by simpa using hkl) i lQ).mono ?_;rintro e w5⟨v5,sk,rfl,l,m,o⟩;refine⟨v5,sk,rfl,l.sl,fun z b=> ?_,?_,?_⟩
 ·have:=qj l.1 z (by rw[b];simp);omega
 ·refine m.mono fun _ _ _ j=>KR.kept j (y6.refl [] _) (by simp) ?_;rintro z((c|c)|c)
  ·exact Or.inl c
  ·exact Or.inr (by omega)
  ·exact Or.inr (by omega)
 ·have s:y6 [g2] w3 w5:=f.trans o;exact((k1.trans k2).trans k3).trans2 s fun z b=>Or.inr (by simp at b;subst b;omega)
def Wj(F:List Pr->List Pr)(Q:List Pr->Prop)(k:ByteArray)(fid:FuncId)(cap:Value)(h:Nat):Prop:=∀(w:World) (A:Nat->Prop) (f:ByteArray) (n:Nd h) (x:Value),ND w A h n x->(∀y,A y->y<w.heap.size)->WFN h f n->qd h n->ge k f->(0<h->22<=yq h n)->yq h n<=122->Cl F Q fid cap w->Q (gW k h n)->
  ∃fn v,jj "store/tree.changed" x fn v/\Calls prog fn #[v,.string k,.func (.func fid) #[] #[cap]] w fun e w'=>∃a,e=.returned a/\ND w' (fun y=>A y\/w.heap.size<=y) h (yL F k h n) a/\y6 [] w w'
variable {fid:FuncId}
theorem Q7a{F:List Pr->List Pr}{Q:List Pr->Prop}{k:ByteArray}{cap:Value}(hF:Zw F k)(h:Nat)(IH:Wj F Q k fid cap h){v:Value}{xs:List KE}{f:ByteArray}{ks:List (Kid h)}(hl:SL w 80 3 v (xs.map ke))(hf:F2 (KR w A h) ks xs)(fD:∀y,A y->y<w.heap.size)
  (hw:WFN (h+1) f ks)(kq:qd (h+1) ks)(hk:ge k f)(lF:22<=11*ks.length)(hsz:11*ks.length<=122)(hc:Cl F Q fid cap w)(hQ:Q (gW k (h+1) ks)):
  Calls prog 251 #[v,.string k,.func (.func fid) #[] #[cap]] w fun e w5=>∃v5 sk,e=.returned (.iface 168 v5)/\SL w5 80 3 v5 (sk.map ke)/\(∀z,v5.ownBlock=some z->w.heap.size<=z)/\F2 (KR w5 (fun z=>A z\/w.heap.size<=z) h) (yL F k (h+1) ks) sk/\y6 [] w w5:=by
 obtain⟨q,M,Z,EO,lQ,p⟩:=Ym hF h f ks hw kq hk (fun _=>lF);have V:=((yN h f ks).1 hw).2;have o:=(yO h ks).1 kq q Z;have K:qq ks k<ks.length:=(ae.1 M).1;have j:(xs.map ke).length=ks.length:=by rw[aj,hf.1]
 have S:Hid (Calls _ _ _ _ _):=Ro h A v xs ks k w hl hf V (by omega);obtain⟨y,N,hr⟩:=hf.get M;have R:Hid (∀W,y6 [] w W->_):=fun W C=>Vz v (xs.map ke) W (hl.kept C) (L4 (gO hf)) (by omega);have zb:Hid (∀W,y6 [] w W->_):=fun W C=>IH W A q.1 q.2 y.2 (ND.k hr.2 C) (fun z hz=>bz (fD z hz) C.size) (V.all q Z) o.2 EO (fun _=>by have:=o.1.1;omega) o.1.2 (hc.k C) (by rw[ZQ k h ks q M]at hQ;exact hQ);obtain⟨g,D,cp,b,ev,H,hc1,hc2,hc3,dW⟩:=hl.at_ (by omega);rw[j]at ev;have G:=(dW (qq ks k) (ke y) (by rw[aA,N];rfl)).2;have kO:Hid (∀W,y6 [] w W->W.cell? ⟨g,D+qq ks k*3+2,none⟩=some y.2):=fun W C=>by rw[aY _ _ _ _ _ _ (C.get H (by simp))];exact G 2 _ rfl
 have HT:Hid (∀E l r a c d b (O:Value) n',n'=yL F k h q.2->y6 [] w E->y6 [] E l->y6 [] l r->E.heap.size<=c->Rw l c 80 b->ks.length<=d->d<=maxLen->b.length=d*3->b.take (ks.length*3)=fl (xs.map ke)->ND r (fun z=>A z\/l.heap.size<=z) h n' a->O=.slice (some ⟨c,0,none⟩) ks.length d->_):=fun E l r a c d b O n' en k1 k2 k3 hB H T c2 U x hn hv=>Q78 hf fD M N (by omega) (by rw[en];exact lQ) k1 k2 k3 hB H T c2 U x hn hv;have HR:Hid _:=p;have tM:∀W B vl,OW W B 80 3 vl (xs.map ke)->∃g cap b,vl=.slice (some ⟨g,0,none⟩) ks.length cap/\B<=g/\Rw W g 80 b/\ks.length<=cap/\cap<=maxLen/\b.length=cap*3/\b.take (ks.length*3)=fl (xs.map ke):=by
  intro W B vl ho;have:=ho.open (by omega);rw[j]at this;exact this
 have HO:Hid _:=tM;have rf:∀(W:World) (c:Nat) (d:Nat) (b:List Value),Rw W c 80 b->b.take (ks.length*3)=fl (xs.map ke)->W.cell? ⟨c,qq ks k*3+2,none⟩=some y.2:=by
  intro W c d b H x;have:=Nt (L4 (gO hf)).wd (qq ks k) (ke y) (by rw[aA,N];rfl) 2 y.2 rfl;rw[<-x,aD,if_pos (by omega)]at this;rw[aY _ _ _ _ _ _ H]
  simpa using this
 have P:Hid _:=rf;subst ev;have lJ:ks.length<=1000:=by omega
 generalize qq ks k=i at*;generalize ks.length=m at*;clear G dW M Z EO lQ p V o j N hr hw kq hk lF hsz hc hl hf tM rf hQ;go_enter func251,ntmps251;go_wp2_with(first|(go_at_call 262;refine S.out.mono ?_;rintro e E⟨rfl,n⟩)|(go_at_call 263;refine(R.out _ n).mono ?_;rintro e l⟨O,rfl,L,u⟩;obtain⟨c,d,Y,l6,lq,I,fO,fA,fF,rh⟩:=HO.out l _ O L;obtain⟨fn,vv,⟨t,ex,hm,he⟩,eo⟩:=zb.out l (n.trans u);have T:=kO.out l (n.trans u);rw[ex]at T;subst l6;have s:Hid (Calls _ _ _ _ _):=eo;clear eo L;have EP:Hid _:=rh;clear rh)|(refine ya rfl _ _ (yc 168 (.tmp 16) (.tmp 17) rfl g D m cp i 3 rfl rfl 80 underlying168 QG K (D+i*3) rfl) ?_)|(go_at_fn fn;refine s.out.mono ?_;rintro e r⟨a,rfl,X,J⟩;have iJ:Rw r c 80 Y:=I.kept J (by simp);have U:=P.out r c d Y iJ EP.out;rw[ex]at U;have fz:r.frozen? ⟨c,i*3+2,none⟩=false:=ax _ _ _ _ _ iJ;obtain⟨ta,va,ea⟩:=X.iface;have Hx:Hid _:=X;clear X;subst ea)|(refine ya rfl _ _ (yc 168 (.tmp 14) (.tmp 15) rfl c 0 m d i 3 rfl rfl 80 underlying168 QG K (i*3) (by omega)) ?_)|(go_at_call 264;refine(HT.out E l r _ c d Y _ _ rfl n u J lq I fO fA fF EP.out Hx.out rfl).mono ?_;rintro e w5⟨v5,sk,rfl,AJ,uD,Ce,eD⟩;obtain⟨p5,c5,AK⟩:=AJ.shape;rw[aj]at AK;subst AK))
 go_ret;exact⟨_,sk,rfl,AJ,uD,by rw[HR.out];exact Ce,eD⟩
theorem S3{F:List Pr->List Pr}{Q:List Pr->Prop}{k:ByteArray}{fid:FuncId}{cap:Value}(hF:Zw F k):∀h,Wj F Q k fid cap h
 |0=>by
  intro w A f n x r u l C B D j hc q;obtain⟨v,rfl,g,z⟩:=r;have i:=(Sm.of l (by omega)).2;have m:=YJ hc v n k g l.1 i q;obtain⟨p,c,o⟩:=SL.shape g;subst o;refine⟨_,_,Q74 _ _ _,m.mono ?_⟩;rintro e I⟨t,rfl,b,d,a⟩;exact⟨_,rfl,⟨t,rfl,b,fun y s=>(d y s).imp (z y) id⟩,a⟩
 |h+1=>by
  intro w A f n x r u l C B D j hc q;obtain⟨v,J,rfl,g,z,E⟩:=gg.1 r;have m:=Q7a hF h (S3 hF h) g E u l C B (D (by omega)) j hc q;obtain⟨p,c,o⟩:=SL.shape g;subst o;refine⟨_,_,Q75 _ _ _,m.mono ?_⟩;rintro e I⟨t,G,rfl,b,d,H,a⟩;exact⟨_,rfl,gg.2 ⟨t,G,rfl,b,fun y s=>Or.inr (d y s),H⟩,a⟩
def j0:(h:Nat)->Nd h->List Nat
 |0,_=> []
 |h+1,ks=>List.flatMap (fun k:Kid h=>k.3::j0 h k.2) ks
def gD(h:Nat)(k:Kid h):List Nat:=k.3::j0 h k.2
theorem Pa(h:Nat)(ks:List (Kid h)):j0 (h+1) ks=ks.flatMap (gD h):=rfl
theorem Mj:∀(h:Nat) (n:Nd h),(j0 h n).length+1=j5 h n
 |0,_=>rfl
 |h+1,b=>by
  have:∀L:List (Kid h),(L.flatMap (gD h)).length=(L.map fun k=>j5 h k.2).sum:=by
   intro L
   induction L with
   |nil=>rfl
   |cons a r ih=>
    have:=Mj h a.2;rw[bF,ai,ih,bn,bE,gD,aB];omega
  have e:=this b;show(List.flatMap (gD h) b).length+1=1+(List.map (fun k:Kid h=>j5 h k.2) b).sum;omega
structure Vis(fid:FuncId)(c:Value)(S:List Nat)(I:List Nat->World->Prop)(Ok:List Nat->Prop)(A:Nat->Prop)(w:World):Prop where
 en:∀(args:Array Value) (W:World),(callFunc fid args).run prog W=.ok (.enter fid args) W
 call:∀(seen:List Nat) (W:World) (f:ByteArray) (p:Nat) (x:Value),Ok (seen++ [p])->I seen W->Calls prog fid #[.agg #[.string f,.int .i64 p,x],c] W fun e W'=>e=.returned (.tuple #[])/\I (seen++ [p]) W'/\y6 S W W'
 fresh:∀(seen:List Nat) (W W':World),I seen W->y6 [] W W'->I seen W'
 k:∀(seen:List Nat) (W:World),I seen W->y6 S w W
 lt:∀y∈S,y<w.heap.size
 no:∀y∈S,¬A y
 pre:∀l m:List Nat,Ok (l++m)->Ok l
theorem Q7e(p:Option Addr)(n c:Nat):jj "store/tree.kids" (.iface 116 (.slice p n c)) 237 (.slice p n c):=⟨_,rfl,fun _=>by kernel_rfl,fun _ _=>by kernel_rfl⟩
theorem Q7f(p:Option Addr)(n c:Nat):jj "store/tree.kids" (.iface 168 (.slice p n c)) 256 (.slice p n c):=⟨_,rfl,fun _=>by kernel_rfl,fun _ _=>by kernel_rfl⟩
theorem SJ(v:Value)(w:World):Calls prog 237 #[v] w fun e w'=>e=.returned (.slice none 0 0)/\w'=w:=by
 go_enter func237,ntmps237;go_wp2;go_ret;exact⟨rfl,rfl⟩
theorem PN(p:Option Addr)(n c:Nat)(w:World):Calls prog 256 #[.slice p n c] w fun e w'=>e=.returned (.slice p n c)/\w'=w:=by
 go_enter func256,ntmps256;go_wp2;go_ret;exact⟨rfl,rfl⟩
def Oe(S:List Nat)(I:List Nat->World->Prop)(l:List Nat)(W:World)(e:Ending)(W':World):Prop:=e=.returned (.tuple #[])/\I l W'/\y6 S W W'
def Na(fid:FuncId)(c:Value)(S:List Nat)(I:List Nat->World->Prop)(Ok:List Nat->Prop)(A:Nat->Prop)(w:World)(h:Nat):Prop:=
 ∀(seen:List Nat) (f:ByteArray) (p:Nat) (n:Nd h) (x:Value) (W:World),ND w A h n x->(∀z,A z->z<w.heap.size)->j5 h n<=1000000->Ok (seen++(p::j0 h n))->I seen W->Calls prog 126 #[.agg #[.string f,.int .i64 p,x],.func (.func fid) #[] #[c]] W (Oe S I (seen++(p::j0 h n)) W)
variable {I:List Nat->World->Prop}{Ok:List Nat->Prop}
theorem Xl{c:Value}{S:List Nat}(hv:Vis fid c S I Ok A w):Na fid c S I Ok A w 0:=by
 intro seen f p n x W B _ _ d h;obtain⟨v,rfl,j,_⟩:=B;obtain⟨g,a,y⟩:=SL.shape j;subst y;obtain⟨t,z,l,G⟩:=Q7e g (List.map pe n).length a
 cases z
 have H:=hv.en;have o:=(y6.refl [] W).alloc (.cells #[.string f,.int .i64 p,.iface 116 (.slice g (List.map pe n).length a)] 80);have C:=af W (.cells #[.string f,.int .i64 p,.iface 116 (.slice g (List.map pe n).length a)] 80);have s:Hid (Calls _ _ _ _ _):=hv.call seen _ f p (.iface 116 (.slice g (List.map pe n).length a)) d (hv.fresh _ _ _ h o);have E:=(hv.k _ _ h).size;have i:W.heap.size∉S:=fun l=>by have:=hv.lt _ l;omega
 have u:Hid (seen++(p::j0 0 n)=seen++ [p]):=rfl;generalize(List.map pe n).length=m at*;clear hv h j d;go_enter func126,ntmps126;go_wp2_with(first|(go_at_fn fid;refine s.out.mono ?_;rintro e D⟨rfl,q,b⟩;have r:=b.get C i;have F:D.cell? ⟨W.heap.size,2,none⟩=some (.iface 116 (.slice g m a)):=y7 r rfl)|(go_at_call 237;refine(SJ _ _).mono ?_;rintro e J⟨rfl,rfl⟩))
 refine dU 1 ?_;rw[dh];go_wp2;go_end0;exact⟨rfl,by rw[u.out];exact q,(o.mono (by simp)).trans b⟩
theorem R5{a:Nat}:∀{l:List Nat},a∈l->a<=l.sum
 | [],h=>by cases h
 |b::r,h=>by
  rw[bE];rcases an.1 h with rfl|h
  ·omega
  ·have:=R5 h;omega
def WlI(S:List Nat)(I:List Nat->World->Prop)(h:Nat)(seen:List Nat)(p:Nat)(ks:List (Kid h))(W:World)(i:Value)(wr:World):Prop:=
 ∃j:Nat,j<=ks.length/\i=.int .i64 j/\I (seen++(p::(ks.take j).flatMap (gD h))) wr/\y6 S W wr
theorem Q7m{c:Value}{S:List Nat}(hv:Vis fid c S I Ok A w)(h:Nat)(IH:Na fid c S I Ok A w h)(seen:List Nat)(f:ByteArray)(p:Nat)(ks:List (Kid h))(x:Value)(W:World)(hx:ND w A (h+1) ks x)(fD:∀z,A z->z<w.heap.size)(lD:1+(ks.map fun k=>j5 h k.2).sum<=1000000)(hok:Ok (seen++(p::ks.flatMap (gD h))))(hI:I seen W):
  Calls prog 126 #[.agg #[.string f,.int .i64 p,x],.func (.func fid) #[] #[c]] W (Oe S I (seen++(p::ks.flatMap (gD h))) W):=by
 obtain⟨v,xs,rfl,Z,hA,V⟩:=gg.1 hx;have n:(xs.map ke).length=ks.length:=by rw[aj,V.1]
 obtain⟨E,C,ev⟩:=Z.shape;rw[n]at ev;subst ev;have s:∀(j:Nat) (q:Kid h),ks[j]?=some q->j5 h q.2<=1000000:=by
  intro j q o;have U:j5 h q.2∈ks.map fun k=>j5 h k.2:=bg.2 ⟨q,ah o,rfl⟩;have h3:=R5 U;omega
 have hkl:ks.length<=1000000:=by
  have U:∀L:List (Kid h),L.length<=(L.map fun k=>j5 h k.2).sum:=by
   intro L
   induction L with
   |nil=>simp
   |cons a r ih=>
    have:=Mj h a.2;rw[aB,bn,bE];omega
  have:=U ks;omega
 obtain⟨t,ex,D,he⟩:=Q7f E (ks.length) C
 cases ex
 have uR:=hv.en;have k1:=(y6.refl [] W).alloc (.cells #[.string f,.int .i64 p,.iface 168 (.slice E (ks.length) C)] 80);have n1:=af W (.cells #[.string f,.int .i64 p,.iface 168 (.slice E (ks.length) C)] 80);have HC:Hid (Calls _ _ _ _ _):=hv.call seen _ f p (.iface 168 (.slice E (ks.length) C)) (hv.pre _ (ks.flatMap (gD h)) (by rw[aG];exact hok)) (hv.fresh _ _ _ hI k1);have ER:=(hv.k _ _ hI).size;have hno:W.heap.size∉S:=fun D=>by have:=hv.lt _ D;omega
 have F:Hid (∀wr j,j<ks.length->(∃l,I l wr)->∃g d q y,E=some ⟨g,d,none⟩/\ks[j]?=some q/\ND w A h q.2 y/\(∃ty vy,y=.iface ty vy)/\(loadVar 80 ⟨g,d+j*3,none⟩).run prog wr=.ok (.agg #[.string q.1,.int .i64 q.3,y]) wr):=by
  intro wr j X hex;obtain⟨l,Hy⟩:=hex;have Hz:=SL.keptS Z (hv.k _ _ Hy) (fun b hb D=>hv.no b D (hA b hb));obtain⟨q,o⟩:∃q,ks[j]?=some q:=⟨_,aa X⟩
  obtain⟨z,hz,M⟩:=V.get o;obtain⟨g,d,cap,cur,e,hg,hc1,hc2,hc3,dW⟩:=Hz.at_ (by rw[n];omega);rw[n]at e
  cases e
  refine⟨g,d,q,z.2,rfl,o,M.2,M.2.iface,?_⟩;have R:=jC (P:=prog) (ty:=80) _ hg (dW j (ke z) (by rw[aA,hz];rfl)) underlying80 QG;rw[<-M.1.1,<-M.1.2];exact R
 have H3:=hv.fresh;have H8:Hid (∀j,Ok (seen++(p::(ks.take j).flatMap (gD h)))):=fun j=>hv.pre _ ((ks.drop j).flatMap (gD h)) (by rw[aG,bD,<-cr,aS];exact hok);have zb:Hid (Na fid c S I Ok A w h):=IH;have HE:Hid (∀j,ks[j]?=none\/∃q,ks[j]?=some q/\seen++(p::(ks.take (j+1)).flatMap (gD h))=(seen++(p::(ks.take j).flatMap (gD h)))++(q.3::j0 h q.2)):=by
  intro j
  cases o:ks[j]? with
  |none=>exact Or.inl rfl
  |some q=>
   refine Or.inr ⟨q,rfl,?_⟩;rw[qe _ j q o,cr];simp[gD]
 have N:Hid (seen++(p::(ks.take 0).flatMap (gD h))=seen++ [p]):=by show _=_;simp
 have O:Hid (seen++(p::(ks.take (ks.length)).flatMap (gD h))=seen++(p::ks.flatMap (gD h))):=by show _=_;rw[bV]
 have G:Hid _:=s;have o4:Hid (∀wr,y6 S W wr->wr.heap.size∉S):=fun wr hk D=>by have:=hv.lt _ D;have:=hk.size;omega
 generalize K:ks.length=m at*;clear hv hI Z V hA hx IH s lD n hok;go_enter func126,ntmps126;go_wp2_with(first|(go_at_fn fid;refine HC.out.mono ?_;rintro e w1⟨rfl,Cf,H⟩;have Cg:=H.get n1 hno;have c1:w1.cell? ⟨W.heap.size,2,none⟩=some (.iface 168 (.slice E m C)):=y7 Cg rfl)|(go_at_call 256;refine(PN _ _ _ _).mono ?_;rintro e w'⟨rfl,rfl⟩))
 go_loopw [13] (fun i wr=>WlI S I h seen p ks W i wr) (fun i _=>m-(intOf i).toNat)
 case atStart=>exact⟨0,ay _,rfl,by rw[N.out];exact Cf,(k1.mono (by simp)).trans H⟩
 case round=>
  obtain⟨j,X,rfl,B,dY⟩:=hrel;rw[K]at X
  by_cases J:j<m
  ·have hlt':(j:Int)<(m:Int):=by omega
   obtain⟨g,d,q,y,T,o,ly,⟨ty,vy,ey⟩,R⟩:=F.out wr j J ⟨_,B⟩;have u:seen++(p::(ks.take (j+1)).flatMap (gD h))=(seen++(p::(ks.take j).flatMap (gD h)))++(q.3::j0 h q.2):=by
    rcases HE.out j with e|⟨q',e,hh⟩
    ·rw[o]at e;cases e
    ·rw[o]at e;cases e;exact hh
   have ES:=G.out j q o;have k3:=(y6.refl [] wr).alloc (.cells #[.string q.1,.int .i64 q.3,y] 80);have Q:Hid (Calls _ _ _ _ _):=zb.out (seen++(p::(ks.take j).flatMap (gD h))) q.1 q.3 q.2 y _ ly fD ES (by rw[<-u];exact H8.out (j+1)) (H3 _ _ _ B k3);rw[<-u]at Q;have KG:Hid _:=B;subst T;subst ey;obtain⟨lx,tN⟩:∃lx,lx=seen++(p::(ks.take (j+1)).flatMap (gD h)):=⟨_,rfl⟩
   rw[<-tN]at Q;have HL:Hid (lx=seen++(p::(ks.take (j+1)).flatMap (gD h))):=tN;clear B ly ES o tN u;go_wp2_with(first|(refine ya rfl _ _ (yc 165 (.tmp 11) (.tmp 13) rfl g d m C j 3 rfl rfl 80 underlying165 QG J (d+j*3) rfl) ?_)|(refine y8 rfl 80 (.tmp 15) rfl ⟨g,d+j*3,none⟩ rfl _ R ?_)|(go_at_call 126;refine Q.out.mono ?_;rintro e w3⟨rfl,np,Y⟩))
   go_roundw
   case rel=>exact⟨j+1,by rw[K];omega,by go_num,by rw[<-HL.out];exact np,dY.trans ((k3.mono (by simp)).trans Y)⟩
   case measure=>simp[intOf];omega
  ·have hge:¬(j:Int)<(m:Int):=by omega
   have ej:j=m:=by omega
   subst ej;rw[O.out]at B;have wI:Hid _:=B;clear B;go_wp2;go_end0;exact⟨rfl,wI.out,dY⟩
theorem V9{fid:FuncId}{c:Value}{S:List Nat}{I:List Nat->World->Prop}{Ok:List Nat->Prop}{A:Nat->Prop}{w:World}(hv:Vis fid c S I Ok A w):∀h,Na fid c S I Ok A w h
 |0=>Xl hv
 |h+1=>fun seen f p n x W e b g a d=>Q7m hv h (V9 hv h) seen f p n x W e b g a d
end Go.Proofs.YtcklgafpgdhnaaaGreatDoor
