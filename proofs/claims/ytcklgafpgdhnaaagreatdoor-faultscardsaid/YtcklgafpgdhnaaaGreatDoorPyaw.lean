import Derived.Test.YtcklgafpgdhnaaaGreatDoorPyau
set_option maxRecDepth 100000
set_option maxHeartbeats 4000000
set_option linter.unusedSimpArgs false
set_option linter.unusedVariables false
set_option linter.unusedSectionVars false
open Go.Proofs.Tryz
namespace Go.Proofs.YtcklgafpgdhnaaaGreatDoor
open Go.RowKit
def KdS(g:Nat)(cur:Array Value)(W:World):Prop:=W.heap[g]?=some (.cells cur 80 (0,0))
theorem VX:333+Made.depth=433:=by kernel_rfl
theorem VH{o:Oper}{a:Act}{w:World}(x:Operand)(nm:String)(y:Operand)(ts:Array TypeId)(ho:o.op=.call {callee:=.invoke x nm,args:=#[y],argTypes:=ts})(t:TypeId)(v:Value)(hx:a.eval x=.iface t v)(vy:Value)(hy:a.eval y=vy)(f:FuncId)
  (hm:(Go.method 433 t v nm).run prog w=.ok (f,v) w)(he:(callFunc f #[v,vy]).run prog w=.ok (.enter f #[v,vy]) w):(execOp a.eval o).run prog w=.ok (.enter f #[v,vy]) w:=by
 have b:(program:Sem Program).run prog w=.ok prog w:=rfl;simp[execOp,ho,resolve,invoke,callMethod,hx,hy,b,VX,hm,he]
variable {h B:Nat}{A:Nat->Prop}{v:Value}{xs:List KE}
theorem Q6X{ks:List (Kid h)}{w:World}(ho:OW w B 80 3 v (xs.map ke))(hB:B<=w.heap.size)(hf:F2 (KR w A h) ks xs)(hA:∀y,A y->v.ownBlock≠some y)(hkl:ks.length<=1000)
  (hl:LJ h ks (0)){a:Kid h}(ha:ks[0]?=some a)(hs:yq h a.2<40):
  Calls prog 264 #[v,.int .i64 ((0:Nat):Int)] w (MC B (fun y=>A y\/w.heap.size<=y) v (qA h ks (0)) w):=by
 obtain⟨x,y,C,M,x8,uI,o⟩:=UR hl ha hs;have sc:x=a:=by rw[show(0:Nat)-1=0 from rfl,ha]at C;cases C;rfl
 subst sc;simp only[Nat.zero_sub,bL]at C M o;have hlt:=hl.lt;have htwo:=hl.two;have wF:=hl.kw.all x (ah C);have wG:=hl.kw.all y (ah M);have uQ:=NQ h x.2 y.2;obtain⟨X,V,N⟩:=hf.get C;obtain⟨Y,hY,tK⟩:=hf.get M;obtain⟨f2,D,⟨t2,T,uP,rR⟩,r⟩:=Uu N.2 tK.2 (Sm.of wF (by omega)) (Sm.of wG (by omega));obtain⟨ty,vy,U⟩:=tK.2.iface;obtain⟨f1,v1,⟨t1,e1,mu,iF⟩,G⟩:=ZR N.2 (Sm.of wF (by omega));rw[T]at e1
 cases e1
 have hln:(xs.map ke).length=ks.length:=by rw[aj,hf.1]
 obtain⟨g,b,n,k,ev,hg,hc3,pU,o3,dW⟩:=ho.sl.at_ (by omega);rw[hln]at ev;have d:∀(W:World),W.heap[g]?=some (.cells k 80 (0,0))->∀(j:Nat) (Z:KE),xs[j]?=some Z->∀p,p=b+j*3->W.cell? ⟨g,p,none⟩=some (.string Z.1)/\W.cell? ⟨g,p+2,none⟩=some Z.2:=by
  intro W c j Z hZ p hp;have:=dW j (ke Z) (by rw[aA,hZ];rfl);subst hp;exact⟨by rw[aY _ _ _ _ _ _ c];exact this.2 0 _ rfl,by rw[aY _ _ _ _ _ _ c];exact this.2 2 _ rfl⟩
 have HX:Hid (∀W:World,W.heap[g]?=some (.cells k 80 (0,0))->W.cell? ⟨g,b+2,none⟩=some (.iface t2 D)):=fun W c=>by rw[<-T];exact(d W c _ X V (b) (by omega)).2
 have Q:Hid (∀W:World,W.heap[g]?=some (.cells k 80 (0,0))->W.cell? ⟨g,b,none⟩=some (.string x.1)):=fun W c=>by rw[<-N.1.1];exact(d W c _ X V (b) (by omega)).1
 have HY:Hid (∀W:World,W.heap[g]?=some (.cells k 80 (0,0))->W.cell? ⟨g,b+3+2,none⟩=some (.iface ty vy)):=fun W c=>by rw[<-U];exact(d W c _ Y hY (b+3) (by omega)).2
 have c0:=HX.out w hg;rw[U]at r;have E:Hid (∀W R u,y6 [] w R->y6 [] R W->ND W (fun y=>A y\/w.heap.size<=y) h (Q4 h x.2 y.2) u->_):=fun W R u _ _ hn=>NM (f:=x.1) hn x8 uI;have pY:Hid (∀W F K z,y6 [] w W->SL W 80 3 (.slice (some ⟨F,0,none⟩) z.length K) (z.map ke)->F2 (KR W (fun y=>A y\/w.heap.size<=y) h) (qN h x.1 (Q4 h x.2 y.2)) z->w.heap.size<=F->_):=fun W F K z c hv ik mT=>Rg ho hB hf hA hkl c (i:=0) (j:=0+2) (by omega) (by omega) hv ik mT (Oj h x.1 _) (0) (0+2) (by omega) (by omega);rw[o];have lO:Hid (∀W,y6 [] w W->_):=G;have O:Hid (∀W,y6 [] w W->_):=r;have hge:((yq h x.2:Nat):Int)<40:=by omega
 have hib:0<=1000:=by omega
 have q:0<ks.length:=by omega
 have I:0+1<ks.length:=by omega
 subst ev;generalize mw:yq h x.2=S at*;generalize ks.length=m at*;clear dW G r wF wG hl V hY N tK hf ho hA o ha C M uQ x8 uI hs mw d T U;go_enter func264,ntmps264;go_wp2_with(first|(refine ya rfl _ _ (yc 168 (.tmp 7) (.tmp 8) rfl g b m n (0) 3 rfl rfl 80 underlying168 QG hlt (b) (by omega)) ?_)|(go_at_fn f1;refine(lO.out _ (y6.refl _ _)).mono ?_;rintro e w1⟨rfl,s⟩))
 have l:KdS g k w1.drew:=s.get hg (by simp);refine yo (KdS g k) (by kernel_rfl) ?_;refine uh 0 (.slice (some ⟨g,b,none⟩) m n) rfl (fun W c=>by rfl) l ?_;refine uh 1 (.int .i64 (0)) rfl (fun W c=>by rfl) l ?_;refine uh 2 (.pointer (some ⟨g,b,none⟩)) rfl (fun W c=>yc 168 (.tmp 22) (.tmp 23) rfl g b m n (0) 3 rfl rfl 80 underlying168 QG q (b) (by omega)) l ?_;refine uh 3 (.pointer (some ⟨g,b+2,none⟩)) rfl (fun W c=>yx 80 (.tmp 24) 2 rfl g (b) rfl 2 (by rfl)) l ?_;refine uh 4 (.iface t2 D) rfl (fun W c=>y9 78 (.tmp 25) rfl ⟨g,b+2,none⟩ rfl _ (yh underlying78 rfl (HX.out W c))) l ?_;refine uh 5 (.slice (some ⟨g,b,none⟩) m n) rfl (fun W c=>by rfl) l ?_;refine uh 6 (.int .i64 (0)) rfl (fun W c=>by rfl) l ?_;refine uh 7 (.int .i64 ((0+1:Nat):Int)) rfl (fun W c=>gC (.tmp 28) (.const (.int .i64 1)) rfl (0) 1 rfl rfl (by omega)) l ?_;refine uh 8 (.pointer (some ⟨g,b+3,none⟩)) rfl (fun W c=>yc 168 (.tmp 27) (.tmp 29) rfl g b m n (0+1) 3 rfl rfl 80 underlying168 QG I (b+3) (by omega)) l ?_;refine uh 9 (.pointer (some ⟨g,b+3+2,none⟩)) rfl (fun W c=>yx 80 (.tmp 30) 2 rfl g (b+3) rfl 2 (by rfl)) l ?_;refine uh 10 (.iface ty vy) rfl (fun W c=>y9 78 (.tmp 31) rfl ⟨g,b+3+2,none⟩ rfl _ (yh underlying78 rfl (HY.out W c))) l ?_;refine uh 11 (.iface t2 D) rfl (fun W c=>by rfl) l ?_;refine uh 12 (.iface t2 D) rfl (fun W c=>by rfl) l ?_;refine yi (i:=13) (by kernel_rfl) (yp rfl (by rfl) f2 #[D,.iface ty vy] (VH (.tmp 34) _ (.tmp 32) _ rfl t2 D rfl _ rfl f2 (uP _) (rR _ _)) _ (O.out _ s.drew) ?_);rintro e J⟨u,rfl,t,H⟩;obtain⟨tj,vj,ej⟩:=t.iface;have L:KdS g k J:=H.get l (by simp);refine⟨u,rfl,L,?_⟩;simp only[zz];refine yi (i:=14) (by kernel_rfl) (yM rfl (by rfl) u J rfl ⟨L,?_⟩);simp only[zz];refine aK (by kernel_rfl) ?_ _;have c2:=Q.out J L;have iG:y6 [] w J:=s.drew.trans H;have P:Hid (Calls _ _ _ _ _):=E.out J w u (y6.refl _ _) iG t;clear l L t;subst ej;go_wp2_with(first|(refine ya rfl _ _ (yc 168 (.tmp 39) (.tmp 40) rfl g b m n (0) 3 rfl rfl 80 underlying168 QG q (b) (by omega)) ?_)|(go_at_call 110;refine P.out.mono ?_;rintro e w3⟨F,K,z,rfl,hv1,ik,mT,hk3⟩)|(go_at_call 269;refine(pY.out _ F K z (iG.trans hk3) hv1 ik (av iG.size mT)).mono ?_;rintro e w4⟨v4,AI,rfl,lp,tL,dX⟩))
 go_ret;exact⟨_,_,rfl,lp,tL,dX⟩
theorem Q6Y{ks:List (Kid h)}{w:World}(ho:OW w B 80 3 v (xs.map ke))(hB:B<=w.heap.size)(hf:F2 (KR w A h) ks xs)(hA:∀y,A y->v.ownBlock≠some y)(hkl:ks.length<=1000)
  {ip:Nat}(hl:LJ h ks (ip+1)){a:Kid h}(ha:ks[ip+1]?=some a)(hs:yq h a.2<40):
  Calls prog 264 #[v,.int .i64 ((ip+1:Nat):Int)] w (MC B (fun y=>A y\/w.heap.size<=y) v (qA h ks (ip+1)) w):=by
 obtain⟨x,y,N,C,x8,uI,o⟩:=UR hl ha hs;simp only[dJ]at N C o;have xV:y=a:=by rw[ha]at C;cases C;rfl
 subst xV;have hlt:=hl.lt;have htwo:=hl.two;have wF:=hl.kw.all x (ah N);have wG:=hl.kw.all y (ah C);have uQ:=NQ h x.2 y.2;obtain⟨X,U,tJ⟩:=hf.get N;obtain⟨Y,hY,O⟩:=hf.get C;obtain⟨f2,D,⟨t2,e2,uP,rR⟩,r⟩:=Uu tJ.2 O.2 (Sm.of wF (by omega)) (Sm.of wG (by omega));obtain⟨ty,vy,M⟩:=O.2.iface;obtain⟨f1,v1,⟨t1,e1,mu,iF⟩,G⟩:=ZR O.2 (Sm.of wG (by omega));rw[M]at e1
 cases e1
 have hln:(xs.map ke).length=ks.length:=by rw[aj,hf.1]
 obtain⟨g,b,n,k,ev,hg,hc3,pU,o3,dW⟩:=ho.sl.at_ (by omega);rw[hln]at ev;have d:∀(W:World),W.heap[g]?=some (.cells k 80 (0,0))->∀(j:Nat) (Z:KE),xs[j]?=some Z->∀p,p=b+j*3->W.cell? ⟨g,p,none⟩=some (.string Z.1)/\W.cell? ⟨g,p+2,none⟩=some Z.2:=by
  intro W c j Z hZ p hp;have:=dW j (ke Z) (by rw[aA,hZ];rfl);subst hp;exact⟨by rw[aY _ _ _ _ _ _ c];exact this.2 0 _ rfl,by rw[aY _ _ _ _ _ _ c];exact this.2 2 _ rfl⟩
 have HX:Hid (∀W:World,W.heap[g]?=some (.cells k 80 (0,0))->W.cell? ⟨g,b+ip*3+2,none⟩=some (.iface t2 D)):=fun W c=>by rw[<-e2];exact(d W c _ X U (b+ip*3) (by omega)).2
 have R:Hid (∀W:World,W.heap[g]?=some (.cells k 80 (0,0))->W.cell? ⟨g,b+ip*3,none⟩=some (.string x.1)):=fun W c=>by rw[<-tJ.1.1];exact(d W c _ X U (b+ip*3) (by omega)).1
 have HY:Hid (∀W:World,W.heap[g]?=some (.cells k 80 (0,0))->W.cell? ⟨g,b+(ip+1)*3+2,none⟩=some (.iface ty vy)):=fun W c=>by rw[<-M];exact(d W c _ Y hY (b+(ip+1)*3) (by omega)).2
 have c0:=HY.out w hg;rw[M]at r;have E:Hid (∀W T u,y6 [] w T->y6 [] T W->ND W (fun y=>A y\/w.heap.size<=y) h (Q4 h x.2 y.2) u->_):=fun W T u _ _ hn=>NM (f:=x.1) hn x8 uI;have pY:Hid (∀W F K z,y6 [] w W->SL W 80 3 (.slice (some ⟨F,0,none⟩) z.length K) (z.map ke)->F2 (KR W (fun y=>A y\/w.heap.size<=y) h) (qN h x.1 (Q4 h x.2 y.2)) z->w.heap.size<=F->_):=fun W F K z c hv ik mT=>Rg ho hB hf hA hkl c (i:=ip) (j:=ip+2) (by omega) (by omega) hv ik mT (Oj h x.1 _) ((ip:Int)) ((ip:Int)+2) (by omega) (by omega);rw[o];have lO:Hid (∀W,y6 [] w W->_):=G;have P:Hid (∀W,y6 [] w W->_):=r;have hge:((yq h y.2:Nat):Int)<40:=by omega
 have hib:ip<=1000:=by omega
 have q:ip<ks.length:=by omega
 have I:ip+1<ks.length:=by omega
 subst ev;generalize mw:yq h y.2=S at*;generalize ks.length=m at*;clear dW G r wF wG hl U hY tJ O hf ho hA o ha N C uQ x8 uI hs mw d e2 M;go_enter func264,ntmps264;go_wp2_with(first|(refine ya rfl _ _ (yc 168 (.tmp 7) (.tmp 8) rfl g b m n (ip+1) 3 rfl rfl 80 underlying168 QG hlt (b+(ip+1)*3) (by omega)) ?_)|(go_at_fn f1;refine(lO.out _ (y6.refl _ _)).mono ?_;rintro e w1⟨rfl,s⟩))
 have l:KdS g k w1.drew:=s.get hg (by simp);refine yo (KdS g k) (by kernel_rfl) ?_;refine uh 0 (.slice (some ⟨g,b,none⟩) m n) rfl (fun W c=>by rfl) l ?_;refine uh 1 (.int .i64 ((ip:Int))) rfl (fun W c=>by rfl) l ?_;refine uh 2 (.pointer (some ⟨g,b+ip*3,none⟩)) rfl (fun W c=>yc 168 (.tmp 22) (.tmp 23) rfl g b m n (ip) 3 rfl rfl 80 underlying168 QG q (b+ip*3) (by omega)) l ?_;refine uh 3 (.pointer (some ⟨g,b+ip*3+2,none⟩)) rfl (fun W c=>yx 80 (.tmp 24) 2 rfl g (b+ip*3) rfl 2 (by rfl)) l ?_;refine uh 4 (.iface t2 D) rfl (fun W c=>y9 78 (.tmp 25) rfl ⟨g,b+ip*3+2,none⟩ rfl _ (yh underlying78 rfl (HX.out W c))) l ?_;refine uh 5 (.slice (some ⟨g,b,none⟩) m n) rfl (fun W c=>by rfl) l ?_;refine uh 6 (.int .i64 ((ip:Int))) rfl (fun W c=>by rfl) l ?_;refine uh 7 (.int .i64 ((ip+1:Nat):Int)) rfl (fun W c=>gC (.tmp 28) (.const (.int .i64 1)) rfl (ip) 1 rfl rfl (by omega)) l ?_;refine uh 8 (.pointer (some ⟨g,b+(ip+1)*3,none⟩)) rfl (fun W c=>yc 168 (.tmp 27) (.tmp 29) rfl g b m n (ip+1) 3 rfl rfl 80 underlying168 QG I (b+(ip+1)*3) (by omega)) l ?_;refine uh 9 (.pointer (some ⟨g,b+(ip+1)*3+2,none⟩)) rfl (fun W c=>yx 80 (.tmp 30) 2 rfl g (b+(ip+1)*3) rfl 2 (by rfl)) l ?_;refine uh 10 (.iface ty vy) rfl (fun W c=>y9 78 (.tmp 31) rfl ⟨g,b+(ip+1)*3+2,none⟩ rfl _ (yh underlying78 rfl (HY.out W c))) l ?_;refine uh 11 (.iface t2 D) rfl (fun W c=>by rfl) l ?_;refine uh 12 (.iface t2 D) rfl (fun W c=>by rfl) l ?_;refine yi (i:=13) (by kernel_rfl) (yp rfl (by rfl) f2 #[D,.iface ty vy] (VH (.tmp 34) _ (.tmp 32) _ rfl t2 D rfl _ rfl f2 (uP _) (rR _ _)) _ (P.out _ s.drew) ?_);rintro e J⟨u,rfl,t,H⟩;obtain⟨tj,vj,ej⟩:=t.iface;have L:KdS g k J:=H.get l (by simp);refine⟨u,rfl,L,?_⟩;simp only[zz];refine yi (i:=14) (by kernel_rfl) (yM rfl (by rfl) u J rfl ⟨L,?_⟩);simp only[zz];refine aK (by kernel_rfl) ?_ _;have c2:=R.out J L;have iG:y6 [] w J:=s.drew.trans H;have Q:Hid (Calls _ _ _ _ _):=E.out J w u (y6.refl _ _) iG t;clear l L t;subst ej;go_wp2_with(first|(refine ya rfl _ _ (yc 168 (.tmp 39) (.tmp 40) rfl g b m n (ip) 3 rfl rfl 80 underlying168 QG q (b+ip*3) (by omega)) ?_)|(go_at_call 110;refine Q.out.mono ?_;rintro e w3⟨F,K,z,rfl,hv1,ik,mT,V⟩)|(go_at_call 269;refine(pY.out _ F K z (iG.trans V) hv1 ik (av iG.size mT)).mono ?_;rintro e w4⟨v4,AI,rfl,lp,tL,dX⟩))
 go_ret;exact⟨_,_,rfl,lp,tL,dX⟩
theorem Q6Z{ks:List (Kid h)}{w:World}(ho:OW w B 80 3 v (xs.map ke))(hB:B<=w.heap.size)(hf:F2 (KR w A h) ks xs)(hA:∀y,A y->v.ownBlock≠some y)(hkl:ks.length<=1000)
  (i:Nat)(hl:LJ h ks i):Calls prog 264 #[v,.int .i64 i] w (MC B (fun y=>A y\/w.heap.size<=y) v (qA h ks i) w):=by
 obtain⟨a,b⟩:∃a,ks[i]?=some a:=⟨_,aa hl.lt⟩
 by_cases c:yq h a.2<40
 ·cases i with
  |zero=>exact Q6X ho hB hf hA hkl hl b c
  |succ d=>exact Q6Y ho hB hf hA hkl hl b c
 ·exact Q6U ho hB hf hA hkl hl b c
variable {F:List Pr->List Pr}
theorem Ym{k:ByteArray}(hF:Zw F k)(h:Nat)(f:ByteArray)(ks:List (Kid h))(hw:WFN (h+1) f ks)(hf:qd (h+1) ks)(hk:ge k f)(lF:0<h+1->22<=yq (h+1) ks):
  ∃a,ks[qq ks k]?=some a/\a∈ks/\ge k a.1/\LJ h (ks.set (qq ks k) ⟨a.1,yL F k h a.2,a.3⟩) (qq ks k)/\yL F k (h+1) ks=qA h (ks.set (qq ks k) ⟨a.1,yL F k h a.2,a.3⟩) (qq ks k):=by
 obtain⟨⟨P,T,S,H⟩,t⟩:=(yN h f ks).1 hw;have u:=(yO h ks).1 hf;obtain⟨A,a,B,g,i,C,J⟩:=Zv f P T S k (by rw[<-H];exact t) hk;rw[<-H]at g i;have z:a∈ks:=by rw[g];simp
 have o:ks[qq ks k]?=some a:=by
  rw[<-i,g];simp
 have y:=u a z;have ih:=Zn hF h a.1 a.2 (t.all a z) y.2 C (fun _=>by have:=y.1.1;omega);have O:ks.set (qq ks k) ⟨a.1,yL F k h a.2,a.3⟩=A++(([⟨a.1,yL F k h a.2,a.3⟩]:List (Kid h))++B):=by
  rw[<-i]
  conv=>lhs;rw[g]
  simp
 have q:=t.ord;rw[g]at q;obtain⟨Q,G,m⟩:=aQ.1 q;obtain⟨_,R,v⟩:=aQ.1 G;have V:∀p∈yJ h A,bl p.1 k=true:=by
  intro p l;obtain⟨c,hc,l⟩:=qb.1 l;exact qF ((m c hc a (by simp)).2 p l) C
 have K:∀p∈yJ h B,bl k p.1=true:=by
  intro p l;obtain⟨c,hc,l⟩:=qb.1 l;exact qF (J c hc) (WFN.keys (t.all c (by rw[g];simp[hc])) p l).1
 have r:∀p∈yV h (yL F k h a.2),p∈yV h a.2\/p.1=k:=by
  intro p l;rw[ih.flat]at l;rcases hF.mem _ p l with e|e
  ·exact Or.inl e
  ·exact Or.inr e.1
 have D:KW h (A++(([⟨a.1,yL F k h a.2,a.3⟩]:List (Kid h))++B)):=by
  refine⟨aQ.2 ⟨Q,aQ.2 ⟨by simp,R,?_⟩,?_⟩,?_⟩
  ·intro x d b n;simp at d;subst d;have I:=v a (by simp) b n;refine⟨I.1,fun p l=> ?_⟩;rcases r p l with e|e
   ·exact I.2 p e
   ·rw[e];exact J b n
  ·intro x d b n;rcases ar.1 n with n|n
   ·simp at n;subst n;exact m x d a (by simp)
   ·exact m x d b (az _ n)
  ·intro x d;rcases ar.1 d with d|d
   ·exact t.all x (by rw[g];simp[d])
   rcases ar.1 d with d|d
   ·simp at d;subst d;exact ih.wf
   ·exact t.all x (by rw[g];simp[d])
 have N:yq (h+1) ks=11*ks.length:=rfl;have L:ks.length=A.length+(1+B.length):=by rw[g];simp;omega
 have U:=lF (by omega);have s:LJ h (A++(([⟨a.1,yL F k h a.2,a.3⟩]:List (Kid h))++B)) (qq ks k):=by
  rw[<-i];refine⟨D,?_,by simp,?_,?_,?_⟩
  ·simp only[ai,aB,bO];omega
  ·intro x d;rcases ar.1 d with d|d
   ·exact(u x (by rw[g];simp[d])).2
   rcases ar.1 d with d|d
   ·simp at d;subst d;exact ih.full
   ·exact(u x (by rw[g];simp[d])).2
  ·intro j x w M;have:x∈A\/x∈B:=by
    rcases bG j A.length with E|E
    ·rw[bq E]at w;exact Or.inl (ah w)
    ·rw[bh E,bh (by simp;omega)]at w;exact Or.inr (ah w)
   rcases this with d|d
   ·exact(u x (by rw[g];simp[d])).1
   ·exact(u x (by rw[g];simp[d])).1
  ·intro x d;simp at d;subst d;have:=ih.hi;have:=ih.lo;have:=y.1.1;have:=y.1.2;exact⟨by show 18<=yq h (yL F k h a.2);omega,by show yq h (yL F k h a.2)<=144;omega⟩
 refine⟨a,o,z,C,by rw[O];exact s,?_⟩;show chgK h (yL F k h) k ks=_;unfold chgK;rw[o]
theorem Q74(p:Option Addr)(n c:Nat):jj "store/tree.changed" (.iface 116 (.slice p n c)) 232 (.slice p n c):=⟨_,rfl,fun _=>by kernel_rfl,fun _ _=>by kernel_rfl⟩
theorem Q75(p:Option Addr)(n c:Nat):jj "store/tree.changed" (.iface 168 (.slice p n c)) 251 (.slice p n c):=⟨_,rfl,fun _=>by kernel_rfl,fun _ _=>by kernel_rfl⟩
structure Cl(F:List Pr->List Pr)(Q:List Pr->Prop)(fid:FuncId)(cap:Value)(w:World):Prop where
 en:∀(args:Array Value) (W:World),(callFunc fid args).run prog W=.ok (.enter fid args) W
 call:∀W v l,y6 [] w W->LF W v l->Srt l->l.length<=1000->Q l->Calls prog fid #[v,cap] W (Mb v (F l) W)
theorem Cl.k{Q:List Pr->Prop}{fid:FuncId}{cap:Value}{w W:World}(h:Cl F Q fid cap w)(k:y6 [] w W):Cl F Q fid cap W:=⟨h.en,fun a v l b=>h.call a v l (k.trans b)⟩
theorem YJ{Q:List Pr->Prop}{fid:FuncId}{cap:Value}{w:World}(hc:Cl F Q fid cap w)(v:Value)(l:List Pr)(k:ByteArray)(h:LF w v l)(hs:Srt l)(hl:l.length<=1000)(hq:Q l):
  Calls prog 232 #[v,.string k,.func (.func fid) #[] #[cap]] w fun e w'=>∃v',e=.returned (.iface 116 v')/\LF w' v' (F l)/\(∀y,v'.ownBlock=some y->v.ownBlock=some y\/w.heap.size<=y)/\y6 [] w w':=by
 have g:Hid (Calls _ _ _ _ _):=hc.call w v l (y6.refl _ _) h hs hl hq;have m:=hc.en;obtain⟨p,c,d⟩:=SL.shape h;rw[aj]at d;subst d;clear hc h hs hl hq;go_enter func232,ntmps232;go_wp2_with(first|(go_at_fn fid;refine g.out.mono ?_;rintro e q⟨o,rfl,a,i,b⟩;obtain⟨n,j,f⟩:=SL.shape a;rw[aj]at f;subst f))
 go_ret;exact⟨_,rfl,a,i,b⟩
end Go.Proofs.YtcklgafpgdhnaaaGreatDoor
