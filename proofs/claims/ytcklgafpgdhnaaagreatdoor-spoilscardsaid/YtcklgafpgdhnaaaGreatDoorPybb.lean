import Derived.Test.YtcklgafpgdhnaaaGreatDoorPyba
set_option maxRecDepth 100000
set_option maxHeartbeats 4000000
set_option linter.unusedSimpArgs false
set_option linter.unusedVariables false
set_option linter.unusedSectionVars false
open Go.Proofs.Tryz
namespace Go.Proofs.YtcklgafpgdhnaaaGreatDoor
open Go.RowKit
theorem jZ{P:Program}{o:Oper}{a:Act}{w:World}(t:TypeId)(x:Operand)(ho:o.op=.box t x)(v:Value)(hx:a.eval x=v)(hv:v.cells=#[v]):
  (execOp a.eval o).run P w=.ok (.value (.pointer (some ⟨w.heap.size,0,none⟩))) (w.alloc (.cells #[v] t)):=by
 simp[execOp,ho,hx,Instr.box,newVar,newRow,hv]
theorem VV:(prog.info? 78).map (·.size)=some 1:=by kernel_rfl
theorem UC(p:Option Addr)(n c:Nat):jj "store/tree.with" (.iface 116 (.slice p n c)) 241 (.slice p n c):=⟨_,rfl,fun _=>by kernel_rfl,fun _ _=>by kernel_rfl⟩
theorem WS(p:Option Addr)(n c:Nat):jj "store/tree.with" (.iface 168 (.slice p n c)) 260 (.slice p n c):=⟨_,rfl,fun _=>by kernel_rfl,fun _ _=>by kernel_rfl⟩
theorem UD(p:Option Addr)(n c:Nat)(g:Value)(w:World):Calls prog 241 #[.slice p n c,g] w fun e w'=>e=.returned (.iface 116 (.slice p n c))/\w'=w:=by
 go_enter func241,ntmps241;go_wp2;go_ret;exact⟨rfl,rfl⟩
theorem Q9B(args:Array Value)(w:World):(callFunc 150 args).run prog w=.ok (.enter 150 args) w:=qy func150 (by kernel_rfl) (by kernel_rfl) args w
variable {I:Ls->World->Prop}
theorem Wl{fid:FuncId}{c1 c2:Value}{N:Nat}{J:Bool×Nat->Ending->World->Prop}{B:Nat}(hL:Lyr fid c1 c2 N I J B){h:Nat}(s:Ls)(k:Kid h)(x:Value)(A:Nat->Prop)(w:World)(hx:ND w A h k.2 x)(hI:I s w)(hne:k.3≠0):Calls prog 116 #[.agg #[.string k.1,.int .i64 (k.3:Nat),x],lfv fid c1 c2] w (LdR N I J h s k A w):=by
 have c:x.oneCell'=true:=by obtain⟨t,v,rfl⟩:=hx.iface;rfl
 have f:¬(k.3:Int)=0:=by omega
 have p:Hid (ND w A h k.2 x):=hx;have o:Hid (I s w):=hI;clear hx hI;go_enter func116,ntmps116;go_wp2_with(first|(refine yw rfl _ _ (j8 80 (.tmp 0) rfl #[.string k.1,.int .i64 (k.3:Nat),x] rfl) ?_;intro L r D a;have q:Hid _:=a;clear a)|(refine yw rfl _ _ (jZ 136 (.tmp 1) rfl (lfv fid c1 c2) rfl rfl) ?_;intro m H j d;have C:Hid _:=d;clear d)|(refine yj rfl 4 rfl 80 rfl _ (zkid _) ?_;intro F u l e;have G:Hid _:=e;clear e;have i:=l.get (j.get r (by simp)) (by simp);have K:F.cell? ⟨w.heap.size,1,none⟩=some (.int .i64 (k.3:Nat)):=y7 i rfl)|(refine aW rfl 80 (.tmp 2) rfl w.heap.size rfl 80 #[.string k.1,.int .i64 (k.3:Nat),x] (0,0) _ i underlying80 rfl stk ?_)|(refine ye rfl 80 (.tmp 4) (.tmp 19) rfl m.heap.size #[.string k.1,.int .i64 (k.3:Nat),x] rfl rfl 80 _ u stk rfl (qf (jb _ _ c)) ?_;intro n z E))
 refine aR (aI rfl _ n m.heap.size 80 _ (0,0) _ rfl z underlying80 rfl stk) rfl ?_;have b:y6 [] w n:=((D.trans j).trans l).trans2 E (by intro y g;simp at g;subst g;have:=q.out;have:=C.out;exact Or.inr (by omega));refine⟨Or.inl ⟨x,?_,?_,?_⟩,KA.k0 b⟩
 ·rw[Q6 hne]
 ·rw[Q6 hne];exact ND.kept b (by simp) (fun _ h=>Or.inl h) p.out
 ·rw[Q6 hne];exact hL.fresh _ _ _ [] o.out b (by simp)
def LvI(I:Ls->World->Prop)(lf:Value)(r:Nat)(s:Ls)(W:World):Prop:=I s W/\W.heap[r]?=some (.cells #[lf] 136 (0,0))
theorem Q9D{fid:FuncId}{c1 c2:Value}{N:Nat}{J:Bool×Nat->Ending->World->Prop}{B:Nat}(hL:Lyr fid c1 c2 N I J B){h:Nat}(IH:LdOk fid c1 c2 N I J B h)(r:Nat):
  Cgr (α:=Kid h) (β:=Kid h) (σ:=Ls) 150 (.pointer (some ⟨r,0,none⟩)) (fun k s=>some (qr h k s)) (fun A k e W=>KR W A h k e/\CkK h k) (fun A k e W=>KR W A h k e) (LvI I (lfv fid c1 c2) r) J (fun b o=>∀q,o=some q->Nb0 N b q) B where
 en:=Q9B
 call:=by
  intro s k e A w g c hB x;obtain⟨⟨⟨Q,R⟩,m⟩,hc⟩:=c;obtain⟨fr,p,pl⟩:=e;simp only at Q R m⊢;subst Q R;have hx1:p.oneCell'=true:=by obtain⟨t,v,rfl⟩:=m.iface;rfl
  have HI:Hid (I s w):=g.1;have hr:=g.2;have HC:Hid (∀W,y6 [] w W->Calls prog 116 #[.agg #[.string k.1,.int .i64 (k.3:Nat),p],lfv fid c1 c2] W (LdR N I J h s k A W)):=fun W C=>IH s k p A W (ND.kept C (by simp) (fun _ h=>h) m) (fun y d=>bz (x y d) C.size) hc (hL.fresh _ _ _ [] g.1 C (by simp)) (av hB C.size);have oD:=m.iface;clear g m;go_enter func150,ntmps150;go_wp2_with(first|(refine yw rfl _ _ (j8 80 (.tmp 0) rfl #[.string k.1,.int .i64 (k.3:Nat),p] rfl) ?_;intro L n1 D i;have hU:Hid _:=i;clear i)|(refine yj rfl 3 rfl 80 rfl _ (zkid _) ?_;intro Y n2 u F;have nO:Hid _:=F;clear F;have m2:=u.get n1 (by simp);have X:=u.get (D.get hr (by simp)) (by simp);have IK:Y.cell? ⟨r,0,none⟩=some (lfv fid c1 c2):=y7 X rfl)|(refine aW rfl 80 (.tmp 2) rfl w.heap.size rfl 80 #[.string k.1,.int .i64 (k.3:Nat),p] (0,0) _ m2 underlying80 rfl stk ?_))
  refine(HC.out Y (D.trans u)).mono ?_;rintro e w3⟨⟨M,rfl,G,V⟩|⟨b,T,hb⟩,n⟩
  ·have Z:M.oneCell'=true:=by obtain⟨t,v,rfl⟩:=G.iface;rfl
   have K:=n.row _ _ _ _ trivial (by decide) n2;have H:=n.row _ _ _ _ trivial (by decide) X;have O:Hid (_/\_):=⟨G,V⟩
   clear G V;go_wp2_with(refine ye rfl 80 (.tmp 3) (.tmp 6) rfl L.heap.size #[.string k.1,.int .i64 ((qr h k s).1.3:Nat),M] rfl rfl 80 _ K stk rfl (qf (jb _ _ Z)) ?_;intro w4 n4 E)
   refine aR (aI rfl _ w4 L.heap.size 80 _ (0,0) _ rfl n4 underlying80 rfl stk) rfl ?_;have hs:=n.size;have i:=hU.out;have F:=nO.out;have IL:(qr h k s).1.1=k.1:=by unfold qr;split<;>rfl
   refine⟨Or.inl ⟨(qr h k s).1,(qr h k s).2,⟨k.1,M,(qr h k s).1.3⟩,rfl,rfl,⟨⟨IL.symm,rfl⟩,?_⟩,hL.fresh _ _ _ [L.heap.size] O.out.2 E (by intro y d;simp at d;subst d;exact⟨by omega,_,_,K⟩),E.get H (by simp;intro e;subst e;rw[K]at H;cases H)⟩,(((KA.k0 (D.trans u)).trans n).new E (by intro y d;simp at d;subst d;omega))⟩;refine ND.kept E ?_ ?_ O.out.1
   ·intro y d;simp at d;subst d;rintro(f|f)
    ·have:=x _ f;omega
    ·omega
   ·rintro y(f|f)
    ·exact Or.inl f
    ·exact Or.inr (by omega)
  ·obtain⟨ch,rfl⟩:=hL.jp _ _ _ T;exact⟨rfl,Or.inr ⟨b,T,fun q z=>by cases z;exact hb⟩,(KA.k0 (D.trans u)).trans n⟩
 fresh:=by
  intro s W P S g j U;refine⟨hL.fresh _ _ _ S g.1 j U,j.get g.2 fun hm=> ?_⟩;have:=(U r hm).2.ne ⟨_,_,g.2⟩;revert this;decide
 pika:=fun A k e W P c j=>⟨⟨c.1.1,ND.ka j c.1.2⟩,c.2⟩
 poka:=fun A k e W P c j=>⟨c.1,ND.ka j c.2⟩
 pomono:=fun A A' k e W c x=>⟨c.1,c.2.amono x⟩
 pish:=fun A k e W c=>Or.inr c.1.2.iface
 posh:=fun A k e W c=>c.2.iface
 xm:=fun b l r a s s1 bs f h2 q z=>by
  rw[Nw]at f z
  cases z
  have e:(jz (qr h) l s).2=s1:=by rw[aH f]
  show Nb0 N b (jz (qr h) (l++a::r) s).2;rw[R7,e];exact(h2 _ rfl).mono (R9 (O8 h) r _)
 jp:=hL.jp
def LwR(N:Nat)(I:Ls->World->Prop)(J:Bool×Nat->Ending->World->Prop)(h:Nat)(s:Ls)(n:Nd h)(A:Nat->Prop)(W:World)(e:Ending)(W':World):Prop:=
 ((∃x',e=.returned x'/\ND W' (fun y=>A y\/W.heap.size<=y) h (qg h n s).1 x'/\I (qg h n s).2 W')\/∃b,J b e W'/\Nb0 N b (qg h n s).2)/\KA Tru W W'
theorem Q9E{fid:FuncId}{c1 c2:Value}{N:Nat}{I:Ls->World->Prop}{J:Bool×Nat->Ending->World->Prop}{B:Nat}(hL:Lyr fid c1 c2 N I J B):∀{h:Nat},(∀h',h=h'+1->LdOk fid c1 c2 N I J B h')->∀(s:Ls) (n:Nd h) (x:Value) (A:Nat->Prop) (w:World) (r:Nat),ND w A h n x->(∀y,A y->y<w.heap.size)->CkN h n->LvI I (lfv fid c1 c2) r s w->B<=w.heap.size->
  ∃fn v,jj "store/tree.with" x fn v/\Calls prog fn #[v,.func (.func 150) #[] #[.pointer (some ⟨r,0,none⟩)]] w (LwR N (LvI I (lfv fid c1 c2) r) J h s n A w)
 |0,_,s,n,x,A,w,r,g,u,hc,k,z=>by
  have t:=g;obtain⟨v,rfl,d,_⟩:=g;obtain⟨p,c,j⟩:=SL.shape d;subst j;refine⟨_,_,UC _ _ _,(UD p _ c _ w).mono ?_⟩;rintro e U⟨rfl,rfl⟩;exact⟨Or.inl ⟨_,rfl,t.amono fun _ h=>Or.inl h,k⟩,KA.refl _ _⟩
 |h+1,H,s,(n:List (Kid h)),x,A,w,r,g,u,hc,k,z=>by
  obtain⟨v,V,rfl,d,E,m⟩:=gg.1 g;have K:=O1.1 hc;have G:=Tf (Q9D hL (H h rfl) r) v V n s A w d u E ⟨m.1,fun i a b D l=>⟨m.2 i a b D l,K.2 a (ah D)⟩⟩ k z (by rw[<-m.1];omega);obtain⟨p,c,j⟩:=SL.shape d;subst j;refine⟨_,_,WS _ _ _,G.mono ?_⟩;rintro e U⟨⟨L,S,T,W,f,rfl,o,q,R,F⟩|⟨b,P,l⟩,C⟩
  ·have f:=aH ((Nw (qr h) n s).symm.trans f);have M:(qg (h+1) n s).1=L:=congrArg Prod.fst f;have O:(qg (h+1) n s).2=S:=congrArg Prod.snd f;refine⟨Or.inl ⟨_,rfl,?_,by rw[O];exact F⟩,C⟩;rw[M];exact gg.2 ⟨T,W,rfl,o,fun y Q=>Or.inr (q y Q),R⟩
  ·exact⟨Or.inr ⟨b,P,l _ (by rw[Nw];rfl)⟩,C⟩
end Go.Proofs.YtcklgafpgdhnaaaGreatDoor
