import Derived.Test.YtcklgafpgdhnaaaGreatDoorPyax
set_option maxRecDepth 100000
set_option maxHeartbeats 4000000
set_option linter.unusedSimpArgs false
set_option linter.unusedVariables false
set_option linter.unusedSectionVars false
open Go.Proofs.Tryz
namespace Go.Proofs.YtcklgafpgdhnaaaGreatDoor
open Go.RowKit
def TV(w:World)(A:Nat->Prop)(t:Tr)(r:Value):Prop:=(r=.nilIface/\t=⟨0,([]:List Pr),0⟩)\/(ND w A t.h t.n r/\g9 t.h t.n=false)
theorem TV.kept{S:List Nat}{w w':World}{A A':Nat->Prop}{t:Tr}{r:Value}(h:TV w A t r)(k:y6 S w w')(hS:∀y∈S,¬A y)(hA:∀y,A y->A' y):TV w' A' t r:=h.imp id fun h=>⟨ND.kept k hS hA h.1,h.2⟩
variable {w:World}{A:Nat->Prop}{t:Tr}{r:Value}
theorem TV.k{W:World}(hx:TV w A t r)(k:y6 [] w W):TV W A t r:=TV.kept hx k (by simp) (fun _ h=>h)
theorem TV.shape(h:TV w A t r):r=.nilIface\/∃t v,r=.iface t v:=by
 rcases h with⟨rfl,_⟩|h
 ·exact Or.inl rfl
 ·exact Or.inr h.1.iface
theorem TV.one(h:TV w A t r):r.oneCell'=true:=by
 rcases h.shape with rfl|⟨_,_,rfl⟩<;>rfl
theorem Mr(h:TV w A t r):Calls prog 69 #[.agg #[.string ⟨#[]⟩,.int .i64 t.pl,r]] w fun e w'=>∃x,e=.returned x/\ND w' A t.h t.n x/\y6 [] w w':=by
 rcases h with⟨rfl,rfl⟩|⟨h,_⟩
 ·go_enter func69,ntmps69;go_wp2;go_ret;exact⟨_,rfl,⟨_,rfl,Or.inl ⟨rfl,rfl⟩,fun y b=>by cases b⟩,(y6.refl _ _).alloc _⟩
 ·obtain⟨c,v,rfl⟩:=h.iface;have a:Hid _:=h;clear h;go_enter func69,ntmps69;go_wp2;go_ret;exact⟨_,rfl,ND.k a.out ((y6.refl _ _).alloc _),(y6.refl _ _).alloc _⟩
def qZ(t:Tr):List Nat:=if g9 t.h t.n then []else t.pl::j0 t.h t.n
theorem PD(t:Tr):(qZ t).length=gh t:=by
 unfold qZ gh;split
 ·rfl
 ·rw[aB,Mj]
variable {fid:FuncId}
theorem TK{c:Value}{S:List Nat}{I:List Nat->World->Prop}{Ok:List Nat->Prop}(hv:Vis fid c S I Ok A w)(h:TV w A t r)(fD:∀z,A z->z<w.heap.size)(lD:gh t<=1000000)(seen:List Nat)(W:World)(hok:Ok (seen++qZ t))(hI:I seen W):
  Calls prog 94 #[.agg #[.string ⟨#[]⟩,.int .i64 t.pl,r],.func (.func fid) #[] #[c]] W (Oe S I (seen++qZ t) W):=by
 rcases h with⟨rfl,rfl⟩|⟨h,hn⟩
 ·have i:Hid (I (seen++qZ ⟨0,([]:List Pr),0⟩) (W.alloc (.cells #[.string ⟨#[]⟩,.int .i64 0,.nilIface] 82))):=by
   show I _ _;have:seen++qZ ⟨0,([]:List Pr),0⟩=seen:=by simp[qZ,g9]
   rw[this];exact hv.fresh _ _ _ hI ((y6.refl _ _).alloc _)
  clear hI hv hok;go_enter func94,ntmps94;go_wp2;go_end0;exact⟨rfl,i.out,(y6.refl S W).alloc _⟩
 ·obtain⟨g,v,rfl⟩:=h.iface;have f:=(y6.refl [] W).alloc (.cells #[.string ⟨#[]⟩,.int .i64 (t.pl:Int),.iface g v] 82);have hc:j5 t.h t.n<=1000000:=by unfold gh at lD;rw[hn]at lD;simpa using lD
  have a:seen++(t.pl::j0 t.h t.n)=seen++qZ t:=by simp[qZ,hn]
  have d:Hid (Calls _ _ _ _ _):=V9 hv t.h seen ⟨#[]⟩ t.pl t.n (.iface g v) _ h fD hc (by rw[a];exact hok) (hv.fresh _ _ _ hI f);rw[a]at d;clear hI hv h hc a lD hn hok;go_enter func94,ntmps94;go_wp2_with(go_at_call 126;refine d.out.mono ?_;rintro e k⟨rfl,j,b⟩)
  go_end0;exact⟨rfl,j,(f.mono (by simp)).trans b⟩
def NdI(w:World)(b:Nat)(seen:List Nat)(W:World):Prop:=W.heap[b]?=some (.cells #[.int .i64 (wrap64 (seen.length:Int))] 3 (0,0))/\y6 [b] w W
theorem Q8B(w:World)(b:Nat)(seen:List Nat)(W:World)(f:ByteArray)(p:Nat)(x:Value)(h:NdI w b seen W):Calls prog 95 #[.agg #[.string f,.int .i64 p,x],.pointer (some ⟨b,0,none⟩)] W fun e W'=>e=.returned (.tuple #[])/\NdI w b (seen++ [p]) W'/\y6 [b] W W':=by
 have l:=(y6.refl [] W).alloc (.cells #[.string f,.int .i64 p,x] 80);have a:=l.get h.1 (by simp);have o:=yt h.1;have j:wrap64 (wrap64 (seen.length:Int)+1)=wrap64 ((seen++ [p]).length:Int):=by
  rw[ai];simp only[wrap64,aB,bO];omega
 obtain⟨m,d⟩:∃m,m=wrap64 (seen.length:Int):=⟨_,rfl⟩
 rw[<-d]at a j;have c:=h.1;rw[<-d]at c;have q:(W.alloc (.cells #[.string f,.int .i64 p,x] 80)).cell? ⟨b,0,none⟩=some (.int .i64 m):=y7 a rfl;have f0:(W.alloc (.cells #[.string f,.int .i64 p,x] 80)).frozen? ⟨b,0,none⟩=false:=ax _ _ _ _ _ a;have g:y6 [b] W ((W.setCell ⟨b,0,none⟩ (.int .i64 (wrap64 (m+1)))).alloc (.cells #[.string f,.int .i64 p,x] 80)):=((y6.refl [b] W).setCell (p:=⟨b,0,none⟩) (Or.inl (by simp)) _).alloc _;have n:((W.setCell ⟨b,0,none⟩ (.int .i64 (wrap64 (m+1)))).alloc (.cells #[.string f,.int .i64 p,x] 80)).heap[b]?=some (.cells #[.int .i64 (wrap64 (m+1))] 3 (0,0)):=((y6.refl [] _).alloc _).get (yf (i:=0) (.int .i64 (wrap64 (m+1))) c) (by simp);have k:Hid (NdI w b (seen++ [p]) ((W.setCell ⟨b,0,none⟩ (.int .i64 (wrap64 (m+1)))).alloc (.cells #[.string f,.int .i64 p,x] 80))/\y6 [b] W ((W.setCell ⟨b,0,none⟩ (.int .i64 (wrap64 (m+1)))).alloc (.cells #[.string f,.int .i64 p,x] 80))):=
  ⟨⟨by rw[n,j],h.2.trans g⟩,g⟩
 clear h a l g n d c j;go_enter func95,ntmps95;go_wp2;go_end0;exact⟨rfl,k.out.1,k.out.2⟩
theorem M1(fn:Fn)(first cap:Array Value)(w:World):(Instr.makeFunc fn first cap).run prog w=.ok (.func fn first cap) w:=rfl
theorem TI(h:TV w A t r)(fD:∀z,A z->z<w.heap.size)(hc:gh t<=1000000):Calls prog 60 #[.agg #[.string ⟨#[]⟩,.int .i64 t.pl,r]] w fun e w'=>e=.returned (.int .i64 (gh t:Nat))/\y6 [] w w':=by
 have M:=M1;have o:=((y6.refl [] w).alloc (.cells #[.string ⟨#[]⟩,.int .i64 (t.pl:Int),r] 82)).alloc (.cells #[.int .i64 0] 3);have E:((w.alloc (.cells #[.string ⟨#[]⟩,.int .i64 (t.pl:Int),r] 82)).alloc (.cells #[.int .i64 0] 3)).heap[w.heap.size+1]?=some (.cells #[.int .i64 0] 3 (0,0)):=by
  have:=af (w.alloc (.cells #[.string ⟨#[]⟩,.int .i64 (t.pl:Int),r] 82)) (.cells #[.int .i64 0] 3)
  rwa[ak]at this
 have i:=((y6.refl [] (w.alloc (.cells #[.string ⟨#[]⟩,.int .i64 (t.pl:Int),r] 82))).alloc (.cells #[.int .i64 0] 3)).get (af w (.cells #[.string ⟨#[]⟩,.int .i64 (t.pl:Int),r] 82)) (by simp);have C:((w.alloc (.cells #[.string ⟨#[]⟩,.int .i64 (t.pl:Int),r] 82)).alloc (.cells #[.int .i64 0] 3)).heap.size=w.heap.size+2:=by simp
 generalize c:(w.alloc (.cells #[.string ⟨#[]⟩,.int .i64 (t.pl:Int),r] 82)).alloc (.cells #[.int .i64 0] 3)=a at*;have v:Hid _:=c;clear c;have m:Vis 95 (.pointer (some ⟨w.heap.size+1,0,none⟩)) [w.heap.size+1] (NdI a (w.heap.size+1)) (fun _=>True) A a:=
  ⟨fun _ _=>by kernel_rfl,fun seen W f p x _ b=>Q8B a _ seen W f p x b,fun seen W J b k=>⟨k.get b.1 (by simp),b.2.trans2 k (by simp)⟩,fun _ _ b=>b.2,by intro y g;simp at g;omega,by intro y g B;simp at g;have:=fD y B;omega,fun _ _ _=>trivial⟩
 have l:Hid (Calls _ _ _ _ _):=TK m (h.k o) (fun z D=>by have:=fD z D;omega) hc [] a trivial ⟨by rw[E];simp[wrap64],y6.refl _ _⟩;have HL:Hid (wrap64 ((([]:List Nat)++qZ t).length:Int)=((gh t:Nat):Int)):=by
  show _=_;rw[aX,PD];simp only[wrap64];omega
 obtain⟨q,s⟩:∃q,q=([]:List Nat)++qZ t:=⟨_,rfl⟩
 rw[<-s]at l HL;have L:=h.one;have H:a.cell? ⟨w.heap.size,0,none⟩=some (.string ⟨#[]⟩):=y7 i rfl;have G:a.cell? ⟨w.heap.size,1,none⟩=some (.int .i64 t.pl):=y7 i rfl;have I:a.cell? ⟨w.heap.size,2,none⟩=some r:=y7 i rfl;clear h m s;go_enter func60,ntmps60;go_wp2_with fail;rw[v.out];refine l.out.mono ?_;rintro e F⟨rfl,u,d⟩;have j:=u.1;rw[HL.out]at j;have K:F.cell? ⟨w.heap.size+1,0,none⟩=some (.int .i64 (gh t:Nat)):=y7 j rfl;clear j u;go_wp2;go_ret;exact⟨rfl,o.trans2 d (by intro x n;simp at n;subst n;exact Or.inr (by omega))⟩
theorem Q8E(k:ByteArray)(h:Nat)(IH:∀(f:ByteArray) (n:Nd h),WFN h f n->qd h n->yq h n<=1000->(gW k h n).length<=1000)(ks:List (Kid h))(hk:KW h ks)(hf:∀a∈ks,Rt h a.2/\qd h a.2)(hlt:qq ks k<ks.length):(gW k (h+1) ks).length<=1000:=by
 obtain⟨q,c⟩:∃q,ks[qq ks k]?=some q:=⟨_,aa hlt⟩
 have b:=ah c;rw[ZQ k h ks q c];exact IH q.1 q.2 (hk.all q b) (hf q b).2 (by have:=(hf q b).1.2;omega)
theorem VQ(k:ByteArray):∀(h:Nat) (f:ByteArray) (n:Nd h),WFN h f n->qd h n->yq h n<=1000->(gW k h n).length<=1000
 |0,_,_,a,_,e=>(Sm.of a e).2
 |h+1,f,c,a,d,_=>by
  have b:=Pg k a;exact Q8E k h (VQ k h) c ((yN h f c).1 a).2 ((yO h c).1 d) b
theorem Uq(h:TV w A t r)(ht:TW t)(k:ByteArray):Calls prog 46 #[.agg #[.string ⟨#[]⟩,.int .i64 t.pl,r],.string k] w fun e w'=>e=.returned (.tuple #[.string ((gA k (yH t)).getD ⟨#[]⟩),.bool (gA k (yH t)).isSome])/\y6 [] w w':=by
 have T:Hid (∀W,y6 [] w W->Calls prog 69 #[.agg #[.string ⟨#[]⟩,.int .i64 t.pl,r]] W _):=fun W O=>Mr (h.k O);have S:Hid (∀W x,ND W A t.h t.n x->_):=fun W x y=>Uy k t.h W A yu t.n x y ht.wf ht.full (by have:=ht.hi;omega);obtain⟨E,o⟩:=Rd k t.h yu t.n ht.wf (jQ k);have Y:gA k (gW k t.h t.n)=gA k (yH t):=o;rw[<-Y];have X:(gW k t.h t.n).length<=1000:=VQ k t.h yu t.n ht.wf ht.full (by have:=ht.hi;omega);generalize gW k t.h t.n=l at*;have J:=ME (Q5 E) k;have a:=Vq E J (L5 (l.map (·.1)) k);have P:=L5 (l.map (·.1)) k;have G:Hid (∀W v,LF W v l->Calls prog 70 #[v,.string k] W _):=fun W v M=>(NL v (l.map pe) (l.map (·.1)) k W M (NJ l) (Q5 E) (by simp;omega)).mono fun _ _ h=>MS h;have L:=J.1;rw[aj]at L;generalize pK (l.map (·.1)) k=i at*;generalize bK (l.map (·.1)) k=b at*;clear J o Y E h ht
 cases b with
 |false=>
  have H:Hid (gA k l=none):=a;clear a P;go_enter func46,ntmps46;go_wp2_with(first|(go_at_call 69;refine(T.out _ ((y6.refl _ _).alloc _)).mono ?_;rintro e C⟨x,rfl,y,s⟩;obtain⟨f,v,⟨ty,K,hm,he⟩,z⟩:=S.out C x y;have c:Hid (∀W,y6 [] C W->_):=z;clear z y;subst K)|(go_at_fn f;refine(c.out _ (y6.refl _ _)).mono ?_;rintro e R⟨Q,rfl,j,u⟩;have KV:Hid _:=G.out R Q j;obtain⟨p2,c2,D⟩:=SL.shape j;rw[aj]at D;subst D)|(go_at_call 70;refine(G.out _ _ j).mono ?_;rintro e Z⟨rfl,m⟩))
  go_ret2
  exact⟨by rw[H.out];rfl,(((((y6.refl _ _).alloc _).trans s).trans u).trans m)⟩
 |true=>
  have B:i<l.length:=by
   have:=(ae.1 (P.1 rfl)).1
   rwa[aj]at this
  obtain⟨q,N⟩:∃q,l[i]?=some q:=⟨_,aa B⟩
  rw[N]at a;have H:Hid (gA k l=some q.2):=a;have kO:Hid (∀W v,LF W v l->∃g d p,v=.slice (some ⟨g,d,none⟩) l.length p/\∀I,y6 [] W I->I.cell? ⟨g,d+i*2+1,none⟩=some (.string q.2)):=by
   intro W v M;obtain⟨g,d,p,cur,U,hg,hc1,hc2,hc3,dW⟩:=SL.at_ M (by simp;omega);rw[aj]at U;refine⟨g,d,p,U,fun I O=> ?_⟩;have:=(dW i (pe q) (by rw[aA,N];rfl)).2;rw[aY _ _ _ _ _ _ (O.get hg (by simp))];exact this 1 _ rfl
  clear a P N;go_enter func46,ntmps46;go_wp2_with(first|(go_at_call 69;refine(T.out _ ((y6.refl _ _).alloc _)).mono ?_;rintro e C⟨x,rfl,y,s⟩;obtain⟨f,v,⟨ty,K,hm,he⟩,z⟩:=S.out C x y;have c:Hid (∀W,y6 [] C W->_):=z;clear z y;subst K)|(go_at_fn f;refine(c.out _ (y6.refl _ _)).mono ?_;rintro e R⟨Q,rfl,j,u⟩;obtain⟨g,d,cp,D,V⟩:=kO.out R Q j;have F:Hid _:=V;clear V;subst D)|(go_at_call 70;refine(G.out _ _ j).mono ?_;rintro e Z⟨rfl,m⟩;have c3:=F.out Z m)|(refine ya rfl _ _ (yc 116 (.tmp 20) (.tmp 21) rfl g d l.length cp i 2 rfl rfl 122 underlying116 stp B (d+i*2) rfl) ?_))
  go_ret2
  exact⟨by rw[H.out];rfl,(((((y6.refl _ _).alloc _).trans s).trans u).trans m)⟩
theorem stT:(prog.info? 82).map (·.size)=some 3:=by kernel_rfl
theorem NF(f:ByteArray)(p:Int)(v:Value)(w:World):(Instr.build 82 #[(0,.agg #[.string f,.int .i64 p,v])]).run prog w=.ok (.agg #[.string f,.int .i64 p,v]) w:=by kernel_rfl
theorem N1(w:World):(Instr.build 82 #[]).run prog w=.ok (.agg #[.string ⟨#[]⟩,.int .i64 0,.nilIface]) w:=by kernel_rfl
theorem NZ(t:TypeId)(v:Value)(w:World):(Instr.build 80 #[(2,.iface t v)]).run prog w=.ok (.agg #[.string ⟨#[]⟩,.int .i64 0,.iface t v]) w:=by kernel_rfl
def TChR(A:Nat->Prop)(t:Tr)(w:World)(e:Ending)(w':World):Prop:=∃r,e=.returned (.agg #[.string ⟨#[]⟩,.int .i64 t.pl,r])/\TV w' (fun y=>A y\/w.heap.size<=y) t r/\y6 [] w w'
def chW(w:World)(p:Int)(r:Value):World:=(w.alloc (.cells #[.string ⟨#[]⟩,.int .i64 p,r] 82)).alloc (.cells #[.string ⟨#[]⟩,.int .i64 0,.nilIface] 82)
def ResT(w:World)(f p r:Value)(W:World):Prop:=W.heap[w.heap.size+1]?=some (.cells #[f,p,r] 82 (0,0))
theorem res0(w:World)(p:Int)(r:Value):ResT w (.string ⟨#[]⟩) (.int .i64 0) .nilIface (chW w p r):=by
 have:=af (w.alloc (.cells #[.string ⟨#[]⟩,.int .i64 p,r] 82)) (.cells #[.string ⟨#[]⟩,.int .i64 0,.nilIface] 82);rw[ak]at this;exact this
theorem ResT.six{w':World}(h:ResT w (.string ⟨#[]⟩) (.int .i64 0) .nilIface w'):w'.cell? ⟨w.heap.size+1,0,none⟩=some (.string ⟨#[]⟩)/\w'.cell? ⟨w.heap.size+1,1,none⟩=some (.int .i64 0)/\w'.cell? ⟨w.heap.size+1,2,none⟩=some .nilIface/\w'.frozen? ⟨w.heap.size+1,0,none⟩=false/\w'.frozen? ⟨w.heap.size+1,1,none⟩=false/\w'.frozen? ⟨w.heap.size+1,2,none⟩=false:=⟨y7 h rfl,y7 h rfl,y7 h rfl,ax _ _ _ _ _ h,ax _ _ _ _ _ h,ax _ _ _ _ _ h⟩
theorem ResT.k3(w w':World)(x y z:Value):y6 [w.heap.size+1] w' (((w'.setCell ⟨w.heap.size+1,0,none⟩ x).setCell ⟨w.heap.size+1,1,none⟩ y).setCell ⟨w.heap.size+1,2,none⟩ z):=((((y6.refl [w.heap.size+1] w').setCell (p:=⟨w.heap.size+1,0,none⟩) (Or.inl (by simp)) _).setCell (p:=⟨w.heap.size+1,1,none⟩) (Or.inl (by simp)) _).setCell (p:=⟨w.heap.size+1,2,none⟩) (Or.inl (by simp)) _)
theorem MA(w:World)(p:Int)(r:Value):y6 [] w (chW w p r):=((y6.refl [] w).alloc _).alloc _
theorem Q8L(w:World)(p:Int)(r:Value):(chW w p r).heap.size=w.heap.size+2:=by simp[chW]
theorem Ql(w:World)(p:Int)(r:Value):(chW w p r).heap[w.heap.size]?=some (.cells #[.string ⟨#[]⟩,.int .i64 p,r] 82 (0,0)):=((y6.refl [] _).alloc _).get (af w _) (by simp)
theorem N8(w:World)(pl:Nat)(r:Value):(chW w pl r).cell? ⟨w.heap.size,0,none⟩=some (.string ⟨#[]⟩)/\(chW w pl r).cell? ⟨w.heap.size,1,none⟩=some (.int .i64 pl)/\(chW w pl r).cell? ⟨w.heap.size,2,none⟩=some r:=⟨y7 (Ql w pl r) rfl,y7 (Ql w pl r) rfl,y7 (Ql w pl r) rfl⟩
variable {F:List Pr->List Pr}{Q:List Pr->Prop}{cap:Value}{pl:Nat}
theorem NY{k:ByteArray}(hF:Zw F k){h:Nat}{n:Nd h}(fD:∀y,A y->y<w.heap.size)(ht:TW ⟨h,n,pl⟩)(hc:Cl F Q fid cap w)(hQ:Q (gW k h n)):
  (∀W x,y6 [] w W->ND W A h n x->∃fn v,jj "store/tree.changed" x fn v/\Calls prog fn #[v,.string k,.func (.func fid) #[] #[cap]] W fun e w'=>∃a,e=.returned a/\ND w' (fun y=>A y\/W.heap.size<=y) h (yL F k h n) a/\y6 [] W w')/\
  ∀(W W1:World) (a:Value),ND W (fun y=>A y\/W1.heap.size<=y) h (yL F k h n) a->Calls prog 110 #[.string ⟨#[]⟩,a] W (FitR (fun y=>A y\/W1.heap.size<=y) (qN h yu (yL F k h n)) W):=by
 have c:=Zn hF h yu n ht.wf ht.full (jQ k) ht.two;have m:=c.hi;have d:=ht.hi;constructor
 ·intro W x b i;exact S3 hF h W A yu n x i (fun y j=>bz (fD y j) b.size) ht.wf ht.full (jQ k) ht.two ht.hi (hc.k b) hQ
 ·intro W W1 a g;have l:yq h n<=122:=d;exact NM (f:=yu) g c.wf (by omega)
theorem F2.one_inv{α β:Type}{R:α->β->Prop}{a:α}{xs:List β}(h:F2 R [a] xs):∃z,xs= [z]/\R a z:=by
 obtain⟨z,e,f⟩:=h.get (i:=0) (a:=a) rfl;have d:=h.1
 cases xs with
 |nil=>simp at d
 |cons y r=>
  simp at d;simp at e;subst e
  cases r with
  |nil=>exact⟨y,rfl,f⟩
  |cons b c=>simp at d
theorem SL.kid0{g off n cap:Nat}{z:KE}(h:SL w 80 3 (.slice (some ⟨g,off,none⟩) n cap) ([z].map ke)):(loadVar 80 ⟨g,off,none⟩).run prog w=.ok (.agg #[.string z.1,.int .i64 z.3,z.2]) w:=by
 obtain⟨f,i,d,a,e,c,_,_,_,b⟩:=h.at_ (by simp)
 cases e
 have:=jC (P:=prog) (ty:=80) (o:=off) _ c (by simpa using b 0 (ke z) rfl) underlying80 QG;exact this
theorem MZ{w1 w3 W:World}{p0:Int}{u:Value}(hA:∀y,A y->y<w.heap.size)(hk1:y6 [] (chW w p0 r) w1)(K3:y6 [] (chW w p0 r) w3)
  (hn:(u=.nilIface/\t=⟨0,([]:List Pr),0⟩)\/(ND w3 (fun y=>A y\/w1.heap.size<=y) t.h t.n u/\g9 t.h t.n=false))(k4:y6 [w.heap.size+1] w3 W):TChR A t w (.returned (.agg #[.string ⟨#[]⟩,.int .i64 t.pl,u])) W:=by
 have e:=hk1.size;rw[Q8L]at e;have c:∀y∈ [w.heap.size+1],¬(A y\/w1.heap.size<=y):=by
  intro y b;simp at b;subst b;rintro(a|a)
  ·have:=hA _ a;omega
  ·omega
 have d:TV w3 (fun y=>A y\/w1.heap.size<=y) t u:=hn;refine⟨_,rfl,d.kept k4 c ?_,((MA w p0 r).trans K3).trans2 k4 fun y b=>Or.inr (by simp at b;subst b;omega)⟩;rintro y(a|a)
 ·exact Or.inl a
 ·exact Or.inr (by omega)
theorem XG(l:List Pr)(h:g9 0 l=false):0<yq 0 l:=by
 cases l with
 |nil=>simp[g9]at h
 |cons a b=>
  have:=US a;show 0<(List.map psz (a::b)).sum;rw[bn,bE];omega
theorem Q8Q(p:Option Addr)(n c:Nat)(w:World):(Go.method 433 116 (.slice p n c) "store/tree.kids").run prog w=.ok (237,.slice p n c) w:=by kernel_rfl
theorem Ub(p:Option Addr)(n c:Nat)(w:World):(Go.method 433 168 (.slice p n c) "store/tree.kids").run prog w=.ok (256,.slice p n c) w:=by kernel_rfl
theorem enL(args:Array Value)(w:World):(callFunc 237 args).run prog w=.ok (.enter 237 args) w:=qy func237 (by kernel_rfl) (by kernel_rfl) args w
theorem Q8S{h:Nat}(n:Nd (h+1))(hne:∀b:Kid h,n≠([b]:List (Kid h))):RL (h+1) [⟨yu,n,0⟩]=⟨h+1,n,0⟩:=by
 show lowT (h+1) n=_;have:∀L:List (Kid h),(∀b,L≠ [b])->lowT (h+1) L=⟨h+1,L,0⟩:=by
  intro L d
  match L,d with
  | [],_=>rfl
  | [a],d=>exact absurd rfl (d a)
  |a::b::c,_=>rfl
 exact this n hne
theorem Q8T{k:ByteArray}(hF:Zw F k){h:Nat}{n:Nd (h)}(hx:TV w A ⟨h,n,pl⟩ r)(fD:∀y,A y->y<w.heap.size)(ht:TW ⟨h,n,pl⟩)(hc:Cl F Q fid cap w)(hQ:Q (gW k (h) n))(hs:¬yq h (yL F k h n)<=122):
  Calls prog 72 #[.agg #[.string ⟨#[]⟩,.int .i64 pl,r],.string k,.func (.func fid) #[] #[cap]] w (TChR A (gZ F k ⟨h,n,pl⟩) w):=by
 have K:Hid (∀W,y6 [] w W->Calls prog 69 #[.agg #[.string ⟨#[]⟩,.int .i64 pl,r]] W _):=fun W Y=>Mr (t:=⟨h,n,pl⟩) (hx.k Y);obtain⟨E,c⟩:=NY hF fD ht hc hQ;have nw:=Zn hF (h) yu n ht.wf ht.full (jQ k) ht.two;have uZ:Hid _:=E;have g:Hid _:=c;have z:Hid (y6 [] w (chW w pl r)):=MA w pl r;have O:Hid _:=res0 w pl r;have C0:=Ql w pl r;have X:=hx.shape;have im:=hx.one;have p:qN h yu (yL F k h n)= [⟨yu,(yW h (yL F k h n)).1,0⟩,⟨jG h (yW h (yL F k h n)).2,(yW h (yL F k h n)).2,0⟩]:=by unfold qN;rw[if_neg hs]
 have H:gZ F k ⟨h,n,pl⟩=⟨h+1,qN h yu (yL F k h n),0⟩:=by
  unfold gZ;simp only;rw[p];rfl
 have s:(qN h yu (yL F k h n)).length=2:=by rw[p];rfl
 rw[H];generalize qN h yu (yL F k h n)=M at*;have J:Hid _:=fD;have mr:=NF;have u0:=N1;have oB:=NZ;have u4:Hid ((w.alloc (.cells #[.string ⟨#[]⟩,.int .i64 (pl:Int),r] 82)).alloc (.cells #[.string ⟨#[]⟩,.int .i64 0,.nilIface] 82)=chW w pl r):=rfl;obtain⟨d0,d1,d2⟩:=N8 w pl r;clear E c hx hc ht fD hF hQ nw hs H p;go_enter func72,ntmps72;go_wp2_with fail;rw[u4.out];go_wp2_with(first|(go_at_call 69;refine(K.out _ z.out).mono ?_;rintro e I⟨x,rfl,hx,d⟩;obtain⟨T,v1,⟨t1,u9,mu,iF⟩,C⟩:=uZ.out I x (z.out.trans d) hx;have Z:Hid (Calls _ _ _ _ _):=C;clear C hx;subst u9)|(go_at_fn T;refine Z.out.mono ?_;rintro e w2⟨a,rfl,f,j⟩;have o:Hid (Calls _ _ _ _ _):=g.out w2 I a f;obtain⟨ta,va,S⟩:=f.iface;clear f;subst S)|(go_at_call 110;refine o.out.mono ?_;rintro e v⟨U,R,G,rfl,m,u,mT,q⟩;have D:G.length=2:=(by rw[<-u.1];exact s);have B:y6 [] (chW w pl r) v:=(d.trans j).trans q;have l:ResT w (.string ⟨#[]⟩) (.int .i64 0) .nilIface v:=B.get O.out (by simp);obtain⟨P,ru,zm,Cu,Cv,Cw⟩:=l.six;have L:Hid _:=m;have N:Hid _:=u;clear m u;rw[D]))
 have m:=L.out;rw[D]at m;have s2:=j.size;refine aR (aI rfl _ _ (w.heap.size+1) 82 #[.string ⟨#[]⟩,.int .i64 0,.iface 168 (.slice (some ⟨U,0,none⟩) 2 R)] (0,0) _ rfl (yf (i:=2) _ (yf (i:=1) _ (yf (i:=0) _ l))) underlying82 rfl stT) rfl ?_;refine MZ (t:=⟨h+1,M,0⟩) J.out d B (Or.inr ⟨gg.2 ⟨_,G,rfl,m,?_,N.out⟩,rfl⟩) (ResT.k3 w v _ _ _);intro b V;simp[Value.ownBlock]at V;exact Or.inr (by omega)
theorem Q8U{k:ByteArray}(hF:Zw F k){n:Nd (0)}(hx:TV w A ⟨0,n,pl⟩ r)(fD:∀y,A y->y<w.heap.size)(ht:TW ⟨0,n,pl⟩)(hc:Cl F Q fid cap w)(hQ:Q (gW k (0) n))(hs:yq 0 (yL F k 0 n)<=122):
  Calls prog 72 #[.agg #[.string ⟨#[]⟩,.int .i64 pl,r],.string k,.func (.func fid) #[] #[cap]] w (TChR A (gZ F k ⟨0,n,pl⟩) w):=by
 have HT:Hid (∀W,y6 [] w W->Calls prog 69 #[.agg #[.string ⟨#[]⟩,.int .i64 pl,r]] W _):=fun W kW=>Mr (t:=⟨0,n,pl⟩) (hx.k kW);obtain⟨S,f⟩:=NY hF fD ht hc hQ;have Y:=Zn hF (0) yu n ht.wf ht.full (jQ k) ht.two;have uZ:Hid _:=S;have d:Hid _:=f;have M:Hid (y6 [] w (chW w pl r)):=MA w pl r;have R0:Hid _:=res0 w pl r;have C0:=Ql w pl r;have hrs:=hx.shape;have im:=hx.one;have C:qN (0) yu (yL F k (0) n)= [⟨yu,yL F k (0) n,0⟩]:=by unfold qN;rw[if_pos hs]
 have U:gZ F k ⟨0,n,pl⟩=⟨0,yL F k 0 n,0⟩:=by
  unfold gZ;simp only;rw[C];rfl
 rw[U];rw[C]at d;have m:Sm 0 (yL F k 0 n):=Sm.of Y.wf (by omega);have zn:Hid _:=m;rcases Bool.eq_false_or_eq_true (g9 0 (yL F k 0 n))with he|he
 focus
  have G:((yq 0 (yL F k 0 n):Nat):Int)=0:=by rw[Ou _ _ he];rfl
 rotate_left
 focus
  have G:¬((yq 0 (yL F k 0 n):Nat):Int)=0:=by have:=XG _ he;omega
 all_goals
  have L:Hid _:=fD;have mr:=NF;have u0:=N1;have oB:=NZ;have u4:Hid ((w.alloc (.cells #[.string ⟨#[]⟩,.int .i64 (pl:Int),r] 82)).alloc (.cells #[.string ⟨#[]⟩,.int .i64 0,.nilIface] 82)=chW w pl r):=rfl;obtain⟨d0,d1,d2⟩:=N8 w pl r;clear S f hx hc ht fD hF hQ Y hs C U m;go_enter func72,ntmps72;go_wp2_with fail;rw[u4.out];go_wp2_with(first|(go_at_call 69;refine(HT.out _ M.out).mono ?_;rintro e w1⟨x,rfl,hx,c⟩;obtain⟨fn,v1,⟨t1,u9,mu,iF⟩,P⟩:=uZ.out w1 x (M.out.trans c) hx;have lO:Hid (Calls _ _ _ _ _):=P;clear P hx;subst u9)|(go_at_fn fn;refine lO.out.mono ?_;rintro e w2⟨a,rfl,g,D⟩;have u:Hid (Calls _ _ _ _ _):=d.out w2 w1 a g;obtain⟨ta,va,ea⟩:=g.iface;clear g;subst ea)|(go_at_call 110;refine u.out.mono ?_;rintro e b⟨T,cv,fW,rfl,H,X,mT,E⟩;obtain⟨z,ez,o⟩:=F2.one_inv X;subst ez;have R: [z].length=1:=rfl;rw[R];rw[R]at H;have N:y6 [] (chW w pl r) b:=(c.trans D).trans E;have h:ResT w (.string ⟨#[]⟩) (.int .i64 0) .nilIface b:=N.get R0.out (by simp);obtain⟨c30,ru,zm,Cu,Cv,Cw⟩:=h.six;have B:=SL.kid0 H;rw[o.1.1,o.1.2]at B;have vd:w.heap.size+1<b.heap.size:=yt h;obtain⟨fS,vS,⟨tS,l,wM,Fa⟩,Z⟩:=ZR o.2 zn.out;have v:Hid (∀W,y6 [] b W->_):=Z;have HN:Hid _:=o.2;obtain⟨v4,K,V,Fb⟩:=o.2;rw[K]at B;obtain⟨s,p,wH⟩:=SL.shape V;subst wH;generalize(List.map pe (yL F k 0 n)).length=m4 at*;have oC:=fun W=>Q8Q s m4 p W;have pU:=enL;rw[K]at l;cases l;clear H X V Z)|(refine ya rfl _ _ (yc 165 (.tmp 23) (.const (.int .i64 0)) rfl T 0 1 cv 0 3 rfl rfl 80 underlying165 QG (by omega) 0 rfl) ?_)|(refine y8 rfl 80 (.tmp 24) rfl ⟨T,0,none⟩ rfl _ B ?_)|(go_at_call 237;refine(SJ _ _).mono ?_;rintro e w'⟨rfl,rfl⟩)|(go_at_fn fS;refine(v.out _ ((y6.refl [] b).alloc _)).mono ?_;rintro e j⟨rfl,q⟩;have I:=q.get (af b (.cells #[.string ⟨#[]⟩,.int .i64 0,.iface 116 (.slice s m4 p)] 80)) (by simp);have J:ResT w (.string ⟨#[]⟩) (.int .i64 0) .nilIface j:=(((y6.refl [] b).alloc _).trans q).get h (by simp);have Fc:j.cell? ⟨b.heap.size,0,none⟩=some (.string ⟨#[]⟩):=y7 I rfl;have Fe:j.cell? ⟨b.heap.size,1,none⟩=some (.int .i64 0):=y7 I rfl;have Ff:j.cell? ⟨b.heap.size,2,none⟩=some (.iface 116 (.slice s m4 p)):=y7 I rfl;obtain⟨wD,tG,Fg,Fh,Fi,Fj⟩:=J.six))
  have O:y6 [] (chW w pl r) j:=N.trans (((y6.refl [] b).alloc _).trans q)
 ·refine aR (aI rfl _ _ (w.heap.size+1) 82 #[.string ⟨#[]⟩,.int .i64 0,.iface 116 (.slice s m4 p)] (0,0) _ rfl (yf (i:=2) _ (yf (i:=1) _ (yf (i:=0) _ J))) underlying82 rfl stT) rfl ?_;exact MZ (t:=⟨0,yL F k 0 n,0⟩) L.out c O (Or.inr ⟨ND.k (K▸HN.out) (((y6.refl [] b).alloc _).trans q),he⟩) (ResT.k3 w j _ _ _)
 ·refine aR (aI rfl _ _ (w.heap.size+1) 82 #[.string ⟨#[]⟩,.int .i64 0,.nilIface] (0,0) _ rfl (yf (i:=2) _ (yf (i:=1) _ (yf (i:=0) _ J))) underlying82 rfl stT) rfl ?_;exact MZ (t:=⟨0,yL F k 0 n,0⟩) L.out c O (Or.inl ⟨rfl,by rw[List.isEmpty_iff.1 he]⟩) (ResT.k3 w j _ _ _)
theorem Q8V{k:ByteArray}(hF:Zw F k){h:Nat}{n:Nd (h+1)}(hx:TV w A ⟨h+1,n,pl⟩ r)(fD:∀y,A y->y<w.heap.size)(ht:TW ⟨h+1,n,pl⟩)(hc:Cl F Q fid cap w)(hQ:Q (gW k (h+1) n))(hs:yq (h+1) (yL F k (h+1) n)<=122){b:Kid h}(hb:yL F k (h+1) n=([b]:List (Kid h))):
  Calls prog 72 #[.agg #[.string ⟨#[]⟩,.int .i64 pl,r],.string k,.func (.func fid) #[] #[cap]] w (TChR A (gZ F k ⟨h+1,n,pl⟩) w):=by
 have HT:Hid (∀W,y6 [] w W->Calls prog 69 #[.agg #[.string ⟨#[]⟩,.int .i64 pl,r]] W _):=fun W kW=>Mr (t:=⟨h+1,n,pl⟩) (hx.k kW);obtain⟨fQ,g⟩:=NY hF fD ht hc hQ;have V:=Zn hF (h+1) yu n ht.wf ht.full (jQ k) ht.two;have uZ:Hid _:=fQ;have f:Hid _:=g;have Y:Hid (y6 [] w (chW w pl r)):=MA w pl r;have R0:Hid _:=res0 w pl r;have C0:=Ql w pl r;have hrs:=hx.shape;have im:=hx.one;have N:qN (h+1) yu (yL F k (h+1) n)= [⟨yu,yL F k (h+1) n,0⟩]:=by unfold qN;rw[if_pos hs]
 have hR:gZ F k ⟨h+1,n,pl⟩=⟨h,b.2,b.3⟩:=by
  unfold gZ;simp only;rw[N,hb];rfl
 rw[hR];rw[N]at f;have d:b.1=yu/\WFN h b.1 b.2/\Rt h b.2:=by
  have hw:=V.wf;have v:=V.full;rw[hb]at hw v;obtain⟨⟨n0,x0,r0,e0⟩,hk⟩:=(yN h yu [b]).1 hw;have e1:=(List.cons.inj e0).1;exact⟨by rw[e1],hk.all b (by simp),((yO h [b]).1 v b (by simp)).1⟩
 obtain⟨u,d,j⟩:=d;have C:Sm h b.2:=Sm.of d (by have:=j.2;omega);have zn:Hid _:=C;have hz0:¬((yq h b.2:Nat):Int)=0:=by have:=j.1;omega
 have B:g9 h b.2=false:=by
  cases hc:g9 h b.2 with
  |false=>rfl
  |true=>have:=Ou h b.2 hc;omega
 have HB:Hid _:=hb;have Iy:Hid _:=u
 have HA:Hid _:=fD;have mr:=NF;have u0:=N1;have oB:=NZ;have u4:Hid ((w.alloc (.cells #[.string ⟨#[]⟩,.int .i64 (pl:Int),r] 82)).alloc (.cells #[.string ⟨#[]⟩,.int .i64 0,.nilIface] 82)=chW w pl r):=rfl;obtain⟨d0,d1,d2⟩:=N8 w pl r;clear fQ g hx hc ht fD hF hQ V hs N hR C hb u d j;go_enter func72,ntmps72;go_wp2_with fail;rw[u4.out];go_wp2_with(first|(go_at_call 69;refine(HT.out _ Y.out).mono ?_;rintro e X⟨x,rfl,hx,l⟩;obtain⟨fn,v1,⟨t1,u9,mu,iF⟩,eo⟩:=uZ.out X x (Y.out.trans l) hx;have lO:Hid (Calls _ _ _ _ _):=eo;clear eo hx;subst u9)|(go_at_fn fn;refine lO.out.mono ?_;rintro e w2⟨a,rfl,m,O⟩;have L:Hid (Calls _ _ _ _ _):=f.out w2 X a m;obtain⟨ta,va,ea⟩:=m.iface;clear m;subst ea)|(go_at_call 110;refine L.out.mono ?_;rintro e c⟨gv,cv,fW,rfl,S,nL,mT,P⟩;obtain⟨z,ez,R⟩:=F2.one_inv nL;subst ez;have fB: [z].length=1:=rfl;rw[fB];rw[fB]at S;have Z:y6 [] (chW w pl r) c:=(l.trans O).trans P;have p:ResT w (.string ⟨#[]⟩) (.int .i64 0) .nilIface c:=Z.get R0.out (by simp);obtain⟨c30,ru,zm,Cu,Cv,Cw⟩:=p.six;have H:=SL.kid0 S;rw[R.1.1,R.1.2]at H;have vd:w.heap.size+1<c.heap.size:=yt p;have eE:ND c (fun y=>A y\/X.heap.size<=y) (h+1) [b] z.2:=HB.out▸R.2;obtain⟨v4,AI,sw,T,Fb,tL⟩:=gg.1 eE;rw[sw]at H;obtain⟨y4,Iz,E⟩:=F2.one_inv tL;subst Iz;obtain⟨I,D,zo,IA,AK,oU,_⟩:=T.at_ (by simp);subst AK;have zp:=T;have AJ:(List.map ke [y4]).length=1:=rfl;rw[AJ]at H;obtain⟨fS,K,⟨J,s,wM,Fa⟩,pr⟩:=ZR E.2 zn.out;have M:Hid (∀W,y6 [] c W->_):=pr;have HN:Hid _:=E.2;have zq:∀o:Obj,(loadVar 80 ⟨I,D,none⟩).run prog (c.alloc o)=.ok (.agg #[.string yu,.int .i64 b.3,.iface J K]) (c.alloc o):=(fun o=>by have:=SL.kid0 (zp.kept ((y6.refl [] c).alloc o));rw[E.1.1,E.1.2,Iy.out,s]at this;exact this);have oC:=fun W=>Ub (some ⟨I,D,none⟩) 1 zo W;clear S nL pr T tL zp)|(refine ya rfl _ _ (yc 165 (.tmp 23) (.const (.int .i64 0)) rfl gv 0 1 cv 0 3 rfl rfl 80 underlying165 QG (by omega) 0 rfl) ?_)|(refine y8 rfl 80 (.tmp 24) rfl ⟨gv,0,none⟩ rfl _ H ?_)|(go_at_call 256;refine(PN _ _ _ _).mono ?_;rintro e w'⟨rfl,rfl⟩)|(refine ya rfl _ _ (yc 165 (.tmp 32) (.const (.int .i64 0)) rfl I D 1 zo 0 3 rfl rfl 80 underlying165 QG (by omega) D (by omega)) ?_)|(refine y8 rfl 80 (.tmp 33) rfl ⟨I,D,none⟩ rfl _ (zq _) ?_)|(go_at_fn fS;refine(M.out _ ((y6.refl [] c).alloc _)).mono ?_;rintro e q⟨rfl,G⟩;have U:=G.get (af c (.cells #[.string ⟨#[]⟩,.int .i64 b.3,.iface J K] 80)) (by simp);have nN:ResT w (.string ⟨#[]⟩) (.int .i64 0) .nilIface q:=(((y6.refl [] c).alloc _).trans G).get p (by simp);have Fc:q.cell? ⟨c.heap.size,0,none⟩=some (.string ⟨#[]⟩):=y7 U rfl;have Fe:q.cell? ⟨c.heap.size,1,none⟩=some (.int .i64 b.3):=y7 U rfl;have Ff:q.cell? ⟨c.heap.size,2,none⟩=some (.iface J K):=y7 U rfl;obtain⟨wD,tG,Fg,Fh,Fi,Fj⟩:=nN.six))
 have K5:y6 [] (chW w pl r) q:=Z.trans (((y6.refl [] c).alloc _).trans G);refine aR (aI rfl _ _ (w.heap.size+1) 82 #[.string ⟨#[]⟩,.int .i64 b.3,.iface J K] (0,0) _ rfl (yf (i:=2) _ (yf (i:=1) _ (yf (i:=0) _ nN))) underlying82 rfl stT) rfl ?_;exact MZ (t:=⟨h,b.2,b.3⟩) HA.out l K5 (Or.inr ⟨ND.k (s▸HN.out) (((y6.refl [] c).alloc _).trans G),B⟩) (ResT.k3 w q _ _ _)
theorem Q8W{k:ByteArray}(hF:Zw F k){h:Nat}{n:Nd (h+1)}(hx:TV w A ⟨h+1,n,pl⟩ r)(fD:∀y,A y->y<w.heap.size)(ht:TW ⟨h+1,n,pl⟩)(hc:Cl F Q fid cap w)(hQ:Q (gW k (h+1) n))(hs:yq (h+1) (yL F k (h+1) n)<=122)(hne:∀b:Kid h,yL F k (h+1) n≠([b]:List (Kid h))):
  Calls prog 72 #[.agg #[.string ⟨#[]⟩,.int .i64 pl,r],.string k,.func (.func fid) #[] #[cap]] w (TChR A (gZ F k ⟨h+1,n,pl⟩) w):=by
 have HT:Hid (∀W,y6 [] w W->Calls prog 69 #[.agg #[.string ⟨#[]⟩,.int .i64 pl,r]] W _):=fun W kW=>Mr (t:=⟨h+1,n,pl⟩) (hx.k kW);obtain⟨T,f⟩:=NY hF fD ht hc hQ;have M:=Zn hF (h+1) yu n ht.wf ht.full (jQ k) ht.two;have uZ:Hid _:=T;have d:Hid _:=f;have O:Hid (y6 [] w (chW w pl r)):=MA w pl r;have R0:Hid _:=res0 w pl r;have C0:=Ql w pl r;have hrs:=hx.shape;have im:=hx.one;have H:qN (h+1) yu (yL F k (h+1) n)= [⟨yu,yL F k (h+1) n,0⟩]:=by unfold qN;rw[if_pos hs]
 have V:gZ F k ⟨h+1,n,pl⟩=⟨h+1,yL F k (h+1) n,0⟩:=by
  unfold gZ;simp only;rw[H];exact Q8S _ hne
 rw[V];rw[H]at d;have q:Sm (h+1) (yL F k (h+1) n):=Sm.of M.wf (by omega);have zn:Hid _:=q;have eV:0<List.length (α:=Kid h) (yL F k (h+1) n):=by
  obtain⟨⟨n0,x0,r0,e0⟩,_⟩:=(yN h yu _).1 M.wf;rw[e0];simp
 have hz0:¬((yq (h+1) (yL F k (h+1) n):Nat):Int)=0:=by
  have:yq (h+1) (yL F k (h+1) n)=11*List.length (α:=Kid h) (yL F k (h+1) n):=rfl;omega
 have p:¬((List.length (α:=Kid h) (yL F k (h+1) n):Nat):Int)=1:=by
  intro e1;have e2:List.length (α:=Kid h) (yL F k (h+1) n)=1:=by omega
  obtain⟨b,hb⟩:=List.length_eq_one_iff.1 e2;exact hne b hb
 have D:Hid _:=p;clear p
 have HA:Hid _:=fD;have mr:=NF;have u0:=N1;have oB:=NZ;have u4:Hid ((w.alloc (.cells #[.string ⟨#[]⟩,.int .i64 (pl:Int),r] 82)).alloc (.cells #[.string ⟨#[]⟩,.int .i64 0,.nilIface] 82)=chW w pl r):=rfl;obtain⟨d0,d1,d2⟩:=N8 w pl r;clear T f hx hc ht fD hF hQ M hs H V q hne;go_enter func72,ntmps72;go_wp2_with fail;rw[u4.out];go_wp2_with(first|(go_at_call 69;refine(HT.out _ O.out).mono ?_;rintro e w1⟨x,rfl,hx,g⟩;obtain⟨fn,v1,⟨t1,u9,mu,iF⟩,R⟩:=uZ.out w1 x (O.out.trans g) hx;have lO:Hid (Calls _ _ _ _ _):=R;clear R hx;subst u9)|(go_at_fn fn;refine lO.out.mono ?_;rintro e w2⟨a,rfl,j,I⟩;have C:Hid (Calls _ _ _ _ _):=d.out w2 w1 a j;obtain⟨ta,va,ea⟩:=j.iface;clear j;subst ea)|(go_at_call 110;refine C.out.mono ?_;rintro e c⟨U,cv,fW,rfl,K,Y,mT,J⟩;obtain⟨z,ez,s⟩:=F2.one_inv Y;subst ez;have S: [z].length=1:=rfl;rw[S];rw[S]at K;have P:y6 [] (chW w pl r) c:=(g.trans I).trans J;have l:ResT w (.string ⟨#[]⟩) (.int .i64 0) .nilIface c:=P.get R0.out (by simp);obtain⟨c30,ru,zm,Cu,Cv,Cw⟩:=l.six;have G:=SL.kid0 K;rw[s.1.1,s.1.2]at G;have vd:w.heap.size+1<c.heap.size:=yt l;obtain⟨fS,vS,⟨tS,o,wM,Fa⟩,pr⟩:=ZR s.2 zn.out;have E:Hid (∀W,y6 [] c W->_):=pr;have HN:Hid _:=s.2;obtain⟨v4,AI,N,X,Fb,tL⟩:=gg.1 s.2;rw[N]at G;obtain⟨B,u,wH⟩:=SL.shape X;have zr:(AI.map ke).length=List.length (α:=Kid h) (yL F k (h+1) n):=(by rw[aj,tL.1]);rw[zr]at wH;subst wH;have mg:=D.out;generalize List.length (α:=Kid h) (yL F k (h+1) n)=m4 at*;have IB:((m4:Int)==1)=false:=(by simpa using mg);have oC:=fun W=>Ub B m4 u W;rw[N]at o;cases o;clear K Y X pr zr)|(refine ya rfl _ _ (yc 165 (.tmp 23) (.const (.int .i64 0)) rfl U 0 1 cv 0 3 rfl rfl 80 underlying165 QG (by omega) 0 rfl) ?_)|(refine y8 rfl 80 (.tmp 24) rfl ⟨U,0,none⟩ rfl _ G ?_)|(go_at_call 256;refine(PN _ _ _ _).mono ?_;rintro e w'⟨rfl,rfl⟩)|(go_at_fn fS;refine(E.out _ ((y6.refl [] c).alloc _)).mono ?_;rintro e m⟨rfl,v⟩;have L:=v.get (af c (.cells #[.string ⟨#[]⟩,.int .i64 0,.iface 168 (.slice B m4 u)] 80)) (by simp);have Z:ResT w (.string ⟨#[]⟩) (.int .i64 0) .nilIface m:=(((y6.refl [] c).alloc _).trans v).get l (by simp);have Fc:m.cell? ⟨c.heap.size,0,none⟩=some (.string ⟨#[]⟩):=y7 L rfl;have Fe:m.cell? ⟨c.heap.size,1,none⟩=some (.int .i64 0):=y7 L rfl;have Ff:m.cell? ⟨c.heap.size,2,none⟩=some (.iface 168 (.slice B m4 u)):=y7 L rfl;obtain⟨wD,tG,Fg,Fh,Fi,Fj⟩:=Z.six))
 have K5:y6 [] (chW w pl r) m:=P.trans (((y6.refl [] c).alloc _).trans v);refine aR (aI rfl _ _ (w.heap.size+1) 82 #[.string ⟨#[]⟩,.int .i64 0,.iface 168 (.slice B m4 u)] (0,0) _ rfl (yf (i:=2) _ (yf (i:=1) _ (yf (i:=0) _ Z))) underlying82 rfl stT) rfl ?_;exact MZ (t:=⟨h+1,yL F k (h+1) n,0⟩) HA.out g K5 (Or.inr ⟨ND.k (N▸HN.out) (((y6.refl [] c).alloc _).trans v),rfl⟩) (ResT.k3 w m _ _ _)
theorem Tz{k:ByteArray}(hF:Zw F k)(hx:TV w A t r)(fD:∀y,A y->y<w.heap.size)(ht:TW t)(hc:Cl F Q fid cap w)(hQ:Q (gW k t.h t.n)):
  Calls prog 72 #[.agg #[.string ⟨#[]⟩,.int .i64 t.pl,r],.string k,.func (.func fid) #[] #[cap]] w (TChR A (gZ F k t) w):=by
 obtain⟨h,n,pl⟩:=t
 by_cases c:yq h (yL F k h n)<=122
 ·cases h with
  |zero=>
   exact Q8U hF hx fD ht hc hQ c
  |succ h=>
   by_cases a:∃b:Kid h,yL F k (h+1) n=([b]:List (Kid h))
   ·obtain⟨b,a⟩:=a;exact Q8V hF hx fD ht hc hQ c a
   ·exact Q8W hF hx fD ht hc hQ c fun b e=>a ⟨b,e⟩
 ·exact Q8T hF hx fD ht hc hQ c
theorem Q8Y(k x:ByteArray)(w:World):(Instr.build 122 #[(0,.agg #[.string k,.string x])]).run prog w=.ok (.agg #[.string k,.string x]) w:=by kernel_rfl
theorem Q8Z:(prog.info? 41).map (·.size)=some 2:=by kernel_rfl
theorem Q90(k x:ByteArray)(w:World)(b:Nat)(hb:w.heap[b]?=some (.cells #[.string k,.string x] 41 (0,0))):Cl (yy k x) (fun _=>True) 92 (.pointer (some ⟨b,0,none⟩)) w:=by
 refine⟨fun _ _=>by kernel_rfl,?_⟩;intro W v l i d h a _;have j:Hid (Calls _ _ _ _ _):=Q72 v l k x W d h a;have r:=i.get hb (by simp);have f:=jC (P:=prog) (ty:=41) (e:=pe (k,x)) (o:=0) _ r ⟨rfl,Rf k x⟩ underlying41 Q8Z;simp only[pe]at f;have s:=Q8Y;obtain⟨p,c,g⟩:=SL.shape d;rw[aj]at g;subst g;clear d h a i;go_enter func92,ntmps92;go_wp2_with(first|(refine y8 rfl 41 (.tmp 1) rfl ⟨b,0,none⟩ rfl _ f ?_)|(go_at_call 93;refine j.out.mono ?_;rintro e u⟨t,rfl,m,n,q⟩))
 go_ret;exact⟨_,rfl,m,n,q⟩
theorem Q91(k:ByteArray)(w:World)(b:Nat)(hb:w.heap[b]?=some (.cells #[.string k] 9 (0,0))):Cl (ym k) (fun l=>(gA k l).isSome=true) 73 (.pointer (some ⟨b,0,none⟩)) w:=by
 refine⟨fun _ _=>by kernel_rfl,?_⟩;intro W v l i d h a g;have j:Hid (Calls _ _ _ _ _):=XS v l k W d h a g;have q:W.cell? ⟨b,0,none⟩=some (.string k):=y7 (i.get hb (by simp)) rfl;obtain⟨p,c,f⟩:=SL.shape d;rw[aj]at f;subst f;clear d h a i g;go_enter func73,ntmps73;go_wp2_with(first|(go_at_call 74;refine j.out.mono ?_;rintro e s⟨r,rfl,m,n,o⟩))
 go_ret;exact⟨_,rfl,m,n,o⟩
theorem Pm{W0 w1 w2:World}{r1:Value}{q:Nat}(hA:∀y,A y->y<w.heap.size)(K0:y6 [] w W0)(hk1:y6 [] W0 w1)(hq:w.heap.size<=q)(fY:q<W0.heap.size)(ht:TV w1 (fun y=>A y\/W0.heap.size<=y) t r1)(k4:y6 [q] w1 w2):TChR A t w (.returned (.agg #[.string ⟨#[]⟩,.int .i64 t.pl,r1])) w2:=by
 have c:=K0.size;refine⟨_,rfl,TV.kept ht k4 ?_ ?_,(K0.trans hk1).trans2 k4 fun y b=>Or.inr (by simp at b;subst b;omega)⟩
 ·intro y b;simp at b;subst b;rintro(a|a)
  ·have:=hA _ a;omega
  ·omega
 ·rintro y(a|a)
  ·exact Or.inl a
  ·exact Or.inr (by omega)
theorem one3(p:Int)(h:r.oneCell'=true):(#[.string ⟨#[]⟩,.int .i64 p,r]:Array Value).all (·.oneCell')=true:=by
 have a:(Value.string ⟨#[]⟩).oneCell'=true:=rfl;have b:(Value.int .i64 p).oneCell'=true:=rfl;simp[h,a,b]
theorem Q93(hx:TV w A t r)(fD:∀y,A y->y<w.heap.size)(ht:TW t)(k x:ByteArray)(hk:gz k)(hv:x.size<=12):
  Calls prog 58 #[.agg #[.string ⟨#[]⟩,.int .i64 t.pl,r],.agg #[.string k,.string x]] w (TChR A (gZ (yy k x) k t) w):=by
 obtain⟨a,b⟩:∃a,a=((w.alloc (.cells #[.string ⟨#[]⟩,.int .i64 (t.pl:Int),r] 82)).alloc (.cells #[.string k,.string x] 41)).alloc (.cells #[.string ⟨#[]⟩,.int .i64 0,.nilIface] 82):=⟨_,rfl⟩
 have g:y6 [] w a:=by rw[b];exact(((y6.refl [] w).alloc _).alloc _).alloc _
 have z:a.heap.size=w.heap.size+1+1+1:=by rw[b,ak,ak,ak]
 have c:a.heap[w.heap.size+1]?=some ((.cells #[.string k,.string x] 41:Obj)):=by
  have:=af (w.alloc (.cells #[.string ⟨#[]⟩,.int .i64 (t.pl:Int),r] 82)) (.cells #[.string k,.string x] 41);rw[ak]at this;rw[b];exact((y6.refl [] _).alloc (.cells #[.string ⟨#[]⟩,.int .i64 0,.nilIface] 82)).get this (by simp)
 have h:a.heap[w.heap.size+1+1]?=some (.cells #[.string ⟨#[]⟩,.int .i64 0,.nilIface] 82 (0,0)):=by
  have:=af ((w.alloc (.cells #[.string ⟨#[]⟩,.int .i64 (t.pl:Int),r] 82)).alloc (.cells #[.string k,.string x] 41)) (.cells #[.string ⟨#[]⟩,.int .i64 0,.nilIface] 82);rw[ak,ak]at this;rw[b];exact this
 have o:Hid (Calls _ _ _ _ _):=Tz (OZ k x hk hv) (hx.k g) (fun y p=>bz (fD y p) g.size) ht (Q90 k x a (w.heap.size+1) c) trivial;have n:Hid _:=fD;generalize gZ (yy k x) k t=s at*;clear hx fD ht c;have v:=M1;go_enter func58,ntmps58;go_wp2_with(first|(go_at_call 72;rw[<-b];refine o.out.mono ?_;rintro e B⟨q,rfl,m,d⟩;have i:=d.get h (by simp);have f:Hid _:=m;have u:=m.one;clear m)|(refine ye rfl 82 (.tmp 4) (.tmp 9) rfl (w.heap.size+1+1) #[.string ⟨#[]⟩,.int .i64 s.pl,q] rfl rfl 82 _ i stT rfl (one3 _ u) ?_;intro C j l))
 refine aR (aI rfl _ _ (w.heap.size+1+1) 82 _ (0,0) _ rfl j underlying82 rfl stT) rfl ?_;exact Pm n.out g d (by omega) (by omega) f.out l
def delT(k:ByteArray)(t:Tr):Tr:=if(gA k (yH t)).isSome then gZ (ym k) k t else t
theorem Q94{k:ByteArray}:∀{l:List Pr},(gA k l).isSome=false->ym k l=l:=by
 intro l h;refine Z0 k l fun p a=> ?_
 cases c:be p.1 k with
 |false=>rfl
 |true=>
  exfalso
  induction l with
  |nil=>cases a
  |cons q r ih=>
   cases b:be q.1 k with
   |true=>simp[gA,b]at h
   |false=>
    rcases an.1 a with rfl|a
    ·rw[b]at c;cases c
    ·exact ih (by simpa[gA,b]using h) a
theorem Q95(k:ByteArray)(t:Tr)(ht:TW t):TW (delT k t)/\yH (delT k t)=ym k (yH t):=by
 unfold delT
 cases h:(gA k (yH t)).isSome with
 |true=>exact Oh (Rj k) t ht
 |false=>exact⟨ht,(Q94 h).symm⟩
theorem Q96(hx:TV w A t r)(fD:∀y,A y->y<w.heap.size)(ht:TW t)(k:ByteArray):
  Calls prog 50 #[.agg #[.string ⟨#[]⟩,.int .i64 t.pl,r],.string k] w (TChR A (delT k t) w):=by
 obtain⟨c,f⟩:∃c,c=((w.alloc (.cells #[.string ⟨#[]⟩,.int .i64 (t.pl:Int),r] 82)).alloc (.cells #[.string k] 9)).alloc (.cells #[.string ⟨#[]⟩,.int .i64 0,.nilIface] 82):=⟨_,rfl⟩
 have j:y6 [] w c:=by rw[f];exact(((y6.refl [] w).alloc _).alloc _).alloc _
 have R:c.heap.size=w.heap.size+1+1+1:=by rw[f,ak,ak,ak]
 have l:c.heap[w.heap.size]?=some ((.cells #[.string ⟨#[]⟩,.int .i64 (t.pl:Int),r] 82:Obj)):=by
  rw[f];exact(((y6.refl [] _).alloc _).alloc _).get (af w _) (by simp)
 have g:c.heap[w.heap.size+1]?=some ((.cells #[.string k] 9:Obj)):=by
  have:=af (w.alloc (.cells #[.string ⟨#[]⟩,.int .i64 (t.pl:Int),r] 82)) (.cells #[.string k] 9);rw[ak]at this;rw[f];exact((y6.refl [] _).alloc (.cells #[.string ⟨#[]⟩,.int .i64 0,.nilIface] 82)).get this (by simp)
 have m:c.heap[w.heap.size+1+1]?=some (.cells #[.string ⟨#[]⟩,.int .i64 0,.nilIface] 82 (0,0)):=by
  have:=af ((w.alloc (.cells #[.string ⟨#[]⟩,.int .i64 (t.pl:Int),r] 82)).alloc (.cells #[.string k] 9)) (.cells #[.string ⟨#[]⟩,.int .i64 0,.nilIface] 82);rw[ak,ak]at this;rw[f];exact this
 have o:Hid (Calls _ _ _ _ _):=Uq (hx.k j) ht k;have I:=hx.one;have B:Hid _:=fD;have F:Hid _:=hx;have Q:=M1;unfold delT
 cases s:(gA k (yH t)).isSome with
 |false=>
  rw[s]at o;simp only[bj,cQ];clear hx fD ht g;go_enter func50,ntmps50;go_wp2_with(first|(go_at_call 46;rw[<-f];refine o.out.mono ?_;rintro e D⟨rfl,a⟩;have i:=a.get m (by simp);have v:=a.get l (by simp))|(refine aW rfl 82 (.tmp 2) rfl w.heap.size rfl 82 #[.string ⟨#[]⟩,.int .i64 (t.pl:Int),r] (0,0) _ v underlying82 rfl stT ?_)|(refine ye rfl 82 (.tmp 4) (.tmp 15) rfl (w.heap.size+1+1) #[.string ⟨#[]⟩,.int .i64 t.pl,r] rfl rfl 82 _ i stT rfl (one3 _ I) ?_;intro N q b))
  refine aR (aI rfl _ _ (w.heap.size+1+1) 82 _ (0,0) _ rfl q underlying82 rfl stT) rfl ?_;exact Pm B.out j a (by omega) (by omega) ((TV.k F.out (j.trans a)).kept (y6.refl [] _) (by simp) fun _ h=>Or.inl h) b
 |true=>
  rw[s]at o;simp only[if_true];obtain⟨_,d⟩:=Rd k t.h yu t.n ht.wf (jQ k);have C:(gA k (gW k t.h t.n)).isSome=true:=by rw[d];exact s
  have E:Hid (∀W,y6 [] c W->_):=fun W x=>Tz (Rj k) (hx.k (j.trans x)) (fun y G=>bz (fD y G) (j.trans x).size) ht (Q91 k W (w.heap.size+1) (x.get g (by simp))) C;generalize gZ (ym k) k t=M at*;clear hx fD ht d C;go_enter func50,ntmps50;go_wp2_with(first|(go_at_call 46;rw[<-f];refine o.out.mono ?_;rintro e D⟨rfl,a⟩;have i:=a.get m (by simp);have v:=a.get l (by simp);have J:=a.get g (by simp);have P:D.cell? ⟨w.heap.size+1,0,none⟩=some (.string k):=y7 J rfl)|(refine aW rfl 82 (.tmp 2) rfl w.heap.size rfl 82 #[.string ⟨#[]⟩,.int .i64 (t.pl:Int),r] (0,0) _ v underlying82 rfl stT ?_)|(go_at_call 72;refine(E.out _ a).mono ?_;rintro e N⟨K,rfl,z,b⟩;have L:=b.get i (by simp);have p:Hid _:=z;have O:=z.one;clear z)|(refine ye rfl 82 (.tmp 4) (.tmp 19) rfl (w.heap.size+1+1) #[.string ⟨#[]⟩,.int .i64 M.pl,K] rfl rfl 82 _ L stT rfl (one3 _ O) ?_;intro S H u))
  refine aR (aI rfl _ _ (w.heap.size+1+1) 82 _ (0,0) _ rfl H underlying82 rfl stT) rfl ?_;exact Pm B.out (j.trans a) b (by omega) (by have:=a.size;omega) p.out u
end Go.Proofs.YtcklgafpgdhnaaaGreatDoor
