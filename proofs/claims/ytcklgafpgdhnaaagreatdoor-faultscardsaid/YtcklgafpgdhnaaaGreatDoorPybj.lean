import Derived.Test.YtcklgafpgdhnaaaGreatDoorPybh
import Derived.Test.YtcklgafpgdhnaaaGreatDoorPybc
set_option maxRecDepth 100000
set_option maxHeartbeats 4000000
set_option linter.unusedSimpArgs false
set_option linter.unusedVariables false
set_option linter.unusedSectionVars false
open Go.Proofs.Tryz
open List renaming getElem_toArray → zA, getElem_cons_succ → zB
namespace Go.Proofs.YtcklgafpgdhnaaaGreatDoor
open Go.RowKit Go.Shelf
theorem Qdo(args:Array Value)(w:World):(callFunc 69 args).run prog w=.ok (.enter 69 args) w:=qy func69 (by kernel_rfl) (by kernel_rfl) args w
def TaB(b0 b1 b2:Nat)(t:Tr)(r:Value)(lo hi:ByteArray)(W:World):Prop:=RowT b0 t r W/\W.heap[b1]?=some (.cells #[.string lo] 9 (0,0))/\W.heap[b2]?=some (.cells #[.string hi] 9 (0,0))
variable {r:Value}
theorem TaB.k{b0 b1 b2:Nat}{t:Tr}{lo hi:ByteArray}{W W':World}(h:TaB b0 b1 b2 t r lo hi W)(kk:y6 [] W W'):TaB b0 b1 b2 t r lo hi W':=⟨kk.get h.1 (by simp),kk.get h.2.1 (by simp),kk.get h.2.2 (by simp)⟩
theorem Qdp{o:Oper}{a:Act}{w:World}(x:Operand)(nm:String)(y1 y2 y3:Operand)(ts:Array TypeId)(ho:o.op=.call {callee:=.invoke x nm,args:=#[y1,y2,y3],argTypes:=ts})(t:TypeId)(v:Value)(hx:a.eval x=.iface t v)(v1 v2 v3:Value)(h1:a.eval y1=v1)(h2:a.eval y2=v2)(h3:a.eval y3=v3)(f:FuncId)
  (hm:(Go.method 433 t v nm).run prog w=.ok (f,v) w)(he:(callFunc f #[v,v1,v2,v3]).run prog w=.ok (.enter f #[v,v1,v2,v3]) w):(execOp a.eval o).run prog w=.ok (.enter f #[v,v1,v2,v3]) w:=by
 have b:(program:Sem Program).run prog w=.ok prog w:=rfl;simp[execOp,ho,resolve,invoke,callMethod,hx,h1,h2,h3,b,VX,hm,he]
theorem Qdq(ll:Nat)(M:List Nat)(b0 b1 b2:Nat)(lo hi:ByteArray)(r:Value)(t:Tr)(J Jx:List Pr->World->Prop)(hJ:∀pre W W',J pre W->y6 [] W W'->J pre W')(hY:O9 ll M (flt lo hi (yH t)).length J Jx)(ht:TW t)(W:World)(hb:TaB b0 b1 b2 t r lo hi W)(hv:TV W (·∉M) t r)(pH:J [] W):
  Calls prog 106 #[.func (.yield ll) #[] #[],.pointer (some ⟨b0,0,none⟩),.pointer (some ⟨b1,0,none⟩),.pointer (some ⟨b2,0,none⟩)] W fun e W'=>(∃v,e=.returned v)/\(J (flt lo hi (yH t)) W'\/∃q,q<+:flt lo hi (yH t)/\Jx q W'):=by
 have w:Hid (∀W' x,y6 [] W W'->ND W' (·∉M) t.h t.n x->_):=fun W' x l j=>UU ll M _ J Jx hJ hY lo hi t.h 1 yu t.n x [] W' j ht.wf ht.full (by have:=ht.hi;omega) (hJ _ _ _ pH l) (by rw[bO,bL];exact ag _);have y:Hid (∀W',y6 [] W W'->Calls prog 69 #[.agg #[.string ⟨#[]⟩,.int .i64 t.pl,r]] W' _):=fun W' l=>Mr (hv.k l);have b:TaB b0 b1 b2 t r lo hi W.drew:=hb;clear hJ pH hY hv;go_enter func106,ntmps106;go_wp2_with fail;refine gu (TaB b0 b1 b2 t r lo hi) 5 (by kernel_rfl) ?_;refine uk 2 (.string lo) rfl (fun W d=>y9 9 (.tmp 2) rfl ⟨b1,0,none⟩ rfl _ (yh underlying9 rfl (y7 d.2.1 rfl))) b ?_;refine uk 3 (.string hi) rfl (fun W d=>y9 9 (.tmp 3) rfl ⟨b2,0,none⟩ rfl _ (yh underlying9 rfl (y7 d.2.2 rfl))) b ?_;refine uk 4 (.func (.yield ll) #[] #[]) rfl (fun W d=>by rfl) b ?_;refine qI (i:=0) (by kernel_rfl) (yM rfl (by rfl) (.agg #[.string ⟨#[]⟩,.int .i64 t.pl,r]) _ (y9 82 (.tmp 1) rfl ⟨b0,0,none⟩ rfl _ (MM b.1)) ⟨fun _=>b,?_⟩);simp only[zz];refine qI (i:=1) (by kernel_rfl) (yp rfl (by rfl) 69 #[.agg #[.string ⟨#[]⟩,.int .i64 t.pl,r]] (yn _ _ _ rfl _ (by simp[Act.eval]) (Qdo _ _)) _ (y.out _ (y6.refl [] W).drew) ?_);rintro e D⟨x,rfl,j,c⟩;have m:=b.k c;obtain⟨s,v,⟨C,z,B,A⟩,p⟩:=w.out D x ((y6.refl [] W).drew.trans c) j;refine⟨_,rfl,fun _=>m,?_⟩;simp only[zz];subst z;refine qI (i:=5) (by kernel_rfl) (yp rfl (by rfl) s #[v,.string lo,.string hi,.func (.yield ll) #[] #[]] (Qdp (.tmp 6) _ (.tmp 7) (.tmp 8) (.tmp 9) _ rfl C v rfl _ _ _ rfl rfl rfl s (B _) (A _ _)) _ ((dH (n:=1)).1 p) ?_);rintro e u a;have g:∃o,e=.returned (.bool o):=by
  rcases a with⟨rfl,_⟩|⟨rfl,_⟩
  ·exact⟨_,rfl⟩
  ·exact⟨_,rfl⟩
 obtain⟨o,rfl⟩:=g;refine⟨_,rfl,fun h=>absurd rfl h,?_⟩;simp only[zz];refine gq (by kernel_rfl) ?_ _;have f:Hid (J (flt lo hi (yH t)) u\/∃q,q<+:flt lo hi (yH t)/\Jx q u):=by
  rcases a with⟨_,h1,_⟩|⟨_,⟨h1,_⟩|⟨q,hq,h1⟩⟩
  ·exact Or.inl (by rw[aX]at h1;exact h1)
  ·exact Or.inl (by rw[aX]at h1;exact h1)
  ·exact Or.inr ⟨q,hq,by rw[aX]at h1;exact h1⟩
 clear a b m p;go_wp2;go_end0;exact⟨⟨_,rfl⟩,f.out⟩
def encP(x:Pr):Array Value:=#[.agg #[.string x.1,.string x.2]]
theorem XT(M:List Nat)(b0 b1 b2:Nat)(lo hi:ByteArray)(r:Value)(t:Tr)(ht:TW t)(w:World)(hb:TaB b0 b1 b2 t r lo hi w)(hv:TV w (·∉M) t r):
  Itr 106 #[.pointer (some ⟨b0,0,none⟩),.pointer (some ⟨b1,0,none⟩),.pointer (some ⟨b2,0,none⟩)] encP (fun x _=>okp x) M (fun ys=>ys=flt lo hi (yH t)) (fun pre=>pre<+:flt lo hi (yH t)) (flt lo hi (yH t)).length w:=by
 intro l J i W g o s p j;refine(Qdq l M b0 b1 b2 lo hi r t J i (fun pre A B h k=>o _ _ _ h (Gr.of k)) ?_ ht W (hb.k g) (hv.k g) j).mono ?_
 ·intro m pre x A n f c;refine YieldAt.mono (p m pre x A n f c) ?_;rintro e B(⟨b,a,d,_⟩|⟨b,a,_⟩)
  ·exact Or.inl ⟨b,a,d⟩
  ·exact Or.inr ⟨b,a⟩
 ·rintro e B⟨b,a|⟨q,a,d⟩⟩
  ·exact⟨b,Or.inl ⟨_,rfl,a⟩⟩
  ·exact⟨b,Or.inr ⟨q,a,d⟩⟩
theorem Qds(t:Tr)(r:Value)(lo hi:ByteArray)(w:World):Calls prog 66 #[.agg #[.string ⟨#[]⟩,.int .i64 t.pl,r],.string lo,.string hi] w fun e w'=>e=.returned (.func (.func 106) #[] #[.pointer (some ⟨w.heap.size,0,none⟩),.pointer (some ⟨w.heap.size+1,0,none⟩),.pointer (some ⟨w.heap.size+1+1,0,none⟩)])/\TaB w.heap.size (w.heap.size+1) (w.heap.size+1+1) t r lo hi w'/\w'.heap.size=w.heap.size+3/\y6 [] w w':=by
 have a:=j2;go_enter func66,ntmps66;go_wp2;go_ret;refine⟨rfl,⟨?_,?_,?_⟩,by simp,(((y6.refl _ _).alloc _).alloc _).alloc _⟩
 ·exact(((y6.refl [] _).alloc _).alloc _).get (af _ _) (by simp)
 ·have:=af (w.alloc (.cells #[.string ⟨#[]⟩,.int .i64 t.pl,r] 82)) (.cells #[.string lo] 9);rw[ak]at this;exact((y6.refl [] _).alloc _).get this (by simp)
 ·have:=af ((w.alloc (.cells #[.string ⟨#[]⟩,.int .i64 t.pl,r] 82)).alloc (.cells #[.string lo] 9)) (.cells #[.string hi] 9)
  rwa[ak,ak]at this
theorem PM(b0 b1 x v a n:Nat)(c:Hd)(r:Value)(t:Tr)(w:World)(hb:w.heap[b0]?=some (.cells #[.pointer (some ⟨x,0,none⟩)] 27 (0,0)))(h:Rec x v a n c r t w):
  Calls prog 65 #[.pointer (some ⟨b0,0,none⟩),.pointer (some ⟨b1,0,none⟩)] w fun e w'=>e=.returned (.bool false)/\y6 [] w w':=by
 have i:w.cell? ⟨b0,0,none⟩=some (.pointer (some ⟨x,0,none⟩)):=y7 hb rfl;have j:=j2;have f:Hid (∀b,Calls prog 42 #[.string b,.func (.func 44) #[.pointer (some ⟨x,0,none⟩)] #[]] w fun e w'=>e=.returned .nilIface/\qY w'/\y6 [] w w'):=fun b=>
  Xz b 44 _ (fun _ _=>by kernel_rfl) [] qY w (by simp) (fun _ _ _ _ _ _=>trivial) fun W g _=>(jA x v c t r W h.st.1 (h.k g).row).mono fun e w' h=>⟨h.1,trivial,h.2⟩
 clear h;go_enter func65,ntmps65;go_wp2_with(first|(go_at_call 42;refine(f.out _).mono ?_;rintro e l⟨rfl,_,d⟩))
 go_ret;exact⟨rfl,d⟩
theorem N9(x:Nat)(lo hi:ByteArray)(w:World):Calls prog 41 #[.pointer (some ⟨x,0,none⟩),.string lo,.string hi] w fun e w'=>e=.returned (.func (.func 64) #[] #[.pointer (some ⟨w.heap.size,0,none⟩),.pointer (some ⟨w.heap.size+1,0,none⟩),.pointer (some ⟨w.heap.size+1+1,0,none⟩)])/\Bx3 w.heap.size (w.heap.size+1) (w.heap.size+1+1) x lo hi w'/\w'.heap.size=w.heap.size+3/\y6 [] w w':=by
 have a:=j2;go_enter func41,ntmps41;go_wp2;go_ret;exact⟨rfl,ZV w x lo hi,by simp,(((y6.refl _ _).alloc _).alloc _).alloc _⟩
attribute [local go_sem] Oper.semAt_some
theorem Xg(args:Array Value)(w:World):(callFunc 66 args).run prog w=.ok (.enter 66 args) w:=qy func66 (by kernel_rfl) (by kernel_rfl) args w
structure SM(M:List Nat)(x v a n:Nat)(hd:Hd)(r:Value)(t:Tr)(w:World):Prop where
 row:w.heap[x]?=some (.cells (qC hd v t r) 84 (0,0))
 vol:Vol w v a n
 st:1<=hd.s/\hd.s<=3
 lv:TV w (·∉M) hd.lt hd.lr
 tv:TV w (·∉M) t r
 nx:x∉M
 nv:v∉M
theorem TV.kc{M:List Nat}{w w':World}{t:Tr}{r:Value}(h:TV w (·∉M) t r)(k:KC M w w'):TV w' (·∉M) t r:=h.imp id fun h=>⟨ND.kc k h.1,h.2⟩
theorem SM.kc{M:List Nat}{x v a n:Nat}{hd:Hd}{r:Value}{t:Tr}{w w':World}(h:SM M x v a n hd r t w)(k:KC M w w'):SM M x v a n hd r t w':=⟨k.row _ _ _ _ h.row h.nx (by decide),k.row _ _ _ _ h.vol h.nv (by decide),h.st,h.lv.kc k,h.tv.kc k,h.nx,h.nv⟩
variable {n:Nat}
theorem SM.toRec{M:List Nat}{x v a:Nat}{hd:Hd}{t:Tr}{w:World}(h:SM M x v a n hd r t w):Rec x v a n hd r t w:=⟨h.row,h.vol,h.st,TV.kept h.lv (y6.refl [] w) (by simp) fun _ _=>trivial,TV.kept h.tv (y6.refl [] w) (by simp) fun _ _=>trivial⟩
theorem U3{q:Nat}{X:World}{t:TypeId}(h:X.heap[q]?=some (.cells #[r] t (0,0)))(fn:Fn)(first cap:Array Value):(store ⟨q,0,none⟩ (.func fn first cap)).run prog X=.ok () (X.setCell ⟨q,0,none⟩ (.func fn first cap)):=by
 have hc:X.cell? ⟨q,0,none⟩=some r:=y7 h rfl;have a:X.frozen? ⟨q,0,none⟩=false:=ax _ _ _ _ _ h;rw[run_store _ _ _ _ _ rfl];simp[hc,a]
theorem Pq{w:World}{q:Nat}{t:TypeId}{a b:Value}(hq:w.heap[q]?=some (.cells #[a,b] t (0,0))):(loadVar 41 ⟨q,0,none⟩).run prog w=.ok (.agg #[a,b]) w:=
 jC (e:= [a,b]) (d:=2) _ hq ⟨rfl,fun j u h=>by rw[bL];simpa using h⟩ underlying41 P7
def NoP(Q:Exit->Act->World->Prop):Exit->Act->World->Prop
 | .panic _,_,_=>False
 |e,a,w=>Q e a w
theorem NoP.of{Q:Exit->Act->World->Prop}:∀(e:Exit) (a:Act) (w:World),NoP Q e a w->Q e a w:=by
 intro e a w h
 cases e<;>first|exact h|exact h.elim
def enc2(x:Pr):Array Value:=#[.agg #[.string x.1,.string x.2],.nilIface]
theorem Qdy(M:List Nat)(x v a nb b0 b1 b2:Nat)(hd:Hd)(r:Value)(t:Tr)(lo hi:ByteArray)(ht:TW t)(w:World)(hb:Bx3 b0 b1 b2 x lo hi w)(hM:∀y∈M,y<w.heap.size)(hm0:b0∉M)(_hm1:b1∉M)(_hm2:b2∉M)(h:SM M x v a nb hd r t w):
  Itr 64 #[.pointer (some ⟨b0,0,none⟩),.pointer (some ⟨b1,0,none⟩),.pointer (some ⟨b2,0,none⟩)] enc2 (fun _ _=>True) M (fun ys=>ys=flt lo hi (yH t)) (fun pre=>pre<+:flt lo hi (yH t)) (flt lo hi (yH t)).length w:=by
 intro l J U W kW P Bk hY h0;have vg:=hb.k kW;have kX:=h.kc (KC.of0 kW);have iN:=j2;refine(dH (n:=1)).1 (callsIn_of_wp_marks func64 rfl trivial ?_ rfl);simp only[ntmps64,bX,aB,bO,Nat.reduceAdd,Nat.reduceSub,dz,dA,dQ,dF,aX,bD];refine wpIn_mono (Q:=NoP _) ?_ NoP.of;refine wpIn_wide.2 ?_;obtain⟨Z,een⟩:∃Z:Value,Z=.func (.func 65) #[] #[.pointer (some ⟨b0,0,none⟩),.pointer (some ⟨W.heap.size,0,none⟩)]:=⟨_,rfl⟩
 obtain⟨X0,vQ⟩:∃X0,X0=(W.alloc (.cells #[.func (.yield l) #[] #[]] 106)).alloc (.cells #[.nilFunc] 107):=⟨_,rfl⟩
 have r1:X0.heap[W.heap.size+1]?=some (.cells #[.nilFunc] 107 (0,0)):=by
  have:=af (W.alloc (.cells #[.func (.yield l) #[] #[]] 106)) (.cells #[.nilFunc] 107);rw[ak]at this;rw[vQ];exact this
 have hst:=U3 r1 (.func 65) #[] #[.pointer (some ⟨b0,0,none⟩),.pointer (some ⟨W.heap.size,0,none⟩)];rw[vQ]at hst;clear r1 vQ;obtain⟨V,rF⟩:∃V,V=(W.alloc (.cells #[.func (.yield l) #[] #[]] 106)).alloc (.cells #[Z] 107):=⟨_,rfl⟩
 have k1:y6 [] W V:=by rw[rF];exact((y6.refl [] W).alloc _).alloc _
 have y1:V.heap[W.heap.size]?=some (.cells #[.func (.yield l) #[] #[]] 106 (0,0)):=by rw[rF];exact((y6.refl [] _).alloc _).get (af _ _) (by simp)
 have r1:V.heap[W.heap.size+1]?=some (.cells #[Z] 107 (0,0)):=by
  have:=af (W.alloc (.cells #[.func (.yield l) #[] #[]] 106)) (.cells #[Z] 107);rw[ak]at this;rw[rF];exact this
 have s1:V.heap.size=W.heap.size+2:=by rw[rF];simp
 rw[een]at rF;have HE:Hid (∀W' b1,y6 [] W W'->_):=fun W' b1 k'=>PM b0 b1 x v a nb hd r t W' (k'.get vg.1 (by simp)) (kX.kc (KC.of0 k')).toRec;go_wp2_with(first|(go_at_call 65;refine(HE.out _ _ (((y6.refl [] W).alloc _).alloc _)).mono ?_;rw[<-rF];rintro e w3⟨rfl,R⟩))
 have K3:y6 [] W w3.drew:=(k1.trans R).drew;have G:Bx3 b0 b1 b2 x lo hi w3.drew/\Qm x v hd t r w3.drew:=⟨vg.k K3,(kX.kc (KC.of0 K3)).row⟩
 refine yo (fun W=>Bx3 b0 b1 b2 x lo hi W/\Qm x v hd t r W) (by kernel_rfl) ?_;refine uh 0 (.pointer (some ⟨x,0,none⟩)) rfl (fun W H=>y9 27 (.tmp 1) rfl ⟨b0,0,none⟩ rfl _ (yh underlying27 rfl (y7 H.1.1 rfl))) G ?_;refine uh 1 (.pointer (some ⟨x,0,none⟩)) rfl (fun W H=>by rfl) G ?_;refine uh 2 (.pointer (some ⟨x,0+7,none⟩)) rfl (fun W H=>yx 84 (.tmp 11) 4 rfl x (0) rfl 7 (by rfl)) G ?_;refine uh 3 (.agg #[.string ⟨#[]⟩,.int .i64 t.pl,r]) rfl (fun W H=>y9 82 (.tmp 12) rfl ⟨x,0+7,none⟩ rfl _ (NT H.2)) G ?_;refine uh 4 (.string lo) rfl (fun W H=>y9 9 (.tmp 2) rfl ⟨b1,0,none⟩ rfl _ (yh underlying9 rfl (y7 H.1.2.1 rfl))) G ?_;refine uh 5 (.string hi) rfl (fun W H=>y9 9 (.tmp 3) rfl ⟨b2,0,none⟩ rfl _ (yh underlying9 rfl (y7 H.1.2.2 rfl))) G ?_;refine yi (i:=6) (by kernel_rfl) (yp rfl (by rfl) 66 #[.agg #[.string ⟨#[]⟩,.int .i64 t.pl,r],.string lo,.string hi] (yn _ _ _ rfl _ (by simp[Act.eval]) (Xg _ _)) _ (Qds t r lo hi _) ?_);rintro e u⟨rfl,zY,Di,dX⟩;refine⟨_,rfl,⟨G.1.k dX,dX.get G.2 (by simp)⟩,?_⟩;simp only[zz];refine aK (by kernel_rfl) ?_ _;have K4:y6 [] W u:=K3.trans dX;have FY:=kX.kc (KC.of0 K4);have y4:=(R.drew.trans dX).get y1 (by simp);have r4:=(R.drew.trans dX).get r1 (by simp);obtain⟨N,F0⟩:∃N,N=w3.drew.heap.size:=⟨_,rfl⟩
 rw[<-F0]at zY Di⊢;clear G hst F0;go_wp2_with fail;have Dj:∀y∈M,y<W.heap.size:=fun y hy=>bz (hM y hy) kW.size;have zZ:=K4.size;have Jq:=P _ _ _ h0 (Gr.of K4);refine PV (α:=Pr) rfl (fun _ _=>by kernel_rfl) (XT M N (N+1) (N+1+1) lo hi r t ht u zY FY.tv) (fun _=>rfl)
  (fun pre A=>J pre A/\KC M u A) (fun c pre A=>c=.ret/\U pre A) ?_ ?_ ⟨Jq,KC.refl _ _⟩
  (fun p a' A=>∃q,a'={tmps:=#[.func (.yield l) #[] #[],.pointer (some ⟨b0,0,none⟩),.pointer (some ⟨b1,0,none⟩),.pointer (some ⟨b2,0,none⟩),.pointer (some ⟨W.heap.size,0,none⟩),.pointer (some ⟨W.heap.size+1,0,none⟩),.pointer (some ⟨q,0,none⟩),.func (.func 65) #[] #[.pointer (some ⟨b0,0,none⟩),.pointer (some ⟨W.heap.size,0,none⟩)],.func (.func 65) #[] #[.pointer (some ⟨b0,0,none⟩),.pointer (some ⟨W.heap.size,0,none⟩)],.bool false,.pointer (some ⟨x,0,none⟩),.pointer (some ⟨x,0,none⟩),.pointer (some ⟨x,0+7,none⟩),.agg #[.string ⟨#[]⟩,.int .i64 t.pl,r],.string lo,.string hi,.func (.func 106) #[] #[.pointer (some ⟨N,0,none⟩),.pointer (some ⟨N+1,0,none⟩),.pointer (some ⟨N+1+1,0,none⟩)],.agg #[.string p.1,.string p.2],undef,undef,undef,undef,undef,undef,undef,undef,undef],defers:= []}/\A.heap[q]?=some (.cells #[.string p.1,.string p.2] 41 (0,0))/\q∉M) ?_ ?_ ?assign ?body ?done ?stop
 ·rintro s A A'⟨h1,h2⟩C;exact⟨P _ _ _ h1 (C.mono zZ),h2.trans ⟨C.os,C.tape,C.output,C.size,fun i cs t fr hi _ _=>C.row i cs t fr hi⟩⟩
 ·rintro c s A A'⟨h1,h2⟩C;exact⟨h1,Bk _ _ _ h2 (C.mono zZ)⟩
 ·rintro p a' _ A A'⟨q,h1,h2,h3⟩C;exact⟨q,h1,C.row _ _ _ _ h2,h3⟩
 ·intro p _ A A' h _;exact h
 case assign=>
  rintro m l1 pre p A K⟨_,oI⟩_ hK;have Dl:=oI.size;dsimp only[encP]
  gi_wp2
  exact hK _ _ ((y6.refl [] A).alloc _) ⟨A.heap.size,rfl,af _ _,fun hm=>by have:=Dj _ hm;omega⟩
 case body=>
  rintro m l1 pre p a' A⟨xd,oI⟩oJ⟨q,rfl,hq,Lm⟩O;have nW:W.heap.size∉M:=fun hm=>by have:=Dj _ hm;omega
  have nW1:W.heap.size+1∉M:=fun hm=>by have:=Dj _ hm;omega
  have I:∀{X Y:World},KeepsFrom W.heap.size X Y->KeepsFrom u.heap.size X Y:=fun h=>⟨h.size,fun k o hk=>h.same k o (by omega)⟩
  have BF:∀{X:World},KC M A X->X.heap[W.heap.size]?=some (.cells #[.func (.yield l) #[] #[]] 106 (0,0))/\X.heap[W.heap.size+1]?=some (.cells #[Z] 107 (0,0))/\X.heap[b0]?=some (.cells #[.pointer (some ⟨x,0,none⟩)] 27 (0,0))/\SM M x v a nb hd r t X:=fun k=>by
   have k4:=oI.trans k;exact⟨k4.row _ _ _ _ y4 nW (by decide),k4.row _ _ _ _ r4 nW1 (by decide),k4.row _ _ _ _ (vg.k K4).1 hm0 (by decide),FY.kc k4⟩
  have f0:=BF (KC.of0 (y6.refl [] A).drew);have nU:A.drew.heap[q]?=some (.cells #[.string p.1,.string p.2] 41 (0,0)):=hq;rw[een]at BF
  gi_wp2
  refine wpIn_region_any (by kernel_rfl) ?_;refine rTwo (i:=0) (j:=1) (by kernel_rfl) ?_ ?_
  ·refine rOp rfl (by rfl) (by intro c h;cases h) (.func (.yield l) #[] #[]) _ (y9 106 (.tmp 4) rfl ⟨W.heap.size,0,none⟩ rfl _ (yh underlying106 rfl (y7 f0.1 rfl))) ?_;simp only[zz];refine QA (i:=1) (by kernel_rfl) (rOp rfl (by rfl) (by intro c h;cases h) (.agg #[.string p.1,.string p.2]) _ (y9 41 (.tmp 6) rfl ⟨q,0,none⟩ rfl _ (Pq nU)) ?_);simp only[zz];refine QA (i:=2) (by kernel_rfl) (MR rfl (by rfl) (by intro c h;cases h) 59 #[.agg #[.string p.1,.string p.2]] (yn _ _ _ rfl _ (by simp[Act.eval]) (Q7 _ _)) _ (ZA p.1 p.2 _ (by have:=oJ.2.1;omega) (by have:=oJ.2.2;omega)) ?_);rintro e L⟨rfl,E⟩;refine⟨_,rfl,?_⟩;simp only[zz];have S:=P _ _ _ xd (Gr.of ((y6.refl [] A).drew.trans E));have Dm:KC M A L:=KC.of0 ((y6.refl [] A).drew.trans E);have z7:KeepsFrom u.heap.size A L:=KeepsFrom.of_grownBy (Qz ((y6.refl [] A).drew.trans E)) (fun j e=>by cases e);refine QA (i:=3) (by kernel_rfl) (SS rfl (by rfl) (by intro c h;cases h) l _ (SA (.tmp 18) (.tmp 20) (.const .nilIface) _ rfl l rfl _ _ rfl rfl) _ (hY (m-1) pre p L S trivial O) ?_);rintro e f(⟨rfl,z,B,d⟩|⟨rfl,g,d⟩)
   ·refine⟨_,rfl,?_⟩;simp only[zz];have T:=Dm.trans B;have f6:=BF T;refine QA (i:=4) (by kernel_rfl) (rOp rfl (by rfl) (by intro c h;cases h) (.bool false) f (rfl) ?_);simp only[zz];refine QA (i:=5) (by kernel_rfl) (rOp rfl (by rfl) (by intro c h;cases h) (.bool false) f (rfl) ?_);simp only[zz];refine QA (i:=6) (by kernel_rfl) (rOp rfl (by rfl) (by intro c h;cases h) (.func (.func 65) #[] #[.pointer (some ⟨b0,0,none⟩),.pointer (some ⟨W.heap.size,0,none⟩)]) f (y9 107 (.tmp 5) rfl ⟨W.heap.size+1,0,none⟩ rfl _ (yh underlying107 rfl (y7 f6.2.1 rfl))) ?_);simp only[zz];refine QA (i:=7) (by kernel_rfl) (MR rfl (by rfl) (by intro c h;cases h) 65 #[.pointer (some ⟨b0,0,none⟩),.pointer (some ⟨W.heap.size,0,none⟩)] (To (.tmp 24) _ rfl 65 _ rfl (by kernel_rfl)) _ (PM b0 W.heap.size x v a nb hd r t f f6.2.2.1 f6.2.2.2.toRec) ?_);rintro e X7⟨rfl,F⟩;refine⟨_,rfl,?_⟩;simp only[zz];refine QA (i:=8) (by kernel_rfl) (rOp rfl (by rfl) (by intro c h;cases h) (.bool false) X7 (rfl) ?_);simp only[zz];refine wpAnyIn_done (by kernel_rfl) ?_ _;have b:Hid (RndP M u.heap.size (fun pre A=>J pre A/\KC M u A) (fun c pre A=>c=.ret/\U pre A) (pre++ [p]) A .normal {tmps:=#[],defers:= []} X7):=⟨(z7.trans (I d)).trans (KeepsFrom.of_grownBy (Qz F) (fun j e=>by cases e)),T.trans (KC.of0 F),P _ _ _ z (Gr.of F),(oI.trans T).trans (KC.of0 F)⟩
    clear z S
    gi_wp2
    exact b.out
   ·refine⟨_,rfl,?_⟩;simp only[zz];refine QA (i:=4) (by kernel_rfl) (rOp rfl (by rfl) (by intro c h;cases h) (.bool true) f (rfl) ?_);simp only[zz];refine QA (i:=5) (by kernel_rfl) (rOp rfl (by rfl) (by intro c h;cases h) (.bool true) f (rfl) ?_);simp only[zz];refine QA (i:=6) (by kernel_rfl) (Np rfl (by rfl) ?_);simp only[zz];refine QA (i:=7) (by kernel_rfl) (Np rfl (by rfl) ?_);simp only[zz];refine QA (i:=8) (by kernel_rfl) (rOp rfl (by rfl) (by intro c h;cases h) (.bool true) f (rfl) ?_);simp only[zz];refine wpAnyIn_done (by kernel_rfl) ?_ _;have b:Hid (RndP M u.heap.size (fun pre A=>J pre A/\KC M u A) (fun c pre A=>c=.ret/\U pre A) (pre++ [p]) A .ret {tmps:=#[],defers:= []} f):=⟨z7.trans (I d),rfl,g⟩
    clear g S
    gi_wp2
    exact b.out
  ·refine rOp rfl (by rfl) (by intro c h;cases h) (.agg #[.string p.1,.string p.2]) _ (y9 41 (.tmp 6) rfl ⟨q,0,none⟩ rfl _ (Pq nU)) ?_;simp only[zz];refine rTwo (i:=0) (j:=2) (by kernel_rfl) ?_ ?_
   focus
    refine rOp rfl (by rfl) (by intro c h;cases h) (.func (.yield l) #[] #[]) _ (y9 106 (.tmp 4) rfl ⟨W.heap.size,0,none⟩ rfl _ (yh underlying106 rfl (y7 f0.1 rfl))) ?_;simp only[zz];refine QA (i:=2) (by kernel_rfl) (MR rfl (by rfl) (by intro c h;cases h) 59 #[.agg #[.string p.1,.string p.2]] (yn _ _ _ rfl _ (by simp[Act.eval]) (Q7 _ _)) _ (ZA p.1 p.2 _ (by have:=oJ.2.1;omega) (by have:=oJ.2.2;omega)) ?_);rintro e L⟨rfl,E⟩;refine⟨_,rfl,?_⟩;simp only[zz]
   rotate_left
   focus
    refine MR rfl (by rfl) (by intro c h;cases h) 59 #[.agg #[.string p.1,.string p.2]] (yn _ _ _ rfl _ (by simp[Act.eval]) (Q7 _ _)) _ (ZA p.1 p.2 _ (by have:=oJ.2.1;omega) (by have:=oJ.2.2;omega)) ?_;rintro e L⟨rfl,E⟩;refine⟨_,rfl,?_⟩;simp only[zz];have f5:=BF (KC.of0 ((y6.refl [] A).drew.trans E));refine QA (i:=0) (by kernel_rfl) (rOp rfl (by rfl) (by intro c h;cases h) (.func (.yield l) #[] #[]) _ (y9 106 (.tmp 4) rfl ⟨W.heap.size,0,none⟩ rfl _ (yh underlying106 rfl (y7 f5.1 rfl))) ?_);simp only[zz]
   rotate_left
   all_goals
    have S:=P _ _ _ xd (Gr.of ((y6.refl [] A).drew.trans E));have Dm:KC M A L:=KC.of0 ((y6.refl [] A).drew.trans E);have z7:KeepsFrom u.heap.size A L:=KeepsFrom.of_grownBy (Qz ((y6.refl [] A).drew.trans E)) (fun j e=>by cases e);refine QA (i:=3) (by kernel_rfl) (SS rfl (by rfl) (by intro c h;cases h) l _ (SA (.tmp 18) (.tmp 20) (.const .nilIface) _ rfl l rfl _ _ rfl rfl) _ (hY (m-1) pre p L S trivial O) ?_);rintro e f(⟨rfl,z,B,d⟩|⟨rfl,g,d⟩)
    ·refine⟨_,rfl,?_⟩;simp only[zz];have T:=Dm.trans B;have f6:=BF T;refine QA (i:=4) (by kernel_rfl) (rOp rfl (by rfl) (by intro c h;cases h) (.bool false) f (rfl) ?_);simp only[zz];refine QA (i:=5) (by kernel_rfl) (rOp rfl (by rfl) (by intro c h;cases h) (.bool false) f (rfl) ?_);simp only[zz];refine QA (i:=6) (by kernel_rfl) (rOp rfl (by rfl) (by intro c h;cases h) (.func (.func 65) #[] #[.pointer (some ⟨b0,0,none⟩),.pointer (some ⟨W.heap.size,0,none⟩)]) f (y9 107 (.tmp 5) rfl ⟨W.heap.size+1,0,none⟩ rfl _ (yh underlying107 rfl (y7 f6.2.1 rfl))) ?_);simp only[zz];refine QA (i:=7) (by kernel_rfl) (MR rfl (by rfl) (by intro c h;cases h) 65 #[.pointer (some ⟨b0,0,none⟩),.pointer (some ⟨W.heap.size,0,none⟩)] (To (.tmp 24) _ rfl 65 _ rfl (by kernel_rfl)) _ (PM b0 W.heap.size x v a nb hd r t f f6.2.2.1 f6.2.2.2.toRec) ?_);rintro e X7⟨rfl,F⟩;refine⟨_,rfl,?_⟩;simp only[zz];refine QA (i:=8) (by kernel_rfl) (rOp rfl (by rfl) (by intro c h;cases h) (.bool false) X7 (rfl) ?_);simp only[zz];refine wpAnyIn_done (by kernel_rfl) ?_ _;have b:Hid (RndP M u.heap.size (fun pre A=>J pre A/\KC M u A) (fun c pre A=>c=.ret/\U pre A) (pre++ [p]) A .normal {tmps:=#[],defers:= []} X7):=⟨(z7.trans (I d)).trans (KeepsFrom.of_grownBy (Qz F) (fun j e=>by cases e)),T.trans (KC.of0 F),P _ _ _ z (Gr.of F),(oI.trans T).trans (KC.of0 F)⟩
     clear z S
     gi_wp2
     exact b.out
    ·refine⟨_,rfl,?_⟩;simp only[zz];refine QA (i:=4) (by kernel_rfl) (rOp rfl (by rfl) (by intro c h;cases h) (.bool true) f (rfl) ?_);simp only[zz];refine QA (i:=5) (by kernel_rfl) (rOp rfl (by rfl) (by intro c h;cases h) (.bool true) f (rfl) ?_);simp only[zz];refine QA (i:=6) (by kernel_rfl) (Np rfl (by rfl) ?_);simp only[zz];refine QA (i:=7) (by kernel_rfl) (Np rfl (by rfl) ?_);simp only[zz];refine QA (i:=8) (by kernel_rfl) (rOp rfl (by rfl) (by intro c h;cases h) (.bool true) f (rfl) ?_);simp only[zz];refine wpAnyIn_done (by kernel_rfl) ?_ _;have b:Hid (RndP M u.heap.size (fun pre A=>J pre A/\KC M u A) (fun c pre A=>c=.ret/\U pre A) (pre++ [p]) A .ret {tmps:=#[],defers:= []} f):=⟨z7.trans (I d),rfl,g⟩
     clear g S
     gi_wp2
     exact b.out
 case done=>
  rintro D xs A hD rfl⟨xd,oI⟩iK;have b:Hid (J (flt lo hi (yH t)) (A.putObj D (.deferred none))):=P _ _ _ xd (Gr.put _ (by omega) iK rfl);refine⟨by simp,.inl ⟨_,_,rfl,run_takeDeferred iK,?_⟩⟩;exact⟨.tuple #[],results_none rfl _ _ _,⟨_,rfl⟩,Or.inl ⟨_,rfl,b.out⟩⟩
 case stop=>
  rintro D c pre A hD hpre⟨rfl,xd⟩iK;have b:Hid (U pre (A.putObj D (.deferred none))):=Bk _ _ _ xd (Gr.put _ (by omega) iK rfl);go_wp2;refine⟨by simp,.inl ⟨_,_,rfl,run_takeDeferred iK,?_⟩⟩;exact⟨.tuple #[],results_none rfl _ _ _,⟨_,rfl⟩,Or.inr ⟨_,hpre,b.out⟩⟩
attribute [local go_sem] Oper.semAt_some
def encE(err:Value):Array Value:=#[.agg #[.string ⟨#[]⟩,.string ⟨#[]⟩],err]
theorem Qdz(w:World):(Instr.build 41 #[]).run prog w=.ok (.agg #[.string ⟨#[]⟩,.string ⟨#[]⟩]) w:=by kernel_rfl
theorem YR(l B:Nat)(M:List Nat)(J Jx:List Value->World->Prop)(hJ:Sty B J)(b0 b1 x:Nat)(w:World)(hb:w.heap[b0]?=some (.cells #[.pointer (some ⟨x,0,none⟩)] 27 (0,0)))(hb1:w.heap[b1]?=some (.cells #[.func (.yield l) #[] #[]] 106 (0,0)))(h:Shut x w)
  (hY:∀m pre err W1,J pre W1->gU W1 err 5->pre.length<1->YieldAt Fence.wide m prog l (encE err) W1 (Rnd M B J Jx (pre++ [err]) W1))(h0:J [] w):
  Calls prog 65 #[.pointer (some ⟨b0,0,none⟩),.pointer (some ⟨b1,0,none⟩)] w fun e w'=>e=.returned (.bool true)/\∃err,J [err] w'\/Jx [err] w':=by
 have y:w.cell? ⟨b0,0,none⟩=some (.pointer (some ⟨x,0,none⟩)):=y7 hb rfl;have D:=j2;have C:=Qdz;have j:Hid (∀b,Calls prog 42 #[.string b,.func (.func 44) #[.pointer (some ⟨x,0,none⟩)] #[]] w (PU 5 [] qY w)):=fun b=>
  Q84 b 44 _ (fun _ _=>by kernel_rfl) 5 [] qY w (by simp) (fun _ _ _ _ _ _=>trivial) fun W v _=>(Zg x W (v.get h (by simp))).mono fun e w' ⟨f,o,r,s,t⟩=>⟨f,o,r,s,trivial,t⟩
 have p:Hid (∀err W1,y6 [] w W1->gU W1 err 5->YieldAt Fence.wide 0 prog l (encE err) W1 (Rnd M B J Jx [err] W1)):=fun err W1 k hc=>hY 0 [] err W1 (hJ _ _ _ h0 (Gr.of k)) hc (by simp);clear hY h0 h;refine(dH (n:=1)).1 (callsIn_of_wp func65 rfl trivial ?_ rfl);simp only[ntmps65,bX,aB,bO,Nat.reduceAdd,Nat.reduceSub,dz,dA,dQ,dF,aX,bD]
 gi_wp2_with(first|(refine⟨trivial,?_⟩;gi_at_call 42;refine(dH.2 (j.out _)).mono ?_;rintro e i⟨err,rfl,d,_,c⟩;obtain⟨A,tmps,assign,body,u,g⟩:=p.out err i c d;have z:i.cell? ⟨b1,0,none⟩=some (.func (.yield l) #[] #[]):=y7 (c.get hb1 (by simp)) rfl;obtain⟨f1,f2,E,F,q,_,_⟩:=d.ex;subst q;clear d;dsimp only[encE]at u)|(refine g.mono ?_;clear g;rintro e G(⟨rfl,a,_,_⟩|⟨rfl,a,_⟩)))
 ·go_ret;exact⟨rfl,_,Or.inl a⟩
 ·go_ret;exact⟨rfl,_,Or.inr a⟩
theorem QdB(M:List Nat)(x b0 b1 b2:Nat)(lo hi:ByteArray)(w:World)(hb:Bx3 b0 b1 b2 x lo hi w)(h:Shut x w):
  Itr 64 #[.pointer (some ⟨b0,0,none⟩),.pointer (some ⟨b1,0,none⟩),.pointer (some ⟨b2,0,none⟩)] encE (fun err W=>gU W err 5) M (fun ys=>∃e,ys= [e]) (fun ys=>∃e,ys= [e]) 1 w:=by
 intro l J r W n j v m i;have t:=hb.k n;have y:=j2;obtain⟨c,g⟩:∃c,c=(W.alloc (.cells #[.func (.yield l) #[] #[]] 106)).alloc (.cells #[.nilFunc] 107):=⟨_,rfl⟩
 have o:c.heap[W.heap.size+1]?=some (.cells #[.nilFunc] 107 (0,0)):=by
  have:=af (W.alloc (.cells #[.func (.yield l) #[] #[]] 106)) (.cells #[.nilFunc] 107);rw[ak]at this;rw[g];exact this
 have d:=U3 o (.func 65) #[] #[.pointer (some ⟨b0,0,none⟩),.pointer (some ⟨W.heap.size,0,none⟩)];rw[g]at d;obtain⟨a,b⟩:∃a,a=(W.alloc (.cells #[.func (.yield l) #[] #[]] 106)).alloc (.cells #[.func (.func 65) #[] #[.pointer (some ⟨b0,0,none⟩),.pointer (some ⟨W.heap.size,0,none⟩)]] 107):=⟨_,rfl⟩
 have f:y6 [] W a:=by rw[b];exact((y6.refl [] W).alloc _).alloc _
 have u:a.heap[W.heap.size]?=some (.cells #[.func (.yield l) #[] #[]] 106 (0,0)):=by rw[b];exact((y6.refl [] _).alloc _).get (af _ _) (by simp)
 have p:Hid (Calls _ _ _ _ _):=YR l W.heap.size M J r j b0 W.heap.size x a (f.get t.1 (by simp)) u (f.get (n.get h (by simp)) (by simp)) m (j _ _ _ i (Gr.of f));have q:Hid _:=b;clear g o b m i;go_enter func64,ntmps64;go_wp2_with(first|(go_at_call 65;rw[<-q.out];refine p.out.mono ?_;rintro e z⟨rfl,err,s⟩))
 refine aR (results_none rfl _ _ _) rfl ?_;exact⟨⟨_,rfl⟩,s.elim (fun h=>Or.inl ⟨_,⟨_,rfl⟩,h⟩) (fun h=>Or.inr ⟨_,⟨_,rfl⟩,h⟩)⟩
attribute [local go_sem] Oper.semAt_some
structure ScV(w:World)(mo:Int)(vO:Value)(A:World):Prop where
 mb:A.heap[w.heap.size]?=some (.cells #[.int .i64 mo] 3 (0,0))
 ro:A.heap[w.heap.size+1]?=some (.cells #[.slice none 0 0] 28 (0,0))
 re:A.heap[w.heap.size+1+1]?=some (.cells #[.nilIface] 35 (0,0))
 ov:A.heap[w.heap.size+1+1+1]?=some (.cells #[vO] 28 (0,0))
 bl:Below w.heap.size w A
theorem ScV.gr{w:World}{mo:Int}{vO:Value}{A A':World}{B:Nat}(h:ScV w mo vO A)(hB:w.heap.size<=B)(g:Gr B A A'):ScV w mo vO A':=
 ⟨g.row _ _ _ _ h.mb,g.row _ _ _ _ h.ro,g.row _ _ _ _ h.re,g.row _ _ _ _ h.ov,h.bl.trans ⟨g.os,g.tape,g.output,by have:=h.bl.size;have:=g.size;omega,fun k a=>g.low k (bz a h.bl.size) (by omega)⟩⟩
theorem ScV.new(w:World)(mo:Int):ScV w mo (.slice none 0 0) ((((w.alloc (.cells #[.int .i64 mo] 3)).alloc (.cells #[.slice none 0 0] 28)).alloc (.cells #[.nilIface] 35)).alloc (.cells #[.slice none 0 0] 28)):=by
 have e:=af w (.cells #[.int .i64 mo] 3);have b:=af (w.alloc (.cells #[.int .i64 mo] 3)) (.cells #[.slice none 0 0] 28);have c:=af ((w.alloc (.cells #[.int .i64 mo] 3)).alloc (.cells #[.slice none 0 0] 28)) (.cells #[.nilIface] 35);have d:=af (((w.alloc (.cells #[.int .i64 mo] 3)).alloc (.cells #[.slice none 0 0] 28)).alloc (.cells #[.nilIface] 35)) (.cells #[.slice none 0 0] 28);simp only[ak]at b c d;have a:=fun(W:World) (o:Obj)=>(y6.refl [] W).alloc o;exact⟨(a _ _).get ((a _ _).get ((a _ _).get e (by simp)) (by simp)) (by simp),(a _ _).get ((a _ _).get b (by simp)) (by simp),(a _ _).get c (by simp),d,(((((y6.refl [] w).alloc _).alloc _).alloc _).alloc _).below⟩
variable {base size:Nat}{v:Value}{xs:List Value}
theorem Pv{w w':World}{B e:Nat}(h:w.ownsRow base e size v n xs)(g:Gr B w w'):w'.ownsRow base e size v n xs:=
 ⟨h.1,h.2.imp id fun⟨c,a,b,d,f,i,j⟩=>⟨c,a,b,d,f,g.row _ _ _ _ i,j⟩⟩
theorem Rz{w:World}{e:Nat}(h:w.ownsRow base e size v n xs):∃p c,v=.slice p n c:=by
 obtain⟨_,⟨rfl,rfl⟩|⟨g,a,b,rfl,_⟩⟩:=h
 ·exact⟨_,_,rfl⟩
 ·exact⟨_,_,rfl⟩
def ScnI(w:World)(MO:Int)(pre:List Pr)(A:World):Prop:=∃vO,ScV w MO vO A/\A.ownsRow w.heap.size 41 2 vO pre.length (yU pre)/\(pre.length:Int)<=MO
def ScnX(w:World)(MO:Int)(c:Code)(xs:List Pr)(A:World):Prop:=∃zs y vO,xs=zs++ [y]/\c=.exit 0/\ScV w MO vO A/\A.ownsRow w.heap.size 41 2 vO zs.length (yU zs)/\(zs.length:Int)=MO
theorem TB:(prog.info? 41).map (fun i=>(i.zero,i.size,i.bytes))=some (some (.agg #[.string ⟨#[]⟩,.string ⟨#[]⟩]),2,32):=by kernel_rfl
theorem QdF(w:World)(p:Pr):(Instr.buildSlice 28 1 #[(0,.agg #[.string p.1,.string p.2])]).run prog w=.ok (.slice (some ⟨w.heap.size,0,none⟩) 1 1) (w.alloc (.cells #[.string p.1,.string p.2] 41)):=by
 obtain⟨e,c,a,b,d⟩:=bu TB;exact Qd w 28 41 _ e _ underlying28 c a b (by simp) (by simp)
theorem QdG(base:Nat)(A:World)(vO:Value)(zs:List Pr)(own:A.ownsRow base 41 2 vO zs.length (yU zs))(hb:base<=A.heap.size)(hl:zs.length<=100000)(p:Pr):
  ∃g cap A2,(∀ty,(Builtin.append_ #[28,28] ty #[vO,.slice (some ⟨A.heap.size,0,none⟩) 1 1]).run prog (A.alloc (.cells #[.string p.1,.string p.2] 41))=.ok (.slice (some ⟨g,0,none⟩) (zs++ [p]).length cap) A2)/\A2.ownsRow base 41 2 (.slice (some ⟨g,0,none⟩) (zs++ [p]).length cap) (zs++ [p]).length (yU (zs++ [p]))/\y6 vO.ownBlock.toList A A2:=by
 obtain⟨t,o,d,n,e⟩:=bu TB;have f:=(y6.refl [] A).alloc (.cells #[.string p.1,.string p.2] 41);have q:=af A (.cells #[.string p.1,.string p.2] 41);have v:=yb own f (by simp);obtain⟨w,A2,r,c,a,-⟩:=cY (P:=prog) (A.alloc (.cells #[.string p.1,.string p.2] 41)) base 28 0 41 t _ 2 32 underlying28 o d n e rfl (by decide) vO zs.length (yU zs) v ⟨A.heap.size,0,none⟩ 1 1 [.string p.1,.string p.2] rfl (by
  intro j u b;rw[add_lit,aY _ _ _ _ _ _ q];rcases j with _|_|j
  ·simpa using b
  ·simpa using b
  ·simp at b) (by intro u hu;simp at hu;rcases hu with rfl|rfl<;>rfl) (by unfold maxLen;omega) (by omega) (by have:=f.size;omega)
 have l:yU zs++ [.string p.1,.string p.2]=yU (zs++ [p]):=Ph zs p;have m:zs.length+1=(zs++ [p]).length:=by simp
 rw[l,m]at c;have h:(zs++ [p]).length=zs.length+1:=by simp
 obtain⟨g,cap,i⟩:=ownsRow_succ (k:=zs.length) (by rw[<-h];exact c);rw[<-h]at i;subst i;exact⟨g,cap,A2,fun ty=>r,c,(f.mono (by simp)).trans (yF a _ (by intro x s;rw[s];simp))⟩
theorem own0{w:World}{e:Nat}(h:w.ownsRow base e size v n xs):w.ownsRow 0 e size v n xs:=
 ⟨h.1,h.2.imp id fun⟨c,a,b,d,_h2,f,g⟩=>⟨c,a,b,d,ay _,f,g⟩⟩
theorem Tw(w A:World)(MO:Int)(v:Value)(zs:List Pr)(D:Nat)(hV:ScV w MO v A)(own:A.ownsRow w.heap.size 41 2 v zs.length (yU zs))(hD:w.heap.size<=D)(iK:A.heap[D]?=some (.deferred (some []))):
  A.cell? ⟨w.heap.size+1+1+1,0,none⟩=some v/\A.cell? ⟨w.heap.size+1,0,none⟩=some (.slice none 0 0)/\A.frozen? ⟨w.heap.size+1,0,none⟩=false/\
  ∃A1,A1=A.setCell ⟨w.heap.size+1,0,none⟩ v/\A1.cell? ⟨w.heap.size+1+1,0,none⟩=some .nilIface/\A1.frozen? ⟨w.heap.size+1+1,0,none⟩=false/\
  ∃A2,A2=A1.setCell ⟨w.heap.size+1+1,0,none⟩ .nilIface/\A2.heap[D]?=some (.deferred (some []))/\
  ∃A3,A3=A2.putObj D (.deferred none)/\A3.cell? ⟨w.heap.size+1,0,none⟩=some v/\A3.cell? ⟨w.heap.size+1+1,0,none⟩=some .nilIface/\PL A3 41 v zs/\y6 [] w A3:=by
 obtain⟨y,d,u,x,q⟩:=hV;refine⟨y7 x rfl,y7 d rfl,ax _ _ _ _ _ d,_,rfl,?_⟩;have g:y6 [w.heap.size+1] A (A.setCell ⟨w.heap.size+1,0,none⟩ v):=(y6.refl _ _).setCell (Or.inl (by simp)) _;have u1:=yf (i:=0) v d;have u2:=g.get u (by simp);refine⟨y7 u2 rfl,ax _ _ _ _ _ u2,_,rfl,?_⟩;have h:y6 [w.heap.size+1+1] (A.setCell ⟨w.heap.size+1,0,none⟩ v) ((A.setCell ⟨w.heap.size+1,0,none⟩ v).setCell ⟨w.heap.size+1+1,0,none⟩ .nilIface):=(y6.refl _ _).setCell (Or.inl (by simp)) _;have t1:=h.get u1 (by simp);have t2:=yf (i:=0) .nilIface u2;have s:=(q.setCell (p:=⟨w.heap.size+1,0,none⟩) (by simp) v).setCell (p:=⟨w.heap.size+1+1,0,none⟩) (by simp;omega) .nilIface;have c:=((KeepsOthers.setCell A ⟨w.heap.size+1,0,none⟩ v).trans (KeepsOthers.setCell _ ⟨w.heap.size+1+1,0,none⟩ .nilIface)).same D _ iK rfl;have l:=cell_kept (y7 (j:=0) t1 rfl) (grownBy_putObj' _ D (.deferred none)) (fun r e=>by cases e;exact⟨_,c,rfl⟩);have m:=cell_kept (y7 (j:=0) t2 rfl) (grownBy_putObj' _ D (.deferred none)) (fun r e=>by cases e;exact⟨_,c,rfl⟩);have k:=yb own g (fun b f a=>by
  obtain⟨n,o,hc⟩:=yD own f;simp at a;rw[a,d]at hc
  cases hc)
 have t:=yb k h (fun b f a=>by
  obtain⟨n,o,hc⟩:=yD k f;simp at a;rw[a,u2]at hc
  cases hc)
 exact⟨c,_,rfl,l,m,own0 (Pv t (Gr.put (B:=0) _ (ay _) c rfl)),y6.of_below (s.trans (belowK_b (w:=w) (ag _) _ D _ _ hD c rfl rfl))⟩
end Go.Proofs.YtcklgafpgdhnaaaGreatDoor
namespace Go.Proofs.YtcklgafpgdhnaaaGreatDoor
open Go.RowKit
def wrN:Nat->Int->Int
 |0,x=>x
 |n+1,x=>wrap64 (wrN n x+1)
structure Wrs(D:Dv)(ws:List (Nat×List UInt8))(D':Dv):Prop where
 L:D'.L=D.L
 q:D'.q=D.q++ws
 wr:D'.wr=wrN ws.length D.wr
 t:D'.t=D.t
 off:D'.off=D.off
 fr:D'.fr=D.fr
 up:D'.toE=D.toE
theorem Wrs.nil(D:Dv):Wrs D [] D:=⟨rfl,by simp,rfl,rfl,rfl,rfl,rfl⟩
theorem Wrs.wn{D E F:Dv}{ws:List (Nat×List UInt8)}{i:Nat}{B:List UInt8}(h:Wrs D ws E)(g:Wn E i B F):Wrs D (ws++ [(i,B)]) F:=
 ⟨g.L.trans h.L,by rw[g.q,h.q,aG],by rw[g.wr,h.wr,ai];rfl,g.t.trans h.t,g.off.trans h.off,g.fr.trans h.fr,g.toE.trans h.up⟩
theorem Wrs.good{D E:Dv}{ws:List (Nat×List UInt8)}(h:Wrs D ws E):qM E↔qM D:=by unfold qM;rw[h.off,h.fr,h.up]
structure LyI(a:Nat)(bv:Value)(n:Nat)(lK:Value)(b:Nat)(D:Dv)(kr:List Nat)(w0:World)(s:Ls)(W:World):Prop where
 sp:SpM W b s.us
 us:∀u∈s.us,u<n
 nd:s.us.Nodup
 ln:s.ws.length<=s.us.length
 sub:∀u∈kr,u∈s.us
 fr:∀p∈s.ws,p.1∉kr/\p.1<n/\p.2.length=128
 dq:∃cv D',DQ W a bv n cv D'/\Wrs D s.ws D'/\∀y,cv.ownBlock=some y->lK.ownBlock=some y\/w0.heap.size<=y
 kp:y6 (b::yk a bv lK) w0 W
def LyJ(a:Nat)(bv:Value)(n:Nat)(lK:Value)(b:Nat)(D:Dv)(kr:List Nat)(w0:World)(x:Bool×Nat)(e:Ending)(W:World):Prop:=
 ∃ws cv D1 D',DQ W a bv n cv D'/\Wrs D ws D1/\((x.1=false/\Er D1 D'/\Thr 6 e W)\/(x.1=true/\D'=D1/\Thr 3 e W))/\(((∀p∈ws,p.1∉kr/\p.1<n/\p.2.length=128)/\ws.length<=n)/\ws.length=x.2)/\(∀y,cv.ownBlock=some y->lK.ownBlock=some y\/w0.heap.size<=y)/\y6 (b::yk a bv lK) w0 W
theorem QR{a:Nat}{bv cv lK:Value}{m:Nat}(h:∀y,cv.ownBlock=some y->lK.ownBlock=some y\/m<=y):∀y∈yk a bv cv,y∈yk a bv lK\/m<=y:=by
 intro y b;unfold yk at b⊢;rcases an.1 b with rfl|b
 ·exact Or.inl (by simp)
 ·rcases ar.1 b with b|b
  ·exact Or.inl (aq _ (aw _ b))
  ·rcases h y (by simpa using b)with e|e
   ·exact Or.inl (aq _ (az _ (by simpa using e)))
   ·exact Or.inr e
def LfS(rs x bb v:Nat)(c:Hd)(t:Tr)(r:Value)(B:List UInt8)(W:World):Prop:=W.heap[rs]?=some (.cells #[.pointer (some ⟨x,0,none⟩)] 27 (0,0))/\W.heap[x]?=some (.cells (qC c v t r) 84 (0,0))/\W.heap[bb]?=some (.cells (u8s B).toArray 92 (0,0))
theorem Q9K(args:Array Value)(w:World):(callFunc 80 args).run prog w=.ok (.enter 80 args) w:=qy func80 (by kernel_rfl) (by kernel_rfl) args w
theorem Q9L(x v a n rb rs b:Nat)(bv lK:Value)(D:Dv)(kr Fu:List Nat)(w0:World)(c:Hd)(t:Tr)(r:Value)(vp:w0.heap[rb]?=some (.cells #[.int .i64 n,.map (some b)] 131 (0,0)))(hrs:w0.heap[rs]?=some (.cells #[.pointer (some ⟨x,0,none⟩)] 27 (0,0)))(fC:w0.heap[x]?=some (.cells (qC c v t r) 84 (0,0)))(rB:Vol w0 v a n)(wO:DQ w0 a bv n lK D)(iB:SpM w0 b Fu)(hn:n<=1000)(hq:D.q.length<=900000)(hT:qM D\/Tab w0):
  Lyr 80 (.pointer (some ⟨rb,0,none⟩)) (.pointer (some ⟨rs,0,none⟩)) n (LyI a bv n lK b D kr w0) (LyJ a bv n lK b D kr w0) w0.heap.size where
 en:=Q9K
 call:=by
  intro s B w d hB AY;have Z:∀{y:Nat} {O:Array Value} {t:TypeId} {Q:Nat×Nat},w0.heap[y]?=some (.cells O t Q)->t∉ [91,92,94]->y∉b::yk a bv lK:=by
   intro y O t Q j ht m;rcases an.1 m with rfl|m
   ·exact iB.ne j rfl
   ·exact wO.no j ht m
  have Cy:=d.kp.get vp (Z vp (by decide));have IQ:=d.kp.get hrs (Z hrs (by decide));have IR:=d.kp.get fC (Z fC (by decide));have Cz:Vol w v a n:=d.kp.get rB (Z rB (by decide));have T0:qM D\/Tab w:=hT.imp id fun h=>h.kept d.kp (fun m=>by
   rcases an.1 m with e|m
   ·obtain⟨O,t,Q,j⟩:=h.rowOf;exact iB.ne j e
   ·exact h.dq wO m)
  have hlen:=jg n s.us d.nd d.us;have HTk:Hid (∀W,y6 [] w W->Calls prog 81 #[.agg #[.int .i64 n,.map (some b)]] W (TkR n b s.us W)):=fun W kW=>Q7G n b s.us W (d.sp.kept kW (by simp)) (fun u hu=>by have:=d.us u hu;omega) (by omega);have g:Hid (LyI a bv n lK b D kr w0 s w):=d;clear d;go_enter func80,ntmps80;go_wp2_with(first|(refine yw rfl _ _ (j8 92 (.tmp 0) rfl (u8s B).toArray rfl) ?_;intro w1 n1 M T;have hU:Hid _:=T;clear T;have pt:=M.get Cy (by simp))|(refine aW rfl 131 (.tmp 1) rfl rb rfl 131 #[.int .i64 n,.map (some b)] (0,0) _ pt underlying131 rfl Zl ?_))
  refine(HTk.out w1 M).mono ?_;rintro e E(⟨J,rfl,s2,K⟩|⟨hge,P,K⟩);rotate_left
  ·obtain⟨f,o,rfl,hf⟩:=P.ex;obtain⟨G,z,F,l,Y⟩:=g.out.dq;have K2:=M.trans K;exact⟨rfl,Or.inr ⟨(true,s.ws.length),⟨s.ws,G,z,z,F.k0 K2,l,Or.inr ⟨rfl,rfl,P⟩,⟨⟨g.out.fr,by have:=g.out.ln;omega⟩,rfl⟩,Y,g.out.kp.trans2 K2 (by simp)⟩,fun _=>by omega,ag _⟩,KA.k0 K2⟩
  obtain⟨G,z,F,l,Y⟩:=g.out.dq;have zA:=g.out.sp.kept M (by simp);have ux:b∉yk a bv G:=g.out.sp.nd F;have fA:DQ E a bv n G z:=(F.k0 M).k1 K ux;have L:KA Tru w E:=(KA.k0 M).trans (zA.ka K);have tV:=L.row _ _ _ _ trivial (by decide) IQ;have CA:=L.row _ _ _ _ trivial (by decide) IR;have zB:Vol E v a n:=L.row _ _ _ _ trivial (by decide) Cz;have n2:=K.get n1 (by simp;exact zA.ne n1);have T2:qM z\/Tab E.drew:=T0.imp l.good.2 fun h=>(h.ka L).k (y6.refl [] E).drew;have ma:z.q.length<=1000000:=by rw[l.q,ai];have:=g.out.ln;omega
  have HV:Hid (Calls _ _ _ _ _):=Ux v a bv n G z B (tk s.us) E.drew zB fA.drew J hn hB ma T2;have A:LfS rs x w.heap.size v c t r B E.drew:=⟨tV,CA,n2⟩
  go_wp2_with fail;refine yo (LfS rs x w.heap.size v c t r B) (by kernel_rfl) ?_;refine uh 0 (.pointer (some ⟨x,0,none⟩)) rfl (fun W H=>y9 27 (.tmp 2) rfl ⟨rs,0,none⟩ rfl _ (yh underlying27 rfl (y7 H.1 rfl))) A ?_;refine uh 1 (.pointer (some ⟨x,0,none⟩)) rfl (fun W H=>by rfl) A ?_;refine uh 2 (.pointer (some ⟨x,0+1,none⟩)) rfl (fun W H=>yx 84 (.tmp 9) 1 rfl x 0 rfl 1 (by rfl)) A ?_;refine uh 3 (.pointer (some ⟨v,0,none⟩)) rfl (fun W H=>y9 73 (.tmp 10) rfl ⟨x,0+1,none⟩ rfl _ (yh underlying73 rfl (y7 H.2.1 rfl))) A ?_;refine uh 4 (.int .i64 (tk s.us:Nat)) rfl (fun W H=>by rfl) A ?_;refine uh 5 (.agg (u8s B).toArray) rfl (fun W H=>y9 92 (.tmp 3) rfl ⟨w.heap.size,0,none⟩ rfl _ (Pf H.2.2 hB)) A ?_;refine yi (i:=6) (by kernel_rfl) (jO rfl (by rfl) 82 #[.pointer (some ⟨v,0,none⟩),.int .i64 (tk s.us:Nat),.agg (u8s B).toArray] (yn _ _ _ rfl _ (by simp[Act.eval]) (Up _ _)) _ HV.out ?_);rintro e X⟨I,D3,fF,U,nB,eC⟩;have V:KA Tru E X:=(KA.k0 (y6.refl [] E).drew).trans (fA.drew.ka U);have eE:=L.size;have C:∀y,I.ownBlock=some y->lK.ownBlock=some y\/w0.heap.size<=y:=by
   intro y j;rcases nB y j with e|e
   ·exact Y y e
   ·exact Or.inr (av (av AY eE) e)
  have KF:y6 (b::yk a bv lK) w0 X:=((g.out.kp.trans2 M (by simp)).trans2 (K.drew) (by intro y j;simp at j;subst j;exact Or.inl (by simp))).trans2 U (by
   intro y j;rcases QR Y y j with e|e
   ·exact Or.inl (aq _ e)
   ·exact Or.inr e)
  rcases eC with⟨iH,rfl⟩|⟨sA,P⟩
  rotate_left
  ·obtain⟨f,o,rfl,hf⟩:=P.ex;refine Or.inr ⟨_,rfl,rfl,Or.inr ⟨(false,s.ws.length),⟨s.ws,I,z,D3,fF,l,Or.inl ⟨rfl,sA,P⟩,⟨⟨g.out.fr,by have:=g.out.ln;omega⟩,rfl⟩,?_,?_⟩,fun h=>(by cases h),ag _⟩,L.trans V⟩
   ·exact C
   ·exact KF
  have R:LfS rs x w.heap.size v c t r B X:=⟨V.row _ _ _ _ trivial (by decide) tV,V.row _ _ _ _ trivial (by decide) CA,U.get n2 (F.ge (ag _))⟩
  refine Or.inl ⟨_,rfl,R,?_⟩;simp only[zz];refine aK (by kernel_rfl) ?_ _;have FIN:Hid (LyI a bv n lK b D kr w0 (s.step B) X):=by
   refine⟨s2.kept (w:=E.drew) U ux,?_,?_,?_,?_,?_,⟨I,D3,fF,l.wn iH,C⟩,KF⟩
   ·intro u hu;rcases an.1 hu with rfl|hu
    ·exact J
    ·exact g.out.us u hu
   ·exact dj.2 ⟨Ma _,g.out.nd⟩
   ·have:=g.out.ln;simp[Ls.step];exact this
   ·intro u hu;exact aq _ (g.out.sub u hu)
   ·intro p N;rcases ar.1 N with N|N
    ·exact g.out.fr p N
    ·simp at N;subst N;exact⟨fun m=>Ma _ (g.out.sub _ m),J,hB⟩
  have FK:Hid (KA Tru w X):=L.trans V;clear A R fF U V KF C nB iH s2 K n2 tV CA zB T2 F fA l;go_wp2;go_ret;exact⟨Or.inl ⟨rfl,FIN.out⟩,FK.out⟩
 fresh:=by
  intro s W W' S d k A;refine⟨d.sp.kept k ?_,d.us,d.nd,d.ln,d.sub,d.fr,?_,d.kp.trans2 k fun y j=>Or.inr (A y j).1⟩
  ·intro m;obtain⟨O,Q,j⟩:=(A b m).2;exact d.sp.ne j rfl
  ·obtain⟨G,z,F,h2,h3⟩:=d.dq;refine⟨G,z,F.kept k ?_,h2,h3⟩;intro y j m;obtain⟨O,Q,hh⟩:=(A y m).2;exact F.no hh (by decide) j
 bnd:=fun s W d u hu=>d.us u hu
 nb:=by omega
 jp:=by
  rintro x e W⟨ws,G,z,D',_,_,h,_⟩;rcases h with⟨_,_,h⟩|⟨_,_,h⟩
  ·obtain⟨f,o,rfl,_⟩:=h.ex;exact⟨_,rfl⟩
  ·obtain⟨f,o,rfl,_⟩:=h.ex;exact⟨_,rfl⟩
end Go.Proofs.YtcklgafpgdhnaaaGreatDoor
namespace Go.Proofs.YtcklgafpgdhnaaaGreatDoor
open Go.RowKit Go.Shelf
attribute [local go_sem] Oper.semAt_some
def SceI(w:World)(MO:Int)(pre:List Value)(A:World):Prop:=pre= []/\ScV w MO (.slice none 0 0) A
def SceX(w:World)(c:Code)(_:List Value)(A:World):Prop:=c=.ret/\∃err,A.heap[w.heap.size+1]?=some (.cells #[.slice none 0 0] 28 (0,0))/\A.heap[w.heap.size+1+1]?=some (.cells #[err] 35 (0,0))/\gU A err 5/\Below w.heap.size w A
theorem gU.gr{w w':World}{err:Value}{x:Int}{B:Nat}(h:gU w err x)(g:Gr B w w'):gU w' err x:=by
 obtain⟨f1,f2,c,d,rfl,a,b⟩:=h.ex;exact⟨f1,f2,c,d,rfl,g.row _ _ _ _ a,g.row _ _ _ _ b⟩
theorem QdJ(x:Nat)(lo hi:ByteArray)(mm:Int)(w:World)(h:Shut x w):
  Calls prog 19 #[.pointer (some ⟨x,0,none⟩),.string lo,.string hi,.int .i64 mm] w fun e w'=>∃err,e=.returned (.tuple #[.slice none 0 0,err])/\gU w' err 5/\y6 [] w w':=by
 refine(dH (n:=1)).1 (callsIn_of_wp_marks func19 rfl trivial ?_ rfl);simp only[ntmps19,bX,aB,bO,Nat.reduceAdd,Nat.reduceSub,dz,dA,dQ,dF,aX,bD];refine wpIn_mono (Q:=NoP _) ?_ NoP.of;refine wpIn_wide.2 ?_
 by_cases C:mm<1
 focus
  go_wp2_with(first|(go_at_call 41;refine(N9 x lo hi _).mono ?_;rintro e T⟨rfl,a,d,g⟩))
  have G:=ScV.new w (0);obtain⟨l,E⟩:∃l,l=(((w.alloc (.cells #[.int .i64 (0)] 3)).alloc (.cells #[.slice none 0 0] 28)).alloc (.cells #[.nilIface] 35)).alloc (.cells #[.slice none 0 0] 28):=⟨_,rfl⟩
  have Z:l.heap.size=w.heap.size+1+1+1+1:=by rw[E,ak,ak,ak,ak]
  have k0:y6 [] w l:=by rw[E];exact((((y6.refl [] w).alloc _).alloc _).alloc _).alloc _
  rw[<-E]at a d g G;rw[Z]at a d;obtain⟨H,t⟩:∃H:Int,H=(0):=⟨_,rfl⟩
  rw[<-t]at G;have N:decide (mm<1)=true:=by simp[C]
 rotate_left
 focus
  go_wp2_with(first|(go_at_call 41;refine(N9 x lo hi _).mono ?_;rintro e T⟨rfl,a,d,g⟩))
  have G:=ScV.new w (mm);obtain⟨l,E⟩:∃l,l=(((w.alloc (.cells #[.int .i64 (mm)] 3)).alloc (.cells #[.slice none 0 0] 28)).alloc (.cells #[.nilIface] 35)).alloc (.cells #[.slice none 0 0] 28):=⟨_,rfl⟩
  have Z:l.heap.size=w.heap.size+1+1+1+1:=by rw[E,ak,ak,ak,ak]
  have k0:y6 [] w l:=by rw[E];exact((((y6.refl [] w).alloc _).alloc _).alloc _).alloc _
  rw[<-E]at a d g G;rw[Z]at a d;obtain⟨H,t⟩:∃H:Int,H=(mm):=⟨_,rfl⟩
  rw[<-t]at G;have N:decide (mm<1)=false:=by simp[C]
 all_goals
  have Do:=G.gr (ag _) (Gr.of (B:=w.heap.size) g);have K1:=k0.trans g;have zV:=QdB [] x (w.heap.size+1+1+1+1) (w.heap.size+1+1+1+1+1) (w.heap.size+1+1+1+1+1+1) lo hi T a (K1.get h (by simp));have Dp:w.heap.size+7<=T.heap.size:=by omega
  clear E G t a d;refine PV (α:=Value) rfl (fun _ _=>by kernel_rfl) zV (fun _=>rfl)
   (SceI w H) (SceX w) ?_ ?_ ⟨rfl,Do⟩
   (fun p W A=>∃q,W={tmps:=#[.pointer (some ⟨x,0,none⟩),.string lo,.string hi,.int .i64 mm,undef,undef,undef,.pointer (some ⟨w.heap.size,0,none⟩),.pointer (some ⟨w.heap.size+1,0,none⟩),.pointer (some ⟨w.heap.size+1+1,0,none⟩),.pointer (some ⟨w.heap.size+1+1+1,0,none⟩),.pointer (some ⟨q,0,none⟩),p,.int .i64 mm,.bool (decide (mm<1)),.pointer (some ⟨x,0,none⟩),.string lo,.string hi,.func (.func 64) #[] #[.pointer (some ⟨w.heap.size+1+1+1+1,0,none⟩),.pointer (some ⟨w.heap.size+1+1+1+1+1,0,none⟩),.pointer (some ⟨w.heap.size+1+1+1+1+1+1,0,none⟩)],.agg #[.string ⟨#[]⟩,.string ⟨#[]⟩],p,undef,undef,undef,undef,undef,undef,undef,undef,undef,undef,undef,undef],defers:= []}) ?_ ?_ ?assign ?body ?done ?stop
  ·rintro s A U⟨u,z⟩b;exact⟨u,z.gr (by omega) b⟩
  ·rintro c s A U⟨h0,err,u,z,Y,L⟩b;exact⟨h0,err,b.row _ _ _ _ u,b.row _ _ _ _ z,Y.gr b,L.trans ⟨b.os,b.tape,b.output,by have:=L.size;have:=b.size;omega,fun k hk=>b.low k (bz hk L.size) (by omega)⟩⟩
  ·rintro p W _ A U⟨q,u⟩b;exact⟨q,u⟩
  ·intro p _ A U h b;exact h.gr b
  case assign=>
   rintro m l1 S p A K _ I hK;obtain⟨f1,f2,o1,o2,rfl,-,-⟩:=I.ex;clear I;dsimp only[encE]
   gi_wp2
   exact hK _ _ ((y6.refl [] A).alloc _) ⟨A.heap.size,by rw[N]⟩
  case body=>
   rintro m l1 S p W A⟨rfl,v⟩I⟨q,rfl⟩hlen;have Dl:=v.bl.size;have HC:Hid (gU A p 5):=I;obtain⟨f1,f2,o1,o2,rfl,ik,fU⟩:=I.ex;have c1:A.cell? ⟨w.heap.size+1,0,none⟩=some (.slice none 0 0):=y7 v.ro rfl;have g1:A.frozen? ⟨w.heap.size+1,0,none⟩=false:=ax _ _ _ _ _ v.ro;have P:y6 [w.heap.size+1] A (A.setCell ⟨w.heap.size+1,0,none⟩ (.slice none 0 0)):=(y6.refl _ _).setCell (Or.inl (by simp)) _;have u1:=yf (i:=0) (.slice none 0 0) v.ro;have u2:=P.get v.re (by simp);have c2:(A.setCell ⟨w.heap.size+1,0,none⟩ (.slice none 0 0)).cell? ⟨w.heap.size+1+1,0,none⟩=some .nilIface:=y7 u2 rfl;have g2:(A.setCell ⟨w.heap.size+1,0,none⟩ (.slice none 0 0)).frozen? ⟨w.heap.size+1+1,0,none⟩=false:=ax _ _ _ _ _ u2;have R:y6 [w.heap.size+1+1] (A.setCell ⟨w.heap.size+1,0,none⟩ (.slice none 0 0)) ((A.setCell ⟨w.heap.size+1,0,none⟩ (.slice none 0 0)).setCell ⟨w.heap.size+1+1,0,none⟩ (.iface 111 (.pointer (some ⟨f1,0,none⟩)))):=(y6.refl _ _).setCell (Or.inl (by simp)) _;have t1:=R.get u1 (by simp);have t2:=yf (i:=0) (.iface 111 (.pointer (some ⟨f1,0,none⟩))) u2;have lq:=(v.bl.setCell (p:=⟨w.heap.size+1,0,none⟩) (by simp) (.slice none 0 0)).setCell (p:=⟨w.heap.size+1+1,0,none⟩) (by simp;omega) (.iface 111 (.pointer (some ⟨f1,0,none⟩)));have V:∀(f:Nat) (X:Array Value),A.heap[f]?=some (.cells X 114 (0,0))->((A.setCell ⟨w.heap.size+1,0,none⟩ (.slice none 0 0)).setCell ⟨w.heap.size+1+1,0,none⟩ (.iface 111 (.pointer (some ⟨f1,0,none⟩)))).heap[f]?=some (.cells X 114 (0,0)):=by
    intro f X O;refine R.get (P.get O ?_) ?_
    ·intro C;simp at C;rw[C,v.ro]at O
     cases O
    ·intro C;simp at C;rw[C,v.re]at O
     cases O
   have M:KeepsFrom T.heap.size A ((A.setCell ⟨w.heap.size+1,0,none⟩ (.slice none 0 0)).setCell ⟨w.heap.size+1+1,0,none⟩ (.iface 111 (.pointer (some ⟨f1,0,none⟩)))):=by
    refine⟨av P.size R.size,fun y o hy ho hc=> ?_⟩;have z:=(P.block y (yt ho) (by simp;omega)).trans ho;exact(R.block y (yt z) (by simp;omega)).trans z
   have F:Hid (KeepsFrom T.heap.size A ((A.setCell ⟨w.heap.size+1,0,none⟩ (.slice none 0 0)).setCell ⟨w.heap.size+1+1,0,none⟩ (.iface 111 (.pointer (some ⟨f1,0,none⟩))))/\SceX w .ret ([]++ [.iface 111 (.pointer (some ⟨f1,0,none⟩))]) ((A.setCell ⟨w.heap.size+1,0,none⟩ (.slice none 0 0)).setCell ⟨w.heap.size+1+1,0,none⟩ (.iface 111 (.pointer (some ⟨f1,0,none⟩))))):=⟨M,rfl,_,t1,t2,⟨f1,f2,o1,o2,rfl,V _ _ ik,V _ _ fU⟩,lq⟩
   clear v HC I ik fU P R u1 u2 t1 t2 lq V M
   gi_wp2
   exact F.out
  case done=>
   rintro D xs A hD⟨e,rfl⟩⟨u,_⟩J
   cases u
  case stop=>
   rintro D c S A hD hpre⟨rfl,err,u,z,Y,L⟩J;have c1:=cell_kept (y7 (j:=0) u rfl) (grownBy_putObj' _ D (.deferred none)) (fun r e=>by cases e;exact⟨_,J,rfl⟩);have c2:=cell_kept (y7 (j:=0) z rfl) (grownBy_putObj' _ D (.deferred none)) (fun r e=>by cases e;exact⟨_,J,rfl⟩);have F:Hid (gU (A.putObj D (.deferred none)) err 5/\y6 [] w (A.putObj D (.deferred none))):=⟨Y.gr (Gr.put (B:=0) _ (ay _) J rfl),y6.of_below (L.trans (belowK_b (w:=w) (ag _) _ D _ _ (by omega) J rfl rfl))⟩
   go_wp2;refine⟨by simp,.inl ⟨_,_,rfl,run_takeDeferred J,?_⟩⟩;refine⟨.tuple #[.slice none 0 0,err],?_,err,rfl,F.out⟩;simp[results,Tryz.f19,go_sem,c1,c2]
end Go.Proofs.YtcklgafpgdhnaaaGreatDoor
namespace Go.Proofs.YtcklgafpgdhnaaaGreatDoor
open Go.RowKit
def SpoR(n:Int)(ms ks:List Value)(were:Value)(wd b:Bool)(w:World)(ev:Ending)(w':World):Prop:=
 ∃v1,ev=.returned (.agg (yS n v1 true were (wd||b) true))/\MV w' v1 (ms++ks)/\y6 [] w w'
theorem OD:(prog.info? 149).map (·.size)=some 1:=by kernel_rfl
theorem Zq:(prog.info? 4).map (·.size)=some 1:=by kernel_rfl
theorem QfA(n:Int)(may were:Value)(ms ks:List Value)(e wd b:Bool)(w:World)(hm:MV w may ms)(hk:MV w were ks)(om:∀u∈ms,u.oneCell'=true)(ok:∀u∈ks,u.oneCell'=true)(bm:ms.length<=1000000000)(bk:ks.length<=1000000000):
  Calls prog 163 #[.agg (yS n may e were wd b)] w (SpoR n ms ks were wd b w):=by
 obtain⟨O,M,m,L,o⟩:=bu imap;obtain⟨j,i,k,rfl⟩:=gJ hm;obtain⟨pk,a,c,rfl⟩:=gJ hk;have Hm:Hid (w.ownsRow 0 189 1 (.slice j i k) ms.length ms):=hm;have Hk:Hid (w.ownsRow 0 189 1 (.slice pk a c) ks.length ks):=hk;have k1:=(y6.refl [] w).alloc (.cells (yS n (.slice j i k) e (.slice pk a c) wd b) 151);have n1:=af w (.cells (yS n (.slice j i k) e (.slice pk a c) wd b) 151);have V:=(y6.refl [] (w.alloc (.cells (yS n (.slice j i k) e (.slice pk a c) wd b) 151))).alloc (.cells (yS 0 (.slice none 0 0) false (.slice none 0 0) false false) 151);have r:=af (w.alloc (.cells (yS n (.slice j i k) e (.slice pk a c) wd b) 151)) (.cells (yS 0 (.slice none 0 0) false (.slice none 0 0) false false) 151);rw[ak]at r;have q:=V.get n1 (by simp);have C:y6 [] w ((w.alloc (.cells (yS n (.slice j i k) e (.slice pk a c) wd b) 151)).alloc (.cells (yS 0 (.slice none 0 0) false (.slice none 0 0) false false) 151)):=k1.trans V;have Z2:((w.alloc (.cells (yS n (.slice j i k) e (.slice pk a c) wd b) 151)).alloc (.cells (yS 0 (.slice none 0 0) false (.slice none 0 0) false false) 151)).heap.size=w.heap.size+2:=by simp
 generalize hW:(w.alloc (.cells (yS n (.slice j i k) e (.slice pk a c) wd b) 151)).alloc (.cells (yS 0 (.slice none 0 0) false (.slice none 0 0) false false) 151)=wa at*;have S:Hid _:=hW;have Lt:wa.cell? ⟨w.heap.size,1,none⟩=some (.slice j i k):=y7 q rfl;have R:Hid _:=r;have Q:Hid _:=q;clear hW hm hk k1 V n1 r q;unfold yS at S R Q⊢
 cases b
 focus
  go_enter func163,ntmps163;go_wp2_with(first|(at_builtin;rw[S.out];refine qK rfl (.tmp 4) (.tmp 6) 149 rfl (w.heap.size+2) 189 O _ 1 24 underlying149 M m L o rfl (by decide) (.slice none 0 0) 0 [] rfl (aM _ _ _ _) (.slice j i k) 0 ms.length ms rfl (yb Hm.out C (by simp)) om (by unfold maxLen;omega) (by omega) (by omega) ?_;intro s w1 t D;have l:=yF D [] (by intro x d;cases d);have F:=l.get Q.out (by simp);have ru:w1.cell? ⟨w.heap.size,3,none⟩=some (.slice pk a c):=y7 F rfl;have z1:=l.size;clear D)|(at_builtin;refine qK rfl (.tmp 8) (.tmp 10) 149 rfl (w.heap.size+2) 189 O _ 1 24 underlying149 M m L o rfl (by decide) s (0+ms.length) ([]++ms) rfl t (.slice pk a c) 0 ks.length ks rfl (yb Hk.out (C.trans l) (by simp)) ok (by unfold maxLen;omega) (by omega) (by omega) ?_;intro v2 P N E;obtain⟨g,f,h,rfl⟩:=gJ N;have p:=yF E s.ownBlock.toList (by intro x d;rw[d];simp);have I:∀y,y<w.heap.size+2->y∉s.ownBlock.toList:=(fun y hy d=>by have:=(t.lt y (by simpa using d)).1;omega);have q:=p.get F (I _ (by omega));have r:=p.get (l.get R.out (by simp)) (I _ (by omega));have z2:=p.size;clear E)|(refine yC rfl 149 (.tmp 13) (.tmp 12) rfl w.heap.size 1 rfl (.slice g f h) rfl 151 _ q OD rfl (by simp) ?_;intro w3 v W;have Z:w3.heap[w.heap.size]?=some (.cells #[.int .i64 n,.slice g f h,.bool e,.slice pk a c,.bool wd,.bool false] 151 (0,0)):=v;clear v)|(refine yC rfl 4 (.tmp 14) (.const (.bool true)) rfl w.heap.size 2 rfl (.bool true) rfl 151 _ Z Zq rfl (by simp) ?_;intro J z X;have G:J.heap[w.heap.size]?=some (.cells #[.int .i64 n,.slice g f h,.bool true,.slice pk a c,.bool wd,.bool false] 151 (0,0)):=z;have d5:J.cell? ⟨w.heap.size,5,none⟩=some (.bool false):=y7 G rfl;clear z)|(refine yC rfl 4 (.tmp 18) (.const (.bool true)) rfl w.heap.size 5 rfl (.bool true) rfl 151 _ G Zq rfl (by simp) ?_;intro K A Y;have m6:K.heap[w.heap.size]?=some (.cells (yS n (.slice g f h) true (.slice pk a c) wd true) 151 (0,0)):=A;clear A;have B:y6 [w.heap.size] P K:=(W.trans X).trans Y;have n6:=B.get r (by simp))|(refine aW rfl 151 (.tmp 1) rfl w.heap.size rfl 151 (yS n (.slice g f h) true (.slice pk a c) wd true) (0,0) _ m6 underlying151 rfl srd ?_)|(refine ye rfl 151 (.tmp 2) (.tmp 19) rfl (w.heap.size+1) (yS n (.slice g f h) true (.slice pk a c) wd true) rfl rfl 151 _ n6 srd rfl (QV _ _ _ _ _ _ _ _ _ _) ?_;intro w7 r9 T))
 rotate_left
 focus
  go_enter func163,ntmps163;go_wp2_with(first|(at_builtin;rw[S.out];refine qK rfl (.tmp 4) (.tmp 6) 149 rfl (w.heap.size+2) 189 O _ 1 24 underlying149 M m L o rfl (by decide) (.slice none 0 0) 0 [] rfl (aM _ _ _ _) (.slice j i k) 0 ms.length ms rfl (yb Hm.out C (by simp)) om (by unfold maxLen;omega) (by omega) (by omega) ?_;intro s w1 t D;have l:=yF D [] (by intro x d;cases d);have F:=l.get Q.out (by simp);have ru:w1.cell? ⟨w.heap.size,3,none⟩=some (.slice pk a c):=y7 F rfl;have z1:=l.size;clear D)|(at_builtin;refine qK rfl (.tmp 8) (.tmp 10) 149 rfl (w.heap.size+2) 189 O _ 1 24 underlying149 M m L o rfl (by decide) s (0+ms.length) ([]++ms) rfl t (.slice pk a c) 0 ks.length ks rfl (yb Hk.out (C.trans l) (by simp)) ok (by unfold maxLen;omega) (by omega) (by omega) ?_;intro v2 P N E;obtain⟨g,f,h,rfl⟩:=gJ N;have p:=yF E s.ownBlock.toList (by intro x d;rw[d];simp);have I:∀y,y<w.heap.size+2->y∉s.ownBlock.toList:=(fun y hy d=>by have:=(t.lt y (by simpa using d)).1;omega);have q:=p.get F (I _ (by omega));have r:=p.get (l.get R.out (by simp)) (I _ (by omega));have z2:=p.size;clear E)|(refine yC rfl 149 (.tmp 13) (.tmp 12) rfl w.heap.size 1 rfl (.slice g f h) rfl 151 _ q OD rfl (by simp) ?_;intro w3 v W;have Z:w3.heap[w.heap.size]?=some (.cells #[.int .i64 n,.slice g f h,.bool e,.slice pk a c,.bool wd,.bool true] 151 (0,0)):=v;clear v)|(refine yC rfl 4 (.tmp 14) (.const (.bool true)) rfl w.heap.size 2 rfl (.bool true) rfl 151 _ Z Zq rfl (by simp) ?_;intro J z X;have G:J.heap[w.heap.size]?=some (.cells #[.int .i64 n,.slice g f h,.bool true,.slice pk a c,.bool wd,.bool true] 151 (0,0)):=z;have d5:J.cell? ⟨w.heap.size,5,none⟩=some (.bool true):=y7 G rfl;clear z)|(refine yC rfl 4 (.tmp 17) (.const (.bool true)) rfl w.heap.size 4 rfl (.bool true) rfl 151 _ G Zq rfl (by simp) ?_;intro w5 H k5;have m5:w5.heap[w.heap.size]?=some (.cells #[.int .i64 n,.slice g f h,.bool true,.slice pk a c,.bool true,.bool true] 151 (0,0)):=H;clear H)|(refine yC rfl 4 (.tmp 18) (.const (.bool true)) rfl w.heap.size 5 rfl (.bool true) rfl 151 _ m5 Zq rfl (by simp) ?_;intro K A Y;have m6:K.heap[w.heap.size]?=some (.cells (yS n (.slice g f h) true (.slice pk a c) true true) 151 (0,0)):=A;clear A;have B:y6 [w.heap.size] P K:=((W.trans X).trans k5).trans Y;have n6:=B.get r (by simp))|(refine aW rfl 151 (.tmp 1) rfl w.heap.size rfl 151 (yS n (.slice g f h) true (.slice pk a c) true true) (0,0) _ m6 underlying151 rfl srd ?_)|(refine ye rfl 151 (.tmp 2) (.tmp 19) rfl (w.heap.size+1) (yS n (.slice g f h) true (.slice pk a c) true true) rfl rfl 151 _ n6 srd rfl (QV _ _ _ _ _ _ _ _ _ _) ?_;intro w7 r9 T))
 rotate_left
 all_goals
  refine aR (aI rfl _ w7 (w.heap.size+1) 151 _ (0,0) _ rfl r9 underlying151 rfl srd) rfl ?_;refine⟨.slice g f h,by simp[yS],?_,?_⟩
  ·have U:P.ownsRow (w.heap.size+2) 189 1 (.slice g f h) (ms++ks).length (ms++ks):=by simpa using N
   refine yb (yb (gT U (ay _)) B ?_) T ?_
   ·intro x d;have:=(U.lt x d).1;simp;omega
   ·intro x d;have:=(U.lt x d).1;simp;omega
  ·refine(((C.trans l).trans2 p fun x d=>Or.inr ?_).trans2 B fun x d=>Or.inr ?_).trans2 T fun x d=>Or.inr ?_
   ·have:=(t.lt x (by simpa using d)).1;omega
   ·simp at d;omega
   ·simp at d;omega
end Go.Proofs.YtcklgafpgdhnaaaGreatDoor
