import Derived.Test.YtcklgafpgdhnaaaGreatDoorPyaf
import Derived.Test.YtcklgafpgdhnaaaGreatDoorPyae
import Derived.Deep.DeepAppendRoom
import Derived.Laws.IdiomStrings
set_option maxRecDepth 100000
set_option maxHeartbeats 4000000
set_option linter.unusedSimpArgs false
set_option linter.unusedVariables false
set_option linter.unusedSectionVars false
open Go.Proofs.Tryz
open List renaming setIfInBounds_toArray → zD, set_cons_zero → zF
namespace Go.Proofs.YtcklgafpgdhnaaaGreatDoor
open Go.RowKit
theorem Q0z:Tryz.zeroCells94=(qV 0 (zl 128)).toArray:=by kernel_rfl
theorem Q0A(i:Int):Tryz.zeroCells94.setIfInBounds 0 (.int .i64 i)=(qV i (zl 128)).toArray:=by rw[Q0z];simp[qV]
theorem Xj:(prog.info? 94).map (fun i=>(i.zero,i.size,i.bytes))=some (some (.agg (qV 0 (zl 128)).toArray),129,136):=by kernel_rfl
theorem XJ:(prog.info? 89).map (·.size)=some 1:=by kernel_rfl
theorem Q0D(i:Int)(B:List UInt8)(h:B.length=128):splice (qV i (zl 128)) 1 (u8s B)=qV i (u8s B):=by
 simp[splice,qV,yd,h,zl]
variable {w:World}
theorem yF{w':World}{row:Option Nat}(h:w.grownBy w' row)(S:List Nat)(hr:∀k,row=some k->k∈S):y6 S w w':=
 ⟨h.os,h.tape,h.output,h.size,fun k a b=>h.block k a fun e=>b (hr k e.symm)⟩
theorem Xm{base e size n:Nat}{v:Value}{xs:List Value}(h:w.ownsRow base e size v n xs):v.oneCell'=true:=by
 obtain⟨_,⟨rfl,_⟩|⟨g,a,b,rfl,_⟩⟩:=h<;>rfl
theorem XX{P:Program}(w:World)(t e:TypeId)(i:TypeInfo)(z:Value)(size bytes:Nat)(ht:P.underlying t=some (.slice e))(hi:P.info? e=some i)(hz:i.zero=some z)(hs:i.size=size)(hb:i.bytes=bytes)(pO:z.cells.size=size)(h0:0<size)
  (v:Value)(n:Nat)(xs:List Value)(dZ:w.ownsRow 0 e size v n xs)(a:Addr)(m c:Nat)(news:List Value)(hl:news.length=m*size)(nI:∀j u,news[j]?=some u->w.cell? (a.add j)=some u)(h1:∀u∈news,u.oneCell'=true)
  (xy:n+m<=maxLen)(kG:(n+m)*bytes<=140737488355328):
  ∃v' w',(Builtin.append_ #[t,t] t #[v,.slice (some a) m c]).run P w=.ok v' w'/\w'.ownsRow 0 e size v' (n+m) (xs++news)/\y6 v.ownBlock.toList w w'/\∀y,v'.ownBlock=some y->v.ownBlock=some y\/w.heap.size<=y:=by
 obtain⟨v',w',l,H,G,_⟩:=cY (P:=P) w 0 t t e i z size bytes ht hi hz hs hb pO h0 v n xs dZ a m c news hl nI h1 xy kG (ay _);refine⟨v',w',l,H,yF G _ (by intro x k;rw[k];simp),fun y o=> ?_⟩;obtain⟨k,⟨rfl,rfl⟩|⟨g,b,p,rfl,F,A,C,D,E,s⟩⟩:=dZ
 ·have B:xs= []:=bQ (by rw[k,dw]);obtain⟨K,I,d,r,_⟩:=cY (P:=P) w w.heap.size t t e i z size bytes ht hi hz hs hb pO h0 (.slice none 0 0) 0 [] (aM _ _ _ _) a m c news hl nI h1 xy kG (ag _);rw[l]at d
  cases d
  exact Or.inr (r.lt y o).1
 ·by_cases h:n+m<=b
  ·obtain⟨I,d,_⟩:=run_append_own_spare (P:=P) w 0 t t e i size ht hi hs g n b xs ⟨k,Or.inr ⟨g,b,p,rfl,F,A,C,D,E,s⟩⟩ a m c news hl nI h1 h;rw[l]at d
   cases d
   exact Or.inl o
  ·subst hs hb;have f:∀j u,xs[j]?=some u->w.cell? ((⟨g,0,none⟩:Addr).add j)=some u:=by
    intro j u q;rw[add_lit,aY _ _ _ _ _ _ A];have J:=(ae.1 q).1;rw[<-s,aD,if_pos (by omega)]at q
    simpa using q
   have d:=run_append_grow (P:=P) w t t e i z ht hi hz ⟨g,0,none⟩ n b xs k f a m c news hl nI (by omega) (by unfold maxLen at xy;omega) (growslice_fits (by omega) kG);rw[l]at d
   cases d
   simp only[Value.ownBlock,ba]at o;exact Or.inr (Nat.le_of_eq o)
def Dv.put(D:Dv)(i:Nat)(B:List UInt8):Dv:={D.tick with q:=D.q++ [(i,B)],wr:=wrap64 (D.wr+1)}
def ZD(a:Nat)(bv:Value)(n:Nat)(cv:Value)(D:Dv)(i:Nat)(B:List UInt8)(w:World)(e:Ending)(w':World):Prop:=
 if D.bad then e=.returned eIO/\DQ w' a bv n cv D.tick/\y6 [a] w w' else
  e=.returned .nilIface/\∃cv',DQ w' a bv n cv' (D.put i B)/\y6 (yk a bv cv) w w'/\∀y,cv'.ownBlock=some y->cv.ownBlock=some y\/w.heap.size<=y
theorem Vj(a:Nat)(bv:Value)(n s:Nat)(cv:Value)(D:Dv)(B:List UInt8)(t':TypeId)(i:Nat)(w:World)(h:DQ w a bv n cv D)(hi:i<n)(hB:B.length=128)
  (hs:w.heap[s]?=some (.cells (u8s B).toArray t' (0,0)))(mZ:s≠a)(hq:D.q.length<=1000000):
  Calls prog 223 #[.pointer (some ⟨a,0,none⟩),.int .i64 i,.slice (some ⟨s,0,none⟩) 128 128] w (ZD a bv n cv D i B w):=by
 go_enter func223,ntmps223;go_wp2_with fail;refine(OB a _ _ D w h.d).mono ?_;rintro e J⟨rfl,M,j,-⟩;have Q:DQ J a bv n cv D.tick:=h.upd j M rfl rfl
 cases hb:D.bad with
 |true=>
  have p:Hid (ZD a bv n cv D i B w (.returned eIO) J):=by show ZD a bv n cv D i B w (.returned eIO) J;unfold ZD;rw[hb];exact⟨rfl,Q,j⟩
  go_wp2;go_ret;exact p.out
 |false=>
 obtain⟨t,r,rfl⟩:=yZ h.b;go_wp2_with fail;refine(Sn a _ n _ _ _ i J M (by omega) (by omega)).mono ?_;rintro e l⟨rfl,rfl⟩;have eS:=j.get hs (by simpa using mZ);have nJ:=yt M;have pP:=yt eS;go_wp2_with(first|(refine qn rfl 94 rfl _ (MP _) ?_;intro w3 fT C _;have fV:=C.get eS (by simp))|(refine ye rfl 94 (.tmp 7) (.tmp 17) rfl l.heap.size (qV i (zl 128)).toArray rfl (by simp only[Act.eval];exact congrArg Value.agg (Q0A i)) 94 _ fT (by rw[Qe];simp[qV,zl]) (by simp[qV,zl]) (qf (Sq _ _ (Q0h _))) ?_;intro w4 mg Z;have R:=Z.get fV (by simp;omega))|(refine jR 60 60 5 underlying60 su8 l.heap.size 1 128 128 ⟨s,0,none⟩ 128 128 (qV i (zl 128)) 94 mg (u8s B) (by rw[yd,hB];exact(Nat.min_self 128).symm) (ju R) (by simp[qV,zl,yd,hB]) (qP _) ?_;intro f X eD))
 rw[Q0D _ _ (by rw[hB])]at X;have own:∀y∈ [l.heap.size],y∈([]:List Nat)\/l.heap.size<=y:=by intro y c;simp at c;subst c;exact Or.inr (ag _)
 have L:y6 [] l f:=(C.trans2 Z own).trans2 eD own;have h5:DQ f a (.slice t n r) n cv D.tick:=Q.k0 L;have k:(wc (i,B)).length=129:=by simp[wc,qV,yd,hB]
 have m:f.drew.heap[l.heap.size]?=some (.cells (wc (i,B)).toArray 94 (0,0))/\DC f.drew a (.slice t n r) cv D.tick:=⟨X,h5.d⟩
 refine gu (fun W=>W.heap[l.heap.size]?=some (.cells (wc (i,B)).toArray 94 (0,0))/\DC W a (.slice t n r) cv D.tick) 10 (by kernel_rfl) ?_;refine ku 0 (.pointer (some ⟨a,0,none⟩)) rfl (fun W u=>by rfl) m ?_;refine ku 1 (.pointer (some ⟨a,0,none⟩)) rfl (fun W u=>by rfl) m ?_;refine ku 2 (.pointer (some ⟨a,0,none⟩)) rfl (fun W u=>by rfl) m ?_;refine ku 3 (.pointer (some ⟨a,1,none⟩)) rfl (fun W u=>by rfl) m ?_;refine ku 4 cv rfl (fun W u=>y9 89 (.tmp 25) rfl ⟨a,1,none⟩ rfl _ (yh underlying89 rfl (y7 u.2 rfl))) m ?_;refine ku 5 (.agg (wc (i,B)).toArray) rfl (fun W u=>y9 94 (.tmp 7) rfl _ rfl _ (df W _ _ _ _ _ _ u.1 underlying94 rfl (by rw[Qe];simp[k]))) m ?_;obtain⟨ie,eI,E,eE,T⟩:=bu Xj;have nK:=Qd (P:=prog) f.drew 89 94 (wc (i,B)).toArray ie _ underlying89 eI E (by rw[eE];simp[k]) (by simp[k]) (by simp[k]);have H:y6 [] f (f.drew.alloc (.cells (wc (i,B)).toArray 94)):=(y6.refl [] f).drew.alloc _;have A:=h5.k0 H;have n6:=af f.drew (.cells (wc (i,B)).toArray 94);have g6:=H.get X (by simp);obtain⟨v,z,rN,N,I,GB⟩:=XX (P:=prog) (f.drew.alloc (.cells (wc (i,B)).toArray 94)) 89 94 ie _ 129 136 underlying89 eI E eE T (by simp[Value.cells,qV,zl]) (by omega) cv D.q.length (fl (D.q.map wc)) A.o ⟨f.heap.size,0,none⟩ 1 1 (wc (i,B)) (by simp[k]) (ju n6) (MQ _) (by unfold maxLen;omega) (by omega);have F:=A.nq;have d8:DC z a (.slice t n r) cv D.tick:=I.get A.d (by intro g;exact(F a (by simpa using g)).1 rfl);have b8:=yb A.b I (by intro y c g;exact(F y (by simpa using g)).2 c);have V:∀y,cv.ownBlock=some y->y<l.heap.size:=fun y c=>Q.lt y (by simp[yk,c]);have O:=I.get g6 (by intro g;have:=V l.heap.size (by simpa using g);omega);have v1:=Xm N;simp only[zz];refine qI (i:=6) (by kernel_rfl) (yX rfl rfl (.slice (some ⟨f.heap.size,0,none⟩) 1 1) _ (yv 89 1 (.tmp 27) rfl (.agg (wc (i,B)).toArray) rfl _ nK) ⟨fun _=>⟨g6,A.d⟩,?_⟩);simp only[zz];refine qI (i:=7) (by kernel_rfl) (yX rfl rfl v z (jl (.tmp 26) (.tmp 28) 89 rfl cv (.slice (some ⟨f.heap.size,0,none⟩) 1 1) rfl rfl _ rN) ⟨fun _=>⟨O,d8⟩,?_⟩);simp only[zz];refine qI (i:=8) (by kernel_rfl) (yX rfl rfl (.pointer (some ⟨a,0,none⟩)) z rfl ⟨fun _=>⟨O,d8⟩,?_⟩);simp only[zz];refine qI (i:=9) (by kernel_rfl) (yX rfl rfl (.pointer (some ⟨a,1,none⟩)) z rfl ⟨fun _=>⟨O,d8⟩,?_⟩);simp only[zz];refine qI (i:=10) (by kernel_rfl) (qo rfl rfl _ (yK 89 (.tmp 31) (.tmp 29) rfl ⟨a,1,none⟩ rfl v rfl (qR XJ v1 d8 (by simp[Rh]))) ⟨fun g=>absurd rfl g,?_⟩);simp only[zz];refine gq (by kernel_rfl) ?_ _;have d9:=yf (i:=1) v d8;have U:y6 [a] z (z.setCell ⟨a,1,none⟩ v):=(y6.refl _ _).setCell (Or.inl (by simp)) _;have nv:∀y,v.ownBlock=some y->y≠a:=by
  intro y c;obtain⟨cs,fr,hh⟩:=yD N c;exact yP hh d8 (by decide)
 have o9:=yb N U fun y c=>by simpa using nv y c
 have b9:=yb b8 U fun y c=>by simpa using h.nb y c
 generalize z.setCell ⟨a,1,none⟩ v=G at*;have e3:G.cell? ⟨a,3,none⟩=some (.int .i64 D.wr):=y7 d9 rfl;have f3:G.frozen? ⟨a,3,none⟩=false:=ax _ _ _ _ _ d9;have d10:=yf (i:=3) (.int .i64 (wrap64 (D.wr+1))) d9;have K:y6 [a] G (G.setCell ⟨a,3,none⟩ (.int .i64 (wrap64 (D.wr+1)))):=(y6.refl _ _).setCell (Or.inl (by simp)) _;have p:Hid (ZD a (.slice t n r) n cv D i B w (.returned .nilIface) (G.setCell ⟨a,3,none⟩ (.int .i64 (wrap64 (D.wr+1))))):=by
  show ZD _ _ _ _ _ _ _ _ _ _;unfold ZD;rw[hb];refine⟨rfl,v,⟨d10,yb b9 K fun y c=>by simpa using h.nb y c,?_,?_,fun e=>by simp[Dv.put]at e⟩,?_,?_⟩
  ·have Y:=yb o9 K fun y c=>by simpa using nv y c
   have e1:fl (D.q.map wc)++wc (i,B)=fl ((D.put i B).q.map wc):=by simp[Dv.put,fl]
   have e2:D.q.length+1=(D.put i B).q.length:=by simp[Dv.put]
   rw[e1,e2]at Y;exact Y
  ·intro x g;simp only[Dv.put,ar,cn]at g;rcases g with g|rfl
   ·exact h.q x g
   ·exact⟨hi,hB⟩
  ·have sub:∀S:List Nat,(∀y∈S,y∈yk a (.slice t n r) cv)->∀y∈S,y∈yk a (.slice t n r) cv\/w.heap.size<=y:=fun S m y c=>Or.inl (m y c);refine((((j.mono (by simp[yk])).trans2 L (by simp)).trans2 H (by simp)).trans2 I (sub _ (by intro y c;simp[yk]at c⊢;simp[c]))).trans2 (U.trans K) (sub _ (by simp[yk]))
  ·intro y c;have:=j.size;have:=L.size;have:=H.size;exact(GB y c).imp id fun h=>by omega
 clear d10;go_wp2;go_ret;exact p.out
def jm(L:List UInt8)(i:Nat)(B:List UInt8):List UInt8:=splice L (i*128) B
theorem Qf(L:List UInt8)(o:Nat)(B:List UInt8):splice (u8s L) o (u8s B)=u8s (splice L o B):=by
 simp[splice,u8s,List.map_take,List.map_drop]
theorem QM:(prog.info? 92).map (·.size)=some 128:=by kernel_rfl
def lay(L:List UInt8)(q:List Wt):List UInt8:=q.foldl (fun L x=>jm L x.1 x.2) L
theorem Wy(L:List UInt8)(q:List Wt)(x:Wt):lay L (q++ [x])=jm (lay L q) x.1 x.2:=by simp[lay]
theorem Vw(L B:List UInt8)(n i:Nat)(hL:L.length=n*128)(hi:i<n)(hB:B.length=128):(jm L i B).length=n*128:=by
 rw[jm,aN _ _ _ (by rw[hB,hL];omega),hL]
theorem gG{n:Nat}{L:List UInt8}{q:List Wt}(hL:L.length=n*128)(h:Fit n q):(lay L q).length=n*128:=by
 induction q generalizing L with
 |nil=>exact hL
 |cons x r ih=>
  obtain⟨a,b⟩:=h x (by simp);exact ih (L:=jm L x.1 x.2) (Vw L x.2 n x.1 hL a b) fun y c=>h y (by simp[c])
def Dv.flush(D:Dv):Dv:={D.tick with L:=lay D.L D.q,q:= []}
def ZE(a:Nat)(bv:Value)(n:Nat)(cv:Value)(D:Dv)(w:World)(e:Ending)(w':World):Prop:=
 if D.bad then e=.returned eIO/\DQ w' a bv n cv D.tick/\y6 [a] w w' else e=.returned .nilIface/\DQ w' a bv n (.slice none 0 0) D.flush/\y6 (a::bv.ownBlock.toList) w w'
def FlI(bv:Value)(n:Nat)(D:Dv)(w1:World)(ix:Value)(wr:World):Prop:=
 ∃j:Nat,j<=D.q.length/\ix=.int .i64 j/\wr.ownsRow 0 92 128 bv n (u8s (lay D.L (D.q.take j)))/\y6 bv.ownBlock.toList w1 wr
theorem Sa(a:Nat)(bv:Value)(n:Nat)(cv:Value)(D:Dv)(w:World)(h:DQ w a bv n cv D)(_hn:n<=1000)(hq:D.q.length<=1000000):
  Calls prog 221 #[.pointer (some ⟨a,0,none⟩)] w (ZE a bv n cv D w):=by
 go_enter func221,ntmps221;go_wp2_with fail;refine(OB a _ _ D w h.d).mono ?_;rintro e J⟨rfl,O,E,-⟩;have Q:DQ J a bv n cv D.tick:=h.upd E O rfl rfl
 cases hb:D.bad with
 |true=>
  have C:Hid (ZE a bv n cv D w (.returned eIO) J):=by show ZE _ _ _ _ _ _ _ _;unfold ZE;rw[hb];exact⟨rfl,Q,E⟩
  go_wp2;go_ret;exact C.out
 |false=>
 obtain⟨p,c,rfl⟩:=yZ h.o;have c1:J.cell? ⟨a,1,none⟩=some (.slice p D.q.length c):=y7 O rfl;have nJ:=yt O;go_wp2;clear c1
 go_loopw [4,13] (fun _ ix wr=>FlI bv n D J ix wr) (fun _ ix _=>D.q.length-(intOf ix).toNat)
 case atStart=>exact⟨0,ay _,rfl,Q.b,y6.refl _ _⟩
 case round=>
  obtain⟨j,hj,rfl,Z,M⟩:=hrel;have N:DC wr a bv (.slice p D.q.length c) D.tick:=M.get O (by intro A;exact h.nb a (by simpa using A) rfl)
  by_cases H:j<D.q.length
  ·have hlt':(j:Int)<(D.q.length:Int):=by omega
   obtain⟨x,A⟩:∃x,D.q[j]?=some x:=⟨_,aa H⟩
   obtain⟨x1,G⟩:=h.q x (ah A);obtain⟨b,fh,S,e,rM,dW⟩:=Q.at_ A
   cases e
   have rM:=M.get rM (by intro A;exact(Q.nq b rfl).2 (by simpa using A));obtain⟨g,K,m,rfl,lX,_,T,U,z,iO⟩:=jf Z (by omega);have F:(wc x).length=129:=by simp[wc,qV,yd,G]
   have eK:=yQ (P:=prog) wr b (j*129) 94 94 S (wc x) (0,0) _ rM underlying94 rfl (by rw[Qe,F]) dW;have iL:=gG (q:=D.q.take j) h.l fun y t=>h.q y (cM t);have f:=Wy D.L (D.q.take j) x;rw[<-qe D.q j x A]at f;have HN:Hid _:=f;clear dW f;go_wp2_with(first|(refine ya rfl _ _ (yc 89 (.tmp 11) (.tmp 13) rfl b 0 D.q.length c j 129 rfl rfl 94 underlying89 Qe H (j*129) (by omega)) ?_)|(refine y8 rfl 94 (.tmp 15) rfl ⟨b,j*129,none⟩ rfl (.agg (wc x).toArray) eK ?_)|(refine qn rfl 94 rfl _ (MP _) ?_;intro w5 X eD _)|(refine ye rfl 94 (.tmp 4) (.tmp 16) rfl wr.heap.size (wc x).toArray rfl rfl 94 _ X (by rw[Qe];simp[F]) (by simp[F,qV,zl]) (qf (MQ x)) ?_;intro B Y V))
   have R:y6 [] wr B:=eD.trans2 V (by intro y t;simp at t;subst t;exact Or.inr (ag _));have d6:=R.get N (by simp);have r6:=R.get lX (by simp);have r:(fun W:World=>DC W a (.slice (some ⟨g,0,none⟩) n K) (.slice (some ⟨b,0,none⟩) D.q.length c) D.tick/\W.heap[wr.heap.size]?=some (.cells (wc x).toArray 94 (0,0))) B.drew:=⟨d6,Y⟩
   refine gu (fun W:World=>DC W a (.slice (some ⟨g,0,none⟩) n K) (.slice (some ⟨b,0,none⟩) D.q.length c) D.tick/\W.heap[wr.heap.size]?=some (.cells (wc x).toArray 94 (0,0))) 9 (by kernel_rfl) ?_;refine kt (i:=0) (v:=.pointer (some ⟨a,0,none⟩)) rfl (by kernel_rfl) (by kernel_rfl) (fun W s=>by kernel_rfl) (fun _ _ _ h=>h) r ?_;refine kt (i:=1) (v:=.pointer (some ⟨a,0,none⟩)) rfl (by kernel_rfl) (by kernel_rfl) (fun W s=>by kernel_rfl) (fun _ _ _ h=>h) r ?_;refine kt (i:=2) (v:=.pointer (some ⟨a,0,none⟩)) rfl (by kernel_rfl) (by kernel_rfl) (fun W s=>by kernel_rfl) (fun _ _ _ h=>h) r ?_;refine kt (i:=4) (v:=.pointer (some ⟨wr.heap.size,0,none⟩)) rfl (by kernel_rfl) (by kernel_rfl) (fun W s=>by kernel_rfl) (fun _ _ _ h=>h) r ?_;refine kt (i:=6) (v:=.pointer (some ⟨wr.heap.size,1,none⟩)) rfl (by kernel_rfl) (by kernel_rfl) (fun W s=>by kernel_rfl) (fun _ _ _ h=>h) r ?_;simp only[zz];refine kt (i:=3) (v:=.slice (some ⟨g,0,none⟩) n K) rfl (by kernel_rfl) (by kernel_rfl) (fun W s=>y9 88 (.tmp 19) rfl ⟨a,0,none⟩ rfl _ (yh underlying88 rfl (y7 s.1 rfl))) (fun _ _ _ h=>h) r ?_;refine kt (i:=5) (v:=.int .i64 x.1) rfl (by kernel_rfl) (by kernel_rfl) (fun W s=>y9 3 (.tmp 21) rfl ⟨wr.heap.size,0,none⟩ rfl _ (yh underlying3 rfl (y7 s.2 rfl))) (fun _ _ _ h=>h) r ?_;refine kt (i:=7) (v:=.agg (u8s x.2).toArray) rfl (by kernel_rfl) (by kernel_rfl) (fun W s=>y9 92 (.tmp 23) rfl ⟨wr.heap.size,1,none⟩ rfl _ (yQ W _ 1 _ _ (wc x) (u8s x.2) _ _ s.2 underlying92 rfl (by rw[QM,yd,G]) (by intro k u hu;rw[Nat.add_comm];exact hu))) (fun _ _ _ h=>h) r ?_;simp only[zz];refine kt (i:=8) (v:=.pointer (some ⟨g,x.1*128,none⟩)) rfl (by kernel_rfl) (by kernel_rfl) (fun W _=>yc 88 (.tmp 20) (.tmp 22) rfl g 0 n K x.1 128 rfl rfl 92 underlying88 QM x1 _ (by simp)) (fun _ _ _ h=>h) r ?_;simp only[zz];have I:=yI (P:=prog) B.drew g (x.1*128) 92 92 m (u8s x.2) r6 (by rw[QM,yd,G]) (by rw[yd,G,z];omega) (qP _);have k7:y6 [g] B (B.drew.setRow g (splice m (x.1*128) (u8s x.2)).toArray):=(y6.refl _ _).drew.setRow (Or.inl (by simp)) _;have r7:=Mx (w:=B.drew.setRow g (splice m (x.1*128) (u8s x.2)).toArray) (base:=0) (size:=128) (xs:=u8s (lay D.L (D.q.take (j+1)))) (by rw[yd,gG h.l fun y t=>h.q y (cM t)]) (bH B.drew g _ _ 92 _ r6) (ay _) T U (by rw[aN _ _ _ (by rw[yd,G,z];omega),z]) (by rw[PH iO (by rw[yd,G];omega) (by rw[z];omega),Qf,HN.out];rfl);refine qI (i:=9) (by kernel_rfl) (qo rfl rfl _ (yK 92 (.tmp 25) (.tmp 24) rfl ⟨g,x.1*128,none⟩ rfl (.agg (u8s x.2).toArray) rfl I) ⟨fun A=>absurd rfl A,?_⟩);simp only[zz];refine gq (by kernel_rfl) ?_ _;generalize B.drew.setRow g (splice m (x.1*128) (u8s x.2)).toArray=w7 at*;have K7:y6 [g] J w7:=(M.trans2 R (by simp)).trans k7;clear I r;go_wp2;go_roundw
   case rel=>exact⟨j+1,by omega,by go_num,r7,K7⟩
   case measure=>simp[intOf];omega
  ·have hge:¬(j:Int)<(D.q.length:Int):=by omega
   have ej:j=D.q.length:=by omega
   subst ej;rw[bV]at Z;have e1:wr.cell? ⟨a,1,none⟩=some (.slice p D.q.length c):=y7 N rfl;have f1:wr.frozen? ⟨a,1,none⟩=false:=ax _ _ _ _ _ N;have d2:=yf (i:=1) (.slice none 0 0) N;have k2:y6 [a] wr (wr.setCell ⟨a,1,none⟩ (.slice none 0 0)):=(y6.refl _ _).setCell (Or.inl (by simp)) _;have C:Hid (ZE a bv n (.slice p D.q.length c) D w (.returned .nilIface) (wr.setCell ⟨a,1,none⟩ (.slice none 0 0))):=by
    show ZE _ _ _ _ _ _ _ _;unfold ZE;rw[hb];exact⟨rfl,⟨d2,yb Z k2 fun y t=>by simpa using h.nb y t,aM _ _ _ _,by simp[Fit,Dv.flush],fun _=>rfl⟩,((E.mono (by simp)).trans2 M (by intro y t;exact Or.inl (aq _ t))).trans2 k2 (by simp)⟩
   clear d2;go_wp2;go_ret;exact C.out
def nb(x:Int):Nat:=if x<0 then 0 else(x%1000).toNat
theorem NO(x:Int):nb x<1000:=by unfold nb;split<;>omega
theorem iblk:(prog.info? 92).map (fun i=>(i.zero,i.size,i.bytes))=some (some (.agg (zl 128).toArray),128,128):=by kernel_rfl
theorem Q0L(n j:Nat)(h:j<(zl n).length):(zl n)[j]=.int .u8 0:=by simp[zl]
theorem Q0M(n:Nat):madeCells (zl 128).toArray n=(u8s (List.replicate n 0)).toArray:=by
 apply Array.ext';apply cJ;intro j
 by_cases a:j<n
 ·have b:j%128<(zl 128).length:=by rw[Nh];omega
  simp only[madeCells,u8s,bX,Nh,Array.toList_map,Array.toList_range,aA,dC a,b7,List.getElem?_replicate,if_pos a];rw[List.getElem!_toArray,List.getElem!_eq_getElem?_getD,aa b,Q0L];rfl
 ·simp[madeCells,u8s,a]
theorem Va(m:Nat)(hm:m<1000)(w:World):(Instr.makeSlice 88 (.int .i64 m) (.int .i64 m)).run prog w=.ok (.slice (some ⟨w.heap.size,0,none⟩) m m) (w.alloc (.cells (u8s (List.replicate (m*128) 0)).toArray 92)):=by
 obtain⟨e,d,a,c,b⟩:=bu iblk;have:=run_make (P:=prog) w 88 92 e _ underlying88 d a .i64 .i64 m m (by omega) (by omega) (by rw[b];omega) (by omega);rw[this,c];simp only[Int.toNat_natCast,Value.cells,Q0M]
def Dv.new(L:List UInt8):Dv:=⟨L,[],0,0,0,-1,0,0⟩
def Vk(L:List UInt8)(n:Nat)(a:Nat)(bv:Value)(w w':World):Prop:=DQ w' a bv n (.slice none 0 0) (.new L)/\w.heap.size<=a/\(∃g,bv=.slice (some ⟨g,0,none⟩) n n/\w.heap.size<=g)/\y6 [] w w'
def Wg(L:List UInt8)(n:Nat)(w:World)(e:Ending)(w':World):Prop:=∃a bv,e=.returned (.pointer (some ⟨a,0,none⟩))/\Vk L n a bv w w'
theorem WW{w3:World}{L:List UInt8}{m:Nat}(hL:L.length=m*128)(fT:w3.heap[w.heap.size]?=some (.cells (u8s L).toArray 92 (0,0)))(hk3:y6 [] w w3)(hs:w3.heap.size=w.heap.size+1)(hm:m<=1000):
  Vk L m (w.heap.size+1) (.slice (some ⟨w.heap.size,0,none⟩) m m) w (w3.alloc (.cells #[.slice (some ⟨w.heap.size,0,none⟩) m m,.slice none 0 0,.int .i64 0,.int .i64 0,.int .i64 0,.int .i64 (-1),.int .i64 0,.int .i64 0] 91)):=by
 have a:=(y6.refl [] w3).alloc (.cells #[.slice (some ⟨w.heap.size,0,none⟩) m m,.slice none 0 0,.int .i64 0,.int .i64 0,.int .i64 0,.int .i64 (-1),.int .i64 0,.int .i64 0] 91);refine⟨⟨?_,Mx (by rw[yd];exact hL) (a.get fT (by simp)) (ay _) (ag _) (by unfold maxLen;omega) (by rw[yd];exact hL) (aJ (by rw[yd];exact Nat.le_of_eq hL)),aM _ _ _ _,by simp[Fit,Dv.new],fun _=>rfl⟩,by omega,⟨_,rfl,ag _⟩,hk3.trans a⟩;rw[<-hs];exact af _ _
theorem SE(x:Int)(w:World):Calls prog 32 #[.int .i64 x] w (Wg (List.replicate (nb x*128) 0) (nb x) w):=by
 by_cases h:x<0
 ·have f:nb x=0:=by unfold nb;rw[if_pos h]
  rw[f];go_enter func32,ntmps32;go_wp2_with(first|(at_make;refine jH rfl _ _ _ rfl _ _ rfl rfl _ _ (Va 0 (by omega) w) ?_;intro g c a d;have b:Hid (g.heap.size=w.heap.size+1):=d))
  go_ret;exact⟨_,_,rfl,WW (by simp) c a b.out (by omega)⟩
 ·have e:=NO x;have i:Hid (x%1000=nb x):=by show _=_;unfold nb;rw[if_neg h];omega
  generalize nb x=m at*;go_enter func32,ntmps32;go_wp2_with(first|(at_make;rw[i.out];refine jH rfl _ _ _ rfl _ _ rfl rfl _ _ (Va m e w) ?_;intro g c a d;have b:Hid (g.heap.size=w.heap.size+1):=d))
  go_ret;exact⟨_,_,rfl,WW (by simp) c a b.out (by omega)⟩
theorem M2{k:IntKind}{a b:Int}(h:a=b):Ending.returned (.int k a)=.returned (.int k b):=by rw[h]
def pk(c:Int)(n:Nat):Nat:=if c<0 then((-(c+1))%n).toNat else(c%n).toNat
theorem NR(c:Int)(n:Nat)(hn:0<n):pk c n<n:=by
 unfold pk;split
 ·have:=Int.emod_lt_of_pos (-(c+1)) (show(0:Int)<n by omega);have:=Int.emod_nonneg (-(c+1)) (show(n:Int)≠0 by omega);omega
 ·have:=Int.emod_lt_of_pos c (show(0:Int)<n by omega);have:=Int.emod_nonneg c (show(n:Int)≠0 by omega);omega
theorem Rl(c:Int)(n:Nat)(w:World)(hn:0<n)(hb:(n:Int)<=1000000)(h1:-9223372036854775808<=c)(h2:c<=9223372036854775807):
  Calls prog 97 #[.int .i64 c,.int .i64 n] w fun e w'=>e=.returned (.int .i64 (pk c n))/\w'=w:=by
 by_cases hc:c<0
 ·have a:(pk c n:Int)=(-(c+1))%n:=by unfold pk;rw[if_pos hc];have:=Int.emod_nonneg (-(c+1)) (show(n:Int)≠0 by omega);omega
  have H:Hid (-((c+1).tmod n)=(pk c n:Int)):=by show _=_;rw[a,<-Int.neg_tmod,Int.tmod_eq_emod_of_nonneg (by omega)]
  clear a;have b:¬(n:Int)=0:=by omega
  go_enter func97,ntmps97;go_wp2;go_ret;exact⟨M2 H.out,rfl⟩
 ·have a:(pk c n:Int)=c%n:=by unfold pk;rw[if_neg hc];have:=Int.emod_nonneg c (show(n:Int)≠0 by omega);omega
  have H:Hid ((pk c n:Int)=c%n):=a;clear a;have b:¬(n:Int)=0:=by omega
  go_enter func97,ntmps97;go_wp2;go_ret;exact⟨M2 H.out.symm,rfl⟩
theorem MJ(c:Int)(w:World)(h1:-9223372036854775808<=c)(h2:c<=9223372036854775807):
  Calls prog 160 #[.int .i64 c] w fun e w'=>e=.returned (.int .i64 (pk c 600))/\w'=w:=by
 go_enter func160,ntmps160;go_wp2_with fail;refine(Rl c 600 w (by omega) (by omega) h1 h2).mono ?_;rintro e w'⟨rfl,rfl⟩;go_wp2;go_ret;exact⟨rfl,rfl⟩
theorem RW(x:Int)(w:World):
  Calls prog 127 #[.int .i64 x] w fun e w'=>e=.returned (.int .i64 (nb x))/\w'=w:=by
 by_cases a:x<0
 ·have b:nb x=0:=by unfold nb;rw[if_pos a]
  rw[b];go_enter func127,ntmps127;go_wp2;go_ret;exact⟨rfl,rfl⟩
 ·have H:Hid (x%1000=nb x):=by show _=_;unfold nb;rw[if_neg a];omega
  generalize nb x=m at*;go_enter func127,ntmps127;go_wp2;go_ret;exact⟨M2 H.out,rfl⟩
theorem iu8:(prog.info? 5).map (fun i=>(i.zero,i.size,i.bytes))=some (some (.int .u8 0),1,1):=by kernel_rfl
theorem Q0X(L:List UInt8)(k:Nat):L.take (k*128)++yl L k=L.take ((k+1)*128):=by
 rw[yl,bT,Nat.one_mul,List.take_add]
theorem Yq{base:Nat}{v:Value}{l:List UInt8}(h:w.ownsRow base 5 1 v l.length (u8s l)):(convert 60 9 v).run prog w=.ok (.string ⟨l.toArray⟩) w:=by
 obtain⟨o,⟨rfl,d⟩|⟨g,a,c,rfl,n,f,i,k,m,e⟩⟩:=h
 ·have:l= []:=bQ d;subst this;rw[run_convert_bytes_string w 60 9 5 none 0 0 underlying60 underlying5 underlying9];simp[Conv.bytesToString];rfl
 ·refine run_convert_bytes_back (P:=prog) w 60 9 5 ⟨g,0,none⟩ a l underlying60 underlying5 underlying9 ?_;intro j b;rw[add_lit,aY _ _ _ _ _ _ f];have:=congrArg (fun x=>x[j]?) e;simp only[aD,Nat.mul_one,b,if_true,Qo,aa b,b7]at this
  simpa using this
theorem Q0Z(a:Nat)(bv:Value)(n:Nat)(cv:Value)(D:Dv)(w:World)(h:DQ w a bv n cv D)(hn:n<1000):
  Calls prog 29 #[.pointer (some ⟨a,0,none⟩)] w fun e w'=>e=.returned (.string ⟨D.L.toArray⟩)/\y6 [] w w':=by
 obtain⟨I,u,rfl⟩:=yZ h.b;have z:w.cell? ⟨a,0,none⟩=some (.slice I n u):=y7 h.d rfl;have nJ:=yt h.d;obtain⟨M,K,r,J,s⟩:=bu iu8;go_enter func29,ntmps29;go_wp2_with(first|(at_make;refine wpList_make_own _ rfl _ _ 60 rfl w.heap.size 5 M (.int .u8 0) 1 underlying60 K r J .i64 .i64 _ (n*128) rfl rfl (by omega) (by rw[s];omega) (by unfold maxLen;omega) (ag _) ?_;intro w1 R X;have p:=yF X [] (by simp);have Q:w1.cell? ⟨a,0,none⟩=some (.slice I n u):=y7 (p.get h.d (by simp)) rfl))
 clear z Q
 go_loopw [3,17] (fun v i wr=>∃k:Nat,k<=n/\i=.int .i64 k/\wr.ownsRow w.heap.size 5 1 v (D.L.take (k*128)).length (u8s (D.L.take (k*128)))/\y6 [] w wr) (fun _ i _=>n-(intOf i).toNat)
 case atStart=>exact⟨0,ay _,rfl,by simpa[u8s]using R,p⟩
 case round=>
  obtain⟨k,hk,rfl,m,o⟩:=hrel;have t:=h.l
  by_cases E:k<n
  ·have q:(D.L.take (k*128)).length=k*128:=by rw[au,t];omega
   obtain⟨g,BG,H,e,Y,_,S,T,U,W⟩:=jf (yb h.b o (by simp)) (by omega)
   cases e
   have z:wr.cell? ⟨a,0,none⟩=some (.slice (some ⟨g,0,none⟩) n u):=y7 (o.get h.d (by simp)) rfl;have C:=gE D.L n k t E;rw[q]at m;go_wp2_with(first|(at_builtin;refine cK _ rfl (.tmp 20) (.tmp 27) 60 rfl w.heap.size 5 M (.int .u8 0) 1 1 underlying60 K r J s rfl (by decide) u3 (k*128) _ rfl m ⟨g,k*128,none⟩ 128 128 (u8s (yl D.L k)) rfl (by rw[yd,C]) (jS Y fun j v V=>QT W (TH D.L k j v V)) (qP _) (by unfold maxLen;omega) (by omega) o.size ?_;intro Z O A N _))
   have B:y6 [] w O:=by
    refine o.trans2 (yF N u3.ownBlock.toList (by intro x f;rw[f];simp)) ?_;intro x f;have F:u3.ownBlock=some x:=by cases hu:u3.ownBlock with|none=>rw[hu]at f;cases f|some y=>rw[hu]at f;simp at f;rw[f]
    exact Or.inr (m.lt x F).1
   have c:O.ownsRow w.heap.size 5 1 Z (D.L.take ((k+1)*128)).length (u8s (D.L.take ((k+1)*128))):=by
    have e:u8s (D.L.take (k*128))++u8s (yl D.L k)=u8s (D.L.take ((k+1)*128)):=by rw[<-Q0X];simp[u8s]
    rw[e]at A;have:(D.L.take ((k+1)*128)).length=k*128+128:=by rw[au,t];omega
    rw[this];exact A
   clear A N m z;go_roundw
   case rel=>exact⟨k+1,by omega,by go_num,c,B⟩
   case measure=>simp[intOf];omega
  ·have P:k=n:=by omega
   subst P;have G:D.L.take (k*128)=D.L:=aJ (by omega);rw[G]at m;have iP:=Yq m;clear G t;go_wp2;go_ret;exact⟨rfl,o⟩
def jN(L:List UInt8)(k n:Nat):List UInt8:=L.take k++List.replicate (n*128-(L.take k).length) 0
theorem TC(L:List UInt8)(k n:Nat)(hk:k<=n*128):(jN L k n).length=n*128:=by
 have:=List.length_take_le k L;rw[jN,ai,bR];omega
theorem Q11(L:List UInt8)(k n:Nat)(hk:k<n*128)(b:UInt8)(hb:L[k]?=some b):(jN L k n).set k b=jN L (k+1) n:=by
 have e:k<L.length:=(ae.1 hb).1;have c:(L.take k).length=k:=by rw[au];omega
 have a:(L.take (k+1)).length=k+1:=by rw[au];omega
 have d:n*128-k=(n*128-(k+1))+1:=by omega
 rw[jN,jN,c,a,d,List.replicate_succ,cP _ _ (by omega),c,Nat.sub_self,zF,qe L k b hb,aG];rfl
theorem Q12(l:List UInt8)(k:Nat)(b:UInt8):(u8s l).toArray.setIfInBounds k (.int .u8 b.toNat)=(u8s (l.set k b)).toArray:=by
 simp[u8s,List.map_set]
def LY(n:Nat)(s:List UInt8):List UInt8:=jN s (n*128) n
theorem Q14(n:Nat)(L:List UInt8)(h:L.length=n*128):LY n L=L:=by
 rw[LY,jN,aJ (by omega),h];simp
def LdI(s:List UInt8)(n a:Nat)(bv:Value)(w:World)(i:Value)(wr:World):Prop:=∃k:Nat,k<=n*128/\k<=s.length/\i=.int .i64 k/\DQ wr a bv n (.slice none 0 0) (.new (jN s k n))/\y6 [] w wr
theorem UN(x:Int)(s:ByteArray)(w:World):
  Calls prog 128 #[.int .i64 x,.string s] w (Wg (LY (nb x) s.data.toList) (nb x) w):=by
 have N:Hid (∀(k:Nat) (h:k<s.size),s.data.toList[k]?=some (s[k])):=by
  intro k h;rw[aa (by simpa using h)];rfl
 have u:Hid (s.data.toList.length=s.size):=rfl;have hn:=NO x;go_enter func128,ntmps128;go_wp2_with fail;refine(SE x w).mono ?_;rintro e w1⟨a,I,rfl,R,G,F,C⟩;generalize nb x=n at*;have W:∀y,I.ownBlock=some y->w.heap.size<=y:=by
  obtain⟨Z,rfl,h⟩:=F;intro y U
  cases U
  exact h
 go_wp2
 go_loopw [6] (fun i wr=>LdI s.data.toList n a I w i wr) (fun i _=>n*128-(intOf i).toNat)
 case atStart=>exact⟨0,ay _,ay _,rfl,by simpa[jN]using R,C⟩
 case round=>
  obtain⟨k,S,E,rfl,c,v⟩:=hrel;rw[u.out]at E;obtain⟨O,H,rfl⟩:=yZ c.b;have P:wr.cell? ⟨a,0,none⟩=some (.slice O n H):=y7 c.d rfl
  by_cases j:k<n*128/\k<s.size
  ·obtain⟨j,M⟩:=j;have r:(k:Int)<(s.size:Int):=by omega
   have T:k/128<n:=by omega
   obtain⟨g,X,l,e,z,_,A,B,o,V⟩:=jf c.b (by omega)
   cases e
   have xz:=TC s.data.toList k n S;obtain⟨t,f⟩:∃t,wr.cell? ⟨g,k/128*128+k%128,none⟩=some t:=by
    rw[aY _ _ _ _ _ _ z];exact⟨_,Array.getElem?_eq_getElem (by simp only[bX,o];omega)⟩
   have q:wr.frozen? ⟨g,k/128*128+k%128,none⟩=false:=ax _ _ _ _ _ z;go_wp2
   go_region
   rw[Nat.div_add_mod']at f q⊢;have L:y6 [g] wr (wr.setCell ⟨g,k,none⟩ (.int .u8 s[k].toNat)).drew:=((y6.refl [g] wr).setCell (p:=⟨g,k,none⟩) (Or.inl (by simp)) (.int .u8 s[k].toNat)).drew;have Q:DQ (wr.setCell ⟨g,k,none⟩ (.int .u8 s[k].toNat)).drew a (.slice (some ⟨g,0,none⟩) n H) n (.slice none 0 0) (.new (jN s.data.toList (k+1) n)):=by
    refine⟨L.get c.d (by simpa using(c.nb g rfl).symm),?_,aM _ _ _ _,by simp[Fit,Dv.new],fun _=>rfl⟩;have m:=yf (i:=k) (.int .u8 s[k].toNat) z;have K:((l.set k (.int .u8 s[k].toNat))).take (n*128)=u8s (jN s.data.toList (k+1) n):=by
     rw[dx,V,Dv.new,<-Q11 _ k n j s[k] (N.out k M)];simp[u8s,List.map_set]
    rw[zD]at m;exact Mx (by rw[yd];exact TC _ _ _ (by omega)) m (ay _) A B (by rw[bJ];exact o) K
   have D:y6 [] w (wr.setCell ⟨g,k,none⟩ (.int .u8 s[k].toNat)).drew:=(v.setCell (Or.inr (W g rfl)) _).drew;generalize(wr.setCell ⟨g,k,none⟩ (.int .u8 s[k].toNat)).drew=w3 at*;clear f q c P L;go_wp2;go_roundw
   case rel=>exact⟨k+1,by omega,by rw[u.out];omega,by go_num,Q,D⟩
   case measure=>simp[intOf];omega
  ·have J:jN s.data.toList k n=LY n s.data.toList:=by
    rcases bG k (n*128)with m|m
    ·have Y:k=s.data.toList.length:=by rw[u.out];omega
     rw[LY,jN,jN,aJ (by omega),aJ (by omega)]
    ·rw[LY,show k=n*128 by omega]
   rw[J]at c;clear J
   by_cases m:k<s.size
   ·have r:(k:Int)<(s.size:Int):=by omega
    have K:¬(k:Int)<(n:Int)*128:=by omega
    go_wp2;go_ret;exact⟨a,_,rfl,c,G,F,v⟩
   ·have r:¬(k:Int)<(s.size:Int):=by omega
    go_wp2;go_ret;exact⟨a,_,rfl,c,G,F,v⟩
end Go.Proofs.YtcklgafpgdhnaaaGreatDoor
