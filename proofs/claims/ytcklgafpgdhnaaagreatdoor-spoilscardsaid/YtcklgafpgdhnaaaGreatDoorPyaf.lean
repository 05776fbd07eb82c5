import Derived.Test.YtcklgafpgdhnaaaGreatDoorPyad
set_option maxRecDepth 100000
set_option maxHeartbeats 4000000
set_option linter.unusedSimpArgs false
set_option linter.unusedVariables false
set_option linter.unusedSectionVars false
open Go.Proofs.Tryz
namespace Go.Proofs.YtcklgafpgdhnaaaGreatDoor
open Go.RowKit
def zl(n:Nat):List Value:=List.replicate n (.int .u8 0)
theorem Nh(n:Nat):(zl n).length=n:=by simp[zl]
theorem SX(w:World):(Instr.makeSlice 60 (.int .i64 128) (.int .i64 128)).run prog w=.ok (.slice (some ⟨w.heap.size,0,none⟩) 128 128) (w.alloc (.cells (zl 128).toArray 5)):=by kernel_rfl
theorem su8:(prog.info? 5).map (·.size)=some 1:=by kernel_rfl
theorem Q0h(n:Nat):∀v∈zl n,v.oneCell'=true:=by
 intro v a;rw[List.eq_of_mem_replicate a];rfl
theorem qf{l:List Value}(h:∀v∈l,v.oneCell'=true):l.toArray.all (·.oneCell')=true:=by
 rw[Array.all_eq_true_iff_forall_mem];intro v a;exact h v (by simpa using a)
def qV(i:Int)(B:List Value):List Value:=.int .i64 i::B
theorem Sq(i:Int)(l:List Value)(h:∀v∈l,v.oneCell'=true):∀v∈qV i l,v.oneCell'=true:=by
 intro v a;rcases an.1 a with rfl|a;rfl;exact h v a
theorem Qe:(prog.info? 94).map (·.size)=some 129:=by kernel_rfl
theorem MP(w:World):(Instr.alloc 94 true (.tuple #[])).run prog w=.ok (.pointer (some ⟨w.heap.size,0,none⟩)) (w.alloc (.cells (qV 0 (zl 128)).toArray 94)):=by kernel_rfl
abbrev Wt:=Nat×List UInt8
def wc(x:Wt):List Value:=qV x.1 (u8s x.2)
theorem MQ(x:Wt):∀v∈wc x,v.oneCell'=true:=Sq _ _ (qP _)
def Fit(n:Nat)(q:List Wt):Prop:=∀x∈q,x.1<n/\x.2.length=128
variable {n:Nat}
theorem Fit.wd{q:List Wt}(h:Fit n q):Wd 129 (q.map wc):=by
 intro e a;obtain⟨x,b,rfl⟩:=bg.1 a;simp[wc,qV,yd,(h x b).2]
variable {w:World}{base size:Nat}{v:Value}{xs:List Value}
theorem yD{e b:Nat}(h:w.ownsRow base e size v n xs)(hb:v.ownBlock=some b):∃cs fr,w.heap[b]?=some (.cells cs e fr):=by
 obtain⟨_,⟨rfl,_⟩|⟨g,a,c,rfl,_,d,_⟩⟩:=h
 ·cases hb
 ·cases hb;exact⟨_,_,d⟩
variable {w':World}
theorem yb{S:List Nat}{e:Nat}(h:w.ownsRow base e size v n xs)(k:y6 S w w')(hS:∀b,v.ownBlock=some b->b∉S):w'.ownsRow base e size v n xs:=by
 obtain⟨f,d⟩:=h;refine⟨f,?_⟩;rcases d with d|⟨g,a,c,rfl,i,j,r⟩
 ·exact Or.inl d
 ·exact Or.inr ⟨g,a,c,rfl,i,k.get j (hS g rfl),r⟩
theorem yZ{e:Nat}(h:w.ownsRow base e size v n xs):∃p q,v=.slice p n q:=by
 obtain⟨_,⟨rfl,c⟩|⟨g,a,b,rfl,_⟩⟩:=h
 ·exact⟨none,0,by rw[c]⟩
 ·exact⟨_,_,rfl⟩
theorem jf{e:Nat}(h:w.ownsRow base e size v n xs)(hn:0<n):∃g cap cur,v=.slice (some ⟨g,0,none⟩) n cap/\w.heap[g]?=some (.cells (List.toArray cur) e (0,0))/\base<=g/\n<=cap/\cap<=maxLen/\cur.length=cap*size/\cur.take (n*size)=xs:=by
 obtain⟨_,⟨rfl,j⟩|⟨g,cap,cur,rfl,f,i,a,b,c,d⟩⟩:=h
 ·omega
 ·exact⟨g,cap,cur.toList,rfl,by simpa using i,f,a,b,by simpa using c,d⟩
theorem Mx{e g cap:Nat}{cur:List Value}(hl:xs.length=n*size)(hg:w.heap[g]?=some (.cells (List.toArray cur) e (0,0)))(hB:base<=g)(h1:n<=cap)(h2:cap<=maxLen)(h3:cur.length=cap*size)(h4:cur.take (n*size)=xs):w.ownsRow base e size (.slice (some ⟨g,0,none⟩) n cap) n xs:=
 ⟨hl,Or.inr ⟨g,cap,cur.toArray,rfl,hB,hg,h1,h2,by simpa using h3,h4⟩⟩
theorem QT{α:Type}{l xs:List α}{m:Nat}(h:l.take m=xs){j:Nat}{u:α}(hj:xs[j]?=some u):l[j]?=some u:=by
 rw[<-h,aD]at hj;split at hj
 ·exact hj
 ·cases hj
theorem PH{α:Type}{l xs cs:List α}{m o:Nat}(h:l.take m=xs)(ho:o+cs.length<=m)(hm:m<=l.length):(splice l o cs).take m=splice xs o cs:=by
 have a:xs.length=m:=by rw[<-h,au];omega
 have e:splice (xs++l.drop m) o cs=splice xs o cs++l.drop m:=by
  unfold splice;rw[br (by omega),List.drop_append_of_le_length (by omega)];simp
 have el:l=xs++l.drop m:=by rw[<-h];exact(aS m l).symm
 rw[el,e,br (by rw[aN _ _ _ (by omega)];omega),aJ (by rw[aN _ _ _ (by omega)];omega)]
structure DQ(w:World)(a:Nat)(bv:Value)(n:Nat)(cv:Value)(D:Dv):Prop where
 d:DC w a bv cv D
 b:w.ownsRow 0 92 128 bv n (u8s D.L)
 o:w.ownsRow 0 94 129 cv D.q.length (fl (D.q.map wc))
 q:Fit n D.q
 z:D.q= []->cv=.slice none 0 0
def yk(a:Nat)(bv cv:Value):List Nat:=a::(bv.ownBlock.toList++cv.ownBlock.toList)
section
variable {w:World} {a n:Nat} {bv cv:Value} {D:Dv}
theorem DQ.l(h:DQ w a bv n cv D):D.L.length=n*128:=by rw[<-h.b.1,yd]
theorem DQ.kept{S:List Nat}(h:DQ w a bv n cv D)(k:y6 S w w')(hS:∀y∈yk a bv cv,y∉S):DQ w' a bv n cv D:=
 ⟨k.get h.d (hS _ (by simp[yk])),yb h.b k fun b c=>hS b (by simp[yk,c]),yb h.o k fun b c=>hS b (by simp[yk,c]),h.q,h.z⟩
theorem DQ.k0(h:DQ w a bv n cv D)(k:y6 [] w w'):DQ w' a bv n cv D:=h.kept k (by simp)
theorem DQ.nb(h:DQ w a bv n cv D):∀b,bv.ownBlock=some b->b≠a:=by
 intro b c;obtain⟨f,g,e⟩:=yD h.b c;exact yP e h.d (by decide)
theorem DQ.nq(h:DQ w a bv n cv D):∀b,cv.ownBlock=some b->b≠a/\bv.ownBlock≠some b:=by
 intro b f;obtain⟨k,l,c⟩:=yD h.o f;refine⟨yP c h.d (by decide),fun g=> ?_⟩;obtain⟨i,j,e⟩:=yD h.b g;exact yP c e (by decide) rfl
theorem DQ.lt(h:DQ w a bv n cv D):∀y∈yk a bv cv,y<w.heap.size:=by
 intro y c;simp only[yk,an,ar]at c;rcases c with rfl|c|c
 ·exact yt h.d
 ·obtain⟨f,g,e⟩:=yD h.b (by simpa using c);exact yt e
 ·obtain⟨f,g,e⟩:=yD h.o (by simpa using c);exact yt e
theorem DQ.upd{D':Dv}(h:DQ w a bv n cv D)(k:y6 [a] w w')(hd:DC w' a bv cv D')(e1:D'.L=D.L)(e2:D'.q=D.q):DQ w' a bv n cv D':=
 ⟨hd,by rw[e1];exact yb h.b k (fun b c=>by simpa using h.nb b c),by rw[e2];exact yb h.o k (fun b c=>by simpa using(h.nq b c).1),by rw[e2];exact h.q,by rw[e2];exact h.z⟩
theorem DQ.at_(h:DQ w a bv n cv D){j:Nat}{x:Wt}(hx:D.q[j]?=some x):∃b cap cur,cv=.slice (some ⟨b,0,none⟩) D.q.length cap/\w.heap[b]?=some (.cells (List.toArray cur) 94 (0,0))/\
  ∀(k:Nat) (u:Value),(wc x)[k]?=some u->cur[j*129+k]?=some u:=by
 have i:j<D.q.length:=(ae.1 hx).1;obtain⟨b,cap,cur,rfl,d,_,e,f,g,c⟩:=jf h.o (by omega);exact⟨b,cap,cur,rfl,d,fun k u hu=>QT c (Nt h.q.wd j (wc x) (by rw[aA,hx];rfl) k u hu)⟩
end
def yl(L:List UInt8)(i:Nat):List UInt8:=(L.drop (i*128)).take 128
theorem gE(L:List UInt8)(n i:Nat)(h:L.length=n*128)(hi:i<n):(yl L i).length=128:=by
 simp[yl,h];omega
def vf(b:List UInt8)(i:Nat)(q:List Wt):List UInt8:=q.foldl (fun b x=>if x.1=i then x.2 else b) b
def Dv.view(D:Dv)(i:Nat):List UInt8:=vf (yl D.L i) i D.q
theorem Ur(b:List UInt8)(i:Nat)(q:List Wt)(x:Wt):vf b i (q++ [x])=if x.1=i then x.2 else vf b i q:=by simp[vf]
theorem M0{b:List UInt8}{i:Nat}{q:List Wt}(hb:b.length=128)(h:Fit n q):(vf b i q).length=128:=by
 induction q generalizing b with
 |nil=>exact hb
 |cons x r ih=>
  refine ih (b:=if x.1=i then x.2 else b) ?_ fun y a=>h y (by simp[a]);split
  ·exact(h x (by simp)).2
  ·exact hb
theorem TH(L:List UInt8)(i:Nat):∀j v,(u8s (yl L i))[j]?=some v->(u8s L)[i*128+j]?=some v:=by
 intro j v a;rw[Qo]at a⊢;simp only[yl,aD]at a
 by_cases b:j<128
 ·simp only[b,if_true,aV]at a;exact a
 ·simp[b]at a
theorem jS{s off:Nat}{l c:List Value}{t:TypeId}{fr:Nat×Nat}(h:w.heap[s]?=some (.cells c.toArray t fr))(hl:∀j v,l[j]?=some v->c[off+j]?=some v):∀j v,l[j]?=some v->w.cell? ((⟨s,off,none⟩:Addr).add j)=some v:=by
 intro j v a;rw[add_lit,aY _ _ _ _ _ _ h];simpa using hl j v a
theorem ju{s:Nat}{l:List Value}{t:TypeId}{fr:Nat×Nat}(h:w.heap[s]?=some (.cells l.toArray t fr)):∀j v,l[j]?=some v->w.cell? ((⟨s,0,none⟩:Addr).add j)=some v:=
 jS h fun j v a=>by rw[bL];exact a
theorem qe{α:Type}(l:List α)(j:Nat)(p:α)(h:l[j]?=some p):l.take (j+1)=l.take j++ [p]:=by
 rw[List.take_add_one,h];rfl
def eIO:Value:=.iface 100 (.int .i64 6)
def O7(a:Nat)(bv:Value)(n:Nat)(cv:Value)(D:Dv)(i:Nat)(w:World)(e:Ending)(w':World):Prop:=
 DQ w' a bv n cv D.tick/\y6 [a] w w'/\if D.bad then e=.returned (.tuple #[.slice none 0 0,eIO])else
  ∃r,e=.returned (.tuple #[.slice (some ⟨r,0,none⟩) 128 128,.nilIface])/\w'.heap[r]?=some (.cells (u8s (D.view i)).toArray 5 (0,0))/\w.heap.size<=r
def RdI(w1:World)(b0:List UInt8)(i:Nat)(q:List Wt)(ix:Value)(wr:World):Prop:=
 ∃j:Nat,j<=q.length/\ix=.int .i64 j/\wr.heap[w1.heap.size]?=some (.cells (u8s (vf b0 i (q.take j))).toArray 5 (0,0))/\y6 [] w1 wr
theorem V6(a:Nat)(bv:Value)(n:Nat)(cv:Value)(D:Dv)(i:Nat)(w:World)(h:DQ w a bv n cv D)(hi:i<n)(_hn:n<=1000)(hq:D.q.length<=1000000):
  Calls prog 222 #[.pointer (some ⟨a,0,none⟩),.int .i64 i] w (O7 a bv n cv D i w):=by
 have mk:=SX;go_enter func222,ntmps222;go_wp2_with fail;refine(OB a _ _ D w h.d).mono ?_;rintro e W⟨rfl,O,t,-⟩;have I:DQ W a bv n cv D.tick:=h.upd t O rfl rfl
 cases hb:D.bad with
 |true=>
  have C:Hid (O7 a bv n cv D i w (.returned (.tuple #[.slice none 0 0,eIO])) W):=⟨I,t,by rw[hb];rfl⟩
  go_wp2
  go_ret2
  exact C.out
 |false=>
 obtain⟨g,T,Y,rfl,lX,_,hb1,hb2,hb3,iO⟩:=jf I.b (by omega);go_wp2_with fail;refine(Sn a _ n _ _ _ i W O (by omega) (by omega)).mono ?_;rintro e B⟨rfl,rfl⟩;obtain⟨p,s,rfl⟩:=yZ h.o;have c0:B.cell? ⟨a,0,none⟩=some (.slice (some ⟨g,0,none⟩) n T):=y7 O rfl;have z:=gE D.L n i h.l hi;have hsz:=yt O;have Kd:=yt lX;go_wp2_with(first|(at_make;refine jH rfl _ _ _ rfl _ _ rfl rfl _ _ (SX B) ?_;intro w3 fT F _;have h3:=I.k0 F;have GA:w3.cell? ⟨a,0,none⟩=some (.slice (some ⟨g,0,none⟩) n T):=y7 h3.d rfl;have pL:=F.get lX (by simp))|(refine jR 60 60 5 underlying60 su8 B.heap.size 0 128 128 ⟨g,i*128,none⟩ 128 128 (zl 128) 5 fT (u8s (yl D.L i)) (by rw[yd,z];exact(Nat.min_self 128).symm) (jS pL fun j v hv=>QT iO (TH D.L i j v hv)) (by rw[yd,Nh,z];omega) (qP _) ?_;intro w4 oU dX;have me:y6 [] B w4:=F.trans2 dX (by intro x K;simp at K;subst K;exact Or.inr (ag _));have h4:=I.k0 me;have Kf:w4.cell? ⟨a,1,none⟩=some (.slice p D.q.length s):=y7 h4.d rfl))
 rw[QL _ _ (by rw[Nh,yd,z])]at oU;clear c0 GA h3
 go_loopw [8,32] (fun _ V wr=>RdI B (yl D.L i) i D.q V wr) (fun _ V _=>D.q.length-(intOf V).toNat)
 case atStart=>exact⟨0,ay _,rfl,oU,me⟩
 case round=>
  obtain⟨j,hj,rfl,J,E⟩:=hrel
  by_cases G:j<D.q.length
  ·have hlt':(j:Int)<(D.q.length:Int):=by omega
   obtain⟨x,K⟩:∃x,D.q[j]?=some x:=⟨_,aa G⟩
   obtain⟨x1,R⟩:=h.q x (ah K);obtain⟨b,fh,U,e,rM,Z⟩:=(I.k0 E).at_ K
   cases e
   have m:(wc x).length=129:=by simp[wc,qV,yd,R]
   have eK:=yQ (P:=prog) wr b (j*129) 94 94 U (wc x) (0,0) _ rM underlying94 rfl (by rw[Qe,m]) Z;have X:=M0 (i:=i) z (q:=D.q.take j) (n:=n) fun y r=>h.q y (cM r);have c:=Ur (yl D.L i) i (D.q.take j) x;rw[<-qe D.q j x K]at c;clear Z
   by_cases N:x.1=i
   ·rw[if_pos N]at c;have S:Hid _:=c;clear c;have BB:((x.1:Int)=(i:Int)):=by omega
    go_wp2_with(first|(refine ya rfl _ _ (yc 89 (.tmp 30) (.tmp 32) rfl b 0 D.q.length s j 129 rfl rfl 94 underlying89 Qe G (j*129) (by omega)) ?_)|(refine y8 rfl 94 (.tmp 34) rfl ⟨b,j*129,none⟩ rfl (.agg (wc x).toArray) eK ?_)|(refine qn rfl 94 rfl _ (MP _) ?_;intro w5 H M _)|(refine ye rfl 94 (.tmp 8) (.tmp 35) rfl wr.heap.size (wc x).toArray rfl rfl 94 _ H (by rw[Qe];simp[m]) (by simp[m,qV,zl]) (qf (MQ x)) ?_;intro Q A f;have c6:Q.cell? ⟨wr.heap.size,0,none⟩=some (.int .i64 x.1):=y7 A rfl)|(refine jR 60 60 5 underlying60 su8 B.heap.size 0 128 128 ⟨wr.heap.size,1,none⟩ 128 128 (u8s (vf (yl D.L i) i (D.q.take j))) 5 (f.get (M.get J (by simp)) (by have:=yt J;simp;omega)) (u8s x.2) (by rw[yd,R];exact(Nat.min_self 128).symm) (jS A (by intro k u hu;rw[Nat.add_comm];exact hu)) (by rw[yd,yd,R,X];omega) (qP _) ?_;intro w7 r9 ff))
    rw[QL _ _ (by rw[yd,yd,R,X])]at r9;have K7:y6 [] B w7:=((E.trans M).trans2 f (by intro y r;simp at r;subst r;exact Or.inr E.size)).trans2 ff (by intro y r;simp at r;subst r;exact Or.inr (ag _));go_roundw
    case rel=>exact⟨j+1,by omega,by go_num,by rw[S.out];exact r9,K7⟩
    case measure=>simp[intOf];omega
   ·rw[if_neg N]at c;have S:Hid _:=c;clear c;have BB:¬((x.1:Int)=(i:Int)):=by omega
    go_wp2_with(first|(refine ya rfl _ _ (yc 89 (.tmp 30) (.tmp 32) rfl b 0 D.q.length s j 129 rfl rfl 94 underlying89 Qe G (j*129) (by omega)) ?_)|(refine y8 rfl 94 (.tmp 34) rfl ⟨b,j*129,none⟩ rfl (.agg (wc x).toArray) eK ?_)|(refine qn rfl 94 rfl _ (MP _) ?_;intro w5 H M _)|(refine ye rfl 94 (.tmp 8) (.tmp 35) rfl wr.heap.size (wc x).toArray rfl rfl 94 _ H (by rw[Qe];simp[m]) (by simp[m,qV,zl]) (qf (MQ x)) ?_;intro Q A f;have c6:Q.cell? ⟨wr.heap.size,0,none⟩=some (.int .i64 x.1):=y7 A rfl))
    have BC:=f.get (M.get J (by simp)) (by have:=yt J;simp;omega);have K6:y6 [] B Q:=(E.trans M).trans2 f (by intro y r;simp at r;subst r;exact Or.inr E.size);go_roundw
    case rel=>exact⟨j+1,by omega,by go_num,by rw[S.out];exact BC,K6⟩
    case measure=>simp[intOf];omega
  ·have hge:¬(j:Int)<(D.q.length:Int):=by omega
   have ej:j=D.q.length:=by omega
   subst ej;rw[bV]at J;have C:Hid (O7 a (.slice (some ⟨g,0,none⟩) n T) n (.slice p D.q.length s) D i w (.returned (.tuple #[.slice (some ⟨B.heap.size,0,none⟩) 128 128,.nilIface])) wr):=
    ⟨I.k0 E,t.trans2 E (by simp),by rw[hb];exact⟨_,rfl,J,t.size⟩⟩
   go_wp2
   go_ret2
   exact C.out
end Go.Proofs.YtcklgafpgdhnaaaGreatDoor
