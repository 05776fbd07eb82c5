import Derived.Test.YtcklgafpgdhnaaaGreatDoorPybl
set_option maxRecDepth 100000
set_option maxHeartbeats 4000000
set_option linter.unusedSimpArgs false
set_option linter.unusedVariables false
set_option linter.unusedSectionVars false
open Go.Proofs.Tryz
open Go.Act renaming put → zP
namespace Go.Proofs.YtcklgafpgdhnaaaGreatDoor
open Go.RowKit
theorem Ob:(prog.info? 72).map (·.size)=some 1:=by kernel_rfl
variable {n:Nat}{t:Tr}
theorem Rec.state{x v a:Nat}{c:Hd}{r:Value}{w w':World}(h:Rec x v a n c r t w)(k:y6 [x] w w')(s:Nat)(hs:1<=s/\s<=3)(hr:w'.heap[x]?=some (.cells ((qC c v t r).setIfInBounds 0 (.int .i64 (s:Nat))) 84 (0,0))):Rec x v a n ⟨s,c.tu,c.ro,c.lt,c.lr⟩ r t w':=by
 have d:∀z∈ [x],¬TT w z:=by
  intro z e;simp at e;subst e;rintro(⟨f,g,b⟩|⟨f,g,b⟩)
  ·exact yP h.row b (by decide) rfl
  ·exact yP h.row b (by decide) rfl
 exact⟨hr,k.get h.vol (by simp;exact yP h.vol h.row (by decide)),hs,TV.kept h.lv.tags k d fun _ _=>trivial,TV.kept h.tv.tags k d fun _ _=>trivial⟩
def SyOk(c:Hd)(t:Tr)(D0:Dv)(fq fy:Nat)(D':Dv):Prop:=
 ((yG c t).1.pl=c.lt.pl/\fq=c.tu/\fy=c.ro/\Wrs D0 (yG c t).2.ws D')\/((yG c t).1.pl≠c.lt.pl/\fq=nxt c.tu/\fy=(yG c t).1.pl/\∃D1 D2 D3,Wrs D0 (yG c t).2.ws D1/\Fl D1 D2/\Wn D2 (nxt c.tu%2) (blk (nxt c.tu) (yG c t).1.pl) D3/\Fl D3 D')
def PX(c:Hd)(t:Tr)(n:Nat)(D0:Dv)(o:Int)(D':Dv):Prop:=
 (∃ws D1,(FrW c.lt n ws/\ws.length<=(yG c t).2.ws.length)/\Wrs D0 ws D1/\((o=6/\Er D1 D')\/(o=3/\D'=D1/\¬Bd n (yG c t).2)))\/
 (o=6/\FrW c.lt n (yG c t).2.ws/\∃D1 D2,Wrs D0 (yG c t).2.ws D1/\Fl D1 D2/\(Er D2 D'\/∃D3,Wn D2 (nxt c.tu%2) (blk (nxt c.tu) (yG c t).1.pl) D3/\Er D3 D'))
def Sy0(c:Hd)(D D0:Dv):Prop:=(c.s=1/\Fl D D0)\/(c.s=2/\D0=D)
def SyE(x v a n:Nat)(bv cv:Value)(m:Nat)(c:Hd)(r:Value)(t:Tr)(D:Dv)(o:Option Int)(W:World):Prop:=
 ∃cv' D',(DQ W a bv n cv' D'/\CvN cv cv' m)/\((o=none/\∃D0 r' fq fy,Sy0 c D D0/\SyOk c t D0 fq fy D'/\FrW c.lt n (yG c t).2.ws/\(∀u∈(yG c t).2.us,u<n)/\Rec x v a n ⟨2,fq,fy,(yG c t).1,r'⟩ r' (yG c t).1 W)\/
  (∃q fq fy,o=some q/\Rec x v a n ⟨3,fq,fy,c.lt,c.lr⟩ r t W/\((q=6/\c.s=1/\Er D D')\/∃D0,Sy0 c D D0/\PX c t n D0 q D')))
theorem SyE.err{x v a n:Nat}{bv cv:Value}{m:Nat}{c:Hd}{r:Value}{t:Tr}{D:Dv}{o:Option Int}{W W':World}{T:List Nat}(h:SyE x v a n bv cv m c r t D o W)(k:y6 T W W')(hT:∀y∈T,Tg W y 35):SyE x v a n bv cv m c r t D o W':=by
 obtain⟨b,e,d,i⟩:=h;refine⟨b,e,⟨d.1.kept k ?_,d.2⟩,?_⟩
 ·intro y j g;obtain⟨l,p,f⟩:=hT y g;exact d.1.no f (by decide) j
 ·rcases i with⟨h1,D0,r',fq,fy,h2,h3,h4,h5,h6⟩|⟨q,fq,fy,h1,h2,h3⟩
  ·exact Or.inl ⟨h1,D0,r',fq,fy,h2,h3,h4,h5,h6.err k hT⟩
  ·exact Or.inr ⟨q,fq,fy,h1,h2.err k hT,h3⟩
theorem Th{x v a:Nat}{bv cv cvS:Value}{mS:Nat}{c:Hd}{r:Value}{D D0:Dv}{w:World}{e:Ending}{W:World}(hs:c.s=3){c0:Hd}(hc:c=⟨3,c0.tu,c0.ro,c0.lt,c0.lr⟩)(h0:Sy0 c0 D D0)(pr:CvN cvS cv mS)(wM:mS<=w.heap.size)(h:UL x v a n bv cv c r t D0 w e W):∃q ch,e=.panicked ch/\WEnd (some q) e W/\SyE x v a n bv cvS mS c0 r t D (some q) W/\y6 (x::yk a bv cv) w W:=by
 subst hc;obtain⟨b,g,i,j,k,l,d,p⟩:=h;rcases p with⟨ws,D1,h1,h2,⟨h3,fN⟩|⟨h3,fN,hno⟩⟩|⟨fN,h1,D1,D2,h2,h3,h4⟩
 ·obtain⟨f,o,rfl,m⟩:=fN.ex;exact⟨6,_,rfl,fN,⟨b,g,⟨k,pr.trans d.2 wM⟩,Or.inr ⟨6,i,j,rfl,l,Or.inr ⟨D0,h0,Or.inl ⟨ws,D1,h1,h2,Or.inl ⟨rfl,h3⟩⟩⟩⟩⟩,d.1⟩
 ·obtain⟨f,o,rfl,m⟩:=fN.ex;exact⟨3,_,rfl,fN,⟨b,g,⟨k,pr.trans d.2 wM⟩,Or.inr ⟨3,i,j,rfl,l,Or.inr ⟨D0,h0,Or.inl ⟨ws,D1,h1,h2,Or.inr ⟨rfl,h3,hno⟩⟩⟩⟩⟩,d.1⟩
 ·obtain⟨f,o,rfl,m⟩:=fN.ex;exact⟨6,_,rfl,fN,⟨b,g,⟨k,pr.trans d.2 wM⟩,Or.inr ⟨6,i,j,rfl,l,Or.inr ⟨D0,h0,Or.inr ⟨rfl,h1,D1,D2,h2,h3,h4⟩⟩⟩⟩,d.1⟩
theorem QaQ(m b0 x v a n:Nat)(bv cv:Value)(c:Hd)(r:Value)(t:Tr)(D:Dv)(w:World)(rX:m<=w.heap.size)(hb:w.heap[b0]?=some (.cells #[.pointer (some ⟨x,0,none⟩)] 27 (0,0)))(hR:Rec x v a n c r t w)(hs:c.s=1)(hd:DQ w a bv n cv D)(hP:LyP c t n)(fM:8<=n)(hn:n<=400)(hq:D.q.length<=800000)(nR:(nxt c.tu:Int)<18446744073709551616)(hT:qM D\/Tab w):
  Calls prog 51 #[.pointer (some ⟨b0,0,none⟩)] w (L0 (x::yk a bv cv) (SyE x v a n bv cv m c r t D) w):=by
 have c0:w.cell? ⟨b0,0,none⟩=some (.pointer (some ⟨x,0,none⟩)):=y7 hb rfl;have HN:Hid (Calls _ _ _ _ _):=jq x v c t r w (by omega) hR.row;have HR:Hid (Rec x v a n c r t w):=hR;have HD:Hid (DQ w a bv n cv D):=hd;have HT:Hid (qM D\/Tab w):=hT;have HB:Hid (w.heap[b0]?=_):=hb;have G:Hid ((nxt c.tu:Int)<18446744073709551616/\D.q.length<=800000/\c.s=1):=⟨nR,hq,hs⟩
 have J:b0≠x:=yP hb hR.row (by decide);clear hR hd hT hb nR hq hs;go_enter func51,ntmps51;go_wp2_with(first|(go_at_call 49;refine HN.out.mono ?_;rintro e w1⟨rfl,B⟩;have P:=HR.out.k B;have pt:=B.get HB.out (by simp);have zI:w1.cell? ⟨b0,0,none⟩=some (.pointer (some ⟨x,0,none⟩)):=y7 pt rfl;have CP:w1.cell? ⟨x,0,none⟩=some (.int .i64 1):=(by rw[y7 (v:=.int .i64 (c.s:Nat)) P.row rfl,G.out.2.2];rfl);have Q:=P.row;have CQ:Hid (Rec x v a n c r t w1):=P;clear P)|(refine yC rfl 72 (.tmp 10) (.const (.int .i64 3)) rfl x 0 rfl (.int .i64 3) rfl 84 _ Q Ob rfl (by simp[qC]) ?_;intro p vA C;have zP:=C.get pt (by simp;exact J);have CR:p.cell? ⟨b0,0,none⟩=some (.pointer (some ⟨x,0,none⟩)):=y7 zP rfl;have vB:Hid (Rec x v a n ⟨3,c.tu,c.ro,c.lt,c.lr⟩ r t p):=CQ.out.state C 3 (by omega) vA;have CT:p.cell? ⟨x,1,none⟩=some (.pointer (some ⟨v,0,none⟩)):=y7 vA rfl))
 have nP:=vB.out;have K2:y6 [x] w p:=(B.mono (by simp)).trans C;have U:=HD.out.k0 B;have Bc:x∉yk a bv cv:=U.no Q (by decide);have H:DQ p a bv n cv D:=U.k1 C Bc;have lB:qM D\/Tab p:=HT.out.imp id fun h=>(h.k B).kept C (by simp;exact(h.k B).ne Q (by decide));have hq:=G.out.2.1;have zQ:y6 (x::yk a bv cv) w p:=K2.mono (by simp);refine(On v a bv n cv D p nP.vol H (by omega) (by omega)).mono ?_;rintro e K⟨E,z,L,N,nB,eC⟩;have pz:=H.ka N;have A:Rec x v a n ⟨3,c.tu,c.ro,c.lt,c.lr⟩ r t K:=nP.kept N Bc fun y b=>⟨fun⟨cs,fr,M⟩=>H.no M (by decide) b,fun ht=>by rcases ht with⟨cs,fr,M⟩|⟨cs,fr,M⟩<;>exact H.no M (by decide) b⟩
 have d:y6 (x::yk a bv cv) w K:=zQ.trans2 N fun y b=>Or.inl (aq _ b);rcases eC with⟨hfl,rfl⟩|⟨sA,fN⟩
 rotate_left
 ·obtain⟨f,o,rfl,hf⟩:=fN.ex;exact⟨rfl,some 6,fN,⟨E,z,⟨L,fun y b=>(nB y b).imp id fun h=>av (av rX zQ.size) h⟩,Or.inr ⟨6,c.tu,c.ro,rfl,A,Or.inl ⟨rfl,G.out.2.2,sA⟩⟩⟩,d⟩
 have h0:Sy0 c D z:=Or.inl ⟨G.out.2.2,hfl⟩;have R:=pz.row _ _ _ _ trivial (by decide) zP;have mX:qM z\/Tab K:=lB.imp hfl.good.2 fun h=>h.ka pz;have fJ:z.q.length<=800000:=by rw[hfl.q];simp
 have g:∀y,E.ownBlock=some y->cv.ownBlock=some y\/w.heap.size<=y:=fun y b=>(nB y b).imp id fun h=>av zQ.size h;have c30:K.cell? ⟨b0,0,none⟩=some (.pointer (some ⟨x,0,none⟩)):=y7 R rfl;clear nP H lB N pz CR CT zI CP B C K2 nB vA Q U pt;go_wp2_with fail;have HL:Hid (Calls _ _ _ _ _):=Sc x v a n bv E ⟨3,c.tu,c.ro,c.lt,c.lr⟩ r t z K A L ⟨hP.nd,hP.lt,hP.ck⟩ fM hn fJ G.out.1 mX;refine HL.out.mono ?_;have j:∀y∈x::yk a bv E,y∈x::yk a bv cv\/w.heap.size<=y:=by
  intro y b;rcases an.1 b with rfl|b
  ·exact Or.inl (by simp)
  ·exact(QR g y b).imp (aq _) id
 have nb3:b0∉x::yk a bv E:=by
  intro X;rcases an.1 X with e|X
  ·exact J e
  ·exact L.no R (by decide) X
 rintro e w4(⟨rfl,r',cv',S,V,W,lY,Y,O,i,l,I⟩|mF);rotate_left
 ·obtain⟨q,ch,rfl,h1,h2,h3⟩:=Th (cvS:=cv) (mS:=m) rfl rfl h0 (fun y b=>(g y b).imp id fun h=>av rX h) (av rX d.size) mF;exact⟨rfl,some q,h1,h2,d.trans2 h3 j⟩
 have CU:=O.1.get R nb3;have BU:w4.cell? ⟨b0,0,none⟩=some (.pointer (some ⟨x,0,none⟩)):=y7 CU rfl;have zR:=Y.row;have CV:Hid (Rec x v a n ⟨3,V,W,(yG c t).1,r'⟩ r' (yG c t).1 w4):=Y;have T:Hid (SyOk c t z V W S/\FrW c.lt n (yG c t).2.ws/\(∀u∈(yG c t).2.us,u<n)):=⟨I,i,l⟩
 have F:Hid (DQ w4 a bv n cv' S):=lY;have CW:=d.trans2 O.1 j;have vC:Hid (CvN cv cv' m):=CvN.trans (cv':=E) (fun y b=>(g y b).imp id fun h=>av rX h) O.2 (av rX d.size);clear Y I i l lY O A L mX R;go_wp2_with(refine yC rfl 72 (.tmp 22) (.const (.int .i64 2)) rfl x 0 rfl (.int .i64 2) rfl 84 _ zR Ob rfl (by simp[qC]) ?_;intro w5 CX Z)
 go_end0;exact⟨none,rfl,⟨cv',S,⟨F.out.k1 Z (F.out.no zR (by decide)),vC.out⟩,Or.inl ⟨rfl,z,r',V,W,h0,T.out.1,T.out.2.1,T.out.2.2,CV.out.state Z 2 (by omega) CX⟩⟩,CW.trans2 Z (by intro y b;simp at b;subst b;exact Or.inl (by simp))⟩
theorem QaR(m b0 x v a n:Nat)(bv cv:Value)(c:Hd)(r:Value)(t:Tr)(D:Dv)(w:World)(rX:m<=w.heap.size)(hb:w.heap[b0]?=some (.cells #[.pointer (some ⟨x,0,none⟩)] 27 (0,0)))(hR:Rec x v a n c r t w)(hs:c.s=2)(hd:DQ w a bv n cv D)(hP:LyP c t n)(fM:8<=n)(hn:n<=400)(hq:D.q.length<=800000)(nR:(nxt c.tu:Int)<18446744073709551616)(hT:qM D\/Tab w):
  Calls prog 51 #[.pointer (some ⟨b0,0,none⟩)] w (L0 (x::yk a bv cv) (SyE x v a n bv cv m c r t D) w):=by
 have c0:w.cell? ⟨b0,0,none⟩=some (.pointer (some ⟨x,0,none⟩)):=y7 hb rfl;have HN:Hid (Calls _ _ _ _ _):=jq x v c t r w (by omega) hR.row;have HR:Hid (Rec x v a n c r t w):=hR;have HD:Hid (DQ w a bv n cv D):=hd;have HT:Hid (qM D\/Tab w):=hT;have HB:Hid (w.heap[b0]?=_):=hb;have H:Hid ((nxt c.tu:Int)<18446744073709551616/\D.q.length<=800000/\c.s=2):=⟨nR,hq,hs⟩
 have G:b0≠x:=yP hb hR.row (by decide);clear hR hd hT hb nR hq hs;go_enter func51,ntmps51;go_wp2_with(first|(go_at_call 49;refine HN.out.mono ?_;rintro e w1⟨rfl,p⟩;have L:=HR.out.k p;have pt:=p.get HB.out (by simp);have zI:w1.cell? ⟨b0,0,none⟩=some (.pointer (some ⟨x,0,none⟩)):=y7 pt rfl;have CP:w1.cell? ⟨x,0,none⟩=some (.int .i64 2):=(by rw[y7 (v:=.int .i64 (c.s:Nat)) L.row rfl,H.out.2.2];rfl);have M:=L.row;have CQ:Hid (Rec x v a n c r t w1):=L;clear L)|(refine yC rfl 72 (.tmp 10) (.const (.int .i64 3)) rfl x 0 rfl (.int .i64 3) rfl 84 _ M Ob rfl (by simp[qC]) ?_;intro g vA C;have zP:=C.get pt (by simp;exact G);have CR:g.cell? ⟨b0,0,none⟩=some (.pointer (some ⟨x,0,none⟩)):=y7 zP rfl;have vB:Hid (Rec x v a n ⟨3,c.tu,c.ro,c.lt,c.lr⟩ r t g):=CQ.out.state C 3 (by omega) vA;have CT:g.cell? ⟨x,1,none⟩=some (.pointer (some ⟨v,0,none⟩)):=y7 vA rfl))
 have nP:=vB.out;have K2:y6 [x] w g:=(p.mono (by simp)).trans C;have U:=HD.out.k0 p;have Bc:x∉yk a bv cv:=U.no M (by decide);have fA:DQ g a bv n cv D:=U.k1 C Bc;have lB:qM D\/Tab g:=HT.out.imp id fun h=>(h.k p).kept C (by simp;exact(h.k p).ne M (by decide));have hq:=H.out.2.1;have zQ:y6 (x::yk a bv cv) w g:=K2.mono (by simp);obtain⟨O,S⟩:∃O,O=g:=⟨_,rfl⟩
 obtain⟨A,I⟩:∃A,A=D:=⟨_,rfl⟩
 obtain⟨z,T⟩:∃z,z=cv:=⟨_,rfl⟩
 have o:=nP;have B:=fA;have K:=lB;have N:=zP;have f:=zQ;have fJ:=hq;have b:∀y,cv.ownBlock=some y->cv.ownBlock=some y\/w.heap.size<=y:=fun y d=>Or.inl d;rw[<-I]at fJ;have h0:Sy0 c D A:=Or.inr ⟨H.out.2.2,I⟩;rw[<-S]at o B K N f;rw[<-I]at B K;rw[<-T]at B;have b:∀y,z.ownBlock=some y->cv.ownBlock=some y\/w.heap.size<=y:=by rw[T];exact b
 have R:Hid (O=g):=S;clear nP fA lB p C K2 CR CT zI CP vA M U pt S I T;rw[<-R.out];have HL:Hid (Calls _ _ _ _ _):=Sc x v a n bv z ⟨3,c.tu,c.ro,c.lt,c.lr⟩ r t A O o B ⟨hP.nd,hP.lt,hP.ck⟩ fM hn fJ H.out.1 K;refine HL.out.mono ?_;have j:∀y∈x::yk a bv z,y∈x::yk a bv cv\/w.heap.size<=y:=by
  intro y d;rcases an.1 d with rfl|d
  ·exact Or.inl (by simp)
  ·exact(QR b y d).imp (aq _) id
 have nb3:b0∉x::yk a bv z:=by
  intro X;rcases an.1 X with e|X
  ·exact G e
  ·exact B.no N (by decide) X
 rintro e w4(⟨rfl,r',cv',P,V,W,lY,Y,J,i,l,F⟩|mF);rotate_left
 ·obtain⟨q,ch,rfl,h1,h2,h3⟩:=Th (cvS:=cv) (mS:=m) rfl rfl h0 (fun y d=>(b y d).imp id fun h=>av rX h) (av rX f.size) mF;exact⟨rfl,some q,h1,h2,f.trans2 h3 j⟩
 have CU:=J.1.get N nb3;have BU:w4.cell? ⟨b0,0,none⟩=some (.pointer (some ⟨x,0,none⟩)):=y7 CU rfl;have zR:=Y.row;have CV:Hid (Rec x v a n ⟨3,V,W,(yG c t).1,r'⟩ r' (yG c t).1 w4):=Y;have Q:Hid (SyOk c t A V W P/\FrW c.lt n (yG c t).2.ws/\(∀u∈(yG c t).2.us,u<n)):=⟨F,i,l⟩
 have E:Hid (DQ w4 a bv n cv' P):=lY;have CW:=f.trans2 J.1 j;have vC:Hid (CvN cv cv' m):=CvN.trans (cv':=z) (fun y d=>(b y d).imp id fun h=>av rX h) J.2 (av rX f.size);clear Y F i l lY J o B K N;go_wp2_with(refine yC rfl 72 (.tmp 22) (.const (.int .i64 2)) rfl x 0 rfl (.int .i64 2) rfl 84 _ zR Ob rfl (by simp[qC]) ?_;intro w5 CX Z)
 go_end0;exact⟨none,rfl,⟨cv',P,⟨E.out.k1 Z (E.out.no zR (by decide)),vC.out⟩,Or.inl ⟨rfl,A,r',V,W,h0,Q.out.1,Q.out.2.1,Q.out.2.2,CV.out.state Z 2 (by omega) CX⟩⟩,CW.trans2 Z (by intro y d;simp at d;subst d;exact Or.inl (by simp))⟩
theorem QaS(x v a n:Nat)(bv cv:Value)(c:Hd)(r:Value)(t:Tr)(D:Dv)(w:World)(hR:Rec x v a n c r t w)(hs:c.s=1\/c.s=2)(hd:DQ w a bv n cv D)(hP:LyP c t n)(fM:8<=n)(hn:n<=400)(hq:D.q.length<=800000)(nR:(nxt c.tu:Int)<18446744073709551616)(hT:qM D\/Tab w):
  Calls prog 28 #[.pointer (some ⟨x,0,none⟩)] w (QZ (x::yk a bv cv) (SyE x v a n bv cv w.heap.size c r t D) w):=by
 have F:=j2;have p:=(y6.refl [] w).alloc (.cells #[.pointer (some ⟨x,0,none⟩)] 27);have u:=af w (.cells #[.pointer (some ⟨x,0,none⟩)] 27);have z:Hid (∀b,Calls prog 42 #[.string b,.func (.func 51) #[] #[.pointer (some ⟨w.heap.size,0,none⟩)]] (w.alloc (.cells #[.pointer (some ⟨x,0,none⟩)] 27)) (QZ (x::yk a bv cv) (SyE x v a n bv cv w.heap.size c r t D) (w.alloc (.cells #[.pointer (some ⟨x,0,none⟩)] 27)))):=by
  intro b;refine Zs b 51 _ (fun _ _=>by kernel_rfl) _ _ _ ?_ (fun o W E T hR B hT=>hR.err B fun x C=>(hT x C).2.2) ?_
  ·intro y m;have f:=p.size;rcases an.1 m with rfl|m
   ·have:=yt hR.row;omega
   ·have:=hd.lt y m;omega
  ·intro W i _;have d:=p.trans i;rcases hs with f|f
   ·exact QaQ w.heap.size w.heap.size x v a n bv cv c r t D W d.size (i.get u (by simp)) (hR.k d) f (hd.k0 d) hP fM hn hq nR (hT.imp id fun h=>h.k d)
   ·exact QaR w.heap.size w.heap.size x v a n bv cv c r t D W d.size (i.get u (by simp)) (hR.k d) f (hd.k0 d) hP fM hn hq nR (hT.imp id fun h=>h.k d)
 clear hR hd hT u;go_enter func28,ntmps28;go_wp2_with(go_at_call 42;refine(z.out _).mono ?_;rintro e G⟨o,g,rfl,j,A,l⟩)
 go_ret;exact⟨o,g,rfl,j,A,(p.mono (by simp)).trans l⟩
theorem Stp.len{s s':Ls}(h:Stp s s'):s.ws.length<=s'.ws.length/\s'.us.length+s.ws.length=s.us.length+s'.ws.length:=by
 induction h with
 |refl=>exact⟨ag _,rfl⟩
 |step _ B ih=>
  simp only[Ls.step,aB,ai,bO];omega
theorem Stp.bd{N:Nat}{s s':Ls}(h:Stp s s')(h0:Bd N s)(hl:s'.us.length<=N):Bd N s':=by
 induction h with
 |refl=>exact h0
 |step _ B ih=>
  simp only[Ls.step,aB]at hl;intro u hu;rcases an.1 hu with rfl|hu
  ·exact Q7w (by omega)
  ·exact ih (by omega) u hu
theorem UP:∀(h:Nat) (n:Nd h),1+frN h n<=j5 h n
 |0,_=>ag _
 |h+1,(a:List (Kid h))=>by
  show 1+(a.map fun k:Kid h=>if k.3=0 then 1+frN h k.2 else 0).sum<=1+(a.map fun k:Kid h=>j5 h k.2).sum;have:∀L:List (Kid h),(L.map fun k:Kid h=>if k.3=0 then 1+frN h k.2 else 0).sum<=(L.map fun k:Kid h=>j5 h k.2).sum:=by
   intro L
   induction L with
   |nil=>exact ag _
   |cons k r ih=>
    simp only[bn,bE];have:=UP h k.2;split<;>omega
  have:=this a;omega
theorem Rr(t:Tr)(s:Ls):Stp s (ZB t s).2/\(ZB t s).2.ws.length<=s.ws.length+gh t:=by
 cases a:g9 t.h t.n with
 |true=>
  have e:(ZB t s).2=s:=by unfold ZB;simp[a]
  rw[e];exact⟨.refl s,Nat.le_add_right _ _⟩
 |false=>
  rw[ZU a];refine⟨O8 _ _ _,?_⟩;have b:=(Zf t.h t.n s).2;have c:=UP t.h t.n;unfold gh qr;simp only[a];split
  ·simp only[Ls.step,ai,aB,bO];simp;omega
  ·simp
theorem QaV{c:Hd}(hn:2<=n)(h0:∀p∈qZ c.lt,p<n)(hr:gh c.lt+2+gh t<=n):Bd n (yG c t).2:=by
 obtain⟨a,b⟩:=Rr t ⟨usL c.lt,[]⟩;have d:=a.len;have e:(usL c.lt).length=gh c.lt+2:=by unfold usL;simp[PD]
 refine a.bd ?_ ?_
 ·intro u hu;have hu:u∈usL c.lt:=hu;unfold usL at hu;rcases ar.1 hu with hu|hu
  ·exact h0 u (cD.1 hu)
  ·simp at hu;omega
 ·simp only[bO]at b d;omega
def FmS:(h:Nat)->Nd h->Prop
 |0,_=>True
 |h+1,ks=>∀k:Kid h,List.Mem k ks->k.1.size<=8/\FmS h k.2
def Qbk(lk:Nat->List UInt8)(t:Tr):Prop:=g9 t.h t.n=true\/(lk t.pl=gS (nbN t.h t.n)/\jd lk t.h t.n)
structure StK(n:Nat)(lk:Nat->List UInt8)(lt t:Tr):Prop where
 tw:TW t
 ltw:TW lt
 lies:Qbk lk lt
 us:(usL lt).Nodup
 ub:∀p∈qZ lt,p<n
 g:Gl lk t.h (rtK t)
 pls:∀b∈qT t.h (rtK t),b∈qZ lt
 nd:(qT t.h (rtK t)).Nodup
 fm:FmS lt.h lt.n
variable {lk:Nat->List UInt8}{lt:Tr}
theorem StK.chg{F:List Pr->List Pr}{k:ByteArray}(h:StK n lk lt t)(hF:Zw F k):StK n lk lt (gZ F k t):=
 ⟨(Oh hF t h.tw).1,h.ltw,h.lies,h.us,h.ub,Qb8 (Qbb lk) hF t h.tw h.g,fun b a=>h.pls b ((VR hF t h.tw h.g).subset a),h.nd.sublist (VR hF t h.tw h.g),h.fm⟩
theorem Uc{lk:Nat->List UInt8}:∀(h:Nat) (f:ByteArray) (n:Nd h),WFN h f n->qd h n->yq h n<=122->GlN lk h n->(∀b∈QI h n,b<65536)->CkN h n
 |0,f,l,c,_,j,_,_=>⟨fun p o=>⟨(c.2 p o).2.2.1,(c.2 p o).2.2.2⟩,j⟩
 |h+1,f,(q:List (Kid h)),c,e,j,g,r=>by
  refine O1.2 ⟨j,fun k i=> ?_⟩;have g:=jJ.1 g k i;have e:=(yO h q).1 e k i;have c:=((yN h f q).1 c).2.all k i;have d:∀b∈qT h k,b<65536:=fun b a=>r b (by rw[QaX];exact cU.2 ⟨k,i,a⟩);refine⟨g.1,?_,fun m=>Uc h k.1 k.2 c e.2 e.1.2 g.2.1 fun b a=>d b (by unfold qT;rw[if_pos m];exact a)⟩
  by_cases m:k.3=0
  ·omega
  ·exact d _ (by unfold qT;rw[if_neg m];simp)
theorem StK.lyp{c:Hd}(h:StK n lk c.lt t)(hn:n<=65536):LyP c t n:=by
 refine⟨h.us,h.ub,⟨show yu.size<=8 by decide,?_,fun a=>Uc t.h yu t.n h.tw.wf h.tw.full h.tw.hi h.g.2.1 fun b d=> ?_⟩⟩
 ·show t.pl<65536
  by_cases a:t.pl=0
  ·omega
  ·have:=h.ub _ (h.pls t.pl (by unfold qT rtK;rw[if_neg a];simp));omega
 ·have:=h.ub _ (h.pls b (by unfold qT;rw[if_pos (show(rtK t).3=0 from a)];exact d));omega
theorem NP{h:Nat}{ks:List (Kid h)}:FmS (h+1) ks↔∀k∈ks,k.1.size<=8/\FmS h k.2:=Iff.rfl
theorem Nx:∀(h:Nat) (n:Nd h),FmS h (erN h n)↔FmS h n
 |0,_=>Iff.rfl
 |h+1,(c:List (Kid h))=>by
  show(∀k∈c.map (erK h),k.1.size<=8/\FmS h k.2)↔∀k∈c,k.1.size<=8/\FmS h k.2;constructor
  ·intro H k a;have:=H _ (bg.2 ⟨k,a,rfl⟩);exact⟨this.1,(Nx h k.2).1 this.2⟩
  ·intro H k a;obtain⟨b,d,rfl⟩:=bg.1 a;exact⟨(H b d).1,(Nx h b.2).2 (H b d).2⟩
theorem GlN.frs{lk:Nat->List UInt8}:∀{h:Nat} {n:Nd h},GlN lk h n->FmS h n
 |0,_,_=>trivial
 |_+1,_,g=>NP.2 fun k a=>⟨(jJ.1 g k a).1,GlN.frs (jJ.1 g k a).2.1⟩
theorem Ty{lk:Nat->List UInt8}:∀{h:Nat} {n:Nd h},jd lk h n->0∉j0 h n->FmS h n->GlN lk h n/\MI h n
 |0,_,_,_,_=>⟨trivial,trivial⟩
 |h+1,(i:List (Kid h)),l,c,j=>by
  have c:0∉i.flatMap (gD h):=c;have b:∀k∈i,k.3≠0/\0∉j0 h k.2:=by
   intro k a;have:0∉gD h k:=fun m=>c (cU.2 ⟨k,a,m⟩);unfold gD at this;simp only[an,not_or]at this;exact⟨fun e=>this.1 e.symm,this.2⟩
  refine⟨jJ.2 fun k a=> ?_,fun k a=>(b k a).1⟩;have d:=gQ.1 l k a;have f:=NP.1 j k a;have g:=Ty d.2 (b k a).2 f.2;exact⟨f.1,g.1,fun _=>⟨d.1,g.2⟩⟩
structure Whl(n:Nat)(lk:Nat->List UInt8)(t:Tr):Prop where
 tw:TW t
 nil:g9 t.h t.n=false
 at_:lk t.pl=gS (nbN t.h t.n)
 lies:jd lk t.h t.n
 nd:(t.pl::j0 t.h t.n).Nodup
 off:∀b∈t.pl::j0 t.h t.n,2<=b/\b<n
 frs:FmS t.h t.n
theorem Qbp{l:List Nat}(h:l.Nodup)(h2:∀b∈l,2<=b):(l.reverse++ [1,0]).Nodup:=by
 refine cL.2 ⟨((List.reverse_perm l).nodup_iff).2 h,by decide,?_⟩;intro a c b d e;subst e;have:=h2 a (cD.1 c);simp at d;omega
theorem Whl.pre(h:Whl n lk t):qZ t=t.pl::j0 t.h t.n:=by unfold qZ;rw[h.nil];rfl
theorem Whl.stk(h:Whl n lk t):StK n lk t t:=by
 have e:0∉j0 t.h t.n:=fun f=>by have:=h.off 0 (aq _ f);omega
 have g:t.pl≠0:=by have:=h.off t.pl (by simp);omega
 have c:=Ty h.lies e h.frs;have d:qT t.h (rtK t)=qZ t:=by rw[h.pre];unfold qT rtK;rw[if_neg g]
 refine⟨h.tw,h.tw,Or.inr ⟨h.at_,h.lies⟩,?_,?_,⟨show yu.size<=8 by decide,c.1,fun _=>⟨h.at_,c.2⟩⟩,?_,?_,h.frs⟩
 ·unfold usL;rw[h.pre];exact Qbp h.nd fun b a=>(h.off b a).1
 ·rw[h.pre];exact fun b a=>(h.off b a).2
 ·rw[d];exact fun b a=>a
 ·rw[d,h.pre];exact h.nd
theorem Ml{b:Nat}(h:b∈qZ lt):b∈usL lt:=aw _ (cD.2 h)
theorem ZX(h:(usL lt).Nodup){b:Nat}(hb:b∈qZ lt):2<=b:=by
 have:=(cL.1 h).2.2 b (cD.2 hb);rcases bG b 2 with a|a
 ·exact absurd rfl (this b (by rcases(by omega:b=0\/b=1)with rfl|rfl<;>simp))
 ·exact a
theorem Sb(h:g9 t.h t.n=true)(ht:TW t):t=⟨0,([]:List Pr),0⟩:=by
 have a:=ht.nil h;obtain⟨d,b,e⟩:=t
 cases d with
 |zero=>
  have c:List.isEmpty (α:=Pr) b=true:=h;have:b=([]:List Pr):=List.isEmpty_iff.1 c;subst this;have a:e=0:=a;rw[a]
 |succ h=>cases h
theorem StK.none(n:Nat)(lk:Nat->List UInt8):StK n lk ⟨0,([]:List Pr),0⟩ ⟨0,([]:List Pr),0⟩:=by
 have ht:TW ⟨0,([]:List Pr),0⟩:=⟨⟨List.Pairwise.nil,fun p a=>by cases a⟩,trivial,by decide,(fun h=>by cases h),fun _=>rfl⟩
 exact⟨ht,ht,Or.inl rfl,(show([1,0]:List Nat).Nodup by decide),(fun p a=>absurd (show p∈([]:List Nat)from a) bW),⟨show yu.size<=8 by decide,trivial,fun h=>absurd rfl h⟩,(fun b c=>absurd (show b∈([]:List Nat)from c) bW),List.nodup_nil,trivial⟩
theorem StK.sync{fX:Nat->List UInt8}{c:Hd}(h:StK n lk c.lt t)(hb:Bd n (yG c t).2)(hold:∀b∈qZ c.lt,fX b=lk b)(fG:∀x∈(yG c t).2.ws,fX x.1=x.2):StK n fX (yG c t).1 (yG c t).1:=by
 cases o:g9 t.h t.n with
 |true=>
  have e:=Sb o h.tw;subst e;exact StK.none n fX
 |false=>
  by_cases q:t.pl=0
  ·have j:yG c t=(⟨t.h,(qg t.h t.n ⟨usL c.lt,[]⟩).1,tk (qg t.h t.n ⟨usL c.lt,[]⟩).2.us⟩,(qg t.h t.n ⟨usL c.lt,[]⟩).2.step (gS (nbN t.h (qg t.h t.n ⟨usL c.lt,[]⟩).1))):=by
    unfold yG;rw[ZU o,show qr t.h ⟨yu,t.n,t.pl⟩ ⟨usL c.lt,[]⟩=_ from Z1 (k:=rtK t) q ⟨usL c.lt,[]⟩];rfl
   rw[j]at hb fG⊢;have l:qT t.h (rtK t)=QI t.h t.n:=by unfold qT;rw[if_pos (show(rtK t).3=0 from q)];rfl
   have r:=Un lk fX (qZ c.lt) hold t.h t.n ⟨usL c.lt,[]⟩ h.g.2.1.pl (by rw[<-l];exact h.nd) (fun b a=>h.pls b (by rw[l];exact a)) (fun b a=>Ml a) (fun x B=>fG x (by show x∈(qg t.h t.n ⟨usL c.lt,[]⟩).2.ws++_;exact aw _ B));have m:=OG (Mv t.h t.n ⟨usL c.lt,[]⟩);have s:=(Zf t.h t.n ⟨usL c.lt,[]⟩).1;have d:∀b∈j0 t.h (qg t.h t.n ⟨usL c.lt,[]⟩).1,2<=b/\b∈(qg t.h t.n ⟨usL c.lt,[]⟩).2.us:=by
    intro b a;rcases r.mem b a with f|⟨f,y⟩
    ·have i:=h.pls b (by rw[l];exact f);exact⟨ZX h.us i,s.us b (Ml i)⟩
    ·refine⟨?_,f⟩;rcases bG b 2 with i|i
     ·exact absurd (show b∈usL c.lt from az _ (by rcases(by omega:b=0\/b=1)with rfl|rfl<;>simp)) y
     ·exact i
   have p:=Ma (qg t.h t.n ⟨usL c.lt,[]⟩).2.us;refine Whl.stk ⟨⟨m.2.2.2.2.1 _ h.tw.wf,m.2.2.2.2.2 h.tw.full,?_,?_,?_⟩,?_,?_,r.lies,?_,?_,?_⟩
   ·show yq t.h (qg t.h t.n ⟨usL c.lt,[]⟩).1<=122;rw[m.2.1];exact h.tw.hi
   ·intro w;show 22<=yq t.h (qg t.h t.n ⟨usL c.lt,[]⟩).1;rw[m.2.1];exact h.tw.two w
   ·intro f;have f:g9 t.h (qg t.h t.n ⟨usL c.lt,[]⟩).1=true:=f;rw[m.2.2.2.1,o]at f
    cases f
   ·show g9 t.h (qg t.h t.n ⟨usL c.lt,[]⟩).1=false;rw[m.2.2.2.1];exact o
   ·exact fG (tk (qg t.h t.n ⟨usL c.lt,[]⟩).2.us,gS (nbN t.h (qg t.h t.n ⟨usL c.lt,[]⟩).1)) (az _ (aZ ..))
   ·exact dj.2 ⟨fun A=>p (d _ A).2,r.nd⟩
   ·intro b a;rcases an.1 a with e|a
    ·subst e;refine⟨?_,hb _ (aZ ..)⟩;rcases bG (tk (qg t.h t.n ⟨usL c.lt,[]⟩).2.us) 2 with i|i
     ·refine absurd (s.us _ ?_) p;refine az _ ?_;have:tk (qg t.h t.n ⟨usL c.lt,[]⟩).2.us=0\/tk (qg t.h t.n ⟨usL c.lt,[]⟩).2.us=1:=by omega
      rcases this with e|e<;>rw[e]<;>simp
     ·exact i
    ·exact⟨(d b a).1,hb b (aq _ (d b a).2)⟩
   ·exact(Nx _ _).1 (by rw[Mv];exact(Nx _ _).2 h.g.2.1.frs)
  ·have j:yG c t=(⟨t.h,t.n,t.pl⟩,⟨usL c.lt,[]⟩):=by
    unfold yG;rw[ZU o,show qr t.h ⟨yu,t.n,t.pl⟩ ⟨usL c.lt,[]⟩=_ from Q6 (k:=rtK t) q ⟨usL c.lt,[]⟩];rfl
   rw[j];have u:=h.g.2.2 q;have z:=h.g.2.1.lies u.2;have v:qT t.h (rtK t)=t.pl::j0 t.h t.n:=by unfold qT;rw[if_neg (show(rtK t).3≠0 from q)];rfl
   have d:∀b∈t.pl::j0 t.h t.n,b∈qZ c.lt:=fun b a=>h.pls b (by rw[v];exact a);refine Whl.stk (t:=⟨t.h,t.n,t.pl⟩) ⟨h.tw,o,?_,z.1.agree fun b a=>hold b (d b (aq _ a)),by rw[<-v];exact h.nd,fun b a=>⟨ZX h.us (d b a),h.ub b (d b a)⟩,h.g.2.1.frs⟩;show fX t.pl=_;rw[hold t.pl (d t.pl (by simp))];exact u.1
end Go.Proofs.YtcklgafpgdhnaaaGreatDoor
