import Derived.Test.YtcklgafpgdhnaaaGreatDoorPybg
set_option maxRecDepth 100000
set_option maxHeartbeats 4000000
set_option linter.unusedSimpArgs false
set_option linter.unusedVariables false
set_option linter.unusedSectionVars false
open Go.Proofs.Tryz
namespace Go.Proofs.YtcklgafpgdhnaaaGreatDoor
open Go.RowKit
theorem PE(args:Array Value)(w:World):(callFunc 58 args).run prog w=.ok (.enter 58 args) w:=qy func58 (by kernel_rfl) (by kernel_rfl) args w
theorem Q7(args:Array Value)(w:World):(callFunc 59 args).run prog w=.ok (.enter 59 args) w:=qy func59 (by kernel_rfl) (by kernel_rfl) args w
theorem VS(args:Array Value)(w:World):(callFunc 60 args).run prog w=.ok (.enter 60 args) w:=qy func60 (by kernel_rfl) (by kernel_rfl) args w
theorem S5(args:Array Value)(w:World):(callFunc 61 args).run prog w=.ok (.enter 61 args) w:=qy func61 (by kernel_rfl) (by kernel_rfl) args w
def Bx3(b0 b1 b2 x:Nat)(k y:ByteArray)(W:World):Prop:=W.heap[b0]?=some (.cells #[.pointer (some ⟨x,0,none⟩)] 27 (0,0))/\W.heap[b1]?=some (.cells #[.string k] 9 (0,0))/\W.heap[b2]?=some (.cells #[.string y] 9 (0,0))
variable {W W':World}
theorem Bx3.k{b0 b1 b2 x:Nat}{k y:ByteArray}(h:Bx3 b0 b1 b2 x k y W)(kk:y6 [] W W'):Bx3 b0 b1 b2 x k y W':=⟨kk.get h.1 (by simp),kk.get h.2.1 (by simp),kk.get h.2.2 (by simp)⟩
def Qm(x v:Nat)(c:Hd)(t:Tr)(r:Value)(W:World):Prop:=W.heap[x]?=some (.cells (qC c v t r) 84 (0,0))
def RowT(q:Nat)(t:Tr)(r:Value)(W:World):Prop:=W.heap[q]?=some (.cells #[.string ⟨#[]⟩,.int .i64 t.pl,r] 82 (0,0))
def RowN(q:Nat)(W:World):Prop:=W.heap[q]?=some (.cells #[.string ⟨#[]⟩,.int .i64 0,.nilIface] 82 (0,0))
variable {v:Nat}{t:Tr}{r:Value}{w:World}
theorem NT{x:Nat}{c:Hd}(h:Qm x v c t r w):(loadVar 82 ⟨x,7,none⟩).run prog w=.ok (.agg #[.string ⟨#[]⟩,.int .i64 t.pl,r]) w:=by
 refine yQ (P:=prog) w x 7 84 82 (qC c v t r).toList [.string ⟨#[]⟩,.int .i64 t.pl,r] (0,0) _ h underlying82 rfl stT ?_;intro j u hu;rcases j with _|_|_|j
 ·simpa[qC]using hu
 ·simpa[qC]using hu
 ·simpa[qC]using hu
 ·simp at hu
theorem MM{q:Nat}(h:RowT q t r w):(loadVar 82 ⟨q,0,none⟩).run prog w=.ok (.agg #[.string ⟨#[]⟩,.int .i64 t.pl,r]) w:=by
 refine yQ (P:=prog) w q 0 82 82 [.string ⟨#[]⟩,.int .i64 t.pl,r] [.string ⟨#[]⟩,.int .i64 t.pl,r] (0,0) _ h underlying82 rfl stT ?_;intro j u hu;rw[bL];exact hu
theorem Oq{o:Oper}{a:Act}(ho:o.op=.alloc 82):(execOp a.eval o).run prog w=.ok (.value (.pointer (some ⟨w.heap.size,0,none⟩))) (w.alloc (.cells #[.string ⟨#[]⟩,.int .i64 0,.nilIface] 82)):=by
 have b:(Instr.alloc 82 true (.tuple #[])).run prog w=.ok (.pointer (some ⟨w.heap.size,0,none⟩)) (w.alloc (.cells #[.string ⟨#[]⟩,.int .i64 0,.nilIface] 82)):=by kernel_rfl
 unfold execOp;simp only[ho,Sem.run_bind,b,Result.andThen_ok,Sem.run_pure]
def PutE(x v a n:Nat)(c:Hd)(t':Tr)(w:World)(e:Ending)(W:World):Prop:=
 (¬(n-2)/2<gh t'/\Ends [x] (fun W=>∃r',Rec x v a n c r' t' W) w e W)\/((n-2)/2<gh t'/\jF 3 [] qY w e W)
theorem RM(i:Int)(hr:r.oneCell'=true):∀u∈ [Value.string ⟨#[]⟩,.int .i64 i,r],u.oneCell'=true:=by
 intro u hu;simp at hu;rcases hu with rfl|rfl|rfl
 ·rfl
 ·rfl
 ·exact hr
theorem RJ{o:Oper}{a:Act}(x y:Operand)(ho:o.op=.binOp .gtr 3 x y 3)(m n:Nat)(hx:a.eval x=.int .i64 m)(hy:a.eval y=.int .i64 n):
  (execOp a.eval o).run prog w=.ok (.value (.bool (decide ((m:Int)>(n:Int))))) w:=by
 have c:(binOp .gtr 3 (.int .i64 m) (.int .i64 n)).run prog w=.ok (.bool (decide ((m:Int)>(n:Int)))) w:=rfl;have b:(eqGuard .gtr 3 x y (.int .i64 m) (.int .i64 n)).run prog w=.ok () w:=by simp[eqGuard]
 simp[execOp,ho,hx,hy,c,b]
theorem TO(b0 b1 b2 x v a n:Nat)(c:Hd)(r:Value)(t:Tr)(k y:ByteArray)(w:World)(hb:Bx3 b0 b1 b2 x k y w)(h:Rec x v a n c r t w)(ht:TW t)(hs:c.s=1\/c.s=2)(hk:gz k)(hy:y.size<=12)(h8:8<=n)(h4:n<=400)(sy:gh (gZ (yy k y) k t)<=1000000):
  Calls prog 56 #[.pointer (some ⟨b0,0,none⟩),.pointer (some ⟨b1,0,none⟩),.pointer (some ⟨b2,0,none⟩)] w (PutE x v a n c (gZ (yy k y) k t) w):=by
 have c0:w.cell? ⟨b0,0,none⟩=some (.pointer (some ⟨x,0,none⟩)):=y7 hb.1 rfl;have HN:Hid (Calls _ _ _ _ _):=jq x v c t r w hs h.row;have HK:Hid (∀W,Calls prog 45 #[.string k] W _):=fun W=>Zh k W hk;have HV:Hid (∀W,Calls prog 57 #[.string y] W _):=fun W=>Q99 y W hy;have HD:Hid (∀W,y6 [] w W->_):=fun W kW=>Q93 (h.k kW).tv.tags (fun y hy=>TT.lt hy) ht k y hk hy;have hks:k.size<=8:=hk.2;have tX:Hid _:=h;have HB:Hid _:=hb;generalize gZ (yy k y) k t=d at*;clear h hb;go_enter func56,ntmps56;go_wp2_with(first|(go_at_call 49;refine HN.out.mono ?_;rintro e w1⟨rfl,hk1⟩;have c1:w1.cell? ⟨b1,0,none⟩=some (.string k):=y7 (Bx3.k HB.out hk1).2.1 rfl)|(go_at_call 45;refine(HK.out _).mono ?_;rintro e w2⟨rfl,hk2⟩;have c2:w2.cell? ⟨b2,0,none⟩=some (.string y):=y7 (Bx3.k HB.out (hk1.trans hk2)).2.2 rfl)|(go_at_call 57;refine(HV.out _).mono ?_;rintro e V⟨rfl,hk3⟩))
 have Q:y6 [] w V.drew:=((hk1.trans hk2).trans hk3).drew;have S:Bx3 b0 b1 b2 x k y V.drew/\Qm x v c t r V.drew:=⟨Bx3.k HB.out Q,(Rec.k tX.out Q).row⟩
 have hR3:Rec x v a n c r t V.drew:=Rec.k tX.out Q;refine yo (fun W=>Bx3 b0 b1 b2 x k y W/\Qm x v c t r W) (by kernel_rfl) ?_;refine uh 0 (.pointer (some ⟨x,0,none⟩)) rfl (fun W I=>y9 27 (.tmp 0) rfl ⟨b0,0,none⟩ rfl _ (yh underlying27 rfl (y7 I.1.1 rfl))) S ?_;refine uh 1 (.pointer (some ⟨x,0,none⟩)) rfl (fun W I=>by rfl) S ?_;refine uh 2 (.pointer (some ⟨x,0+7,none⟩)) rfl (fun W I=>yx 84 (.tmp 11) 4 rfl x (0) rfl 7 (by rfl)) S ?_;refine uh 3 (.agg #[.string ⟨#[]⟩,.int .i64 t.pl,r]) rfl (fun W I=>y9 82 (.tmp 12) rfl ⟨x,0+7,none⟩ rfl _ (NT I.2)) S ?_;refine uh 4 (.string k) rfl (fun W I=>y9 9 (.tmp 1) rfl ⟨b1,0,none⟩ rfl _ (yh underlying9 rfl (y7 I.1.2.1 rfl))) S ?_;refine uh 5 (.string y) rfl (fun W I=>y9 9 (.tmp 2) rfl ⟨b2,0,none⟩ rfl _ (yh underlying9 rfl (y7 I.1.2.2 rfl))) S ?_;refine uh 6 (.agg #[.string k,.string y]) rfl (fun W I=>QU 41 (.tmp 14) (.tmp 15) 0 1 rfl _ _ _ rfl rfl (by kernel_rfl)) S ?_;refine Nf (i:=7) (j:=9) (by kernel_rfl) ?_ ?_
 ·refine yp rfl (by rfl) 59 #[.agg #[.string k,.string y]] (yn _ _ _ rfl _ (by simp[Act.eval]) (Q7 _ _)) _ (ZA k y _ (by omega) (by omega)) ?_;rintro e wf⟨rfl,N⟩;have R:Bx3 b0 b1 b2 x k y wf/\Qm x v c t r wf:=⟨S.1.k N,N.get S.2 (by simp)⟩
  refine⟨_,rfl,R,?_⟩;simp only[zz];refine Nf (i:=8) (j:=9) (by kernel_rfl) ?_ ?_
  focus
   refine yp rfl (by rfl) 58 #[.agg #[.string ⟨#[]⟩,.int .i64 t.pl,r],.agg #[.string k,.string y]] (yn _ _ _ rfl _ (by simp[Act.eval]) (PE _ _)) _ (HD.out _ (Q.trans N)) ?_;rintro e w4⟨C,rfl,Fv,dX⟩;have Z:Bx3 b0 b1 b2 x k y w4/\Qm x v c t r w4:=⟨R.1.k dX,dX.get R.2 (by simp)⟩
   refine⟨_,rfl,Z,?_⟩;simp only[zz];obtain⟨g,AZ⟩:∃g,g=w4.alloc (.cells #[.string ⟨#[]⟩,.int .i64 0,.nilIface] 82):=⟨_,rfl⟩
   have k5:y6 [] w4 g:=by rw[AZ];exact(y6.refl [] w4).alloc _
   have A:RowN w4.heap.size g:=by rw[AZ];exact af _ _
   have b:Bx3 b0 b1 b2 x k y g/\Qm x v c t r g:=⟨Z.1.k k5,k5.get Z.2 (by simp)⟩
   refine yi (i:=9) (by kernel_rfl) (yM rfl (by rfl) _ g (by rw[AZ];exact Oq rfl) ⟨b,?_⟩);simp only[zz];have pD:=Fv.k k5;have A4:y6 [] w g:=((Q.trans N).trans dX).trans k5;obtain⟨nb,D⟩:∃nb,nb=w4.heap.size:=⟨_,rfl⟩
   have M:w.heap.size<=nb:=by rw[D];exact((Q.trans N).trans dX).size
   rw[<-D]at A⊢;clear AZ D Z R k5 dX Fv
  rotate_left
  focus
   obtain⟨L,G⟩:∃L,L=wf.alloc (.cells #[.string ⟨#[]⟩,.int .i64 0,.nilIface] 82):=⟨_,rfl⟩
   have ka:y6 [] wf L:=by rw[G];exact(y6.refl [] wf).alloc _
   have T:RowN wf.heap.size L:=by rw[G];exact af _ _
   have H:Bx3 b0 b1 b2 x k y L/\Qm x v c t r L:=⟨R.1.k ka,ka.get R.2 (by simp)⟩
   refine yM rfl (by rfl) _ L (by rw[G];exact Oq rfl) ⟨H,?_⟩;simp only[zz];refine yi (i:=8) (by kernel_rfl) (yp rfl (by rfl) 58 #[.agg #[.string ⟨#[]⟩,.int .i64 t.pl,r],.agg #[.string k,.string y]] (yn _ _ _ rfl _ (by simp[Act.eval]) (PE _ _)) _ (HD.out _ ((Q.trans N).trans ka)) ?_);rintro e g⟨C,rfl,pD,X⟩;have b:Bx3 b0 b1 b2 x k y g/\Qm x v c t r g:=⟨H.1.k X,X.get H.2 (by simp)⟩
   refine⟨_,rfl,b,?_⟩;simp only[zz];have A:RowN wf.heap.size g:=X.get T (by simp);have A4:y6 [] w g:=((Q.trans N).trans ka).trans X;obtain⟨nb,D⟩:∃nb,nb=wf.heap.size:=⟨_,rfl⟩
   have M:w.heap.size<=nb:=by rw[D];exact(Q.trans N).size
   rw[<-D]at A⊢;clear G D H R T
  rotate_left
  all_goals
   have nD:=yI (P:=prog) g nb 0 82 82 [.string ⟨#[]⟩,.int .i64 0,.nilIface] [.string ⟨#[]⟩,.int .i64 d.pl,C] A (by rw[stT];rfl) (by simp) (RM _ pD.one);obtain⟨m,sC⟩:∃m,m=g.setRow nb (splice [.string ⟨#[]⟩,.int .i64 0,.nilIface] 0 [.string ⟨#[]⟩,.int .i64 d.pl,C]).toArray:=⟨_,rfl⟩
   rw[<-sC]at nD;have B:Tg g nb 82:=⟨_,_,A⟩
   have l:y6 [nb] g m:=by rw[sC];exact(y6.refl [nb] g).setRow (Or.inl (by simp)) _
   have J:RowT nb d C m:=by rw[sC];exact bH _ _ _ _ _ _ A
   have hB6:Bx3 b0 b1 b2 x k y m:=⟨l.get b.1.1 (by simp;intro e;subst e;have:=B.ne ⟨_,_,b.1.1⟩;revert this;decide),l.get b.1.2.1 (by simp;intro e;subst e;have:=B.ne ⟨_,_,b.1.2.1⟩;revert this;decide),l.get b.1.2.2 (by simp;intro e;subst e;have:=B.ne ⟨_,_,b.1.2.2⟩;revert this;decide)⟩
   have p:Bx3 b0 b1 b2 x k y m/\Qm x v c t r m:=⟨hB6,l.get b.2 (by simp;intro e;subst e;have:=B.ne ⟨_,_,b.2⟩;revert this;decide)⟩
   refine yi (i:=10) (by kernel_rfl) (qo rfl rfl m (yK 82 (.tmp 3) (.tmp 18) rfl ⟨nb,0,none⟩ rfl _ rfl nD) ⟨p,?_⟩);simp only[zz];refine aK (by kernel_rfl) ?_ _;have CB:y6 [] w m:=A4.trans2 l fun z K=>Or.inr (by simp at K;subst K;exact M);have tQ:TV m (TT g) d C:=TV.kept pD.tags l (fun z K=>by simp at K;subst K;rintro(h1|h1);(have:=B.ne h1;revert this;decide);(have:=B.ne h1;revert this;decide)) fun _ h=>h;clear nD sC b A;go_wp2_with fail;have q:Bx3 b0 b1 b2 x k y m.drew/\RowT nb d C m.drew:=⟨p.1.k (y6.refl [] m).drew,J⟩
   refine yo (fun W=>Bx3 b0 b1 b2 x k y W/\RowT nb d C W) (by kernel_rfl) ?_;refine uh 0 (.agg #[.string ⟨#[]⟩,.int .i64 d.pl,C]) rfl (fun W I=>y9 82 (.tmp 3) rfl ⟨nb,0,none⟩ rfl _ (MM I.2)) q ?_;refine uh 2 (.pointer (some ⟨x,0,none⟩)) rfl (fun W I=>y9 27 (.tmp 0) rfl ⟨b0,0,none⟩ rfl _ (yh underlying27 rfl (y7 I.1.1 rfl))) q ?_;refine yi (i:=1) (by kernel_rfl) (yp rfl (by rfl) 60 #[.agg #[.string ⟨#[]⟩,.int .i64 d.pl,C]] (yn _ _ _ rfl _ (by simp[Act.eval]) (VS _ _)) _ (TI (tQ.k (y6.refl [] m).drew) (fun z K=>bz (TT.lt K) l.size) sy) ?_);rintro e w7⟨rfl,Y⟩;have U:Bx3 b0 b1 b2 x k y w7/\RowT nb d C w7:=⟨q.1.k Y,Y.get q.2 (by simp)⟩
   refine⟨_,rfl,U,?_⟩;simp only[zz];have zG:y6 [] w w7:=CB.drew.trans Y;have sD:Rec x v a n c r t w7:=Rec.k tX.out zG;refine yi (i:=3) (by kernel_rfl) (yp rfl (by rfl) 61 #[.pointer (some ⟨x,0,none⟩)] (yn _ _ _ rfl _ (by simp[Act.eval]) (S5 _ _)) _ (WM x v a n c t r _ sD.row sD.vol h8 h4) ?_);rintro e O⟨rfl,E⟩;have u:Bx3 b0 b1 b2 x k y O/\RowT nb d C O:=⟨U.1.k E,E.get U.2 (by simp)⟩
   refine⟨_,rfl,u,?_⟩;simp only[zz];have zH:y6 [] w O:=zG.trans E;have CC:Rec x v a n c r t O:=sD.k E;have wK:TV O (TT g) d C:=(tQ.k (y6.refl [] m).drew).k (Y.trans E);refine yi (i:=4) (by kernel_rfl) (yM rfl (by rfl) (.bool (decide (((gh d:Nat):Int)>(((n-2)/2:Nat):Int)))) _ (RJ (.tmp 20) (.tmp 22) rfl (gh d) ((n-2)/2) rfl rfl) ⟨u,?_⟩);simp only[zz]
   by_cases F:(n-2)/2<gh d
   ·rw[show decide (((gh d:Nat):Int)>(((n-2)/2:Nat):Int))=true from bM (by omega)];refine aK (by kernel_rfl) ?_ _;clear p J q U u;go_wp2_with(first|(go_at_call 62;refine(jy _ _ _).mono ?_;rintro e w9⟨f,o,rfl,h2,h3⟩))
    exact⟨rfl,Or.inr ⟨F,f,o,rfl,h2,trivial,zH.trans h3⟩⟩
   rw[show decide (((gh d:Nat):Int)>(((n-2)/2:Nat):Int))=false from ct (by omega)];refine aK (by kernel_rfl) ?_ _;have c8:O.cell? ⟨b0,0,none⟩=some (.pointer (some ⟨x,0,none⟩)):=y7 u.1.1 rfl;have vq:=MM u.2;clear p J q U u;obtain⟨w9,vr,CD,hk9⟩:=CC.set _ wK;go_wp2_with(first|(refine y8 rfl 82 (.tmp 3) rfl ⟨nb,0,none⟩ rfl _ vq ?_)|(refine gL rfl w9 (yK 82 (.tmp 28) (.tmp 26) rfl ⟨x,7,none⟩ rfl _ rfl vr) ?_))
   go_end0;exact Or.inl ⟨F,rfl,⟨C,CD⟩,(zH.mono (by simp)).trans hk9⟩
 ·obtain⟨L,G⟩:∃L,L=V.drew.alloc (.cells #[.string ⟨#[]⟩,.int .i64 0,.nilIface] 82):=⟨_,rfl⟩
  have ka:y6 [] V.drew L:=by rw[G];exact(y6.refl [] V.drew).alloc _
  have T:RowN V.drew.heap.size L:=by rw[G];exact af _ _
  have H:Bx3 b0 b1 b2 x k y L/\Qm x v c t r L:=⟨S.1.k ka,ka.get S.2 (by simp)⟩
  refine yM rfl (by rfl) _ L (by rw[G];exact Oq rfl) ⟨H,?_⟩;simp only[zz];refine yi (i:=7) (by kernel_rfl) (yp rfl (by rfl) 59 #[.agg #[.string k,.string y]] (yn _ _ _ rfl _ (by simp[Act.eval]) (Q7 _ _)) _ (ZA k y _ (by omega) (by omega)) ?_);rintro e wf⟨rfl,N⟩;have R:Bx3 b0 b1 b2 x k y wf/\Qm x v c t r wf:=⟨H.1.k N,N.get H.2 (by simp)⟩
  refine⟨_,rfl,R,?_⟩;simp only[zz];refine yi (i:=8) (by kernel_rfl) (yp rfl (by rfl) 58 #[.agg #[.string ⟨#[]⟩,.int .i64 t.pl,r],.agg #[.string k,.string y]] (yn _ _ _ rfl _ (by simp[Act.eval]) (PE _ _)) _ (HD.out _ ((Q.trans ka).trans N)) ?_);rintro e g⟨C,rfl,pD,X⟩;have b:Bx3 b0 b1 b2 x k y g/\Qm x v c t r g:=⟨R.1.k X,X.get R.2 (by simp)⟩
  refine⟨_,rfl,b,?_⟩;simp only[zz];have A:RowN V.drew.heap.size g:=(N.trans X).get T (by simp);have A4:y6 [] w g:=((Q.trans ka).trans N).trans X;obtain⟨nb,D⟩:∃nb,nb=V.drew.heap.size:=⟨_,rfl⟩
  have M:w.heap.size<=nb:=by rw[D];exact Q.size
  rw[<-D]at A⊢;clear G D H R T;have nD:=yI (P:=prog) g nb 0 82 82 [.string ⟨#[]⟩,.int .i64 0,.nilIface] [.string ⟨#[]⟩,.int .i64 d.pl,C] A (by rw[stT];rfl) (by simp) (RM _ pD.one);obtain⟨m,sC⟩:∃m,m=g.setRow nb (splice [.string ⟨#[]⟩,.int .i64 0,.nilIface] 0 [.string ⟨#[]⟩,.int .i64 d.pl,C]).toArray:=⟨_,rfl⟩
  rw[<-sC]at nD;have B:Tg g nb 82:=⟨_,_,A⟩
  have l:y6 [nb] g m:=by rw[sC];exact(y6.refl [nb] g).setRow (Or.inl (by simp)) _
  have J:RowT nb d C m:=by rw[sC];exact bH _ _ _ _ _ _ A
  have hB6:Bx3 b0 b1 b2 x k y m:=⟨l.get b.1.1 (by simp;intro e;subst e;have:=B.ne ⟨_,_,b.1.1⟩;revert this;decide),l.get b.1.2.1 (by simp;intro e;subst e;have:=B.ne ⟨_,_,b.1.2.1⟩;revert this;decide),l.get b.1.2.2 (by simp;intro e;subst e;have:=B.ne ⟨_,_,b.1.2.2⟩;revert this;decide)⟩
  have p:Bx3 b0 b1 b2 x k y m/\Qm x v c t r m:=⟨hB6,l.get b.2 (by simp;intro e;subst e;have:=B.ne ⟨_,_,b.2⟩;revert this;decide)⟩
  refine yi (i:=10) (by kernel_rfl) (qo rfl rfl m (yK 82 (.tmp 3) (.tmp 18) rfl ⟨nb,0,none⟩ rfl _ rfl nD) ⟨p,?_⟩);simp only[zz];refine aK (by kernel_rfl) ?_ _;have CB:y6 [] w m:=A4.trans2 l fun z K=>Or.inr (by simp at K;subst K;exact M);have tQ:TV m (TT g) d C:=TV.kept pD.tags l (fun z K=>by simp at K;subst K;rintro(h1|h1);(have:=B.ne h1;revert this;decide);(have:=B.ne h1;revert this;decide)) fun _ h=>h;clear nD sC b A;go_wp2_with fail;have q:Bx3 b0 b1 b2 x k y m.drew/\RowT nb d C m.drew:=⟨p.1.k (y6.refl [] m).drew,J⟩
  refine yo (fun W=>Bx3 b0 b1 b2 x k y W/\RowT nb d C W) (by kernel_rfl) ?_;refine uh 0 (.agg #[.string ⟨#[]⟩,.int .i64 d.pl,C]) rfl (fun W I=>y9 82 (.tmp 3) rfl ⟨nb,0,none⟩ rfl _ (MM I.2)) q ?_;refine uh 2 (.pointer (some ⟨x,0,none⟩)) rfl (fun W I=>y9 27 (.tmp 0) rfl ⟨b0,0,none⟩ rfl _ (yh underlying27 rfl (y7 I.1.1 rfl))) q ?_;refine yi (i:=1) (by kernel_rfl) (yp rfl (by rfl) 60 #[.agg #[.string ⟨#[]⟩,.int .i64 d.pl,C]] (yn _ _ _ rfl _ (by simp[Act.eval]) (VS _ _)) _ (TI (tQ.k (y6.refl [] m).drew) (fun z K=>bz (TT.lt K) l.size) sy) ?_);rintro e w7⟨rfl,Y⟩;have U:Bx3 b0 b1 b2 x k y w7/\RowT nb d C w7:=⟨q.1.k Y,Y.get q.2 (by simp)⟩
  refine⟨_,rfl,U,?_⟩;simp only[zz];have zG:y6 [] w w7:=CB.drew.trans Y;have sD:Rec x v a n c r t w7:=Rec.k tX.out zG;refine yi (i:=3) (by kernel_rfl) (yp rfl (by rfl) 61 #[.pointer (some ⟨x,0,none⟩)] (yn _ _ _ rfl _ (by simp[Act.eval]) (S5 _ _)) _ (WM x v a n c t r _ sD.row sD.vol h8 h4) ?_);rintro e O⟨rfl,E⟩;have u:Bx3 b0 b1 b2 x k y O/\RowT nb d C O:=⟨U.1.k E,E.get U.2 (by simp)⟩
  refine⟨_,rfl,u,?_⟩;simp only[zz];have zH:y6 [] w O:=zG.trans E;have CC:Rec x v a n c r t O:=sD.k E;have wK:TV O (TT g) d C:=(tQ.k (y6.refl [] m).drew).k (Y.trans E);refine yi (i:=4) (by kernel_rfl) (yM rfl (by rfl) (.bool (decide (((gh d:Nat):Int)>(((n-2)/2:Nat):Int)))) _ (RJ (.tmp 20) (.tmp 22) rfl (gh d) ((n-2)/2) rfl rfl) ⟨u,?_⟩);simp only[zz]
  by_cases F:(n-2)/2<gh d
  ·rw[show decide (((gh d:Nat):Int)>(((n-2)/2:Nat):Int))=true from bM (by omega)];refine aK (by kernel_rfl) ?_ _;clear p J q U u;go_wp2_with(first|(go_at_call 62;refine(jy _ _ _).mono ?_;rintro e w9⟨f,o,rfl,h2,h3⟩))
   exact⟨rfl,Or.inr ⟨F,f,o,rfl,h2,trivial,zH.trans h3⟩⟩
  rw[show decide (((gh d:Nat):Int)>(((n-2)/2:Nat):Int))=false from ct (by omega)];refine aK (by kernel_rfl) ?_ _;have c8:O.cell? ⟨b0,0,none⟩=some (.pointer (some ⟨x,0,none⟩)):=y7 u.1.1 rfl;have vq:=MM u.2;clear p J q U u;obtain⟨w9,vr,CD,hk9⟩:=CC.set _ wK;go_wp2_with(first|(refine y8 rfl 82 (.tmp 3) rfl ⟨nb,0,none⟩ rfl _ vq ?_)|(refine gL rfl w9 (yK 82 (.tmp 28) (.tmp 26) rfl ⟨x,7,none⟩ rfl _ rfl vr) ?_))
  go_end0;exact Or.inl ⟨F,rfl,⟨C,CD⟩,(zH.mono (by simp)).trans hk9⟩
theorem Qak(b0 b1 b2 x:Nat)(k y:ByteArray)(w:World)(hb:Bx3 b0 b1 b2 x k y w)(h:Shut x w):
  Calls prog 56 #[.pointer (some ⟨b0,0,none⟩),.pointer (some ⟨b1,0,none⟩),.pointer (some ⟨b2,0,none⟩)] w (jF 5 [] qY w):=by
 have g:w.cell? ⟨b0,0,none⟩=some (.pointer (some ⟨x,0,none⟩)):=y7 hb.1 rfl;have a:Hid (Calls _ _ _ _ _):=Z5 x w h;have d:Hid _:=hb;clear hb;go_enter func56,ntmps56;go_wp2_with(first|(go_at_call 49;refine a.out.mono ?_;rintro e i⟨f,o,rfl,b,c⟩))
 exact⟨rfl,f,o,rfl,b,trivial,c⟩
theorem Qal(b0 b1 b2 x:Nat)(k y:ByteArray)(w:World)(hb:Bx3 b0 b1 b2 x k y w){a n:Nat}{c:Hd}(h:Rec x v a n c r t w)(hs:c.s=3):
  Calls prog 56 #[.pointer (some ⟨b0,0,none⟩),.pointer (some ⟨b1,0,none⟩),.pointer (some ⟨b2,0,none⟩)] w (jF 4 [] qY w):=by
 have j:w.cell? ⟨b0,0,none⟩=some (.pointer (some ⟨x,0,none⟩)):=y7 hb.1 rfl;have b:Hid (Calls _ _ _ _ _):=Z6 x v c t r w hs h.row;have i:Hid _:=hb;clear hb;go_enter func56,ntmps56;go_wp2_with(first|(go_at_call 49;refine b.out.mono ?_;rintro e l⟨f,o,rfl,d,g⟩))
 exact⟨rfl,f,o,rfl,d,trivial,g⟩
theorem Qam(b0 b1 b2 x:Nat)(k y:ByteArray)(w:World)(hb:Bx3 b0 b1 b2 x k y w){a n:Nat}{c:Hd}(h:Rec x v a n c r t w)(hs:c.s=1\/c.s=2)(hk:¬gz k):
  Calls prog 56 #[.pointer (some ⟨b0,0,none⟩),.pointer (some ⟨b1,0,none⟩),.pointer (some ⟨b2,0,none⟩)] w (jF 1 [] qY w):=by
 have p:w.cell? ⟨b0,0,none⟩=some (.pointer (some ⟨x,0,none⟩)):=y7 hb.1 rfl;have i:Hid (Calls _ _ _ _ _):=jq x v c t r w hs h.row;have g:Hid (∀W,Calls prog 45 #[.string k] W _):=fun W=>Rp k W hk;have d:Hid _:=hb;clear hb;go_enter func56,ntmps56;go_wp2_with(first|(go_at_call 49;refine i.out.mono ?_;rintro e m⟨rfl,b⟩;have q:m.cell? ⟨b1,0,none⟩=some (.string k):=y7 (Bx3.k d.out b).2.1 rfl)|(go_at_call 45;refine(g.out _).mono ?_;rintro e u⟨f,o,rfl,j,l⟩))
 exact⟨rfl,f,o,rfl,j,trivial,b.trans l⟩
theorem Qan(b0 b1 b2 x:Nat)(k y:ByteArray)(w:World)(hb:Bx3 b0 b1 b2 x k y w){a n:Nat}{c:Hd}(h:Rec x v a n c r t w)(hs:c.s=1\/c.s=2)(hk:gz k)(hy:¬y.size<=12):
  Calls prog 56 #[.pointer (some ⟨b0,0,none⟩),.pointer (some ⟨b1,0,none⟩),.pointer (some ⟨b2,0,none⟩)] w (jF 2 [] qY w):=by
 have z:w.cell? ⟨b0,0,none⟩=some (.pointer (some ⟨x,0,none⟩)):=y7 hb.1 rfl;have j:Hid (Calls _ _ _ _ _):=jq x v c t r w hs h.row;have i:Hid (∀W,Calls prog 45 #[.string k] W _):=fun W=>Zh k W hk;have l:Hid (∀W,Calls prog 57 #[.string y] W _):=fun W=>XD y W hy;have g:Hid _:=hb;clear hb;go_enter func56,ntmps56;go_wp2_with(first|(go_at_call 49;refine j.out.mono ?_;rintro e q⟨rfl,b⟩;have A:q.cell? ⟨b1,0,none⟩=some (.string k):=y7 (Bx3.k g.out b).2.1 rfl)|(go_at_call 45;refine(i.out _).mono ?_;rintro e u⟨rfl,d⟩;have B:u.cell? ⟨b2,0,none⟩=some (.string y):=y7 (Bx3.k g.out (b.trans d)).2.2 rfl)|(go_at_call 57;refine(l.out _).mono ?_;rintro e C⟨f,o,rfl,m,p⟩))
 exact⟨rfl,f,o,rfl,m,trivial,(b.trans d).trans p⟩
theorem Mn(x:Nat)(k y:ByteArray)(P:Value->World->Prop)(S:List Nat)(w:World)
  (hc:∀b,Calls prog 42 #[.string b,.func (.func 56) #[] #[.pointer (some ⟨w.heap.size,0,none⟩),.pointer (some ⟨w.heap.size+1,0,none⟩),.pointer (some ⟨w.heap.size+1+1,0,none⟩)]] (((w.alloc (.cells #[.pointer (some ⟨x,0,none⟩)] 27)).alloc (.cells #[.string k] 9)).alloc (.cells #[.string y] 9)) (jc P S (((w.alloc (.cells #[.pointer (some ⟨x,0,none⟩)] 27)).alloc (.cells #[.string k] 9)).alloc (.cells #[.string y] 9)))):
  Calls prog 36 #[.pointer (some ⟨x,0,none⟩),.string k,.string y] w (jc P S w):=by
 have d:Hid (∀b,Calls _ _ _ _ _):=hc;have g:=j2;clear hc;go_enter func36,ntmps36;go_wp2_with(go_at_call 42;refine(d.out _).mono ?_;rintro e h⟨a,rfl,f,c⟩)
 go_ret;exact⟨a,rfl,f,((((y6.refl S w).alloc _).alloc _).alloc _).trans c⟩
theorem ZV(w:World)(x:Nat)(k y:ByteArray):Bx3 w.heap.size (w.heap.size+1) (w.heap.size+1+1) x k y (((w.alloc (.cells #[.pointer (some ⟨x,0,none⟩)] 27)).alloc (.cells #[.string k] 9)).alloc (.cells #[.string y] 9)):=by
 have a:=Mf w x k;have b:=(y6.refl [] ((w.alloc (.cells #[.pointer (some ⟨x,0,none⟩)] 27)).alloc (.cells #[.string k] 9))).alloc (.cells #[.string y] 9);refine⟨b.get a.1 (by simp),b.get a.2 (by simp),?_⟩;have:=af ((w.alloc (.cells #[.pointer (some ⟨x,0,none⟩)] 27)).alloc (.cells #[.string k] 9)) (.cells #[.string y] 9)
 rwa[ak,ak]at this
theorem Mg(w:World)(x:Nat)(k y:ByteArray):y6 [] w (((w.alloc (.cells #[.pointer (some ⟨x,0,none⟩)] 27)).alloc (.cells #[.string k] 9)).alloc (.cells #[.string y] 9)):=(((y6.refl [] w).alloc _).alloc _).alloc _
theorem Yv(x v a n:Nat)(c:Hd)(r:Value)(t:Tr)(k y:ByteArray)(w:World)(h:Rec x v a n c r t w)(hs:c.s=1\/c.s=2)(ht:TW t)(hk:gz k)(hy:y.size<=12)(h8:8<=n)(h4:n<=400)(hroom:¬(n-2)/2<gh (gZ (yy k y) k t)):
  Calls prog 36 #[.pointer (some ⟨x,0,none⟩),.string k,.string y] w (jc (IsNil fun W=>∃r',Rec x v a n c r' (gZ (yy k y) k t) W) [x] w):=by
 refine Mn x k y _ _ w fun b=>M9 b _ _ (fun _ _=>by kernel_rfl) [x] _ _ ?_ (fun W j T f l m=> ?_) fun W i=> ?_
 ·intro z g;simp at g;subst g;have:=yt h.row;rw[ak,ak,ak];omega
 ·obtain⟨r',f⟩:=f;exact⟨r',f.err l m⟩
 ·exact(TO _ _ _ x v a n c r t k y W ((ZV w x k y).k i) ((h.k (Mg w x k y)).k i) ht hs hk hy h8 h4 (by omega)).mono fun e j d=>d.elim (fun d=>d.2) fun d=>absurd d.1 hroom
theorem Qar(x v a n:Nat)(c:Hd)(r:Value)(t:Tr)(k y:ByteArray)(w:World)(h:Rec x v a n c r t w)(hs:c.s=1\/c.s=2)(ht:TW t)(hk:gz k)(hy:y.size<=12)(h8:8<=n)(h4:n<=400)(sy:gh (gZ (yy k y) k t)<=1000000)(hroom:(n-2)/2<gh (gZ (yy k y) k t)):
  Calls prog 36 #[.pointer (some ⟨x,0,none⟩),.string k,.string y] w (jc (LI 3 qY) [] w):=
 Mn x k y _ _ w fun b=>gX b _ _ (fun _ _=>by kernel_rfl) 3 _ _ (fun _ _ _ _ _ _=>trivial) fun W f=>(TO _ _ _ x v a n c r t k y W ((ZV w x k y).k f) ((h.k (Mg w x k y)).k f) ht hs hk hy h8 h4 sy).mono fun e g d=>d.elim (fun d=>absurd hroom d.1) fun d=>d.2
theorem Qas(x:Nat)(k y:ByteArray)(w:World)(h:Shut x w):Calls prog 36 #[.pointer (some ⟨x,0,none⟩),.string k,.string y] w (jc (LI 5 qY) [] w):=
 Mn x k y _ _ w fun b=>gX b _ _ (fun _ _=>by kernel_rfl) 5 _ _ (fun _ _ _ _ _ _=>trivial) fun W a=>Qak _ _ _ x k y W ((ZV w x k y).k a) (a.get ((Mg w x k y).get h (by simp)) (by simp))
theorem Qat(x v a n:Nat)(c:Hd)(r:Value)(t:Tr)(k y:ByteArray)(w:World)(h:Rec x v a n c r t w)(hs:c.s=1\/c.s=2)(hk:¬gz k):Calls prog 36 #[.pointer (some ⟨x,0,none⟩),.string k,.string y] w (jc (LI 1 qY) [] w):=
 Mn x k y _ _ w fun b=>gX b _ _ (fun _ _=>by kernel_rfl) 1 _ _ (fun _ _ _ _ _ _=>trivial) fun W d=>Qam _ _ _ x k y W ((ZV w x k y).k d) ((h.k (Mg w x k y)).k d) hs hk
theorem Yr(x v a n:Nat)(c:Hd)(r:Value)(t:Tr)(k y:ByteArray)(w:World)(h:Rec x v a n c r t w)(hs:c.s=1\/c.s=2)(hk:gz k)(hy:¬y.size<=12):Calls prog 36 #[.pointer (some ⟨x,0,none⟩),.string k,.string y] w (jc (LI 2 qY) [] w):=
 Mn x k y _ _ w fun b=>gX b _ _ (fun _ _=>by kernel_rfl) 2 _ _ (fun _ _ _ _ _ _=>trivial) fun W d=>Qan _ _ _ x k y W ((ZV w x k y).k d) ((h.k (Mg w x k y)).k d) hs hk hy
theorem Qav(x v a n:Nat)(c:Hd)(r:Value)(t:Tr)(k y:ByteArray)(w:World)(h:Rec x v a n c r t w)(hs:c.s=3):Calls prog 36 #[.pointer (some ⟨x,0,none⟩),.string k,.string y] w (jc (LI 4 qY) [] w):=
 Mn x k y _ _ w fun b=>gX b _ _ (fun _ _=>by kernel_rfl) 4 _ _ (fun _ _ _ _ _ _=>trivial) fun W d=>Qal _ _ _ x k y W ((ZV w x k y).k d) ((h.k (Mg w x k y)).k d) hs
theorem YZ(args:Array Value)(w:World):(callFunc 46 args).run prog w=.ok (.enter 46 args) w:=qy func46 (by kernel_rfl) (by kernel_rfl) args w
def VB(q2 q3:Nat)(V:ByteArray)(B:Bool)(W:World):Prop:=W.heap[q2]?=some (.cells #[.string V] 9 (0,0))/\W.heap[q3]?=some (.cells #[.bool B] 4 (0,0))
variable {V:ByteArray}
theorem VB.k{q2 q3:Nat}{B:Bool}(h:VB q2 q3 V B W)(kk:y6 [] W W'):VB q2 q3 V B W':=⟨kk.get h.1 (by simp),kk.get h.2 (by simp)⟩
theorem VB.err{q2 q3:Nat}{B:Bool}{T:List Nat}(h:VB q2 q3 V B W)(k:y6 T W W')(hT:∀y∈T,Tg W y 35):VB q2 q3 V B W':=by
 refine⟨k.get h.1 fun a=> ?_,k.get h.2 fun a=> ?_⟩
 ·have:=(hT _ a).ne ⟨_,_,h.1⟩;revert this;decide
 ·have:=(hT _ a).ne ⟨_,_,h.2⟩;revert this;decide
theorem szb:(prog.info? 4).map (·.size)=some 1:=by kernel_rfl
theorem szs:(prog.info? 9).map (·.size)=some 1:=by kernel_rfl
theorem Yx(b0 b1 q2 q3 x v a n:Nat)(c:Hd)(r:Value)(t:Tr)(k:ByteArray)(w:World)(hb:Bx2 b0 b1 x k w)(hq:VB q2 q3 ⟨#[]⟩ false w)(rM:b1≠q2)(h:Rec x v a n c r t w)(ht:TW t)(hk:gz k):
  Calls prog 43 #[.pointer (some ⟨b0,0,none⟩),.pointer (some ⟨b1,0,none⟩),.pointer (some ⟨q2,0,none⟩),.pointer (some ⟨q3,0,none⟩)] w (Ends [q2,q3] (VB q2 q3 ((gA k (yH t)).getD ⟨#[]⟩) (gA k (yH t)).isSome) w):=by
 have O:w.cell? ⟨b0,0,none⟩=some (.pointer (some ⟨x,0,none⟩)):=y7 hb.1 rfl;have J:Hid (Calls _ _ _ _ _):=jA x v c t r w h.st.1 h.row;have I:Hid (∀W,Calls prog 45 #[.string k] W _):=fun W=>Zh k W hk;have H:Hid (∀W,y6 [] w W->_):=fun W L=>Uq (h.k L).tv ht k;have M:Hid _:=h;have E:Hid _:=hb;generalize(gA k (yH t)).getD ⟨#[]⟩=V at*;generalize(gA k (yH t)).isSome=B at*;have D:q2≠q3:=by intro e;subst e;have:=Tg.ne ⟨_,_,hq.1⟩ ⟨_,_,hq.2⟩;revert this;decide
 have Q:=hq;clear h hb;go_enter func43,ntmps43;go_wp2_with(first|(go_at_call 44;refine J.out.mono ?_;rintro e N⟨rfl,q⟩;have P:N.cell? ⟨b1,0,none⟩=some (.string k):=y7 (Bx2.k E.out q).2 rfl)|(go_at_call 45;refine(I.out _).mono ?_;rintro e z⟨rfl,C⟩))
 have o:y6 [] w z.drew:=(q.trans C).drew;have A:Rec x v a n c r t z.drew:=Rec.k M.out o;have j:Bx2 b0 b1 x k z.drew/\Qm x v c t r z.drew:=⟨Bx2.k E.out o,A.row⟩
 refine yo (fun W=>Bx2 b0 b1 x k W/\Qm x v c t r W) (by kernel_rfl) ?_;refine uh 0 (.pointer (some ⟨x,0,none⟩)) rfl (fun W g=>y9 27 (.tmp 0) rfl ⟨b0,0,none⟩ rfl _ (yh underlying27 rfl (y7 g.1.1 rfl))) j ?_;refine uh 1 (.pointer (some ⟨x,0,none⟩)) rfl (fun W g=>by rfl) j ?_;refine uh 2 (.pointer (some ⟨x,0+7,none⟩)) rfl (fun W g=>yx 84 (.tmp 10) 4 rfl x (0) rfl 7 (by rfl)) j ?_;refine uh 3 (.agg #[.string ⟨#[]⟩,.int .i64 t.pl,r]) rfl (fun W g=>y9 82 (.tmp 11) rfl ⟨x,0+7,none⟩ rfl _ (NT g.2)) j ?_;refine uh 4 (.string k) rfl (fun W g=>y9 9 (.tmp 1) rfl ⟨b1,0,none⟩ rfl _ (yh underlying9 rfl (y7 g.1.2 rfl))) j ?_;refine yi (i:=5) (by kernel_rfl) (yp rfl (by rfl) 46 #[.agg #[.string ⟨#[]⟩,.int .i64 t.pl,r],.string k] (yn _ _ _ rfl _ (by simp[Act.eval]) (YZ _ _)) _ (H.out _ o) ?_);rintro e f⟨rfl,y⟩;have b:Bx2 b0 b1 x k f/\Qm x v c t r f:=⟨j.1.k y,y.get j.2 (by simp)⟩
 refine⟨_,rfl,b,?_⟩;simp only[zz];refine uh 6 (.tuple #[.string V,.bool B]) rfl (fun W g=>by rfl) b ?_;refine uh 7 (.string V) rfl (fun W g=>by rfl) b ?_;refine uh 8 (.bool B) rfl (fun W g=>by rfl) b ?_;have m:=(hq.k o).k y;have s:y6 [q2] f (f.setCell ⟨q2,0,none⟩ (.string V)):=(y6.refl _ _).setCell (Or.inl (by simp)) _;have l:VB q2 q3 V false (f.setCell ⟨q2,0,none⟩ (.string V)):=⟨yf (i:=0) (.string V) m.1,s.get m.2 (by simpa using D.symm)⟩
 have d:Bx2 b0 b1 x k (f.setCell ⟨q2,0,none⟩ (.string V))/\Qm x v c t r (f.setCell ⟨q2,0,none⟩ (.string V)):=by
  refine⟨⟨s.get b.1.1 ?_,s.get b.1.2 (by simpa using rM)⟩,s.get b.2 ?_⟩
  ·simp;intro e;subst e;have:=Tg.ne ⟨_,_,b.1.1⟩ ⟨_,_,m.1⟩;revert this;decide
  ·simp;intro e;subst e;have:=Tg.ne ⟨_,_,b.2⟩ ⟨_,_,m.1⟩;revert this;decide
 refine yi (i:=9) (by kernel_rfl) (qo rfl rfl _ (yK 9 (.tmp 2) (.tmp 15) rfl ⟨q2,0,none⟩ rfl _ rfl (qR szs rfl m.1 (by simp))) ⟨d,?_⟩);simp only[zz];have u:y6 [q3] (f.setCell ⟨q2,0,none⟩ (.string V)) ((f.setCell ⟨q2,0,none⟩ (.string V)).setCell ⟨q3,0,none⟩ (.bool B)):=(y6.refl _ _).setCell (Or.inl (by simp)) _;have F:VB q2 q3 V B ((f.setCell ⟨q2,0,none⟩ (.string V)).setCell ⟨q3,0,none⟩ (.bool B)):=⟨u.get l.1 (by simpa using D),yf (i:=0) (.bool B) l.2⟩
 have p:Bx2 b0 b1 x k ((f.setCell ⟨q2,0,none⟩ (.string V)).setCell ⟨q3,0,none⟩ (.bool B))/\Qm x v c t r ((f.setCell ⟨q2,0,none⟩ (.string V)).setCell ⟨q3,0,none⟩ (.bool B)):=by
  refine⟨⟨u.get d.1.1 ?_,u.get d.1.2 ?_⟩,u.get d.2 ?_⟩
  ·simp;intro e;subst e;have:=Tg.ne ⟨_,_,d.1.1⟩ ⟨_,_,l.2⟩;revert this;decide
  ·simp;intro e;subst e;have:=Tg.ne ⟨_,_,d.1.2⟩ ⟨_,_,l.2⟩;revert this;decide
  ·simp;intro e;subst e;have:=Tg.ne ⟨_,_,d.2⟩ ⟨_,_,l.2⟩;revert this;decide
 refine yi (i:=10) (by kernel_rfl) (qo rfl rfl _ (yK 4 (.tmp 3) (.tmp 16) rfl ⟨q3,0,none⟩ rfl _ rfl (qR szb rfl l.2 (by simp))) ⟨p,?_⟩);simp only[zz];refine aK (by kernel_rfl) ?_ _;have K:Hid (y6 [q2,q3] w ((f.setCell ⟨q2,0,none⟩ (.string V)).setCell ⟨q3,0,none⟩ (.bool B))):=(((o.trans y).mono (by simp)).trans (s.mono (by simp))).trans (u.mono (by simp));have G:Hid _:=F;clear j b d p F l m;go_wp2;go_end0;exact⟨rfl,G.out,K.out⟩
theorem Qde(b0 b1 q2 q3 x:Nat)(k:ByteArray)(w:World)(hb:Bx2 b0 b1 x k w)(hq:VB q2 q3 ⟨#[]⟩ false w)(h:Shut x w):
  Calls prog 43 #[.pointer (some ⟨b0,0,none⟩),.pointer (some ⟨b1,0,none⟩),.pointer (some ⟨q2,0,none⟩),.pointer (some ⟨q3,0,none⟩)] w (jF 5 [] (VB q2 q3 ⟨#[]⟩ false) w):=by
 have i:w.cell? ⟨b0,0,none⟩=some (.pointer (some ⟨x,0,none⟩)):=y7 hb.1 rfl;have b:Hid (Calls _ _ _ _ _):=Zg x w h;have g:Hid _:=hb;have c:Hid (VB q2 q3 ⟨#[]⟩ false w):=hq;clear hb hq;go_enter func43,ntmps43;go_wp2_with(first|(go_at_call 44;refine b.out.mono ?_;rintro e j⟨f,o,rfl,d,a⟩))
 exact⟨rfl,f,o,rfl,d,c.out.k (a),a⟩
theorem XC(b0 b1 q2 q3 x:Nat)(k:ByteArray)(w:World)(hb:Bx2 b0 b1 x k w)(hq:VB q2 q3 ⟨#[]⟩ false w){a n:Nat}{c:Hd}(h:Rec x v a n c r t w)(hk:¬gz k):
  Calls prog 43 #[.pointer (some ⟨b0,0,none⟩),.pointer (some ⟨b1,0,none⟩),.pointer (some ⟨q2,0,none⟩),.pointer (some ⟨q3,0,none⟩)] w (jF 1 [] (VB q2 q3 ⟨#[]⟩ false) w):=by
 have q:w.cell? ⟨b0,0,none⟩=some (.pointer (some ⟨x,0,none⟩)):=y7 hb.1 rfl;have j:Hid (Calls _ _ _ _ _):=jA x v c t r w h.st.1 h.row;have i:Hid (∀W,Calls prog 45 #[.string k] W _):=fun W=>Rp k W hk;have g:Hid _:=hb;have l:Hid (VB q2 q3 ⟨#[]⟩ false w):=hq;clear hb hq;go_enter func43,ntmps43;go_wp2_with(first|(go_at_call 44;refine j.out.mono ?_;rintro e p⟨rfl,b⟩;have s:p.cell? ⟨b1,0,none⟩=some (.string k):=y7 (Bx2.k g.out b).2 rfl)|(go_at_call 45;refine(i.out _).mono ?_;rintro e u⟨f,o,rfl,m,d⟩))
 exact⟨rfl,f,o,rfl,m,l.out.k (b.trans d),b.trans d⟩
theorem O5(x:Nat)(k V:ByteArray)(B:Bool)(P:Value->World->Prop)(hP:∀err W W',P err W->y6 [] W W'->P err W')(hV:V.size<=1000)(w:World)
  (hc:∀b,Calls prog 42 #[.string b,.func (.func 43) #[] #[.pointer (some ⟨w.heap.size,0,none⟩),.pointer (some ⟨w.heap.size+1,0,none⟩),.pointer (some ⟨w.heap.size+1+1,0,none⟩),.pointer (some ⟨w.heap.size+1+1+1,0,none⟩)]] ((((w.alloc (.cells #[.pointer (some ⟨x,0,none⟩)] 27)).alloc (.cells #[.string k] 9)).alloc (.cells #[.string ⟨#[]⟩] 9)).alloc (.cells #[.bool false] 4)) (jc (fun err W=>P err W/\VB (w.heap.size+1+1) (w.heap.size+1+1+1) V B W) [w.heap.size+1+1,w.heap.size+1+1+1] ((((w.alloc (.cells #[.pointer (some ⟨x,0,none⟩)] 27)).alloc (.cells #[.string k] 9)).alloc (.cells #[.string ⟨#[]⟩] 9)).alloc (.cells #[.bool false] 4)))):
  Calls prog 20 #[.pointer (some ⟨x,0,none⟩),.string k] w fun e w'=>∃err,e=.returned (.tuple #[.string V,.bool B,err])/\P err w'/\y6 [] w w':=by
 have n:Hid (∀b,Calls _ _ _ _ _):=hc;have t:=j2;have o:Hid _:=hP;clear hc hP;go_enter func20,ntmps20;go_wp2_with(go_at_call 42;refine(n.out _).mono ?_;rintro e g⟨err,rfl,⟨m,r⟩,j⟩;have p:Hid (P err g):=m;clear m)
 have q:y6 [] w g.drew:=(((((y6.refl [] w).alloc _).alloc _).alloc _).alloc _).trans2 j.drew fun z s=>Or.inr (by simp at s;omega);have f:VB (w.heap.size+1+1) (w.heap.size+1+1+1) V B g.drew:=r;refine yo (VB (w.heap.size+1+1) (w.heap.size+1+1+1) V B) (by kernel_rfl) ?_;refine uh 0 (.string V) rfl (fun W c=>y9 9 (.tmp 7) rfl ⟨w.heap.size+1+1,0,none⟩ rfl _ (yh underlying9 rfl (y7 c.1 rfl))) f ?_;refine uh 2 (.bool B) rfl (fun W c=>y9 4 (.tmp 8) rfl ⟨w.heap.size+1+1+1,0,none⟩ rfl _ (yh underlying4 rfl (y7 c.2 rfl))) f ?_;refine uh 3 err rfl (fun W c=>by rfl) f ?_;refine yi (i:=1) (by kernel_rfl) (yp rfl (by rfl) 47 #[.string V] (yn _ _ _ rfl _ (by simp[Act.eval]) (Zp _ _)) _ (Pk V _ (by omega)) ?_);rintro e l⟨rfl,d⟩;have a:VB (w.heap.size+1+1) (w.heap.size+1+1+1) V B l:=f.k d;refine⟨_,rfl,a,?_⟩;simp only[zz];refine uh 4 (.string V) rfl (fun W c=>by rfl) a ?_;refine uh 5 (.bool B) rfl (fun W c=>by rfl) a ?_;refine uh 6 err rfl (fun W c=>by rfl) a ?_;refine aK (by kernel_rfl) ?_ _;have h:Hid (P err l/\y6 [] w l):=⟨o.out _ _ _ p.out ((y6.refl [] g).drew.trans d),q.trans d⟩
 clear f a;go_wp2;refine aR (results_tmp3 rfl _ _ _) rfl ?_;exact⟨err,rfl,h.out⟩
end Go.Proofs.YtcklgafpgdhnaaaGreatDoor
