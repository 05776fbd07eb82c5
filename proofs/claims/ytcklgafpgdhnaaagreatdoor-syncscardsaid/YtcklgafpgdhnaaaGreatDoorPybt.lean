import Derived.Test.YtcklgafpgdhnaaaGreatDoorPybs
set_option maxRecDepth 100000
set_option maxHeartbeats 4000000
set_option linter.unusedSimpArgs false
set_option linter.unusedVariables false
set_option linter.unusedSectionVars false
open Go.Proofs.Tryz
namespace Go.Proofs.YtcklgafpgdhnaaaGreatDoor
open Go.RowKit
theorem Qfp(k v:ByteArray)(b:Bool)(l:List Pr):(gK k v b l).length<=l.length+1-b.toNat:=by
 induction l generalizing b with
 |nil=>cases b<;>simp[gK]
 |cons p r ih=>
  rw[qX];have a:=ih (b|| !bl p.1 k)
  cases b<;>cases c:bl p.1 k<;>cases d:be p.1 k<;>simp[c]at a⊢<;>omega
set_option maxRecDepth 4000 in
theorem WY(k v:ByteArray)(l:List Pr):(yy k v l).length<=l.length+1:=by
 have:=Qfp k v false l
 simpa[yy]using this
theorem one1(p:Option Addr)(n c:Nat):(#[Value.slice p n c]:Array Value).all (·.oneCell')=true:=by
 have a:(Value.slice p n c).oneCell'=true:=rfl;simp[a]
theorem Qfr(k:ByteArray)(l:List Pr):(ym k l).length<=l.length:=dt _ _
theorem S9(args:Array Value)(w:World):(callFunc 140 args).run prog w=.ok (.enter 140 args) w:=qy func140 (by kernel_rfl) (by kernel_rfl) args w
def RmS(b:Nat)(px:Option Addr)(vl:Value)(f c:Bool)(mo ch:Int)(lv wv:Value)(q a:Nat)(R:Rc)(bx:Nat)(vn:Value)(W:World):Prop:=
 OR W b px vl f c mo ch lv wv/\LD W q a R (.pointer (some ⟨b,0,none⟩))/\W.heap[bx]?=some (.cells #[vn] 189 (0,0))
theorem Qft(I:yB)(s:Sx)(o:Ox)(q:Nat)(R:Rc)(bv cv:Value)(D:Dv)(k v:ByteArray)(w:World)(hG:qW w)(ig:1∉s.fp)(hq:LD w q s.a R (.pointer (some ⟨o.b,0,none⟩)))(hd:DQ w s.a bv s.n cv D)(hs:I.SI w s D)(ho:OI w s o)(hl:s.l.length<=40000)(iW:s.mo<=40000)(fQ:s.ch<=40000)(hn:R.n=s.n):
  Calls prog 100 #[.pointer (some ⟨q,0,none⟩),.string k,.string v,.bool false] w (je I s o w q R bv cv D):=by
 have cq0:w.cell? ⟨q,0,none⟩=some (.pointer (some ⟨s.a,0,none⟩)):=y7 hq rfl;have cq7:w.cell? ⟨q,7,none⟩=some (.pointer (some ⟨o.b,0,none⟩)):=y7 hq rfl;have ua:w.cell? ⟨o.b,0,none⟩=some (.pointer (some ⟨s.x,0,none⟩)):=y7 ho.r rfl;have HT:Hid (Calls _ _ _ _ _):=qD s.a bv cv D w hd.d;have oK:Hid (Calls _ _ _ _ _):=I.put w s D k v hs;have HN:Hid (R.n=s.n):=hn;clear hn;have nq:q∉s.fp:=I.nt hs hq (by decide);go_enter func100,ntmps100;go_wp2_with(first|(go_at_call 130;refine HT.out.mono ?_;rintro e V⟨rfl,rfl⟩))
 refine oK.out.mono ?_;rintro e w2⟨s',err,x,rfl,Q,C,fZ,B⟩;have k2:=Q.2.2.2.2.2.2.2.1;obtain⟨r1,r2,r3⟩:=ho.aft I hs k2;have il:=hG.kept k2 ig;have q2:=k2.get hq nq
 by_cases f:chg s.cl s.fl k v=0
 ·rw[if_neg (by simp[f])]at B;rcases B with⟨rfl,h,S⟩|⟨rfl,h,S,hroom⟩
  ·go_wp2_with(first|(go_at_call 131;refine(fZ _ (y6.refl _ _) il).mono ?_;rintro e L⟨rfl,c⟩;have K:OR L o.b (some ⟨s.x,0,none⟩) o.vl s.fl s.cl s.mo s.ch o.lv o.wv:=c.get r1 (by simp);have J:=K.store;have v3:=r2.kept c (by simp);have Y:LD L q s.a R (.pointer (some ⟨o.b,0,none⟩)):=c.get q2 (by simp))|(refine y8 rfl 192 (.tmp 43) rfl ⟨o.b,1,none⟩ rfl _ J ?_)|(go_at_call 133;refine(qv _ _).mono ?_;rintro e V⟨rfl,G⟩;rw[G];clear G V)|(go_at_call 137;refine(Q2 _ _ _ _ _ _ _ _).mono ?_;rintro e M⟨rfl,z⟩;rw[f];have O:OR M o.b (some ⟨s.x,0,none⟩) o.vl s.fl s.cl s.mo s.ch o.lv o.wv:=z.get K (by simp);have T:=O.map;have v4:=v3.kept z (by simp);have fL:LD M q s.a R (.pointer (some ⟨o.b,0,none⟩)):=z.get Y (by simp);clear J)|(refine y8 rfl 189 (.tmp 57) rfl ⟨o.b,1,none⟩ rfl _ T ?_)|(go_at_call 138;refine(RA o.vl s.l k v _ v4 (by omega)).mono ?_;rintro e j⟨vn,rfl,pn,fn,N⟩;obtain⟨y,t,rfl⟩:=pn.shape;have rG:OR j o.b (some ⟨s.x,0,none⟩) o.vl s.fl s.cl s.mo s.ch o.lv o.wv:=N.get O (by simp);clear T;have kV:LD j q s.a R (.pointer (some ⟨o.b,0,none⟩)):=N.get fL (by simp))|(refine qn rfl 189 rfl #[.slice none 0 0] (by rfl) ?_;intro w6 n6 k6 _;(refine ye rfl 189 (.tmp 14) (.tmp 61) rfl j.heap.size #[.slice y (yy k v s.l).length t] rfl rfl 189 _ n6 smap rfl (one1 _ _ _) ?_;intro g n7 k7;have H:y6 [] j g:=k6.trans2 k7 (by intro x Z;simp at Z;subst Z;exact Or.inr (ag _));have P:OR g o.b (some ⟨s.x,0,none⟩) o.vl s.fl s.cl s.mo s.ch o.lv o.wv:=H.get rG (by simp);have zk:g.cell? ⟨o.b,1,none⟩=some o.vl:=y7 P rfl;have f71:g.frozen? ⟨o.b,1,none⟩=false:=ax _ _ _ _ _ P;have nbx:j.heap.size≠o.b:=(by have:=yt rG;omega);have Bp:g.cell? ⟨j.heap.size,0,none⟩=some (.slice y (yy k v s.l).length t):=y7 n7 rfl))
  )
   have k8:y6 [o.b] g (g.setCell ⟨o.b,1,none⟩ (.slice y (yy k v s.l).length t)):=(y6.refl _ _).setCell (Or.inl (by simp)) _;have U:OR (g.setCell ⟨o.b,1,none⟩ (.slice y (yy k v s.l).length t)) o.b (some ⟨s.x,0,none⟩) (.slice y (yy k v s.l).length t) s.fl s.cl s.mo s.ch o.lv o.wv:=yf (i:=1) _ P;have n8:=k8.get n7 (by simpa using nbx);generalize sq:g.setCell ⟨o.b,1,none⟩ (.slice y (yy k v s.l).length t)=F at*;have Ct:Hid _:=sq;clear sq zk f71 Bp;have JA:F.cell? ⟨o.b,4,none⟩=some (.int .i64 s.mo):=y7 U rfl;have JB:F.cell? ⟨o.b,5,none⟩=some (.int .i64 s.ch):=y7 U rfl;have f84:F.frozen? ⟨o.b,4,none⟩=false:=ax _ _ _ _ _ U;have f85:F.frozen? ⟨o.b,5,none⟩=false:=ax _ _ _ _ _ U;have JC:F.cell? ⟨j.heap.size,0,none⟩=some (.slice y (yy k v s.l).length t):=y7 n8 rfl;have F8:=WY k v s.l;have s8:s'.mo=max s.mo (yy k v s.l).length:=by rw[Q.2.2.2.2.2.1,h]
   have k27:y6 [] w2 g:=((c.trans z).trans N).trans H;have Dx:=ho.m
   by_cases hgt:s.mo<(yy k v s.l).length
   ·have gi:(s.mo:Int)<((yy k v s.l).length:Int):=by omega
    go_quiet (fail)
    go_wp2;go_ret;have k9:y6 [o.b] g (((F.drewN nq).setCell ⟨o.b,4,none⟩ (.int .i64 ((yy k v s.l).length:Nat))).setCell ⟨o.b,5,none⟩ (.int .i64 ((s.ch:Int)+1))):=
     (((k8.drewN nq).setCell (p:=⟨o.b,4,none⟩) (Or.inl (by simp)) _).setCell (p:=⟨o.b,5,none⟩) (Or.inl (by simp)) _)
    refine je.upd I hq hd hs ho Q k27 (vl':=.slice y (yy k v s.l).length t) (by omega) (by omega) (by rw[h];omega) ?_ (by rw[h];exact pn.kept H (by simp)) k9;rw[s8,Nat.max_eq_right (by omega),C,S];exact yf (i:=5) _ (yf (i:=4) _ (show OR (F.drewN nq) _ _ _ _ _ _ _ _ _ from U))
   ·have gi:¬(s.mo:Int)<((yy k v s.l).length:Int):=by omega
    go_quiet (fail)
    go_wp2;go_ret;have k9:y6 [o.b] g ((F.drewN nq).setCell ⟨o.b,5,none⟩ (.int .i64 ((s.ch:Int)+1))):=
     ((k8.drewN nq).setCell (p:=⟨o.b,5,none⟩) (Or.inl (by simp)) _)
    refine je.upd I hq hd hs ho Q k27 (vl':=.slice y (yy k v s.l).length t) (by omega) (by omega) (by rw[h];omega) ?_ (by rw[h];exact pn.kept H (by simp)) k9;rw[s8,dB (by omega),C,S];exact yf (i:=5) _ (show OR (F.drewN nq) _ _ _ _ _ _ _ _ _ from U)
  ·go_wp2_with(first|(go_at_call 131;refine(fZ _ (y6.refl _ _) il).mono ?_;rintro e L⟨rfl,c⟩;have K:OR L o.b (some ⟨s.x,0,none⟩) o.vl s.fl s.cl s.mo s.ch o.lv o.wv:=c.get r1 (by simp);have J:=K.store;have v3:=r2.kept c (by simp);have Y:LD L q s.a R (.pointer (some ⟨o.b,0,none⟩)):=c.get q2 (by simp))|(refine y8 rfl 192 (.tmp 43) rfl ⟨o.b,1,none⟩ rfl _ J ?_)|(go_at_call 133;refine(qv _ _).mono ?_;rintro e V⟨rfl,G⟩;rw[G];clear G V)|(go_at_call 137;refine(Q2 _ _ _ _ _ _ _ _).mono ?_;rintro e M⟨rfl,z⟩;rw[f];have O:OR M o.b (some ⟨s.x,0,none⟩) o.vl s.fl s.cl s.mo s.ch o.lv o.wv:=z.get K (by simp);have T:=O.map;have v4:=v3.kept z (by simp);have fL:LD M q s.a R (.pointer (some ⟨o.b,0,none⟩)):=z.get Y (by simp);clear J)|(refine y8 rfl 189 (.tmp 57) rfl ⟨o.b,1,none⟩ rfl _ T ?_)|(go_at_call 138;refine(RA o.vl s.l k v _ v4 (by omega)).mono ?_;rintro e j⟨vn,rfl,pn,fn,N⟩;obtain⟨y,t,rfl⟩:=pn.shape;have rG:OR j o.b (some ⟨s.x,0,none⟩) o.vl s.fl s.cl s.mo s.ch o.lv o.wv:=N.get O (by simp);clear T;have kV:LD j q s.a R (.pointer (some ⟨o.b,0,none⟩)):=N.get fL (by simp))|(refine qn rfl 189 rfl #[.slice none 0 0] (by rfl) ?_;intro w6 n6 k6 _;(refine ye rfl 189 (.tmp 14) (.tmp 61) rfl j.heap.size #[.slice y (yy k v s.l).length t] rfl rfl 189 _ n6 smap rfl (one1 _ _ _) ?_;intro g n7 k7;have H:y6 [] j g:=k6.trans2 k7 (by intro x Z;simp at Z;subst Z;exact Or.inr (ag _));have P:OR g o.b (some ⟨s.x,0,none⟩) o.vl s.fl s.cl s.mo s.ch o.lv o.wv:=H.get rG (by simp);have zk:g.cell? ⟨o.b,1,none⟩=some o.vl:=y7 P rfl;have f71:g.frozen? ⟨o.b,1,none⟩=false:=ax _ _ _ _ _ P;have q7:LD g q s.a R (.pointer (some ⟨o.b,0,none⟩)):=H.get kV (by simp);have nbx:j.heap.size≠o.b:=(by have:=yt rG;omega);have Bp:g.cell? ⟨j.heap.size,0,none⟩=some (.slice y (yy k v s.l).length t):=y7 n7 rfl))
  )
   have X:Hid (decide (3*max (s.mo:Int) ((yy k v s.l).length:Nat)+12<=R.n)=false):=by
    have:=hroom;unfold LK at this;have e2:max (s.mo:Int) ((yy k v s.l).length:Nat)=((max s.mo (yy k v s.l).length:Nat):Int):=by omega
    show _=_;rw[e2,HN.out,decide_eq_false_iff_not];omega
   have F8:=WY k v s.l;have u:RmS o.b (some ⟨s.x,0,none⟩) o.vl s.fl s.cl s.mo s.ch o.lv o.wv q s.a R j.heap.size (.slice y (yy k v s.l).length t) g.drew:=⟨P,q7,n7⟩
   refine yo (RmS o.b (some ⟨s.x,0,none⟩) o.vl s.fl s.cl s.mo s.ch o.lv o.wv q s.a R j.heap.size (.slice y (yy k v s.l).length t)) (by kernel_rfl) ?_;refine uh 0 (.pointer (some ⟨o.b,0,none⟩)) rfl (fun W A=>by rfl) u ?_;refine uh 1 (.pointer (some ⟨o.b,0,none⟩)) rfl (fun W A=>by rfl) u ?_;refine uh 2 (.pointer (some ⟨o.b,1,none⟩)) rfl (fun W A=>by rfl) u ?_;refine uh 3 (.agg (ZG o.vl s.fl s.cl s.mo s.ch)) rfl (fun W A=>y9 192 (.tmp 118) rfl ⟨o.b,1,none⟩ rfl _ A.1.store) u ?_;refine uh 4 (.pointer (some ⟨q,0,none⟩)) rfl (fun W A=>by rfl) u ?_;refine uh 5 (.pointer (some ⟨q,0,none⟩)) rfl (fun W A=>by rfl) u ?_;refine uh 6 (.pointer (some ⟨q,1,none⟩)) rfl (fun W A=>by rfl) u ?_;refine uh 7 (.pointer (some ⟨q,1,none⟩)) rfl (fun W A=>by rfl) u ?_;refine uh 8 (.int .i64 R.n) rfl (fun W A=>y9 3 (.tmp 123) rfl ⟨q,1,none⟩ rfl _ (yh underlying3 rfl (y7 A.2.1 rfl))) u ?_;refine uh 9 (.pointer (some ⟨j.heap.size,0,none⟩)) rfl (fun W A=>by rfl) u ?_;refine uh 10 (.slice y (yy k v s.l).length t) rfl (fun W A=>y9 187 (.tmp 125) rfl ⟨j.heap.size,0,none⟩ rfl _ (yh underlying187 rfl (y7 A.2.2 rfl))) u ?_;refine uh 11 (.int .i64 ((yy k v s.l).length:Nat)) rfl (fun W A=>gF (.tmp 126) 187 224 rfl _ _ _ rfl underlying187) u ?_;refine yi (i:=12) (by kernel_rfl) (yp rfl (by rfl) 140 #[.agg (ZG o.vl s.fl s.cl s.mo s.ch),.int .i64 R.n,.int .i64 ((yy k v s.l).length:Nat)] (yn _ _ _ rfl _ (by simp[Act.eval]) (S9 _ _)) _ (RY o.vl s.fl s.cl s.mo s.ch R.n ((yy k v s.l).length:Nat) _ (by omega) (by omega)) ?_);rintro e w9⟨rfl,E⟩;have mD:RmS o.b (some ⟨s.x,0,none⟩) o.vl s.fl s.cl s.mo s.ch o.lv o.wv q s.a R j.heap.size (.slice y (yy k v s.l).length t) w9:=⟨E.get u.1 (by simp),E.get u.2.1 (by simp),E.get u.2.2 (by simp)⟩
   refine⟨_,rfl,mD,?_⟩;simp only[zz];rw[X.out];refine yi (i:=13) (by kernel_rfl) (yX rfl rfl (.bool false) w9 rfl ⟨mD,?_⟩);simp only[zz];refine aK (by kernel_rfl) ?_ _;have vV:y6 [] w2 w9:=((((c.trans z).trans N).trans H).drew).trans E;clear u mD;go_wp2;go_ret;exact je.same I hq hd hs ho Q C h S vV
 ·rw[if_pos (by simpa using f)]at B;obtain⟨rfl,h,S⟩:=B;have hne:((chg s.cl s.fl k v)==0)=false:=by simpa using f
  generalize hcc:chg s.cl s.fl k v=cc at*;go_wp2_with(first|(go_at_call 131;refine(fZ _ (y6.refl _ _) il).mono ?_;rintro e L⟨rfl,c⟩;have K:OR L o.b (some ⟨s.x,0,none⟩) o.vl s.fl s.cl s.mo s.ch o.lv o.wv:=c.get r1 (by simp);have J:=K.store;have v3:=r2.kept c (by simp);have Y:LD L q s.a R (.pointer (some ⟨o.b,0,none⟩)):=c.get q2 (by simp))|(refine y8 rfl 192 (.tmp 43) rfl ⟨o.b,1,none⟩ rfl _ J ?_)|(go_at_call 133;refine(qv _ _).mono ?_;rintro e V⟨rfl,G⟩;rw[G];clear G V)|(go_at_call 137;refine(Q2 _ _ _ _ _ _ _ _).mono ?_;rintro e M⟨rfl,z⟩;rw[hcc];have O:OR M o.b (some ⟨s.x,0,none⟩) o.vl s.fl s.cl s.mo s.ch o.lv o.wv:=z.get K (by simp);have T:=O.map;have v4:=v3.kept z (by simp);have fL:LD M q s.a R (.pointer (some ⟨o.b,0,none⟩)):=z.get Y (by simp);clear J))
  go_ret;exact je.same I hq hd hs ho Q C h S (c.trans z)
theorem Qfu(I:yB)(s:Sx)(o:Ox)(q:Nat)(R:Rc)(bv cv:Value)(D:Dv)(k v:ByteArray)(w:World)(hG:qW w)(ig:1∉s.fp)(hq:LD w q s.a R (.pointer (some ⟨o.b,0,none⟩)))(hd:DQ w s.a bv s.n cv D)(hs:I.SI w s D)(ho:OI w s o)(hl:s.l.length<=40000)(_hmo:s.mo<=40000)(fQ:s.ch<=40000)(hn:R.n=s.n):
  Calls prog 100 #[.pointer (some ⟨q,0,none⟩),.string k,.string v,.bool true] w (je I s o w q R bv cv D):=by
 have cq0:w.cell? ⟨q,0,none⟩=some (.pointer (some ⟨s.a,0,none⟩)):=y7 hq rfl;have cq7:w.cell? ⟨q,7,none⟩=some (.pointer (some ⟨o.b,0,none⟩)):=y7 hq rfl;have ua:w.cell? ⟨o.b,0,none⟩=some (.pointer (some ⟨s.x,0,none⟩)):=y7 ho.r rfl;have HT:Hid (Calls _ _ _ _ _):=qD s.a bv cv D w hd.d;have oK:Hid (Calls _ _ _ _ _):=I.del w s D k hs;have HN:Hid (R.n=s.n):=hn;clear hn;have nq:q∉s.fp:=I.nt hs hq (by decide);go_enter func100,ntmps100;go_wp2_with(first|(go_at_call 130;refine HT.out.mono ?_;rintro e P⟨rfl,rfl⟩))
 refine oK.out.mono ?_;rintro e w2⟨s',err,rfl,N,F,h⟩;have W:=N.2.2.2.2.2.2.2.1;obtain⟨r1,r2,r3⟩:=ho.aft I hs W;have il:=hG.kept W ig;have q2:=W.get hq nq
 by_cases c:chg s.cl s.fl k ⟨#[]⟩=0
 ·rw[if_neg (by simp[c])]at h;obtain⟨T,t,Q⟩:=h
  ·go_wp2_with(first|(go_at_call 131;refine(T _ (y6.refl _ _) il).mono ?_;rintro e K⟨rfl,f⟩;have H:OR K o.b (some ⟨s.x,0,none⟩) o.vl s.fl s.cl s.mo s.ch o.lv o.wv:=f.get r1 (by simp);have G:=H.store;have v3:=r2.kept f (by simp);have S:LD K q s.a R (.pointer (some ⟨o.b,0,none⟩)):=f.get q2 (by simp))|(refine y8 rfl 192 (.tmp 43) rfl ⟨o.b,1,none⟩ rfl _ G ?_)|(go_at_call 133;refine(qv _ _).mono ?_;rintro e P⟨rfl,E⟩;rw[E];clear E P)|(go_at_call 137;refine(Q2 _ _ _ _ _ _ _ _).mono ?_;rintro e L⟨rfl,u⟩;rw[c];have O:OR L o.b (some ⟨s.x,0,none⟩) o.vl s.fl s.cl s.mo s.ch o.lv o.wv:=u.get H (by simp);have Z:=O.map;have v4:=v3.kept u (by simp);have fL:LD L q s.a R (.pointer (some ⟨o.b,0,none⟩)):=u.get S (by simp);clear G)|(refine y8 rfl 189 (.tmp 57) rfl ⟨o.b,1,none⟩ rfl _ Z ?_)|(go_at_call 138;(refine(RA o.vl s.l k ⟨#[]⟩ _ v4 (by omega)).mono ?_;rintro e A⟨vn,rfl,pn,fn,M⟩;obtain⟨pp,cp,rfl⟩:=pn.shape;have v5:=v4.kept M (by simp);have rG:OR A o.b (some ⟨s.x,0,none⟩) o.vl s.fl s.cl s.mo s.ch o.lv o.wv:=M.get O (by simp);clear Z;have kV:LD A q s.a R (.pointer (some ⟨o.b,0,none⟩)):=M.get fL (by simp)))|(refine qn rfl 189 rfl #[.slice none 0 0] (by rfl) ?_;intro w6 n6 k6 _;refine ye rfl 189 (.tmp 14) (.tmp 61) rfl A.heap.size #[.slice pp (yy k ⟨#[]⟩ s.l).length cp] rfl rfl 189 _ n6 smap rfl (one1 _ _ _) ?_;intro w7 n7 k7;have U:y6 [] A w7:=k6.trans2 k7 (by intro x B;simp at B;subst B;exact Or.inr (ag _));have nY:OR w7 o.b (some ⟨s.x,0,none⟩) o.vl s.fl s.cl s.mo s.ch o.lv o.wv:=U.get rG (by simp);have Y:A.heap.size≠o.b:=(by have:=yt rG;omega);have v7:=v5.kept U (by simp);have Bq:=nY.map)|(refine y8 rfl 189 (.tmp 66) rfl ⟨o.b,1,none⟩ rfl _ Bq ?_)|(go_at_call 139;refine(Y4 o.vl s.l k _ v7 (by omega)).mono ?_;rintro e wa⟨vn,rfl,pa,fa,oI⟩;obtain⟨z,y,rfl⟩:=pa.shape;have ra:OR wa o.b (some ⟨s.x,0,none⟩) o.vl s.fl s.cl s.mo s.ch o.lv o.wv:=oI.get nY (by simp);have na:=oI.get n7 (by simp);clear Bq)|(refine ye rfl 189 (.tmp 14) (.tmp 69) rfl A.heap.size #[.slice z (ym k s.l).length y] rfl rfl 189 _ na smap rfl (one1 _ _ _) ?_;intro j nb kb;have F9:y6 [] A j:=(U.trans oI).trans2 kb (by intro x B;simp at B;subst B;exact Or.inr (ag _));have rb:OR j o.b (some ⟨s.x,0,none⟩) o.vl s.fl s.cl s.mo s.ch o.lv o.wv:=F9.get rG (by simp);have zk:j.cell? ⟨o.b,1,none⟩=some o.vl:=y7 rb rfl;have f71:j.frozen? ⟨o.b,1,none⟩=false:=ax _ _ _ _ _ rb;have Bp:j.cell? ⟨A.heap.size,0,none⟩=some (.slice z (ym k s.l).length y):=y7 nb rfl;have pb:PL j 224 (.slice z (ym k s.l).length y) (ym k s.l):=pa.kept kb (fun g hg B=>by simp at B;subst B;exact qH (pa.tag hg) ⟨_,_,na⟩ (by decide) rfl))
  )
   have k8:y6 [o.b] j (j.setCell ⟨o.b,1,none⟩ (.slice z (ym k s.l).length y)):=(y6.refl _ _).setCell (Or.inl (by simp)) _;have J:OR (j.setCell ⟨o.b,1,none⟩ (.slice z (ym k s.l).length y)) o.b (some ⟨s.x,0,none⟩) (.slice z (ym k s.l).length y) s.fl s.cl s.mo s.ch o.lv o.wv:=yf (i:=1) _ rb;have n8:=k8.get nb (by simpa using Y);generalize sq:j.setCell ⟨o.b,1,none⟩ (.slice z (ym k s.l).length y)=C at*;have Ct:Hid _:=sq;clear sq zk f71 Bp;have JA:C.cell? ⟨o.b,4,none⟩=some (.int .i64 s.mo):=y7 J rfl;have JB:C.cell? ⟨o.b,5,none⟩=some (.int .i64 s.ch):=y7 J rfl;have f84:C.frozen? ⟨o.b,4,none⟩=false:=ax _ _ _ _ _ J;have f85:C.frozen? ⟨o.b,5,none⟩=false:=ax _ _ _ _ _ J;have JC:C.cell? ⟨A.heap.size,0,none⟩=some (.slice z (ym k s.l).length y):=y7 n8 rfl;have F8:=Qfr k s.l;have s8:s'.mo=max s.mo (ym k s.l).length:=by rw[N.2.2.2.2.2.1,t]
   have X:y6 [] w2 j:=((f.trans u).trans M).trans F9;have Dx:=ho.m
   by_cases hgt:s.mo<(ym k s.l).length
   ·omega
   ·have gi:¬(s.mo:Int)<((ym k s.l).length:Int):=by omega
    go_quiet (fail)
    go_wp2;go_ret;have k9:y6 [o.b] j ((C.drewN nq).setCell ⟨o.b,5,none⟩ (.int .i64 ((s.ch:Int)+1))):=
     ((k8.drewN nq).setCell (p:=⟨o.b,5,none⟩) (Or.inl (by simp)) _)
    refine je.upd I hq hd hs ho N X (vl':=.slice z (ym k s.l).length y) (by omega) (by omega) (by rw[t];omega) ?_ (by rw[t];exact pb) k9;rw[s8,dB (by omega),F,Q];exact yf (i:=5) _ (show OR (C.drewN nq) _ _ _ _ _ _ _ _ _ from J)
 ·rw[if_pos (by simpa using c)]at h;obtain⟨T,t,Q⟩:=h;have hne:((chg s.cl s.fl k ⟨#[]⟩)==0)=false:=by simpa using c
  generalize V:chg s.cl s.fl k ⟨#[]⟩=cc at*;go_wp2_with(first|(go_at_call 131;refine(T _ (y6.refl _ _) il).mono ?_;rintro e K⟨rfl,f⟩;have H:OR K o.b (some ⟨s.x,0,none⟩) o.vl s.fl s.cl s.mo s.ch o.lv o.wv:=f.get r1 (by simp);have G:=H.store;have v3:=r2.kept f (by simp);have S:LD K q s.a R (.pointer (some ⟨o.b,0,none⟩)):=f.get q2 (by simp))|(refine y8 rfl 192 (.tmp 43) rfl ⟨o.b,1,none⟩ rfl _ G ?_)|(go_at_call 133;refine(qv _ _).mono ?_;rintro e P⟨rfl,E⟩;rw[E];clear E P)|(go_at_call 137;refine(Q2 _ _ _ _ _ _ _ _).mono ?_;rintro e L⟨rfl,u⟩;rw[V];have O:OR L o.b (some ⟨s.x,0,none⟩) o.vl s.fl s.cl s.mo s.ch o.lv o.wv:=u.get H (by simp);have Z:=O.map;have v4:=v3.kept u (by simp);have fL:LD L q s.a R (.pointer (some ⟨o.b,0,none⟩)):=u.get S (by simp);clear G))
  go_ret;exact je.same I hq hd hs ho N F t Q (f.trans u)
theorem Vn{l:List Pr}(h:Rs l)(hl:l.length<=1048576):Qu ⟨#[]⟩ ⟨#[255,255,255,255,255,255,255,255,255]⟩ 1048576 l=l:=by
 unfold Qu;rw[Yb,aJ hl];intro p d;have c:=h.2 p d;unfold inR;have a:bl p.1 ⟨#[]⟩=false:=by rw[L7];simp
 have b:bl p.1 ⟨#[255,255,255,255,255,255,255,255,255]⟩=true:=by
  rw[L7];have e:=c.2.1;have f:p.1.data.toList.length=p.1.size:=bZ;have:=UT p.1.data.toList 9 (by omega);exact bM this
 rw[a,b];rfl
def NoM(w:World)(S:List Nat):Prop:=∀y∈S,∀cs t fr,w.heap[y]?=some (.cells cs t fr)->t≠189/\t≠224
theorem NoM.nil(w:World):NoM w []:=fun y a=>by cases a
theorem ML.kept{w w':World}{S:List Nat}{v:Value}{ms:List (List Pr)}(h:ML w v ms)(k:y6 S w w')(hS:NoM w S):ML w' v ms:=by
 obtain⟨z,l,d⟩:=h;have o:∀{c e n m:Nat} {v:Value} {p:List Value},w.ownsRow c e m v n p->e=189\/e=224->∀g,v.ownBlock=some g->g∉S:=by
  intro c e n m v p t q g r u;obtain⟨A,B,s⟩:=yD t r;obtain⟨x,y⟩:=hS g u _ _ _ s;rcases q with e|e
  ·exact x e
  ·exact y e
 exact⟨z,yb l k (o l (Or.inl rfl)),d.1,fun i a b f j=>⟨(d.2 i a b f j).1.kept k (o (d.2 i a b f j).1 (Or.inr rfl)),(d.2 i a b f j).2⟩⟩
variable {w:World}
theorem ML.k{w':World}{v:Value}{ms:List (List Pr)}(h:ML w v ms)(k:y6 [] w w'):ML w' v ms:=h.kept k (NoM.nil w)
theorem yB.nom(I:yB){s:Sx}{D:Dv}(h:I.SI w s D):NoM w s.fp:=fun y d f t g b=>by
 obtain⟨o,a,c⟩:=I.fp h y d;rw[b]at a
 cases a
 have:=c _ _ _ rfl;exact⟨fun e=>this (by rw[e];decide),fun e=>this (by rw[e];decide)⟩
theorem Q9{y:Nat}{cs:Array Value}{t:TypeId}{fr:Nat×Nat}(h:w.heap[y]?=some (.cells cs t fr))(h1:t≠189)(h2:t≠224):NoM w [y]:=fun z b c e d a=>by
 simp at b;subst b;rw[h]at a
 cases a
 exact⟨h1,h2⟩
def FndR(I:yB)(s:Sx)(q:Nat)(R:Rc)(bv cv:Value)(D:Dv)(w:World)(e:Ending)(w':World):Prop:=
 e=.returned (.bool true)/\∃s' o kZ,(s'.x=s.x/\s'.a=s.a/\s'.n=s.n/\s'.cl=false/\s'.fl=false/\s'.l=s.l/\s'.ll=s.ll/\s'.mo=s.l.length/\s'.ch=0)/\(o.xs= []/\o.lv=.slice none 0 0/\o.wv=.slice none 0 0/\w.heap.size<=o.b)/\LD w' q s.a {R with may:=kZ} (.pointer (some ⟨o.b,0,none⟩))/\DQ w' s.a bv s.n cv D/\I.SI w' s' D/\OI w' s' o/\
  (∀y∈s'.fp,y∈s.fp\/w.heap.size<=y)/\(if R.wild then ML w' kZ [s.l]else kZ=R.may)/\y6 (q::s.fp) w w'
theorem QfF(I:yB)(s:Sx)(q:Nat)(R:Rc)(sv bv cv:Value)(D:Dv)(ms:List (List Pr))(w:World)(hG:qW w)(ig:1∉s.fp)(hq:LD w q s.a R sv)(hm:ML w R.may ms)(bm:ms.length<=1000000000)(hd:DQ w s.a bv s.n cv D)(hs:I.SI w s D)(hcl:s.cl=false)(hfl:s.fl=false)(iW:s.mo=s.l.length)(fQ:s.ch=0)(hrs:Rs s.l)(hw:R.wild=false)(hin:s.l∈ms)(wY:∃p,sv=.pointer p):
  Calls prog 136 #[.pointer (some ⟨q,0,none⟩),.pointer (some ⟨s.x,0,none⟩)] w (FndR I s q R bv cv D w):=by
 obtain⟨A,rfl⟩:=wY;have c0:w.cell? ⟨q,0,none⟩=some (.pointer (some ⟨s.a,0,none⟩)):=y7 hq rfl;have HT:Hid (Calls _ _ _ _ _):=qD s.a bv cv D w hd.d;have P:=I.len hs;have DB:Hid (Calls prog 19 #[.pointer (some ⟨s.x,0,none⟩),.string ⟨#[]⟩,.string ⟨#[255,255,255,255,255,255,255,255,255]⟩,.int .i64 1048576] w fun e m=>
  ∃h v,e=.returned (.tuple #[v,.nilIface])/\AftS I.SI s h D w m/\h.cl=s.cl/\h.l=s.l/\h.ch=s.ch/\PL m 41 v s.l):=(I.scan w s D _ _ _ hs).mono fun e m ⟨h,v,err,J,K,N,h4,h5,h6⟩=>by
   simp only[hcl,bj,cQ]at h6;obtain⟨rfl,V,_⟩:=h6;refine⟨h,v,J,K,N,h4,h5,?_⟩;rw[show mst 1048576=1048576 from rfl,Vn hrs (by omega)]at V;exact V
 have fZ:=fun W=>Tl.nil W W (y6.refl _ _);have nq:q∉s.fp:=I.nt hs hq (by decide);have HM:Hid (∀(v:Value) (W:World),y6 s.fp w W->∀H,y6 [] W H->PL H 224 v s.l->Calls prog 165 #[.agg R.cs,v] H fun e m=>e=.returned (.bool true)/\y6 [] H m):=fun v W kW H k2 hp=>
  (SP R.n R.may R.were v R.em R.wild R.bit ms s.l H ((hm.kept kW (I.nom hs)).k k2) hp bm).mono fun e m ⟨r,J,K,N⟩=>by rw[K hin]at J;exact⟨J,N⟩
 have HP:Hid (∀(v:Value) (W:World),PL W 41 v s.l->Calls prog 144 #[v] W fun e m=>∃p c,e=.returned (.slice p s.l.length c)/\PL m 224 (.slice p s.l.length c) s.l/\y6 [] W m):=fun v W hp=>
  (OK v s.l W hp (by omega)).mono fun e m ⟨v3,J,K,_,N⟩=>by
   obtain⟨p,c,e3⟩:=K.shape;subst e3;exact⟨p,c,J,K,N⟩
 have hl0:s.l.length<=20000:=P;generalize hL:s.l.length=z at*;clear hrs hin hm;go_enter func136,ntmps136;go_wp2_with(first|(go_at_call 130;refine HT.out.mono ?_;rintro e m⟨rfl,eA⟩;rw[eA];clear eA m)|(go_at_call 19;refine DB.out.mono ?_;rintro e w1⟨h,v,rfl,eO,hc2,t,eU,V⟩;have L:=eO.2.2.2.2.2.2.2.1;have rH:=hG.kept L ig;have q1:LD w1 q s.a R (.pointer A):=L.get hq nq;clear c0)|(go_at_call 131;refine(fZ _ rH).mono ?_;rintro e w2⟨rfl,O⟩;have p2:=V.kept O (by simp))|(go_at_call 144;refine(HP.out v w2 p2).mono ?_;rintro e w3⟨S,M,rfl,p3,hk3⟩;have vW:=O.trans hk3;have q3:LD w3 q s.a R (.pointer A):=vW.get q1 (by simp);have fB:=q3.load;have HH:=HM.out (.slice S z M) w1 L w3 vW p3)|(refine y8 rfl 151 (.tmp 41) rfl ⟨q,1,none⟩ rfl _ fB ?_)|(go_at_call 165;refine HH.mono ?_;rintro e b⟨rfl,X⟩;have B:LD b q s.a R (.pointer A):=X.get q3 (by simp);have d4:b.cell? ⟨q,5,none⟩=some (.bool false):=(by rw[<-hw];exact y7 B rfl);have p4:=p3.kept X (by simp);have q5:=((y6.refl [] b).alloc (.cells (opnc (some ⟨s.x,0,none⟩) (.slice S z M) false false z 0 (.slice none 0 0) (.slice none 0 0)) 195)).get B (by simp);have JD:=y7 (j:=7) q5 rfl;have f57:=ax _ _ 7 _ _ q5;unfold opnc at JD f57;have xg:b.cell? ⟨q,7,none⟩=some (.pointer A):=y7 B rfl;have f47:b.frozen? ⟨q,7,none⟩=false:=ax _ _ _ _ _ B;have JE:=yt B))
 go_ret;obtain⟨e1,e2,e4,Y,Z,e5,lH,_,hf⟩:=eO;have U:y6 [] w1 b:=vW.trans X;have T:y6 [q] b ((b.setCell ⟨q,7,none⟩ (.pointer (some ⟨b.heap.size,0,none⟩))).alloc (.cells #[.pointer (some ⟨s.x,0,none⟩),.slice S z M,.bool false,.bool false,.int .i64 z,.int .i64 0,.slice none 0 0,.slice none 0 0] 195)):=((y6.refl _ _).setCell (p:=⟨q,7,none⟩) (Or.inl (by simp)) _).alloc _;have q6:LD (b.setCell ⟨q,7,none⟩ (.pointer (some ⟨b.heap.size,0,none⟩))) q s.a R (.pointer (some ⟨b.heap.size,0,none⟩)):=yf (i:=7) _ B;have G:=af (b.setCell ⟨q,7,none⟩ (.pointer (some ⟨b.heap.size,0,none⟩))) (.cells #[.pointer (some ⟨s.x,0,none⟩),.slice S z M,.bool false,.bool false,.int .i64 z,.int .i64 0,.slice none 0 0,.slice none 0 0] 195);have zs:(b.setCell ⟨q,7,none⟩ (.pointer (some ⟨b.heap.size,0,none⟩))).heap.size=b.heap.size:=by simp[World.setCell]
 rw[zs]at G;have Ag:DQ b s.a bv s.n cv D:=(hd.kept L fun y u f=>I.off hs hd y f u).k0 U;have s4:=I.kept lH U (by simp) (by simp);have Q:LT b q:=⟨_,_,_,B,by decide⟩
 have o:h.mo=z:=by rw[e5,t,hL,iW];exact Nat.max_self _
 have E:h.cl=false:=by rw[hc2,hcl]
 have F:h.fl=false:=by rw[Y,hfl]
 have C:h.ch=0:=by rw[eU,fQ]
 refine⟨rfl,h,⟨b.heap.size,.slice S z M,.slice none 0 0,.slice none 0 0,[]⟩,R.may,⟨e1,e2,e4,E,F,t,Z,by rw[hL];exact o,C⟩,⟨rfl,rfl,rfl,av L.size U.size⟩,((y6.refl [] _).alloc _).get q6 (by simp),Ag.kept T (fun y u f=>by simp at f;subst f;exact Ag.no B (by decide) u),
  I.kept s4 T (by intro y u;simp at u;subst u;exact I.ne s4 Q) (by intro y u;simp at u;subst u;exact Or.inl Q),⟨?_,?_,⟨aM _ _ _ _,aM _ _ _ _,(by intro g hg;simp[Value.ownBlock]at hg),(by intro x f;cases f)⟩,(by rw[t,hL,o];exact ag _)⟩,hf,by rw[hw];rfl,?_⟩
 ·rw[e1,E,F,o,C];exact G
 ·rw[t];exact p4.kept T (fun g hg f=>by simp at f;subst f;exact qH (p4.tag hg) ⟨_,_,B⟩ (by decide) rfl)
 ·exact((L.mono (by intro x f;exact aq _ f)).trans (U.mono (by simp))).trans (T.mono (by intro x f;simp at f;subst f;exact aZ))
theorem LD.setS{q a:Nat}{R:Rc}{s:Value}(h:LD w q a R s)(s':Value):LD (w.setCell ⟨q,7,none⟩ s') q a R s':=yf (i:=7) s' h
variable {bv cv:Value}
theorem LD.off{q a a' n:Nat}{R:Rc}{s:Value}{D:Dv}(h:LD w q a R s)(d:DQ w a' bv n cv D):q∉yk a' bv cv:=d.no h (by decide)
theorem MW{a:Nat}:a∈yk a bv cv:=aZ
theorem ne_a{y a:Nat}(h:y∉yk a bv cv):y≠a:=fun e=>h (by rw[e];exact MW)
def Oi(q a:Nat)(bv:Value)(n:Nat)(cv:Value)(R:Rc)(D:Dv)(w:World)(e:Ending)(w':World):Prop:=
 e=.returned (.bool true)/\LD w' q a R (.pointer none)/\DQ w' a bv n cv D/\y6 [q] w w'
def YS(I:yB)(q a:Nat)(bv:Value)(n:Nat)(cv:Value)(R:Rc)(ms:List (List Pr))(D:Dv)(w:World)(e:Ending)(w':World):Prop:=
 e=.returned (.bool true)/\∃D',D'.L=D.L/\D'.q=D.q/\(D'.t=D.t\/D'.t=D.t+1)/\DQ w' a bv n cv D'/\y6 [q,a] w w'/\
  (LD w' q a R (.pointer none)\/∃s o kZ,(s.a=a/\s.n=n/\s.cl=false/\s.fl=false/\s.ll=s.l/\s.mo=s.l.length/\s.ch=0)/\(o.xs= []/\o.lv=.slice none 0 0/\o.wv=.slice none 0 0/\w.heap.size<=o.b)/\LD w' q a {R with may:=kZ} (.pointer (some ⟨o.b,0,none⟩))/\I.SI w' s D'/\OI w' s o/\(∀y∈s.fp,w.heap.size<=y)/\(if R.wild then ML w' kZ [s.l]else kZ=R.may)/\(R.wild=false->s.l∈ms))
theorem QfJ(I:yB)(q a:Nat)(bv:Value)(n:Nat)(cv:Value)(R:Rc)(D:Dv)(s:Value)(hs:∃p,s=.pointer p)(w:World)(hG:qW w)(hgd:1∉yk a bv cv)(hq:LD w q a R s)(h:DQ w a bv n cv D)(mc:R.n=n)(hn:n<8\/400<n):
  Calls prog 99 #[.pointer (some ⟨q,0,none⟩)] w (Oi q a bv n cv R D w):=by
 obtain⟨P,rfl⟩:=hs;obtain⟨X,W,rfl⟩:=yZ h.o;obtain⟨T,t,A,g,i,k⟩:=R;simp only at mc;subst mc;have V:w.cell? ⟨q,7,none⟩=some (.pointer P):=y7 hq rfl;have f7:w.frozen? ⟨q,7,none⟩=false:=ax _ _ _ _ _ hq;have E:=hq.setS (.pointer none);have z:y6 [q] w (w.setCell ⟨q,7,none⟩ (.pointer none)):=(y6.refl _ _).setCell (Or.inl (by simp)) _;have u:=hq.off h;have O:=ne_a u;have N:=hG.ld hq;have l:=h.k1 z u;have Q:=hG.kept z (by simpa using N.symm);have U:(w.setCell ⟨q,7,none⟩ (.pointer none)).cell? ⟨q,0,none⟩=some (.pointer (some ⟨a,0,none⟩)):=y7 E rfl;have wV:w.cell? ⟨q,0,none⟩=some (.pointer (some ⟨a,0,none⟩)):=y7 hq rfl;have G:Hid (Calls _ _ _ _ _):=I.opnNo _ a bv n _ D l hn;have m:decide (8<=n/\n<=400)=false:=by simp;omega
 clear hn;clear hG hq h;generalize r:w.setCell ⟨q,7,none⟩ (.pointer none)=Y at*;have H:Hid _:=r;clear r;go_enter func99,ntmps99;go_wp2_with(first|(go_at_call 130;rw[H.out];refine(qD a _ _ _ _ l.d).mono ?_;rintro e c⟨rfl,b⟩;rw[b];clear b c)|(go_at_call 30;refine(qO a _ _ _ _ l.d).mono ?_;rintro e c⟨rfl,b⟩;rw[b];clear b c)|(go_at_call 31;refine(j4 a _ _ _ _ _ _ l.d).mono ?_;rintro e c⟨rfl,b⟩;rw[b];clear b c))
 refine G.out.mono ?_;rintro e Z⟨J,rfl,y,f⟩;have L:=l.k0 f;go_wp2_with(first|(go_at_call 131;refine(y _ (y6.refl _ _) (Q.kept f (by simp))).mono ?_;rintro e S⟨rfl,j⟩;have B:LD S q a ⟨n,t,A,g,i,k⟩ (.pointer none):=(f.trans j).get E (by simp);have K:=B.load;have M:=L.k0 j)|(refine y8 rfl 151 (.tmp 41) rfl ⟨q,1,none⟩ rfl _ K ?_)|(go_at_call 132;refine(Qs n _ _ _ _ _ _).mono ?_;rintro e F⟨rfl,v⟩;rw[m];have C:LD F q a ⟨n,t,A,g,i,k⟩ (.pointer none):=v.get B (by simp);have x:=M.k0 v;have d4:F.cell? ⟨q,0,none⟩=some (.pointer (some ⟨a,0,none⟩)):=y7 C rfl)|(go_at_call 30;refine(qO a _ _ _ _ x.d).mono ?_;rintro e c⟨rfl,b⟩;rw[b];clear b c)|(go_at_call 31;refine(j4 a _ _ _ _ _ _ x.d).mono ?_;rintro e c⟨rfl,b⟩;rw[b];clear b c)|(go_at_call 133;refine(qv _ _).mono ?_;rintro e c⟨rfl,b⟩;rw[b];clear b c))
 go_ret;exact⟨rfl,C,x,(z.mono (by simp)).trans (((f.trans j).trans v).mono (by simp))⟩
theorem Y5(I:yB)(q a:Nat)(bv:Value)(n:Nat)(cv:Value)(R:Rc)(D:Dv)(s:Value)(hs:∃p,s=.pointer p)(w:World)(hG:qW w)(hgd:1∉yk a bv cv)(hq:LD w q a R s)(h:DQ w a bv n cv D)(mc:R.n=n)(hT:Tab w)(fM:8<=n)(hn:n<=400)(r:Rk)(K:Nat)(hD:Ds n r K D)(hK:K<=700000)(hm:ML w R.may r.may)(bm:r.may.length<=1000000000)(DD:R.em=r.em)(DE:R.wild=r.wild)(Gc:0<=D.t)(rT:D.t<=1000000)
  (hF:∀(s:Sx) (W:World) (D2:Dv),qW W->1∉s.fp->LD W q s.a R (.pointer none)->ML W R.may r.may->DQ W s.a bv s.n cv D2->I.SI W s D2->s.cl=false->s.fl=false->s.mo=s.l.length->s.ch=0->Rs s.l->(R.wild=false->s.l∈r.may)->Calls prog 136 #[.pointer (some ⟨q,0,none⟩),.pointer (some ⟨s.x,0,none⟩)] W (FndR I s q R bv cv D2 W)):
  Calls prog 99 #[.pointer (some ⟨q,0,none⟩)] w (YS I q a bv n cv R r.may D w):=by
 obtain⟨ps,rfl⟩:=hs;obtain⟨pc,cc,rfl⟩:=yZ h.o;obtain⟨Rn,may,em,g,wild,m⟩:=R;simp only at mc;subst mc;have c7:w.cell? ⟨q,7,none⟩=some (.pointer ps):=y7 hq rfl;have f7:w.frozen? ⟨q,7,none⟩=false:=ax _ _ _ _ _ hq;have ma:=hq.setS (.pointer none);have U:y6 [q] w (w.setCell ⟨q,7,none⟩ (.pointer none)):=(y6.refl _ _).setCell (Or.inl (by simp)) _;have nqd:=hq.off h;have nqa:=ne_a nqd;have nU:=hG.ld hq;have Z:=h.k1 U nqd;have rH:=hG.kept U (by simpa using nU.symm);have c0:(w.setCell ⟨q,7,none⟩ (.pointer none)).cell? ⟨q,0,none⟩=some (.pointer (some ⟨a,0,none⟩)):=y7 ma rfl;have wV:w.cell? ⟨q,0,none⟩=some (.pointer (some ⟨a,0,none⟩)):=y7 hq rfl;have lC:Tab (w.setCell ⟨q,7,none⟩ (.pointer none)):=hT.kept U (by have:=hT.ne hq (by decide);simpa using this);have HO:Hid (Calls _ _ _ _ _):=I.opn _ a bv n _ D r K Z fM hn hD hK lC;have z:decide (8<=n/\n<=400)=true:=by simp;omega
 have m1:ML (w.setCell ⟨q,7,none⟩ (.pointer none)) may r.may:=hm.kept U (Q9 hq (by decide) (by decide));have kJ:=ne_a hgd;have HF:Hid _:=hF;have HD:Hid (Ds n r K D):=hD;simp only at DD DE;have Gd:Hid (wild=r.wild):=DE;have Br:Hid (em=r.em):=DD;have hz:=U.size;have Lu:=hG.lt;clear hF hD hn fM hm hT lC DE DD;clear hG hq h;generalize hw1:w.setCell ⟨q,7,none⟩ (.pointer none)=w1 at*;have HW:Hid _:=hw1;clear hw1;go_enter func99,ntmps99;go_wp2_with(first|(go_at_call 130;rw[HW.out];refine(qD a _ _ _ _ Z.d).mono ?_;rintro e f⟨rfl,b⟩;rw[b];clear b f)|(go_at_call 30;refine(qO a _ _ _ _ Z.d).mono ?_;rintro e f⟨rfl,b⟩;rw[b];clear b f)|(go_at_call 31;refine(j4 a _ _ _ _ _ _ Z.d).mono ?_;rintro e f⟨rfl,b⟩;rw[b];clear b f))
 refine HO.out.mono ?_;rintro e w2⟨px,err,x,D2,rfl,fZ,h2,X,Y,E,C,eC⟩;have fY:LD w2 q a ⟨n,may,em,g,wild,m⟩ (.pointer none):=C.get ma (by simpa using nqa);have il:=rH.kept C (by simpa using kJ);have m2:ML w2 may r.may:=m1.kept C (Q9 Z.d (by decide) (by decide));have V:y6 [q,a] w w2:=(U.mono (by simp)).trans (C.mono (by simp));rcases eC with⟨rfl,rfl,A⟩|⟨rfl,rfl,A,hno⟩|⟨rfl,rfl,A,st,rfl,Ge,sa,sn,scl,sfl,sll,smo,sch,srs,sin,sfp⟩
 focus
  have A:D2.t=D.t+1:=by rw[A,w64 _ (by omega)]
  have L:wrap64 (D.t+1-D.t)=1:=by rw[w64 _ (by omega)];omega
 rotate_left
 ·obtain⟨N,hv,hf⟩:=m2;obtain⟨M,G,P⟩:=yZ hv;have H:=hf.1;have P:may=.slice M N.length G:=P;subst P;have L:wrap64 (D.t-D.t)=0:=by rw[w64 _ (by omega)];omega
  have J:wild=false->em=true\/N.length=0:=fun hw=>by
   rcases hno (by rw[<-Gd.out];exact hw)with O|O
   ·exact Or.inl (by rw[Br.out];exact O)
   ·right;rw[H,O];rfl
  have HNo:Hid _:=J;clear hno J H hf hv
  cases em with
  |true=>
   go_wp2_with(first|(go_at_call 131;refine(fZ _ (y6.refl _ _) il).mono ?_;rintro e T⟨rfl,c⟩;have B:LD T q a ⟨n,.slice M N.length G,true,g,wild,m⟩ (.pointer none):=c.get fY (by simp);have Q:=B.load;have S:=h2.k0 c)|(refine y8 rfl 151 (.tmp 41) rfl ⟨q,1,none⟩ rfl _ Q ?_)|(go_at_call 132;refine(Qs n _ _ _ _ _ _).mono ?_;rintro e v⟨rfl,i⟩;rw[z];have u:LD v q a ⟨n,.slice M N.length G,true,g,wild,m⟩ (.pointer none):=i.get B (by simp);have j:=S.k0 i;have d4:v.cell? ⟨q,0,none⟩=some (.pointer (some ⟨a,0,none⟩)):=y7 u rfl;have d3:v.cell? ⟨q,3,none⟩=some (.bool true):=y7 u rfl)|(go_at_call 30;refine(qO a _ _ _ _ j.d).mono ?_;rintro e f⟨rfl,b⟩;rw[b,E];clear b f)|(go_at_call 31;refine(j4 a _ _ _ _ _ _ j.d).mono ?_;rintro e f⟨rfl,b⟩;rw[b];clear b f)|(go_at_call 130;refine(qD a _ _ _ _ j.d).mono ?_;rintro e f⟨rfl,b⟩;rw[b,A];clear b f)|(go_at_call 133;refine(qv _ _).mono ?_;rintro e f⟨rfl,b⟩;rw[b];clear b f))
   go_ret;exact⟨rfl,D2,X,Y,Or.inl A,j,V.trans ((c.trans i).mono (by simp)),Or.inl u⟩
  |false=>
   cases wild with
   |true=>
    go_wp2_with(first|(go_at_call 131;refine(fZ _ (y6.refl _ _) il).mono ?_;rintro e T⟨rfl,c⟩;have B:LD T q a ⟨n,.slice M N.length G,false,g,true,m⟩ (.pointer none):=c.get fY (by simp);have Q:=B.load;have S:=h2.k0 c)|(refine y8 rfl 151 (.tmp 41) rfl ⟨q,1,none⟩ rfl _ Q ?_)|(go_at_call 132;refine(Qs n _ _ _ _ _ _).mono ?_;rintro e v⟨rfl,i⟩;rw[z];have u:LD v q a ⟨n,.slice M N.length G,false,g,true,m⟩ (.pointer none):=i.get B (by simp);have j:=S.k0 i;have d4:v.cell? ⟨q,0,none⟩=some (.pointer (some ⟨a,0,none⟩)):=y7 u rfl;have d3:v.cell? ⟨q,3,none⟩=some (.bool false):=y7 u rfl;have d5:v.cell? ⟨q,5,none⟩=some (.bool true):=y7 u rfl)|(go_at_call 30;refine(qO a _ _ _ _ j.d).mono ?_;rintro e f⟨rfl,b⟩;rw[b,E];clear b f)|(go_at_call 31;refine(j4 a _ _ _ _ _ _ j.d).mono ?_;rintro e f⟨rfl,b⟩;rw[b];clear b f)|(go_at_call 130;refine(qD a _ _ _ _ j.d).mono ?_;rintro e f⟨rfl,b⟩;rw[b,A];clear b f)|(go_at_call 133;refine(qv _ _).mono ?_;rintro e f⟨rfl,b⟩;rw[b];clear b f))
    go_ret;exact⟨rfl,D2,X,Y,Or.inl A,j,V.trans ((c.trans i).mono (by simp)),Or.inl u⟩
   |false=>
    have h0:N.length=0:=by
     rcases HNo.out rfl with O|O
     ·cases O
     ·exact O
    generalize N.length=vl at*;subst h0;go_wp2_with(first|(go_at_call 131;refine(fZ _ (y6.refl _ _) il).mono ?_;rintro e T⟨rfl,c⟩;have B:LD T q a ⟨n,.slice M 0 G,false,g,false,m⟩ (.pointer none):=c.get fY (by simp);have Q:=B.load;have S:=h2.k0 c)|(refine y8 rfl 151 (.tmp 41) rfl ⟨q,1,none⟩ rfl _ Q ?_)|(go_at_call 132;refine(Qs n _ _ _ _ _ _).mono ?_;rintro e v⟨rfl,i⟩;rw[z];have u:LD v q a ⟨n,.slice M 0 G,false,g,false,m⟩ (.pointer none):=i.get B (by simp);have j:=S.k0 i;have d4:v.cell? ⟨q,0,none⟩=some (.pointer (some ⟨a,0,none⟩)):=y7 u rfl;have d3:v.cell? ⟨q,3,none⟩=some (.bool false):=y7 u rfl;have d5:v.cell? ⟨q,5,none⟩=some (.bool false):=y7 u rfl;have d2:v.cell? ⟨q,2,none⟩=some (.slice M 0 G):=y7 u rfl)|(go_at_call 30;refine(qO a _ _ _ _ j.d).mono ?_;rintro e f⟨rfl,b⟩;rw[b,E];clear b f)|(go_at_call 31;refine(j4 a _ _ _ _ _ _ j.d).mono ?_;rintro e f⟨rfl,b⟩;rw[b];clear b f)|(go_at_call 130;refine(qD a _ _ _ _ j.d).mono ?_;rintro e f⟨rfl,b⟩;rw[b,A];clear b f)|(go_at_call 133;refine(qv _ _).mono ?_;rintro e f⟨rfl,b⟩;rw[b];clear b f))
    go_ret;exact⟨rfl,D2,X,Y,Or.inl A,j,V.trans ((c.trans i).mono (by simp)),Or.inl u⟩
 focus
  have gfp:1∉st.fp:=fun hx=>by have:=sfp _ hx;omega
  have HI:Hid (I.SI w2 st D2):=Ge;have L:wrap64 (D.t-D.t)=0:=by rw[w64 _ (by omega)];omega
  have F:Hid (wild=false->st.l∈r.may):=fun hw=>sin (by rw[<-Gd.out];exact hw);have JF:Hid (Rs st.l):=srs;clear Ge sin srs
 rotate_left
 all_goals
  go_wp2_with(first|(go_at_call 131;refine(fZ _ (y6.refl _ _) il).mono ?_;rintro e T⟨rfl,c⟩;have B:LD T q a ⟨n,may,em,g,wild,m⟩ (.pointer none):=c.get fY (by simp);have Q:=B.load;have S:=h2.k0 c)|(refine y8 rfl 151 (.tmp 41) rfl ⟨q,1,none⟩ rfl _ Q ?_)|(go_at_call 132;refine(Qs n _ _ _ _ _ _).mono ?_;rintro e v⟨rfl,i⟩;rw[z];have u:LD v q a ⟨n,may,em,g,wild,m⟩ (.pointer none):=i.get B (by simp);have j:=S.k0 i;have d4:v.cell? ⟨q,0,none⟩=some (.pointer (some ⟨a,0,none⟩)):=y7 u rfl)|(go_at_call 30;refine(qO a _ _ _ _ j.d).mono ?_;rintro e f⟨rfl,b⟩;rw[b,E];clear b f)|(go_at_call 31;refine(j4 a _ _ _ _ _ _ j.d).mono ?_;rintro e f⟨rfl,b⟩;rw[b];clear b f)|(go_at_call 130;refine(qD a _ _ _ _ j.d).mono ?_;rintro e f⟨rfl,b⟩;rw[b,A];clear b f)|(go_at_call 133;refine(qv _ _).mono ?_;rintro e f⟨rfl,b⟩;rw[b];clear b f))
 ·go_ret;exact⟨by show Ending.returned (.bool (decide (D.t<D.t+1)))=_;rw[bM (by omega)],D2,X,Y,Or.inr A,j,V.trans ((c.trans i).mono (by simp)),Or.inl u⟩
 ·refine(HF.out st v D2 (il.kept (c.trans i) (by simp)) gfp (by rw[sa];exact u) ((m2.k c).k i) (by rw[sa,sn];exact j) (I.kept HI.out (c.trans i) (by simp) (by simp)) scl sfl smo sch JF.out F.out).mono ?_;rintro e w7⟨rfl,s7,o7,DF,⟨f1,f2,f3,f4,f5,f6,f7,f8,f9⟩,⟨g1,g2,g3,g4⟩,oz,rq,JG,JH,zh,Bq,ff⟩;rw[sa]at oz;rw[sa,sn]at rq;go_wp2;go_ret;have z2:=C.size;have z4:=(c.trans i).size;refine⟨rfl,D2,X,Y,Or.inl A,rq,?_,Or.inr ⟨s7,o7,DF,⟨f2.trans sa,f3.trans sn,f4,f5,by rw[f7,f6];exact sll,by rw[f8,f6],f9⟩,⟨g1,g2,g3,by omega⟩,oz,JG,JH,?_,by rw[f6];exact Bq,fun hw=>by rw[f6];exact F.out hw⟩⟩
  ·refine((V.trans ((c.trans i).mono (by simp))).trans2 ff ?_:y6 [q,a] _ _);intro x hx;rcases an.1 hx with rfl|hx
   ·left;simp
   ·right;have:=sfp x hx;omega
  ·intro y hy;rcases zh y hy with e|e
   ·have:=sfp y e;omega
   ·omega
end Go.Proofs.YtcklgafpgdhnaaaGreatDoor
