import Derived.Test.YtcklgafpgdhnaaaGreatDoorPybt
set_option maxRecDepth 100000
set_option maxHeartbeats 4000000
set_option linter.unusedSimpArgs false
set_option linter.unusedVariables false
set_option linter.unusedSectionVars false
open Go.Proofs.Tryz
namespace Go.Proofs.YtcklgafpgdhnaaaGreatDoor
open Go.RowKit
structure RKd(w:World)(R:Rc)(r:Rk):Prop where
 may:ML w R.may r.may
 em:R.em=r.em
 were:ML w R.were r.were
 wild:R.wild=r.wild
 bit:R.bit=r.bit
theorem RKd.kept{w w':World}{S:List Nat}{R:Rc}{r:Rk}(h:RKd w R r)(k:y6 S w w')(hS:NoM w S):RKd w' R r:=⟨h.may.kept k hS,h.em,h.were.kept k hS,h.wild,h.bit⟩
variable {w:World}
theorem ML.snoc{w':World}{vs:List Value}{ms:List (List Pr)}{u v1:Value}{m:List Pr}(hf:F2 (fun u m=>PL w 224 u m/\m.length<=20000) vs ms)(k:y6 [] w w')(h1:MV w' v1 (vs++ [u]))(hu:PL w' 224 u m)(hm:m.length<=20000):ML w' v1 (ms++ [m]):=
 ⟨vs++ [u],h1,F2.append (hf.mono fun a _ b h=>⟨h.1.kept k (by simp),h.2⟩) (F2.one ⟨hu,hm⟩)⟩
theorem ML.sing{u v1:Value}{m:List Pr}(h1:MV w v1 [u])(hu:PL w 224 u m)(hm:m.length<=20000):ML w v1 [m]:=⟨[u],h1,F2.one ⟨hu,hm⟩⟩
theorem LD.store{q a:Nat}{R:Rc}{s:Value}(h:LD w q a R s)(n:Int)(em wild bit:Bool)(p1 p2:Option Addr)(l1 q1 l2 q2:Nat):
  (storeVar 151 ⟨q,1,none⟩ (.agg (yS n (.slice p1 l1 q1) em (.slice p2 l2 q2) wild bit))).run prog w=.ok () (w.setRow q (ldl a ⟨n,.slice p1 l1 q1,em,.slice p2 l2 q2,wild,bit⟩ s).toArray):=by
 have:=yI (P:=prog) w q 1 154 151 (ldl a R s) [.int .i64 n,.slice p1 l1 q1,.bool em,.slice p2 l2 q2,.bool wild,.bool bit] h srd (by simp[ldl]) (by simp[Value.oneCell'])
 simpa[splice,ldl,yS]using this
theorem LD.stored{q a:Nat}{R:Rc}{s:Value}(h:LD w q a R s)(R2:Rc):LD (w.setRow q (ldl a R2 s).toArray) q a R2 s:=bH w q _ _ _ _ h
theorem SZ:∀t∈ [91,92,94],t≠189/\t≠224:=by decide
def FmtR(q a:Nat)(bv:Value)(n:Nat)(cv:Value)(R:Rc)(r:Rk)(K:Nat)(D:Dv)(w:World)(e:Ending)(w':World):Prop:=
 e=.returned (.bool true)/\∃cv' D' R' r' K',DQ w' a bv n cv' D'/\CvN cv cv' w.heap.size/\(D'.t=D.t\/D'.t=D.t+1)/\LD w' q a R' (.pointer none)/\R'.n=R.n/\RKd w' R' r'/\Ds n r' K' D'/\K'<=K+2/\r'.may.length<=r.may.length+1/\r'.were.length<=r.were.length+1/\y6 (q::yk a bv cv) w w'
theorem QfM(I:yB)(q a:Nat)(bv:Value)(n:Nat)(cv:Value)(R:Rc)(D:Dv)(s:Value)(hs:∃p,s=.pointer p)(w:World)(hG:qW w)(hgd:1∉yk a bv cv)(hq:LD w q a R s)(h:DQ w a bv n cv D)(mc:R.n=n)(hn:n<8\/400<n):
  Calls prog 98 #[.pointer (some ⟨q,0,none⟩)] w (Oi q a bv n cv R D w):=by
 obtain⟨N,rfl⟩:=hs;obtain⟨S,m,y,c,f,i⟩:=R;simp only at mc;subst mc;have U:w.cell? ⟨q,7,none⟩=some (.pointer N):=y7 hq rfl;have f7:w.frozen? ⟨q,7,none⟩=false:=ax _ _ _ _ _ hq;have A:=hq.setS (.pointer none);have v:y6 [q] w (w.setCell ⟨q,7,none⟩ (.pointer none)):=(y6.refl _ _).setCell (Or.inl (by simp)) _;have o:=hq.off h;have M:=ne_a o;have L:=hG.ld hq;have t:=h.k1 v o;have O:=hG.kept v (by simpa using L.symm);have T:(w.setCell ⟨q,7,none⟩ (.pointer none)).cell? ⟨q,0,none⟩=some (.pointer (some ⟨a,0,none⟩)):=y7 A rfl;have X:w.cell? ⟨q,0,none⟩=some (.pointer (some ⟨a,0,none⟩)):=y7 hq rfl;have B:Hid (Calls _ _ _ _ _):=I.fmtNo _ a bv n _ D t hn;have k:decide (8<=n/\n<=400)=false:=by simp;omega
 clear hn;clear hG hq h;generalize l:w.setCell ⟨q,7,none⟩ (.pointer none)=V at*;have C:Hid _:=l;clear l;go_enter func98,ntmps98;go_wp2_with(first|(go_at_call 130;rw[C.out];refine(qD a _ _ _ _ t.d).mono ?_;rintro e x⟨rfl,j⟩;rw[j];clear j x))
 refine B.out.mono ?_;rintro e W⟨E,rfl,u,b⟩;have H:=t.k0 b;go_wp2_with(first|(go_at_call 131;refine(u _ (y6.refl _ _) (O.kept b (by simp))).mono ?_;rintro e P⟨rfl,g⟩;have z:LD P q a ⟨n,m,y,c,f,i⟩ (.pointer none):=(b.trans g).get A (by simp);have F:=z.load;have J:=H.k0 g)|(refine y8 rfl 151 (.tmp 24) rfl ⟨q,1,none⟩ rfl _ F ?_)|(go_at_call 132;refine(Qs n _ _ _ _ _ _).mono ?_;rintro e Q⟨rfl,r⟩;rw[k];have G:LD Q q a ⟨n,m,y,c,f,i⟩ (.pointer none):=r.get z (by simp);have K:=J.k0 r)|(go_at_call 133;refine(qv _ _).mono ?_;rintro e x⟨rfl,j⟩;rw[j];clear j x))
 go_ret;exact⟨rfl,G,K,(v.mono (by simp)).trans (((b.trans g).trans r).mono (by simp))⟩
theorem QfN(I:yB)(q a:Nat)(bv:Value)(n:Nat)(cv:Value)(R:Rc)(D:Dv)(s:Value)(hs:∃p,s=.pointer p)(w:World)(hG:qW w)(hgd:1∉yk a bv cv)(hq:LD w q a R s)(h:DQ w a bv n cv D)(mc:R.n=n)(hT:Tab w)(fM:8<=n)(hn:n<=400)(r:Rk)(K:Nat)(hD:Ds n r K D)(hK:K<=700000)(hr:RKd w R r)(bm:r.may.length<=900000000)(bw:r.were.length<=900000000)(Gc:0<=D.t)(rT:D.t<=1000000):
  Calls prog 98 #[.pointer (some ⟨q,0,none⟩)] w (FmtR q a bv n cv R r K D w):=by
 obtain⟨ps,rfl⟩:=hs;obtain⟨Rn,may,g,were,b,c⟩:=R;simp only at mc;subst mc;have c7:w.cell? ⟨q,7,none⟩=some (.pointer ps):=y7 hq rfl;have f7:w.frozen? ⟨q,7,none⟩=false:=ax _ _ _ _ _ hq;have ma:=hq.setS (.pointer none);have M:y6 [q] w (w.setCell ⟨q,7,none⟩ (.pointer none)):=(y6.refl _ _).setCell (Or.inl (by simp)) _;have G:=hq.off h;have nqa:=ne_a G;have nU:=hG.ld hq;have h1:=h.k1 M G;have rH:=hG.kept M (by simpa using nU.symm);have c0:(w.setCell ⟨q,7,none⟩ (.pointer none)).cell? ⟨q,0,none⟩=some (.pointer (some ⟨a,0,none⟩)):=y7 ma rfl;have wV:w.cell? ⟨q,0,none⟩=some (.pointer (some ⟨a,0,none⟩)):=y7 hq rfl;have lC:Tab (w.setCell ⟨q,7,none⟩ (.pointer none)):=hT.kept M (by have:=hT.ne hq (by decide);simpa using this);have HO:Hid (Calls _ _ _ _ _):=I.fmt _ a bv n cv D r K h1 fM hn hD hK lC;have B:decide (8<=n/\n<=400)=true:=by simp;omega
 have r1:RKd (w.setCell ⟨q,7,none⟩ (.pointer none)) ⟨n,may,g,were,b,c⟩ r:=hr.kept M (Q9 hq (by decide) (by decide));have DG:=hgd;have hz:=M.size;clear hD hn fM hr hT lC;clear hG hq h;generalize T:w.setCell ⟨q,7,none⟩ (.pointer none)=w1 at*;have HW:Hid _:=T;clear T;go_enter func98,ntmps98;go_wp2_with(first|(go_at_call 130;rw[HW.out];refine(qD a _ _ _ _ h1.d).mono ?_;rintro e J⟨rfl,v⟩;rw[v];clear v J))
 refine HO.out.mono ?_;rintro e w2⟨err,l9,D2,x,rfl,fZ,h2,iP,A,eC⟩;have fY:LD w2 q a ⟨n,may,g,were,b,c⟩ (.pointer none):=A.get ma G;have il:=rH.kept A DG;have nmd:NoM w1 (yk a bv cv):=fun y U cs t fr hh=>by
  obtain⟨rP,t',rQ,Ah,lg⟩:=h1.law y U;rw[hh]at Ah
  cases Ah
  revert lg;generalize t=tt;intro lg;exact SZ tt lg
 have r2:=r1.kept A nmd;obtain⟨⟨vs,Ai,s9⟩,xh,⟨us,Aj,tc⟩,xi,xj⟩:=r2;simp only at xh xi xj;have HEq:Hid (g=r.em/\b=r.wild/\c=r.bit):=⟨xh,xi,xj⟩
 clear xh xi xj;have MF:Hid (F2 _ vs r.may):=s9;have UF:Hid (F2 _ us r.were):=tc;have OM:Hid _:=ML.one s9;have OU:Hid _:=ML.one tc;have bvs:vs.length<=900000000:=by rw[s9.1];exact bm
 have bus:us.length<=900000000:=by rw[tc.1];exact bw
 have K2:y6 (q::yk a bv cv) w w2:=(M.mono (by simp)).trans (A.mono (by intro y U;exact aq _ U));have xk:=fY.off h2;clear s9 tc;have HZ:Hid (w.heap.size<=w1.heap.size):=hz;clear hz;have oM:CvN cv l9 w.heap.size:=fun y U=>(iP y U).imp id fun h=>av HZ.out h;rcases eC with⟨rfl,rfl,L,kD⟩|⟨rfl,L,kD⟩
 ·go_wp2_with(first|(go_at_call 131;refine(fZ _ (y6.refl _ _) il).mono ?_;rintro e w3⟨rfl,z⟩;have Q:LD w3 q a ⟨n,may,g,were,b,c⟩ (.pointer none):=z.get fY (by simp);have P:=Q.load)|(refine y8 rfl 151 (.tmp 24) rfl ⟨q,1,none⟩ rfl _ P ?_)|(go_at_call 132;refine(Qs n _ _ _ _ _ _).mono ?_;rintro e w4⟨rfl,N⟩;rw[B];have S:LD w4 q a ⟨n,may,g,were,b,c⟩ (.pointer none):=N.get Q (by simp);have W:=S.load;have H:=z.trans N;have DH:=yb Ai H (by simp);have DJ:=yb Aj H (by simp);clear P)|(go_at_call 133;refine(qv _ _).mono ?_;rintro e J⟨rfl,v⟩;rw[v];clear v J)|(refine y8 rfl 151 (.tmp 37) rfl ⟨q,1,none⟩ rfl _ W ?_)|(go_at_call 134;refine(VZ n may were vs us none 0 0 g b c _ DH DJ OM.out OU.out (by omega) (by omega)).mono ?_;rintro e f⟨v1,v2,rfl,m5,u5,O⟩;obtain⟨k,i,o,rfl⟩:=gJ m5;obtain⟨l,j,u,rfl⟩:=gJ u5;have F:LD f q a ⟨n,may,g,were,b,c⟩ (.pointer none):=O.get S (by simp);have E:=F.store n false b c k l i o j u;have xb:=F.stored ⟨n,.slice k i o,false,.slice l j u,b,c⟩;have k6:y6 [q] f (f.setRow q (ldl a ⟨n,.slice k i o,false,.slice l j u,b,c⟩ (.pointer none)).toArray):=(y6.refl _ _).setRow (Or.inl (by simp)) _;generalize sr:f.setRow q (ldl a ⟨n,.slice k i o,false,.slice l j u,b,c⟩ (.pointer none)).toArray=w6 at*;clear sr W)|(refine gB rfl 151 (.tmp 42) (.tmp 40) rfl ⟨q,1,none⟩ rfl _ rfl _ E ?_)|(refine yC rfl 4 (.tmp 46) (.const (.bool false)) rfl q 5 rfl (.bool false) rfl 154 _ xb Zq rfl (by simp[ldl]) ?_;intro Y V k7;have oz:LD Y q a ⟨n,.slice k i o,false,.slice l j u,false,c⟩ (.pointer none):=V;clear V)|(refine yC rfl 4 (.tmp 50) (.const (.bool false)) rfl q 6 rfl (.bool false) rfl 154 _ oz Zq rfl (by simp[ldl]) ?_;intro w8 m8 k8;have JI:LD w8 q a ⟨n,.slice k i o,false,.slice l j u,false,false⟩ (.pointer none):=m8;clear m8))
  go_ret;have Z:y6 [q] f w8:=(k6.trans k7).trans k8;have C:y6 [] w2 f:=H.trans O;have X:NoM f [q]:=Q9 F (by decide) (by decide);have M5:ML f (.slice k i o) [[]]:=ML.sing m5 (PL.nil _ _) (by simp);have U5:ML f (.slice l j u) (r.were++ [[]]):=ML.snoc UF.out C u5 (PL.nil _ _) (by simp);refine⟨rfl,l9,D2,_,⟨[[]],false,r.were++ [[]],false,false⟩,1,(h2.k0 C).k1 Z xk,oM,Or.inl L,JI,rfl,⟨M5.kept Z X,rfl,U5.kept Z X,rfl,rfl⟩,kD _ rfl,by omega,by simp,by simp,?_⟩;exact(K2.trans (C.mono (by simp))).trans (Z.mono (by simp))
 ·have L:D2.t=D.t+1:=by rw[L,w64 _ (by omega)]
  go_wp2_with(first|(go_at_call 131;refine(fZ _ (y6.refl _ _) il).mono ?_;rintro e w3⟨rfl,z⟩;have Q:LD w3 q a ⟨n,may,g,were,b,c⟩ (.pointer none):=z.get fY (by simp);have P:=Q.load)|(refine y8 rfl 151 (.tmp 24) rfl ⟨q,1,none⟩ rfl _ P ?_)|(go_at_call 132;refine(Qs n _ _ _ _ _ _).mono ?_;rintro e w4⟨rfl,N⟩;rw[B];have S:LD w4 q a ⟨n,may,g,were,b,c⟩ (.pointer none):=N.get Q (by simp);have W:=S.load;have H:=z.trans N;have DH:=yb Ai H (by simp);have DJ:=yb Aj H (by simp);clear P)|(go_at_call 133;refine(qv _ _).mono ?_;rintro e J⟨rfl,v⟩;rw[v];clear v J)|(refine y8 rfl 151 (.tmp 54) rfl ⟨q,1,none⟩ rfl _ W ?_)|(go_at_call 135;refine(Ru n may were vs us none 0 0 g b c _ DH DJ OM.out OU.out (by omega) (by omega)).mono ?_;rintro e f⟨k,i,o,l,j,u,rfl,m5,u5,O⟩;have F:LD f q a ⟨n,may,g,were,b,c⟩ (.pointer none):=O.get S (by simp);have E:=F.store n g b c k l i o j u;have xb:=F.stored ⟨n,.slice k i o,g,.slice l j u,b,c⟩;have k6:y6 [q] f (f.setRow q (ldl a ⟨n,.slice k i o,g,.slice l j u,b,c⟩ (.pointer none)).toArray):=(y6.refl _ _).setRow (Or.inl (by simp)) _;generalize sr:f.setRow q (ldl a ⟨n,.slice k i o,g,.slice l j u,b,c⟩ (.pointer none)).toArray=w6 at*;clear sr W)|(refine gB rfl 151 (.tmp 59) (.tmp 57) rfl ⟨q,1,none⟩ rfl _ rfl _ E ?_)|(refine yC rfl 4 (.tmp 63) (.const (.bool true)) rfl q 3 rfl (.bool true) rfl 154 _ xb Zq rfl (by simp[ldl]) ?_;intro Y V k7;have oz:LD Y q a ⟨n,.slice k i o,true,.slice l j u,b,c⟩ (.pointer none):=V;clear V;have hC:y6 [q] f Y:=k6.trans k7;have C:y6 [] w2 f:=H.trans O;have h7:=(h2.k0 C).k1 hC xk;have d7:Y.cell? ⟨q,0,none⟩=some (.pointer (some ⟨a,0,none⟩)):=y7 oz rfl)|(go_at_call 130;refine(qD a _ _ _ _ h7.d).mono ?_;rintro e J⟨rfl,v⟩;rw[v,L];clear v J))
  go_ret;have X:NoM f [q]:=Q9 F (by decide) (by decide);have M5:ML f (.slice k i o) (r.may++ [[]]):=ML.snoc MF.out C m5 (PL.nil _ _) (by simp);have U5:ML f (.slice l j u) (r.were++ [[]]):=ML.snoc UF.out C u5 (PL.nil _ _) (by simp);refine⟨?_,l9,D2,_,⟨r.may++ [[]],true,r.were++ [[]],r.wild,r.bit⟩,K+2,h7,oM,Or.inr L,oz,rfl,⟨M5.kept hC X,rfl,U5.kept hC X,HEq.out.2.1,HEq.out.2.2⟩,kD _ ⟨fun m hm=>aw _ hm,fun _ _=>Or.inl rfl,id,id⟩ (by simp) rfl,by omega,by simp,by simp,?_⟩
  ·show Ending.returned (.bool (decide (D.t<D.t+1)))=_;rw[bM (by omega)]
  ·exact(K2.trans (C.mono (by simp))).trans (hC.mono (by simp))
theorem Uh(x:Int):∀k:Nat,∃m:Int,wrN k x=x+k+m*18446744073709551616
 |0=>⟨0,by simp[wrN]⟩
 |k+1=>by
  obtain⟨m,h⟩:=Uh x k;refine⟨(wrap64 (wrN k x+1)-(x+(k+1:Nat)))/18446744073709551616,?_⟩;show wrap64 (wrN k x+1)=_;rw[h];simp only[wrap64];omega
theorem YK{x:Int}{k:Nat}(hk:k<=1000000):wrap64 (wrN k x-x)=k:=by
 obtain⟨m,h⟩:=Uh x k;rw[h];simp only[wrap64];omega
theorem YE(args:Array Value)(w:World):(callFunc 134 args).run prog w=.ok (.enter 134 args) w:=qy func134 (by kernel_rfl) (by kernel_rfl) args w
theorem QfR(args:Array Value)(w:World):(callFunc 135 args).run prog w=.ok (.enter 135 args) w:=qy func135 (by kernel_rfl) (by kernel_rfl) args w
def SyS(q a b:Nat)(R:Rc)(px:Option Addr)(vl:Value)(f c:Bool)(mo ch:Int)(lv wv:Value)(W:World):Prop:=LD W q a R (.pointer (some ⟨b,0,none⟩))/\OR W b px vl f c mo ch lv wv
def SynR(I:yB)(s:Sx)(o:Ox)(q:Nat)(bv cv:Value)(R:Rc)(r:Rk)(K:Nat)(D:Dv)(w:World)(e:Ending)(w':World):Prop:=
 e=.returned (.bool true)/\∃s' cv' D' R' r' K',(s'.x=s.x/\s'.a=s.a/\s'.n=s.n/\s'.cl=s.cl/\s'.l=s.l/\s'.mo=s.mo/\s'.ch<=s.ch)/\LD w' q s.a R' (.pointer (some ⟨o.b,0,none⟩))/\R'.n=R.n/\DQ w' s.a bv s.n cv' D'/\CvN cv cv' w.heap.size/\I.SI w' s' D'/\OI w' s' o/\RKd w' R' r'/\Ds s.n r' K' D'/\K'<=K+2/\(r'.wild=false->s'.ll∈r'.may)/\(D'.t=D.t\/D'.t=D.t+1)/\r'.may.length<=r.may.length+1/\r'.were.length<=r.were.length+1/\(∀y∈s'.fp,y∈s.fp\/w.heap.size<=y)/\y6 (q::o.b::(s.fp++yk s.a bv cv)) w w'
theorem OI.both(I:yB){w':World}{s:Sx}{o:Ox}{D:Dv}{bv cv:Value}(h:OI w s o)(hs:I.SI w s D)(hd:DQ w s.a bv s.n cv D)(k:y6 (s.fp++yk s.a bv cv) w w'):
  OR w' o.b (some ⟨s.x,0,none⟩) o.vl s.fl s.cl s.mo s.ch o.lv o.wv/\PL w' 224 o.vl s.l/\HL w' o.lv o.wv o.xs:=by
 have p:∀{y:Nat} {i:Array Value} {t:TypeId} {j:Nat×Nat},w.heap[y]?=some (.cells i t j)->t∈ji->t∉ [91,92,94]->y∉s.fp++yk s.a bv cv:=fun m ht f d=>by
  rcases ar.1 d with d|d
  ·exact I.nt hs m ht d
  ·exact hd.no m f d
 have rows:∀{c e n k:Nat} {v:Value} {xs:List Value},w.ownsRow c e k v n xs->e∈ji->e∉ [91,92,94]->∀g,v.ownBlock=some g->g∉s.fp++yk s.a bv cv:=by
  intro c e n k v xs C z f g A;obtain⟨i,j,B⟩:=yD C A;exact p B z f
 refine⟨k.get h.r (p h.r (by decide) (by decide)),h.v.kept k (rows h.v (by decide) (by decide)),h.h.kept k (rows h.h.lists (by decide) (by decide)) (rows h.h.want (by decide) (by decide)) ?_⟩;intro x d;obtain⟨q,u,_⟩:=h.h.all x d;exact⟨rows q (by decide) (by decide),rows u (by decide) (by decide)⟩
theorem Xo(I:yB)(s:Sx)(o:Ox)(q:Nat)(bv cv:Value)(R:Rc)(r:Rk)(K:Nat)(D:Dv)(w:World)(hG:qW w)(hT:Tab w)(ig:1∉s.fp)(hgd:1∉yk s.a bv cv)(hq:LD w q s.a R (.pointer (some ⟨o.b,0,none⟩)))(hd:DQ w s.a bv s.n cv D)(hs:I.SI w s D)(ho:OI w s o)(mc:R.n=s.n)(hr:RKd w R r)(hD:Ds s.n r K D)(hK:K<=700000)(iL:r.wild=false->s.ll∈r.may)(bm:r.may.length<=900000000)(bw:r.were.length<=900000000)(Gc:0<=D.t)(rT:D.t<=1000000)(fQ:s.ch<=40000)(iW:s.mo<=40000):
  Calls prog 103 #[.pointer (some ⟨q,0,none⟩)] w (SynR I s o q bv cv R r K D w):=by
 have cq0:w.cell? ⟨q,0,none⟩=some (.pointer (some ⟨s.a,0,none⟩)):=y7 hq rfl;have cq7:w.cell? ⟨q,7,none⟩=some (.pointer (some ⟨o.b,0,none⟩)):=y7 hq rfl;have ua:w.cell? ⟨o.b,0,none⟩=some (.pointer (some ⟨s.x,0,none⟩)):=y7 ho.r rfl;have HO:Hid (Calls _ _ _ _ _):=I.sync w s bv cv D r K hs hd hD hK hT iL;have JJ:Hid (Calls _ _ _ _ _):=qD s.a bv cv D w hd.d;have JK:Hid (Calls _ _ _ _ _):=qO s.a bv cv D w hd.d;have Ak:1∉s.fp++yk s.a bv cv:=fun j=>by
  rcases ar.1 j with j|j
  ·exact ig j
  ·exact hgd j
 have nq:q∉s.fp++yk s.a bv cv:=fun j=>by
  rcases ar.1 j with j|j
  ·exact I.nt hs hq (by decide) j
  ·exact hq.off hd j
 have nmd:NoM w (s.fp++yk s.a bv cv):=fun y h cs t fr hh=>by
  rcases ar.1 h with h|h
  ·exact I.nom hs y h cs t fr hh
  ·obtain⟨rP,t',rQ,Ah,lg⟩:=hd.law y h;rw[hh]at Ah
   cases Ah
   exact SZ t lg
 have HA:Hid (∀A,y6 (s.fp++yk s.a bv cv) w A->OR A o.b (some ⟨s.x,0,none⟩) o.vl s.fl s.cl s.mo s.ch o.lv o.wv/\PL A 224 o.vl s.l/\HL A o.lv o.wv o.xs/\LD A q s.a R (.pointer (some ⟨o.b,0,none⟩))/\RKd A R r/\qW A):=fun A k=>by
  obtain⟨a1,a2,a3⟩:=ho.both I hs hd k;exact⟨a1,a2,a3,k.get hq nq,hr.kept k nmd,hG.kept k Ak⟩
 have HOm:Hid (s.l.length<=s.mo):=ho.m;have vY:Hid (Ds s.n r K D/\(r.wild=false->s.ll∈r.may)/\R.n=s.n):=⟨hD,iL,mc⟩
 have hlen:=I.len hs;have my:Hid (s.l.length<=20000):=hlen;clear hlen hD iL mc hr hT hG hs hd ho hq ig hgd Ak nq nmd;go_enter func103,ntmps103;go_wp2_with(first|(go_at_call 130;refine JJ.out.mono ?_;rintro e A⟨rfl,u⟩;rw[u];clear u A)|(go_at_call 30;refine JK.out.mono ?_;rintro e A⟨rfl,u⟩;rw[u];clear u A))
 refine HO.out.mono ?_;rintro e w2⟨H,err,x,l9,G,k,rfl,fZ,P,iP,hk2,Al,⟨sx,sa,sn,scl,sl,smo⟩,sfp,ewr,eC⟩;obtain⟨r2,v2,hl2,q2,DK,il⟩:=HA.out w2 hk2;have wI:Hid (I.SI w2 H G):=Al;have KW:Hid (y6 (q::o.b::(s.fp++yk s.a bv cv)) w w2):=hk2.mono (fun y h=>aq _ (aq _ h));have xk:=q2.off P;have DL:o.b∉yk s.a bv l9:=P.no r2 (by decide);have Bu:Hid (H.x=s.x/\H.a=s.a/\H.n=s.n/\H.cl=s.cl/\H.l=s.l/\H.mo=s.mo):=⟨sx,sa,sn,scl,sl,smo⟩
 clear Al sx sa sn scl sl smo cq0 cq7 ua;have common:True:=trivial
 cases M:s.cl with
 |true=>
  rw[if_pos (Or.inl M)]at eC;obtain⟨rfl,rfl,rfl,efl,ell,ech⟩:=eC;have vZ:wrN 0 G.wr=G.wr:=rfl;have hsub:wrap64 (G.wr-G.wr)=0:=by simp[wrap64]
  have hcc:chg s.cl s.fl ⟨#[]⟩ ⟨#[]⟩=5:=by rw[M];rfl
  rw[hcc]at fZ;clear hcc ewr vZ;go_wp2_with(first|(go_at_call 131;refine(fZ _ (y6.refl _ _) il).mono ?_;rintro e C⟨rfl,f⟩;have q3:LD C q s.a R (.pointer (some ⟨o.b,0,none⟩)):=f.get q2 (by simp);have J:OR C o.b (some ⟨s.x,0,none⟩) o.vl s.fl s.cl s.mo s.ch o.lv o.wv:=f.get r2 (by simp);have h3:=P.k0 f;have d30:C.cell? ⟨q,0,none⟩=some (.pointer (some ⟨s.a,0,none⟩)):=y7 q3 rfl;have xl:C.cell? ⟨o.b,3,none⟩=some (.bool s.cl):=y7 J rfl;have An:C.cell? ⟨o.b,2,none⟩=some (.bool s.fl):=y7 J rfl;have Bv:C.cell? ⟨o.b,5,none⟩=some (.int .i64 s.ch):=y7 J rfl;rw[M]at xl)|(go_at_call 30;refine(qO s.a _ _ _ _ h3.d).mono ?_;rintro e A⟨rfl,u⟩;rw[u];clear u A)|(go_at_call 133;refine(qv _ _).mono ?_;rintro e A⟨rfl,u⟩;rw[u];clear u A))
  go_ret;obtain⟨e1,e2,e3,e4,Q,S⟩:=Bu.out;refine⟨rfl,H,l9,G,R,r,K,⟨e1,e2,e3,e4,Q,S,by rw[ech];exact ag _⟩,q3,rfl,h3,iP,I.kept wI.out f (by simp) (by simp),⟨?_,?_,hl2.fresh f,?_⟩,DK.kept f (NoM.nil _),vY.out.1,by omega,by rw[ell];exact vY.out.2.1,Or.inl rfl,by omega,by omega,sfp,KW.out.trans (f.mono (by simp))⟩
  ·rw[e1,e4,S,efl,ech];exact J
  ·rw[Q];exact v2.kept f (by simp)
  ·rw[Q,S];exact HOm.out
 |false=>
  cases hfl:s.fl with
  |true=>
   rw[if_pos (Or.inr hfl)]at eC;obtain⟨rfl,rfl,rfl,efl,ell,ech⟩:=eC;have vZ:wrN 0 G.wr=G.wr:=rfl;have hsub:wrap64 (G.wr-G.wr)=0:=by simp[wrap64]
   have hcc:chg s.cl s.fl ⟨#[]⟩ ⟨#[]⟩=4:=by rw[M,hfl];rfl
   rw[hcc]at fZ;clear hcc ewr vZ;go_wp2_with(first|(go_at_call 131;refine(fZ _ (y6.refl _ _) il).mono ?_;rintro e C⟨rfl,f⟩;have q3:LD C q s.a R (.pointer (some ⟨o.b,0,none⟩)):=f.get q2 (by simp);have J:OR C o.b (some ⟨s.x,0,none⟩) o.vl s.fl s.cl s.mo s.ch o.lv o.wv:=f.get r2 (by simp);have h3:=P.k0 f;have d30:C.cell? ⟨q,0,none⟩=some (.pointer (some ⟨s.a,0,none⟩)):=y7 q3 rfl;have xl:C.cell? ⟨o.b,3,none⟩=some (.bool s.cl):=y7 J rfl;have An:C.cell? ⟨o.b,2,none⟩=some (.bool s.fl):=y7 J rfl;have Bv:C.cell? ⟨o.b,5,none⟩=some (.int .i64 s.ch):=y7 J rfl;rw[M]at xl;rw[hfl]at An)|(go_at_call 30;refine(qO s.a _ _ _ _ h3.d).mono ?_;rintro e A⟨rfl,u⟩;rw[u];clear u A)|(go_at_call 133;refine(qv _ _).mono ?_;rintro e A⟨rfl,u⟩;rw[u];clear u A))
   go_ret;obtain⟨e1,e2,e3,e4,Q,S⟩:=Bu.out;refine⟨rfl,H,l9,G,R,r,K,⟨e1,e2,e3,e4,Q,S,by rw[ech];exact ag _⟩,q3,rfl,h3,iP,I.kept wI.out f (by simp) (by simp),⟨?_,?_,hl2.fresh f,?_⟩,DK.kept f (NoM.nil _),vY.out.1,by omega,by rw[ell];exact vY.out.2.1,Or.inl rfl,by omega,by omega,sfp,KW.out.trans (f.mono (by simp))⟩
   ·rw[e1,e4,S,efl,ech];exact J
   ·rw[Q];exact v2.kept f (by simp)
   ·rw[Q,S];exact HOm.out
  |false=>
   rw[if_neg (by simp[M,hfl])]at eC;obtain⟨wB,eC⟩:=eC;have hsub:wrap64 (wrN k D.wr-D.wr)=k:=YK (by omega);have xC:¬((k:Int)>12*(s.ch:Int)+2):=by omega
   obtain⟨F,E,evl⟩:=v2.shape;obtain⟨⟨vs,Ai,s9⟩,xh,⟨us,Aj,tc⟩,xi,xj⟩:=DK;have MF:Hid (F2 _ vs r.may):=s9;have UF:Hid (F2 _ us r.were):=tc;have OM:Hid _:=ML.one s9;have OU:Hid _:=ML.one tc;have BV:Hid (vs.length<=900000000/\us.length<=900000000):=⟨by rw[s9.1];exact bm,by rw[tc.1];exact bw⟩
   have HEq:Hid (R.em=r.em/\R.wild=r.wild/\R.bit=r.bit):=⟨xh,xi,xj⟩
   have HV:Hid (PL w2 224 (.slice F s.l.length E) s.l):=by rw[<-evl];exact v2
   have HEv:Hid (o.vl=.slice F s.l.length E):=evl;have HE:Hid (G.wr=wrN k D.wr/\k<=12*s.ch+1):=⟨ewr,wB⟩
   have HMU:Hid (MV w2 R.may vs/\MV w2 R.were us):=⟨Ai,Aj⟩
   have HH:Hid (HL w2 o.lv o.wv o.xs):=hl2;rw[evl]at r2;rw[hfl,M]at r2;clear xh xi xj s9 tc v2 evl wB Ai Aj hl2 bm bw;rcases eC with⟨rfl,rfl,lU,eU,nH,et,kD⟩|⟨⟨rfl,et⟩|⟨rfl,et,hroom⟩,lU,eU,nH,kD⟩
   ·have HF2:Hid (H.fl=false/\H.ch=0/\H.ll=s.l/\G.t=D.t):=⟨lU,eU,nH,et⟩
    have HDS:Hid _:=kD;clear lU eU nH et kD ewr;go_wp2_with(first|(go_at_call 131;refine(fZ _ (y6.refl _ _) il).mono ?_;rintro e C⟨rfl,f⟩;have q3:LD C q s.a R (.pointer (some ⟨o.b,0,none⟩)):=f.get q2 (by simp);have J:OR C o.b (some ⟨s.x,0,none⟩) (.slice F s.l.length E) false false s.mo s.ch o.lv o.wv:=f.get r2 (by simp);have h3:=P.k0 f;have d30:C.cell? ⟨q,0,none⟩=some (.pointer (some ⟨s.a,0,none⟩)):=y7 q3 rfl;have xl:C.cell? ⟨o.b,3,none⟩=some (.bool false):=y7 J rfl;have An:C.cell? ⟨o.b,2,none⟩=some (.bool false):=y7 J rfl;have Bv:C.cell? ⟨o.b,5,none⟩=some (.int .i64 s.ch):=y7 J rfl)|(go_at_call 30;refine(qO s.a _ _ _ _ h3.d).mono ?_;rintro e A⟨rfl,u⟩;rw[u,HE.out.1];clear u A)|(go_at_call 133;refine(qv _ _).mono ?_;rintro e A⟨rfl,u⟩;rw[u];clear u A))
    have p:SyS q s.a o.b R (some ⟨s.x,0,none⟩) (.slice F s.l.length E) false false s.mo s.ch o.lv o.wv C.drew:=⟨q3,J⟩
    have N:y6 [] w2 C.drew:=f.drew;refine gu (SyS q s.a o.b R (some ⟨s.x,0,none⟩) (.slice F s.l.length E) false false s.mo s.ch o.lv o.wv) 13 (by kernel_rfl) ?_;refine uk 0 (.pointer (some ⟨q,0,none⟩)) rfl (fun W z=>by rfl) p ?_;refine uk 1 (.pointer (some ⟨q,0,none⟩)) rfl (fun W z=>by rfl) p ?_;refine uk 2 (.pointer (some ⟨q,0,none⟩)) rfl (fun W z=>by rfl) p ?_;refine uk 3 (.pointer (some ⟨q,1,none⟩)) rfl (fun W z=>by rfl) p ?_;refine uk 4 (.agg R.cs) rfl (fun W z=>y9 151 (.tmp 88) rfl ⟨q,1,none⟩ rfl _ z.1.load) p ?_;refine uk 5 (.pointer (some ⟨o.b,0,none⟩)) rfl (fun W z=>by rfl) p ?_;refine uk 6 (.pointer (some ⟨o.b,0,none⟩)) rfl (fun W z=>by rfl) p ?_;refine uk 7 (.pointer (some ⟨o.b,1,none⟩)) rfl (fun W z=>by rfl) p ?_;refine uk 8 (.pointer (some ⟨o.b,1,none⟩)) rfl (fun W z=>by rfl) p ?_;refine uk 9 (.agg #[.slice F s.l.length E]) rfl (fun W z=>y9 189 (.tmp 93) rfl ⟨o.b,1,none⟩ rfl _ z.2.map) p ?_;refine qI (i:=10) (by kernel_rfl) (yp rfl (by rfl) 134 #[.agg R.cs,.agg #[.slice F s.l.length E]] (yn _ _ _ rfl _ (by simp[Act.eval]) (YE _ _)) _ (VZ R.n R.may R.were vs us F s.l.length E R.em R.wild R.bit _ (yb HMU.out.1 N (by simp)) (yb HMU.out.2 N (by simp)) OM.out OU.out (by have:=BV.out;omega) (by have:=BV.out;omega)) ?_);rintro e B⟨v1,v2,rfl,m5,u5,eD⟩;obtain⟨Y,V,q1,rfl⟩:=gJ m5;obtain⟨Z,X,U,rfl⟩:=gJ u5;have c:SyS q s.a o.b R (some ⟨s.x,0,none⟩) (.slice F s.l.length E) false false s.mo s.ch o.lv o.wv B:=⟨eD.get p.1 (by simp),eD.get p.2 (by simp)⟩
    have hst:=c.1.store R.n false R.wild R.bit Y Z V q1 X U;have q6:=c.1.stored ⟨R.n,.slice Y V q1,false,.slice Z X U,R.wild,R.bit⟩;have k6:y6 [q] B (B.setRow q (ldl s.a ⟨R.n,.slice Y V q1,false,.slice Z X U,R.wild,R.bit⟩ (.pointer (some ⟨o.b,0,none⟩))).toArray):=(y6.refl _ _).setRow (Or.inl (by simp)) _;generalize sr:B.setRow q (ldl s.a ⟨R.n,.slice Y V q1,false,.slice Z X U,R.wild,R.bit⟩ (.pointer (some ⟨o.b,0,none⟩))).toArray=w6 at*;clear sr;have r6:OR w6 o.b (some ⟨s.x,0,none⟩) (.slice F s.l.length E) false false s.mo s.ch o.lv o.wv:=k6.get c.2 (by simp;exact yP c.2 c.1 (by decide));have nqb:q≠o.b:=yP c.1 c.2 (by decide);refine⟨_,rfl,fun _=>c,?_⟩;simp only[zz];refine qI (i:=11) (by kernel_rfl) (yX rfl rfl (.pointer (some ⟨q,0,none⟩)) B rfl ⟨fun _=>c,?_⟩);simp only[zz];refine qI (i:=12) (by kernel_rfl) (yX rfl rfl (.pointer (some ⟨q,1,none⟩)) B rfl ⟨fun _=>c,?_⟩);simp only[zz];refine qI (i:=13) (by kernel_rfl) (qo rfl rfl w6 (yK 151 (.tmp 97) (.tmp 95) rfl ⟨q,1,none⟩ rfl _ rfl hst) ⟨fun hne=>absurd rfl hne,?_⟩);simp only[zz];refine gq (by kernel_rfl) ?_ _;clear p hst;go_wp2_with(first|(refine yC rfl 3 (.tmp 101) (.const (.int .i64 0)) rfl o.b 5 rfl (.int .i64 0) rfl 195 _ r6 RX rfl (by simp[opnc]) ?_;intro O m7 k7;have r7:OR O o.b (some ⟨s.x,0,none⟩) (.slice F s.l.length E) false false s.mo (0:Nat) o.lv o.wv:=m7;clear m7))
    go_ret;obtain⟨e1,e2,e3,e4,Q,S⟩:=Bu.out;have lj:y6 [] w2 B:=N.trans eD;have T:y6 [q,o.b] B O:=(k6.mono (by simp)).trans (k7.mono (by simp));have rI:NoM B [q,o.b]:=fun y h=>by
     rcases an.1 h with rfl|h
     ·exact Q9 c.1 (by decide) (by decide) _ (by simp)
     ·exact Q9 c.2 (by decide) (by decide) _ h
    have L:PL B 224 (.slice F s.l.length E) s.l:=HV.out.kept lj (by simp);have U5:ML B (.slice Z X U) (r.were++ [s.l]):=ML.snoc UF.out lj u5 L my.out;have h7:DQ O s.a bv s.n l9 G:=(P.k0 lj).kept T (fun y h j=>by
     rcases an.1 j with rfl|j
     ·exact xk h
     ·simp at j;subst j;exact DL h)
    have s5:=I.kept wI.out lj (by simp) (by simp);have Ao:∀y∈ [q,o.b],LT B y:=fun y h=>by
     rcases an.1 h with rfl|h
     ·exact⟨_,_,_,c.1,by decide⟩
     ·simp at h;subst h;exact⟨_,_,_,c.2,by decide⟩
    have s7:=I.kept s5 T (fun y h=>I.ne s5 (Ao y h)) (fun y h=>Or.inl (Ao y h));have nn:∀{y:Nat} {cs:Array Value} {t:TypeId} {fr:Nat×Nat},B.heap[y]?=some (.cells cs t fr)->t≠154->t≠195->y∉ [q,o.b]:=fun h h1 P j=>by
     rcases an.1 j with rfl|j
     ·exact yP h c.1 h1 rfl
     ·simp at j;subst j;exact yP h c.2 P rfl
    have nr:∀{base e n k:Nat} {v:Value} {xs:List Value},B.ownsRow base e k v n xs->e≠154->e≠195->∀g,v.ownBlock=some g->g∉ [q,o.b]:=fun hr h1 P g hg=>by
     obtain⟨cs,fr,hh⟩:=yD hr hg;exact nn hh h1 P
    have H5:=HH.out.fresh lj;have H7:HL O o.lv o.wv o.xs:=H5.kept T (nr H5.lists (by decide) (by decide)) (nr H5.want (by decide) (by decide)) (fun x j=>by
     obtain⟨a1,a2,_⟩:=H5.all x j;exact⟨nr a1 (by decide) (by decide),nr a2 (by decide) (by decide)⟩)
    have V7:PL O 224 o.vl H.l:=by rw[Q,HEv.out];exact L.kept T (nr L (by decide) (by decide))
    have KE:y6 (q::o.b::(s.fp++yk s.a bv cv)) w O:=(KW.out.trans (lj.mono (by simp))).trans (T.mono (by intro y h;simp at h;rcases h with rfl|rfl<;>simp));have q7:LD O q s.a _ (.pointer (some ⟨o.b,0,none⟩)):=k7.get q6 (by simpa using nqb);have M5:ML B (.slice Y V q1) [s.l]:=ML.sing m5 L my.out;obtain⟨f1,f2,f3,f4⟩:=HF2.out;refine⟨rfl,H,l9,G,_,⟨[s.l],false,r.were++ [s.l],r.wild,r.bit⟩,K+1,⟨e1,e2,e3,e4,Q,S,by omega⟩,q7,rfl,h7,iP,s7,⟨?_,V7,H7,by rw[Q,S];exact HOm.out⟩,⟨M5.kept T rI,rfl,U5.kept T rI,HEq.out.2.1,HEq.out.2.2⟩,HDS.out _ (by simp) id id,by omega,fun _=>by rw[f3];simp,Or.inl f4,by simp,by simp,sfp,KE⟩;rw[e1,e4,S,f1,f2,M,HEv.out];exact r7
   focus
    have HF2:Hid (H.fl=true/\H.ch=s.ch/\H.ll=s.ll):=⟨lU,eU,nH⟩
    have HDS:Hid _:=kD;clear lU eU nH kD ewr;have et:G.t=D.t+1:=by rw[et,w64 _ (by omega)]
    have HET:Hid (G.t=D.t\/G.t=D.t+1):=Or.inr et
   rotate_left
   focus
    have HF2:Hid (H.fl=true/\H.ch=s.ch/\H.ll=s.ll):=⟨lU,eU,nH⟩
    have HDS:Hid _:=kD;clear lU eU nH kD ewr;have HET:Hid (G.t=D.t\/G.t=D.t+1):=Or.inl et;clear et;have Ap:Hid _:=hroom;clear hroom
   rotate_left
   all_goals
    go_wp2_with(first|(go_at_call 131;refine(fZ _ (y6.refl _ _) il).mono ?_;rintro e C⟨rfl,f⟩;have q3:LD C q s.a R (.pointer (some ⟨o.b,0,none⟩)):=f.get q2 (by simp);have J:OR C o.b (some ⟨s.x,0,none⟩) (.slice F s.l.length E) false false s.mo s.ch o.lv o.wv:=f.get r2 (by simp);have h3:=P.k0 f;have d30:C.cell? ⟨q,0,none⟩=some (.pointer (some ⟨s.a,0,none⟩)):=y7 q3 rfl;have xl:C.cell? ⟨o.b,3,none⟩=some (.bool false):=y7 J rfl;have An:C.cell? ⟨o.b,2,none⟩=some (.bool false):=y7 J rfl;have Bv:C.cell? ⟨o.b,5,none⟩=some (.int .i64 s.ch):=y7 J rfl)|(go_at_call 30;refine(qO s.a _ _ _ _ h3.d).mono ?_;rintro e A⟨rfl,u⟩;rw[u,HE.out.1];clear u A)|(go_at_call 133;refine(qv _ _).mono ?_;rintro e A⟨rfl,u⟩;rw[u];clear u A))
    have p:SyS q s.a o.b R (some ⟨s.x,0,none⟩) (.slice F s.l.length E) false false s.mo s.ch o.lv o.wv C.drew:=⟨q3,J⟩
    have N:y6 [] w2 C.drew:=f.drew;refine gu (SyS q s.a o.b R (some ⟨s.x,0,none⟩) (.slice F s.l.length E) false false s.mo s.ch o.lv o.wv) 13 (by kernel_rfl) ?_;refine uk 0 (.pointer (some ⟨q,0,none⟩)) rfl (fun W z=>by rfl) p ?_;refine uk 1 (.pointer (some ⟨q,0,none⟩)) rfl (fun W z=>by rfl) p ?_;refine uk 2 (.pointer (some ⟨q,0,none⟩)) rfl (fun W z=>by rfl) p ?_;refine uk 3 (.pointer (some ⟨q,1,none⟩)) rfl (fun W z=>by rfl) p ?_;refine uk 4 (.agg R.cs) rfl (fun W z=>y9 151 (.tmp 105) rfl ⟨q,1,none⟩ rfl _ z.1.load) p ?_;refine uk 5 (.pointer (some ⟨o.b,0,none⟩)) rfl (fun W z=>by rfl) p ?_;refine uk 6 (.pointer (some ⟨o.b,0,none⟩)) rfl (fun W z=>by rfl) p ?_;refine uk 7 (.pointer (some ⟨o.b,1,none⟩)) rfl (fun W z=>by rfl) p ?_;refine uk 8 (.pointer (some ⟨o.b,1,none⟩)) rfl (fun W z=>by rfl) p ?_;refine uk 9 (.agg #[.slice F s.l.length E]) rfl (fun W z=>y9 189 (.tmp 110) rfl ⟨o.b,1,none⟩ rfl _ z.2.map) p ?_;refine qI (i:=10) (by kernel_rfl) (yp rfl (by rfl) 135 #[.agg R.cs,.agg #[.slice F s.l.length E]] (yn _ _ _ rfl _ (by simp[Act.eval]) (QfR _ _)) _ (Ru R.n R.may R.were vs us F s.l.length E R.em R.wild R.bit _ (yb HMU.out.1 N (by simp)) (yb HMU.out.2 N (by simp)) OM.out OU.out (by have:=BV.out;omega) (by have:=BV.out;omega)) ?_);rintro e B⟨Y,V,q1,Z,X,U,rfl,m5,u5,eD⟩;have c:SyS q s.a o.b R (some ⟨s.x,0,none⟩) (.slice F s.l.length E) false false s.mo s.ch o.lv o.wv B:=⟨eD.get p.1 (by simp),eD.get p.2 (by simp)⟩
    have hst:=c.1.store R.n R.em R.wild R.bit Y Z V q1 X U;have q6:=c.1.stored ⟨R.n,.slice Y V q1,R.em,.slice Z X U,R.wild,R.bit⟩;have k6:y6 [q] B (B.setRow q (ldl s.a ⟨R.n,.slice Y V q1,R.em,.slice Z X U,R.wild,R.bit⟩ (.pointer (some ⟨o.b,0,none⟩))).toArray):=(y6.refl _ _).setRow (Or.inl (by simp)) _;generalize sr:B.setRow q (ldl s.a ⟨R.n,.slice Y V q1,R.em,.slice Z X U,R.wild,R.bit⟩ (.pointer (some ⟨o.b,0,none⟩))).toArray=w6 at*;clear sr;have r6:OR w6 o.b (some ⟨s.x,0,none⟩) (.slice F s.l.length E) false false s.mo s.ch o.lv o.wv:=k6.get c.2 (by simp;exact yP c.2 c.1 (by decide));have nqb:q≠o.b:=yP c.1 c.2 (by decide);refine⟨_,rfl,fun _=>c,?_⟩;simp only[zz];refine qI (i:=11) (by kernel_rfl) (yX rfl rfl (.pointer (some ⟨q,0,none⟩)) B rfl ⟨fun _=>c,?_⟩);simp only[zz];refine qI (i:=12) (by kernel_rfl) (yX rfl rfl (.pointer (some ⟨q,1,none⟩)) B rfl ⟨fun _=>c,?_⟩);simp only[zz];refine qI (i:=13) (by kernel_rfl) (qo rfl rfl w6 (yK 151 (.tmp 114) (.tmp 112) rfl ⟨q,1,none⟩ rfl _ rfl hst) ⟨fun hne=>absurd rfl hne,?_⟩);simp only[zz];refine gq (by kernel_rfl) ?_ _;clear p hst;go_wp2_with(first|(refine yC rfl 4 (.tmp 118) (.const (.bool true)) rfl o.b 2 rfl (.bool true) rfl 195 _ r6 Zq rfl (by simp[opnc]) ?_;intro O m7 k7;have r7:OR O o.b (some ⟨s.x,0,none⟩) (.slice F s.l.length E) true false s.mo s.ch o.lv o.wv:=m7;clear m7))
    have q7:LD O q s.a ⟨R.n,.slice Y V q1,R.em,.slice Z X U,R.wild,R.bit⟩ (.pointer (some ⟨o.b,0,none⟩)):=k7.get q6 (by simpa using nqb);have HR:Hid (∀W,y6 [] O W->SynR I s o q bv cv R r K D w (.returned (.bool true)) W):=by
     intro W z;obtain⟨e1,e2,e3,e4,Q,S⟩:=Bu.out;have lj:y6 [] w2 B:=N.trans eD;have T:y6 [q,o.b] B W:=((k6.mono (by simp)).trans (k7.mono (by simp))).trans (z.mono (by simp));have rI:NoM B [q,o.b]:=fun y h=>by
      rcases an.1 h with rfl|h
      ·exact Q9 c.1 (by decide) (by decide) _ (by simp)
      ·exact Q9 c.2 (by decide) (by decide) _ h
     have L:PL B 224 (.slice F s.l.length E) s.l:=HV.out.kept lj (by simp);have U5:ML B (.slice Z X U) (r.were++ [s.l]):=ML.snoc UF.out lj u5 L my.out;have h7:DQ W s.a bv s.n l9 G:=(P.k0 lj).kept T (fun y h j=>by
      rcases an.1 j with rfl|j
      ·exact xk h
      ·simp at j;subst j;exact DL h)
     have s5:=I.kept wI.out lj (by simp) (by simp);have Ao:∀y∈ [q,o.b],LT B y:=fun y h=>by
      rcases an.1 h with rfl|h
      ·exact⟨_,_,_,c.1,by decide⟩
      ·simp at h;subst h;exact⟨_,_,_,c.2,by decide⟩
     have s7:=I.kept s5 T (fun y h=>I.ne s5 (Ao y h)) (fun y h=>Or.inl (Ao y h));have nn:∀{y:Nat} {cs:Array Value} {t:TypeId} {fr:Nat×Nat},B.heap[y]?=some (.cells cs t fr)->t≠154->t≠195->y∉ [q,o.b]:=fun h h1 P j=>by
      rcases an.1 j with rfl|j
      ·exact yP h c.1 h1 rfl
      ·simp at j;subst j;exact yP h c.2 P rfl
     have nr:∀{base e n k:Nat} {v:Value} {xs:List Value},B.ownsRow base e k v n xs->e≠154->e≠195->∀g,v.ownBlock=some g->g∉ [q,o.b]:=fun hr h1 P g hg=>by
      obtain⟨cs,fr,hh⟩:=yD hr hg;exact nn hh h1 P
     have H5:=HH.out.fresh lj;have H7:HL W o.lv o.wv o.xs:=H5.kept T (nr H5.lists (by decide) (by decide)) (nr H5.want (by decide) (by decide)) (fun x j=>by
      obtain⟨a1,a2,_⟩:=H5.all x j;exact⟨nr a1 (by decide) (by decide),nr a2 (by decide) (by decide)⟩)
     have V7:PL W 224 o.vl H.l:=by rw[Q,HEv.out];exact L.kept T (nr L (by decide) (by decide))
     have KE:y6 (q::o.b::(s.fp++yk s.a bv cv)) w W:=(KW.out.trans (lj.mono (by simp))).trans (T.mono (by intro y h;simp at h;rcases h with rfl|rfl<;>simp));have M5:ML B (.slice Y V q1) (r.may++ [s.l]):=ML.snoc MF.out lj m5 L my.out;obtain⟨f1,f2,f3⟩:=HF2.out;refine⟨rfl,H,l9,G,_,⟨r.may++ [s.l],r.em,r.were++ [s.l],r.wild,r.bit⟩,K+1,⟨e1,e2,e3,e4,Q,S,by omega⟩,z.get q7 (by simp),rfl,h7,iP,s7,⟨?_,V7,H7,by rw[Q,S];exact HOm.out⟩,⟨M5.kept T rI,HEq.out.1,U5.kept T rI,HEq.out.2.1,HEq.out.2.2⟩,HDS.out _ ⟨fun m hm=>aw _ hm,?_,id,id⟩ (by simp),by omega,fun hw=>by rw[f3];exact aw _ (vY.out.2.1 hw),HET.out,by simp,by simp,sfp,KE⟩
     ·rw[e1,e4,S,f1,f2,M,HEv.out];exact z.get r7 (by simp)
     ·intro hw j;rcases j with j|j
      ·exact Or.inl j
      ·have:=vY.out.2.1 hw;rw[j]at this
       cases this
    have h7:DQ O s.a bv s.n l9 G:=(P.k0 (N.trans eD)).kept ((k6.mono (by simp)).trans (k7.mono (by simp)):y6 [q,o.b] B O) (fun y h j=>by
     rcases an.1 j with rfl|j
     ·exact xk h
     ·simp at j;subst j;exact DL h)
    have d70:O.cell? ⟨q,0,none⟩=some (.pointer (some ⟨s.a,0,none⟩)):=y7 q7 rfl;clear m5 u5 c q6 k6 r6 k7 eD f N q3 J h3 d30 xl An Bv q2 r2 P
   ·go_wp2_with(first|(go_at_call 130;refine(qD s.a _ _ _ _ h7.d).mono ?_;rintro e A⟨rfl,u⟩;rw[u,et];clear u A)|(go_at_call 133;refine(qv _ _).mono ?_;rintro e A⟨rfl,u⟩;rw[u];clear u A))
    go_ret;have:=HR.out O (y6.refl _ _);have ed:decide (D.t<D.t+1)=true:=bM (by omega);show SynR I s o q bv cv R r K D w (.returned (.bool (decide (D.t<D.t+1)))) O;rw[ed];exact this
   ·have ROOM:Hid (decide (3*max (s.mo:Int) 0+12<=R.n)=false):=by
     have hr:¬(3*s.mo+12<=s.n):=by
      have h0:=Ap.out;unfold LK at h0
      rwa[dB (ay _)]at h0
     have e2:max (s.mo:Int) 0=(s.mo:Int):=Int.max_eq_left (Int.natCast_nonneg _);show _=_;rw[e2,vY.out.2.2,decide_eq_false_iff_not];intro hc;apply hr;omega
    go_wp2_with(first|(go_at_call 133;refine(qv _ _).mono ?_;rintro e A⟨rfl,u⟩;rw[u];clear u A))
    have p:SyS q s.a o.b ⟨R.n,.slice Y V q1,R.em,.slice Z X U,R.wild,R.bit⟩ (some ⟨s.x,0,none⟩) (.slice F s.l.length E) true false s.mo s.ch o.lv o.wv O.drew:=⟨q7,r7⟩
    refine yo (SyS q s.a o.b ⟨R.n,.slice Y V q1,R.em,.slice Z X U,R.wild,R.bit⟩ (some ⟨s.x,0,none⟩) (.slice F s.l.length E) true false s.mo s.ch o.lv o.wv) (by kernel_rfl) ?_;refine uh 0 (.pointer (some ⟨o.b,0,none⟩)) rfl (fun W z=>by rfl) p ?_;refine uh 1 (.pointer (some ⟨o.b,0,none⟩)) rfl (fun W z=>by rfl) p ?_;refine uh 2 (.pointer (some ⟨o.b,1,none⟩)) rfl (fun W z=>by rfl) p ?_;refine uh 3 (.agg (ZG (.slice F s.l.length E) true false s.mo s.ch)) rfl (fun W z=>y9 192 (.tmp 124) rfl ⟨o.b,1,none⟩ rfl _ z.2.store) p ?_;refine uh 4 (.pointer (some ⟨q,0,none⟩)) rfl (fun W z=>by rfl) p ?_;refine uh 5 (.pointer (some ⟨q,0,none⟩)) rfl (fun W z=>by rfl) p ?_;refine uh 6 (.pointer (some ⟨q,1,none⟩)) rfl (fun W z=>by rfl) p ?_;refine uh 7 (.pointer (some ⟨q,1,none⟩)) rfl (fun W z=>by rfl) p ?_;refine uh 8 (.int .i64 R.n) rfl (fun W z=>y9 3 (.tmp 129) rfl ⟨q,1,none⟩ rfl _ (yh underlying3 rfl (y7 z.1 rfl))) p ?_;refine yi (i:=9) (by kernel_rfl) (yp rfl (by rfl) 140 #[.agg (ZG (.slice F s.l.length E) true false s.mo s.ch),.int .i64 R.n,.int .i64 0] (yn _ _ _ rfl _ (by simp[Act.eval]) (S9 _ _)) _ (RY (.slice F s.l.length E) true false s.mo s.ch R.n 0 _ (by omega) (by omega)) ?_);rintro e w9⟨rfl,hk9⟩;have mD:SyS q s.a o.b ⟨R.n,.slice Y V q1,R.em,.slice Z X U,R.wild,R.bit⟩ (some ⟨s.x,0,none⟩) (.slice F s.l.length E) true false s.mo s.ch o.lv o.wv w9:=⟨hk9.get p.1 (by simp),hk9.get p.2 (by simp)⟩
    refine⟨_,rfl,mD,?_⟩;simp only[zz];rw[ROOM.out];refine yi (i:=10) (by kernel_rfl) (yX rfl rfl (.bool false) w9 rfl ⟨mD,?_⟩);simp only[zz];refine aK (by kernel_rfl) ?_ _;have Aq:y6 [] O w9:=((y6.refl [] O).drew).trans hk9;clear p mD;go_wp2;go_ret;exact HR.out w9 Aq
end Go.Proofs.YtcklgafpgdhnaaaGreatDoor
