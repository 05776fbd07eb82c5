import Derived.Test.YtcklgafpgdhnaaaGreatDoorPyal
import Derived.Lib.AppendZerosOnto
import Derived.Lib.Overlaps
set_option maxRecDepth 100000
set_option maxHeartbeats 4000000
set_option linter.unusedSimpArgs false
set_option linter.unusedVariables false
set_option linter.unusedSectionVars false
open Go.Proofs.Tryz
namespace Go.Proofs.YtcklgafpgdhnaaaGreatDoor
open Go.RowKit
def HvPI(l:List Pr)(w:World)(s i:Value)(wr:World):Prop:=∃j:Nat,j<=l.length/\i=.int .i64 j/\s=.int .i64 (((l.take j).map psz).sum:Nat)/\j+Za psz (l.map psz).sum ((l.take j).map psz).sum (l.drop j)=yT psz l/\y6 [] w wr
def HvPR(vl:Value)(l:List Pr)(w:World)(e:Ending)(w':World):Prop:=∃a b,e=.returned (.tuple #[a,b])/\SL w' 122 2 a ((l.take (yT psz l)).map pe)/\SL w' 122 2 b ((l.drop (yT psz l)).map pe)/\(∀y,a.ownBlock=some y->vl.ownBlock=some y)/\(∀y,b.ownBlock=some y->vl.ownBlock=some y)/\y6 [] w w'
theorem Q4X(vl:Value)(l:List Pr)(w:World)(h:SL w 122 2 vl (l.map pe))(hl:l.length<=50000)(hs:∀x∈l,psz x<=22)(h0:yT psz l<l.length):
  Calls prog 243 #[vl] w (HvPR vl l w):=by
 obtain⟨g,c,d,k,K,Q,D,X,Y,B⟩:=h.at_ (by simp;omega);rw[aj]at K D;subst K;have hm:=WU;have uJ:∀j,((l.take j).map psz).sum<=(l.map psz).sum:=by
  intro j;have:=Zu psz l j;omega
 have O:(l.map psz).sum<=22*l.length:=by
  have:∀(L:List Pr),(∀x∈L,psz x<=22)->(L.map psz).sum<=22*L.length:=by
   intro L M
   induction L with
   |nil=>simp
   |cons a r ih=>
    have z:=M a (by simp);have h2:=ih fun x o=>M x (by simp[o]);simp only[bn,bE,aB];omega
  exact this l hs
 have V:Hid (Calls _ _ _ _ _):=Pj _ l w h hl hs;generalize N:(l.map psz).sum=u at*;have I:Hid _:=N;clear N;go_enter func243,ntmps243;go_wp2_with(first|(go_at_call 244;refine V.out.mono ?_;rintro e w1⟨rfl,F⟩))
 go_loopw [5,6] (fun s i wr=>HvPI l w s i wr) (fun _ i _=>l.length+1-(intOf i).toNat)
 case atStart=>exact⟨0,ay _,rfl,by simp,by simp[yT],F⟩
 case round=>
  obtain⟨j,hj,rfl,rfl,hcut,v⟩:=hrel;have He:=uJ j;rw[I.out]at hcut
  by_cases n:2*((l.take j).map psz).sum<u
  ·have A:j<l.length:=by
    rcases bG j l.length with z|z
    ·exact z
    ·rw[aJ z,I.out]at n;omega
   have R:(2:Int)*(((l.take j).map psz).sum:Nat)<(u:Int):=by omega
   obtain⟨x,o⟩:∃x,l[j]?=some x:=⟨_,aa A⟩
   have T:=hs x (ah o);have hx1:x.1.size<=22:=by unfold psz at T;omega
   have hx2:x.2.size<=22:=by unfold psz at T;omega
   have b:((l.take (j+1)).map psz).sum=((l.take j).map psz).sum+psz x:=by
    rw[qe l j x o];simp
   have p:l.drop j=x::l.drop (j+1):=by
    rw[aL A,(ae.1 o).2]
   have f:j+1+Za psz (l.map psz).sum ((l.take (j+1)).map psz).sum (l.drop (j+1))=yT psz l:=by
    rw[<-hcut,p,Za,if_pos n,b,I.out];omega
   have E:wr.heap[g]?=some (.cells k 122 (0,0)):=v.get Q (by simp);have J:=jC (P:=prog) (ty:=122) _ E (B j _ (by rw[aA,o];rfl)) underlying122 stp;simp only[pe]at J;generalize C:((l.take j).map psz).sum=S at*;have W:Hid _:=b;have U:Hid _:=f;clear b C f hcut p;go_wp2_with(first|(refine ya rfl _ _ (yc 116 (.tmp 16) (.tmp 17) rfl g c l.length d j 2 rfl rfl 122 underlying116 stp A (c+j*2) rfl) ?_)|(refine y8 rfl 122 (.tmp 18) rfl ⟨g,c+j*2,none⟩ rfl _ J ?_)|(go_at_call 248;refine(WK _ _).mono ?_;rintro e w2⟨rfl,G⟩))
   go_roundw
   case rel=>exact⟨j+1,by omega,by go_num,by rw[W.out];simp,U.out,v.trans G⟩
   case measure=>simp[intOf];omega
  ·have Z:¬(2:Int)*(((l.take j).map psz).sum:Nat)<(u:Int):=by omega
   have ej:j=yT psz l:=by
    have hz:Za psz u ((l.take j).map psz).sum (l.drop j)=0:=by
     cases l.drop j with
     |nil=>rfl
     |cons y t=>rw[Za,if_neg n]
    omega
   generalize C:((l.take j).map psz).sum=S at*;clear hcut C;have A:j<l.length:=by omega
   have i1:(j:Int)<=(l.length:Int):=by omega
   have i2:(j:Int)<=(d:Int):=by omega
   have i3:¬d=j:=by omega
   have i4:j<=d:=by omega
   go_wp2
   go_quiet (fail)
   go_wp2
   go_ret2
   have q:(wr.drewN nq).heap[g]?=some (.cells k 122 (0,0)):=v.get Q (by simp);refine⟨_,_,rfl,Or.inr ⟨g,c,yT psz l,k,?_,q,?_,by omega,by omega,?_⟩,Or.inr ⟨g,c+yT psz l*2,d-yT psz l,k,?_,q,?_,by omega,by omega,?_⟩,fun _ H=>H,fun _ H=>H,v.drewN _⟩
   ·simp;omega
   ·simp;omega
   ·intro i e m;rw[List.map_take,aD]at m;split at m
    ·exact B i e m
    ·cases m
   ·simp
   ·simp;omega
   ·intro i e m;rw[List.map_drop,aV]at m;have:=B _ e m;rw[show c+(yT psz l+i)*2=c+yT psz l*2+i*2 by omega]at this;exact this
def HvKI(l:List KE)(w:World)(s i:Value)(wr:World):Prop:=∃j:Nat,j<=l.length/\i=.int .i64 j/\s=.int .i64 (((l.take j).map ksz).sum:Nat)/\j+Za ksz (l.map ksz).sum ((l.take j).map ksz).sum (l.drop j)=yT ksz l/\y6 [] w wr
def HvKR(vl:Value)(l:List KE)(w:World)(e:Ending)(w':World):Prop:=∃a b,e=.returned (.tuple #[a,b])/\SL w' 80 3 a ((l.take (yT ksz l)).map ke)/\SL w' 80 3 b ((l.drop (yT ksz l)).map ke)/\(∀y,a.ownBlock=some y->vl.ownBlock=some y)/\(∀y,b.ownBlock=some y->vl.ownBlock=some y)/\y6 [] w w'
theorem XU(vl:Value)(l:List KE)(w:World)(h:SL w 80 3 vl (l.map ke))(hl:l.length<=50000)(hs:∀x∈l,ksz x<=22)(ho:∀x∈l,∃t v,x.2=.iface t v)(h0:yT ksz l<l.length):
  Calls prog 265 #[vl] w (HvKR vl l w):=by
 obtain⟨g,c,d,k,M,R,E,Y,Z,C⟩:=h.at_ (by simp;omega);rw[aj]at M E;subst M;have hm:=WE;have uJ:∀j,((l.take j).map ksz).sum<=(l.map ksz).sum:=by
  intro j;have:=Zu ksz l j;omega
 have Q:(l.map ksz).sum<=22*l.length:=by
  have:∀(L:List KE),(∀x∈L,ksz x<=22)->(L.map ksz).sum<=22*L.length:=by
   intro L N
   induction L with
   |nil=>simp
   |cons a r ih=>
    have A:=N a (by simp);have h2:=ih fun x o=>N x (by simp[o]);simp only[bn,bE,aB];omega
  exact this l hs
 have V:Hid (Calls _ _ _ _ _):=Tc _ l w h hl hs ho;generalize O:(l.map ksz).sum=u at*;have J:Hid _:=O;clear O;go_enter func265,ntmps265;go_wp2_with(first|(go_at_call 266;refine V.out.mono ?_;rintro e w1⟨rfl,G⟩))
 go_loopw [5,6] (fun s i wr=>HvKI l w s i wr) (fun _ i _=>l.length+1-(intOf i).toNat)
 case atStart=>exact⟨0,ay _,rfl,by simp,by simp[yT],G⟩
 case round=>
  obtain⟨j,hj,rfl,rfl,hcut,z⟩:=hrel;have He:=uJ j;rw[J.out]at hcut
  by_cases n:2*((l.take j).map ksz).sum<u
  ·have B:j<l.length:=by
    rcases bG j l.length with A|A
    ·exact A
    ·rw[aJ A,J.out]at n;omega
   have T:(2:Int)*(((l.take j).map ksz).sum:Nat)<(u:Int):=by omega
   obtain⟨x,o⟩:∃x,l[j]?=some x:=⟨_,aa B⟩
   have nh:=hs x (ah o);obtain⟨ti,vi,X⟩:=ho x (ah o);have b:((l.take (j+1)).map ksz).sum=((l.take j).map ksz).sum+ksz x:=by
    rw[qe l j x o];simp
   have p:l.drop j=x::l.drop (j+1):=by
    rw[aL B,(ae.1 o).2]
   have f:j+1+Za ksz (l.map ksz).sum ((l.take (j+1)).map ksz).sum (l.drop (j+1))=yT ksz l:=by
    rw[<-hcut,p,Za,if_pos n,b,J.out];omega
   have F:wr.heap[g]?=some (.cells k 80 (0,0)):=z.get R (by simp);have K:=jC (P:=prog) (ty:=80) _ F (C j _ (by rw[aA,o];rfl)) underlying80 stk;simp only[ke,X]at K;generalize D:((l.take j).map ksz).sum=S at*;have W:Hid _:=b;have U:Hid _:=f;clear b D f hcut p;go_wp2_with(first|(refine ya rfl _ _ (yc 168 (.tmp 16) (.tmp 17) rfl g c l.length d j 3 rfl rfl 80 underlying168 stk B (c+j*3) rfl) ?_)|(refine y8 rfl 80 (.tmp 18) rfl ⟨g,c+j*3,none⟩ rfl _ K ?_)|(go_at_call 227;refine(Tq ⟨x.1,.iface ti vi,x.3⟩ _).mono ?_;rintro e w2⟨rfl,H⟩))
   go_roundw
   case rel=>exact⟨j+1,by omega,by go_num,by rw[W.out];simp only[ksz];rw[Value.int.injEq];refine⟨rfl,?_⟩;rw[w64 _ (by omega)];omega,U.out,z.trans H⟩
   case measure=>simp[intOf];omega
  ·have hge:¬(2:Int)*(((l.take j).map ksz).sum:Nat)<(u:Int):=by omega
   have ej:j=yT ksz l:=by
    have hz:Za ksz u ((l.take j).map ksz).sum (l.drop j)=0:=by
     cases l.drop j with
     |nil=>rfl
     |cons y t=>rw[Za,if_neg n]
    omega
   generalize D:((l.take j).map ksz).sum=S at*;clear hcut D;have B:j<l.length:=by omega
   have i1:(j:Int)<=(l.length:Int):=by omega
   have i2:(j:Int)<=(d:Int):=by omega
   have i3:¬d=j:=by omega
   have i4:j<=d:=by omega
   go_wp2
   go_quiet (fail)
   go_wp2
   go_ret2
   have q:(wr.drewN nq).heap[g]?=some (.cells k 80 (0,0)):=z.get R (by simp);refine⟨_,_,rfl,Or.inr ⟨g,c,yT ksz l,k,?_,q,?_,by omega,by omega,?_⟩,Or.inr ⟨g,c+yT ksz l*3,d-yT ksz l,k,?_,q,?_,by omega,by omega,?_⟩,fun _ I=>I,fun _ I=>I,z.drewN _⟩
   ·simp;omega
   ·simp;omega
   ·intro i e m;rw[List.map_take,aD]at m;split at m
    ·exact C i e m
    ·cases m
   ·simp
   ·simp;omega
   ·intro i e m;rw[List.map_drop,aV]at m;have:=C _ e m;rw[show c+(yT ksz l+i)*3=c+yT ksz l*3+i*3 by omega]at this;exact this
variable {w:World}{v:Value}{es:List El}
theorem SL.Wd{t:TypeId}{d:Nat}(h:SL w t d v es):Wd d es:=h.wd
def OW(w:World)(B:Nat)(t:TypeId)(d:Nat)(v:Value)(es:List El):Prop:=w.ownsRow B t d v es.length (fl es)/\Wd d es
theorem OW.sl{B:Nat}{t:TypeId}{d:Nat}(h:OW w B t d v es):SL w t d v es:=by
 obtain⟨⟨_,⟨rfl,o⟩|⟨g,b,c,rfl,_,s,p,q,y,k⟩⟩,l⟩:=h
 ·exact Or.inl ⟨rfl,bQ o⟩
 ·refine Or.inr ⟨g,0,b,c,rfl,s,p,q,by omega,?_⟩;intro i e a;have f:i<es.length:=(ae.1 a).1;refine⟨l e (ah a),fun j u n=> ?_⟩;have m:=Nt l i e a j u n;have x:j<d:=by rw[<-l e (ah a)];exact(ae.1 n).1
  have r:(i+1)*d<=es.length*d:=bN d f;rw[bT,Nat.one_mul]at r;rw[<-k,aD,if_pos (by omega)]at m;rw[bL]
  simpa using m
variable {g:Nat}
theorem SL.src{t:TypeId}{d off n cap:Nat}(h:SL w t d (.slice (some ⟨g,off,none⟩) n cap) es)(hd:0<d:=by decide):n=es.length/\∀j u,(fl es)[j]?=some u->w.cell? ((⟨g,off,none⟩:Addr).add j)=some u:=by
 have i:=h.Wd;rcases h with⟨h,_⟩|⟨g',sg,fh,cur,e,hh,_,_,_,hc⟩
 ·cases h
 cases e
 refine⟨rfl,?_⟩;intro j u f;have o:j<es.length*d:=by have:=(ae.1 f).1;rwa[gj i]at this
 obtain⟨e,c⟩:∃e,es[j/d]?=some e:=⟨_,aa (Nat.div_lt_of_lt_mul (by rwa[Nat.mul_comm]at o))⟩
 obtain⟨p,l⟩:=hc (j/d) e c;have m:=cT j hd;have b:j=j/d*d+j%d:=by rw[Nat.mul_comm];exact(Nat.div_add_mod j d).symm
 obtain⟨k,a⟩:∃k,e[j%d]?=some k:=⟨_,aa (by omega)⟩
 have f1:=Nt i (j/d) e c _ _ a;rw[<-b,f]at f1;have f2:=l _ _ a;rw[Nat.add_assoc,<-b]at f2;rw[add_lit,aY _ _ _ _ _ _ hh,f2,f1]
theorem itp:(prog.info? 122).map (fun i=>(i.zero,i.size,i.bytes))=some (some (.agg #[.string ⟨#[]⟩,.string ⟨#[]⟩]),2,32):=by kernel_rfl
theorem itk:(prog.info? 80).map (fun i=>(i.zero,i.size,i.bytes))=some (some (.agg #[.string ⟨#[]⟩,.int .i64 0,.nilIface]),3,40):=by kernel_rfl
theorem Xw(W:World):(binOp .eql 116 (.slice none 0 0) (.slice none 0 0)).run prog W=.ok (.bool true) W:=by kernel_rfl
theorem Q50(a:Addr)(n c:Nat)(W:World):(binOp .eql 116 (.slice (some a) n c) (.slice none 0 0)).run prog W=.ok (.bool false) W:=by kernel_rfl
theorem Q51(W:World):(binOp .eql 168 (.slice none 0 0) (.slice none 0 0)).run prog W=.ok (.bool true) W:=by kernel_rfl
theorem Q52(a:Addr)(n c:Nat)(W:World):(binOp .eql 168 (.slice (some a) n c) (.slice none 0 0)).run prog W=.ok (.bool false) W:=by kernel_rfl
def LU(t:TypeId)(d:Nat)(es:List El)(w:World)(e:Ending)(w':World):Prop:=∃v,e=.returned v/\OW w' w.heap.size t d v es/\y6 [] w w'
theorem U7(vl:Value)(es:List El)(w:World)(h:SL w 122 2 vl es)(h1:One 2 es)(hl:es.length<=50000):Calls prog 112 #[vl] w (LU 122 2 es w):=by
 obtain⟨n,i,b,f,c⟩:=bu itp;have k:=h;rcases k with⟨rfl,rfl⟩|⟨g,off,cap,cur,rfl,hg,_,_,_,_⟩
 ·have m:=Xw;go_enter func112,ntmps112;go_wp2;go_ret;exact⟨_,rfl,⟨aM _ _ _ _,by simp[Wd]⟩,y6.refl _ _⟩
 ·have d:=(y6.refl [] w).alloc (.cells #[] 122);have p:(w.alloc (.cells #[] 122)).ownsRow w.heap.size 122 2 (.slice (some ⟨w.heap.size,0,none⟩) 0 0) 0 []:=⟨rfl,Or.inr ⟨w.heap.size,0,#[],rfl,ag _,af _ _,ag _,by unfold maxLen;omega,rfl,rfl⟩⟩
  have l:=(h.kept d).src.2;have m:=Q50;go_enter func112,ntmps112;go_wp2_with(first|(at_builtin;refine cK _ rfl (.tmp 5) (.tmp 6) 116 rfl w.heap.size 122 n _ 2 32 underlying116 i b f c rfl (by decide) (.slice (some ⟨w.heap.size,0,none⟩) 0 0) 0 [] rfl p ⟨g,off,none⟩ es.length cap (fl es) rfl (gj h1.wd) l h1.fl (by unfold maxLen;omega) (by omega) (by simp) ?_;intro q r j e _;have o:=yF e [w.heap.size] (by intro x a;cases a;simp)))
  go_ret;refine⟨_,rfl,?_,d.trans2 o (by intro x a;simp at a;exact Or.inr (by omega))⟩;have:=j;rw[bL,aX]at this;exact⟨this,h1.wd⟩
theorem Vz(vl:Value)(es:List El)(w:World)(h:SL w 80 3 vl es)(h1:One 3 es)(hl:es.length<=50000):Calls prog 263 #[vl] w (LU 80 3 es w):=by
 obtain⟨n,i,b,f,c⟩:=bu itk;have k:=h;rcases k with⟨rfl,rfl⟩|⟨g,off,cap,cur,rfl,hg,_,_,_,_⟩
 ·have m:=Q51;go_enter func263,ntmps263;go_wp2;go_ret;exact⟨_,rfl,⟨aM _ _ _ _,by simp[Wd]⟩,y6.refl _ _⟩
 ·have d:=(y6.refl [] w).alloc (.cells #[] 80);have p:(w.alloc (.cells #[] 80)).ownsRow w.heap.size 80 3 (.slice (some ⟨w.heap.size,0,none⟩) 0 0) 0 []:=⟨rfl,Or.inr ⟨w.heap.size,0,#[],rfl,ag _,af _ _,ag _,by unfold maxLen;omega,rfl,rfl⟩⟩
  have l:=(h.kept d).src.2;have m:=Q52;go_enter func263,ntmps263;go_wp2_with(first|(at_builtin;refine cK _ rfl (.tmp 5) (.tmp 6) 168 rfl w.heap.size 80 n _ 3 40 underlying168 i b f c rfl (by decide) (.slice (some ⟨w.heap.size,0,none⟩) 0 0) 0 [] rfl p ⟨g,off,none⟩ es.length cap (fl es) rfl (gj h1.wd) l h1.fl (by unfold maxLen;omega) (by omega) (by simp) ?_;intro q r j e _;have o:=yF e [w.heap.size] (by intro x a;cases a;simp)))
  go_ret;refine⟨_,rfl,?_,d.trans2 o (by intro x a;simp at a;exact Or.inr (by omega))⟩;have:=j;rw[bL,aX]at this;exact⟨this,h1.wd⟩
theorem Q56{zc:Array Value}{n:Nat}(h0:0<zc.size)(h1:∀u∈zc.toList,u.oneCell'=true):∀u∈(Builtin.zeroCells zc n).toList,u.oneCell'=true:=by
 intro u hu;obtain⟨i,a⟩:=aU.1 hu;simp only[Builtin.zeroCells,Array.getElem?_toList]at a;rw[Array.getElem?_map]at a
 cases c:(Array.range (n*zc.size))[i]? with
 |none=>rw[c]at a;cases a
 |some x=>
  rw[c]at a;simp only[b7,ba]at a;subst a;have b:x%zc.size<zc.size:=cT _ h0;rw[getElem!_pos zc _ b];exact h1 _ (by simp)
variable {P:Program}
theorem VO(w:World)(t e:TypeId)(z:Value)(ht:P.underlying t=some (.slice e))(hv:∀w,(zeroValue e).run P w=.ok z w)(k:Nat)(hk:z.cells.size=k)(xX:0<k)(h1:∀u∈z.cells.toList,u.oneCell'=true)(g o n c:Nat)(cur:List Value)(tg:TypeId)
  (hg:w.heap[g]?=some (.cells cur.toArray tg (0,0)))(hfit:o+n*k<=cur.length):
  ∃W zs,zs.length=n*k/\(∀ty,(Builtin.clear_ #[t] ty #[.slice (some ⟨g,o,none⟩) n c]).run P w=.ok (.tuple #[]) W)/\W.heap[g]?=some (.cells (splice cur o zs).toArray tg (0,0))/\y6 [g] w W:=by
 cases n with
 |zero=>
  refine⟨w,[],by simp,?_,by simpa[splice]using hg,y6.refl _ _⟩;intro ty;simp[Builtin.clear_,aO ht]
 |succ n=>
  have b:(Builtin.zeroCells z.cells (n+1)).toList.length=(n+1)*k:=by rw[bZ,size_zeroCells,hk]
  have a:=run_storeCells_at P g o tg (Builtin.zeroCells z.cells (n+1)).toList 0 cur.toArray w hg (by rw[b];simpa using hfit) (Q56 (by omega) h1);simp only[dG]at a;refine⟨_,_,b,?_,bH w g _ _ tg _ hg,(y6.refl _ _).setRow (Or.inl (by simp)) _⟩;intro ty;simp[Builtin.clear_,aO ht,hv,a,splice]
def qS(d g o cap l:Nat):Addr:=if cap=l then⟨g,o,none⟩else⟨g,o+l*d,none⟩
theorem ZN(d g o cap l:Nat):(qS d g o cap l).block=g:=by unfold qS;split<;>rfl
section
variable {P:Program} (w:World) (t e:TypeId) (d g o n cap:Nat) (hu:P.underlying t=some (.slice e)) (hs:(P.info? e).map (·.size)=some d)
include hu hs
theorem qB(h:Nat)(hh:h<=cap):
  (Instr.sliceAt t (.slice (some ⟨g,o,none⟩) n cap) none (some (.int .i64 h)) none).run P w=.ok (.slice (some ⟨g,o,none⟩) h cap) w:=by
 cases a:P.info? e with
 |none=>simp[a]at hs
 |some b=>
  simp[Instr.sliceAt,Instr.slice,aO hu,Instr.sliceBounds,Instr.sliceBound,asIntOf,sizeOf,typeInfo,a,hh,Addr.add]
theorem yA(l:Nat)(hl:l<=n):
  (Instr.sliceAt t (.slice (some ⟨g,o,none⟩) n cap) (some (.int .i64 l)) none none).run P w=.ok (.slice (some (qS d g o cap l)) (n-l) (cap-l)) w:=by
 cases b:P.info? e with
 |none=>simp[b]at hs
 |some f=>
  have c:f.size=d:=by simpa[b]using hs
  unfold qS
  by_cases a:cap=l
  ·simp[Instr.sliceAt,Instr.slice,aO hu,Instr.sliceBounds,Instr.sliceBound,asIntOf,sizeOf,typeInfo,b,hl,a]
  ·simp[Instr.sliceAt,Instr.slice,aO hu,Instr.sliceBounds,Instr.sliceBound,asIntOf,sizeOf,typeInfo,b,c,hl,a,add_lit]
theorem We(l h:Nat)(hl:l<=h)(hh:h<=cap):
  (Instr.sliceAt t (.slice (some ⟨g,o,none⟩) n cap) (some (.int .i64 l)) (some (.int .i64 h)) none).run P w=.ok (.slice (some (qS d g o cap l)) (h-l) (cap-l)) w:=by
 cases b:P.info? e with
 |none=>simp[b]at hs
 |some i=>
  have c:i.size=d:=by simpa[b]using hs
  unfold qS
  by_cases a:cap=l
  ·have f:h=l:=by omega
   subst f;subst a;simp[Instr.sliceAt,Instr.slice,aO hu,Instr.sliceBounds,Instr.sliceBound,asIntOf,sizeOf,typeInfo,b]
  ·simp[Instr.sliceAt,Instr.slice,aO hu,Instr.sliceBounds,Instr.sliceBound,asIntOf,sizeOf,typeInfo,b,c,hl,hh,a,add_lit]
end
theorem muld(a b c d:Nat)(h:a+b<=c):a*d+b*d<=c*d:=by
 rw[<-bT];exact bN d h
def Rw(w:World)(g:Nat)(t:TypeId)(cur:List Value):Prop:=w.heap[g]?=some (.cells cur.toArray t (0,0))
variable {cur:List Value}
theorem Rw.kept{w':World}{t:TypeId}{S:List Nat}(h:Rw w g t cur)(k:y6 S w w')(hg:g∉S):Rw w' g t cur:=y6.get k h hg
theorem Rw.drew{w:World}{g:Nat}{t:TypeId}{cur:List Value}(h:Rw w g t cur):Rw w.drew g t cur:=h
theorem Rw.src{t:TypeId}{d:Nat}(h:Rw w g t cur)(cap l k:Nat)(hl:l+k<=cap):∀j u,((cur.drop (l*d)).take (k*d))[j]?=some u->w.cell? ((qS d g 0 cap l).add j)=some u:=by
 intro j u a;rw[aD]at a;split at a
 ·rename_i b;have c:¬cap=l:=by
   intro e;have:k=0:=by omega
   rw[this,dw]at b;omega
  unfold qS;rw[if_neg c,add_lit,aY _ _ _ _ _ _ h];rw[aV]at a
  simpa using a
 ·cases a
theorem Zo{t:TypeId}{d:Nat}(h:Rw w g t cur)(dT sT elem:TypeId)(hu:P.underlying dT=some (.slice elem))(hs:(P.info? elem).map (·.size)=some d)(cap n l:Nat)(hl:l<=n)(hn:n<=cap)(hc:cur.length=cap*d)
  (a:Addr)(m c:Nat)(cs:List Value)(hcs:cs.length=Nat.min m (n-l)*d)(hH:∀j v,cs[j]?=some v->w.cell? (a.add j)=some v)(h1:∀v∈cs,v.oneCell'=true):
  ∃W,(∀ty,(Builtin.copy_ #[dT,sT] ty #[.slice (some (qS d g 0 cap l)) (n-l) (cap-l),.slice (some a) m c]).run P w=.ok (goInt (Nat.min m (n-l))) W)/\Rw W g t (splice cur (l*d) cs)/\y6 [g] w W:=by
 have i:Nat.min m (n-l)<=n-l:=Nat.min_le_right _ _
 by_cases b:cap=l
 ·have f:Nat.min m (n-l)=0:=by omega
  have k:cs= []:=bQ (by rw[hcs,f,dw]);subst k;have e:=fun ty=>Zi (P:=P) w dT sT ty elem g 0 (n-l) (cap-l) d a m c cur.toArray t [] hu hs h (by simp[f]) hH (by simp) h1;refine⟨_,?_,bH w g _ _ t _ h,(y6.refl _ _).setRow (Or.inl (by simp)) _⟩;intro ty;unfold qS;rw[if_pos b,e];simp[splice]
 ·have e:=fun ty=>Zi (P:=P) w dT sT ty elem g (l*d) (n-l) (cap-l) d a m c cur.toArray t cs hu hs h hcs hH (by have:=muld l (Nat.min m (n-l)) cap d (by omega);simp;omega) h1;refine⟨_,?_,bH w g _ _ t _ h,(y6.refl _ _).setRow (Or.inl (by simp)) _⟩;intro ty;unfold qS;rw[if_neg b,bL,e];simp[splice]
theorem Ot{t:TypeId}{d:Nat}(h:Rw w g t cur)(dT e:TypeId)(z:Value)(ht:P.underlying dT=some (.slice e))(hv:∀w,(zeroValue e).run P w=.ok z w)(hk:z.cells.size=d)(h1:∀u∈z.cells.toList,u.oneCell'=true)
  (cap n l:Nat)(hl:l<=n)(hn:n<=cap)(hc:cur.length=cap*d)(hd:0<d:=by decide):
  ∃W zs,zs.length=(n-l)*d/\(∀ty,(Builtin.clear_ #[dT] ty #[.slice (some (qS d g 0 cap l)) (n-l) (cap-l)]).run P w=.ok (.tuple #[]) W)/\Rw W g t (splice cur (l*d) zs)/\y6 [g] w W:=by
 by_cases a:cap=l
 ·obtain⟨W,zs,b,f,c,i⟩:=VO (P:=P) w dT e z ht hv d hk hd h1 g 0 (n-l) (cap-l) cur t h (by have:n-l=0:=(by omega);rw[this,dw];omega);refine⟨W,zs,b,?_,?_,i⟩
  ·intro ty;unfold qS;rw[if_pos a,f]
  ·have j:zs= []:=bQ (by rw[b,show n-l=0 by omega,dw]);subst j;have:splice cur (l*d) ([]:List Value)=splice cur 0 []:=by simp[splice]
   rw[this];exact c
 ·obtain⟨W,zs,b,f,c,i⟩:=VO (P:=P) w dT e z ht hv d hk hd h1 g (l*d) (n-l) (cap-l) cur t h (by have:=muld l (n-l) cap d (by omega);omega);refine⟨W,zs,b,?_,c,i⟩;intro ty;unfold qS;rw[if_neg a,bL,f]
theorem Pp{e:TypeId}{d:Nat}(h:Rw w g e cur)(t u du:TypeId)(ht:P.underlying t=some (.slice e))(hu:P.underlying u=some (.slice du))(hs:(P.info? e).map (·.size)=some d)(cap n:Nat)(hc:cur.length=cap*d)
  (a:Addr)(m c:Nat)(hroom:n+m<=cap)(cs:List Value)(hcs:cs.length=m*d)(hH:∀j v,cs[j]?=some v->w.cell? (a.add j)=some v)(h1:∀v∈cs,v.oneCell'=true):
  ∃W,(∀ty,(Builtin.append_ #[t,u] ty #[.slice (some ⟨g,0,none⟩) n cap,.slice (some a) m c]).run P w=.ok (.slice (some ⟨g,0,none⟩) (n+m) cap) W)/\Rw W g e (splice cur (n*d) cs)/\y6 [g] w W:=by
 cases f:P.info? e with
 |none=>simp[f]at hs
 |some i=>
  have l:i.size=d:=by simpa[f]using hs
  have k:=run_firstCells_some (P:=P) w d m a m c cs hcs hH;have b:=run_storeCells_at P g (n*d) e cs 0 cur.toArray w h (by have:=muld n m cap d hroom;simp;omega) h1;simp only[dG]at b;refine⟨_,?_,bH w g _ _ e _ h,(y6.refl _ _).setRow (Or.inl (by simp)) _⟩;intro ty;simp[Builtin.append_,aO ht,aO hu,sizeOf,typeInfo,f,l,Builtin.lenOf,hroom,k,Addr.add_lit,b,splice]
theorem Q5b{e:TypeId}{d:Nat}(h:Rw w g e cur)(t u du:TypeId)(i:TypeInfo)(z:Value)(ht:P.underlying t=some (.slice e))(hu:P.underlying u=some (.slice du))(hi:P.info? e=some i)(hz:i.zero=some z)(hs:i.size=d)(hb:i.bytes<=40)(eE:z.cells.size=d)
  (cap n:Nat)(hn:n<=cap)(hc:cur.length=cap*d)(a:Addr)(m c:Nat)(hroom:cap<n+m)(hbig:n+m<=200000)(cs:List Value)(hcs:cs.length=m*d)(hH:∀j v,cs[j]?=some v->w.cell? (a.add j)=some v):
  ∃W fh rest,(∀ty,(Builtin.append_ #[t,u] ty #[.slice (some ⟨g,0,none⟩) n cap,.slice (some a) m c]).run P w=.ok (.slice (some ⟨w.heap.size,0,none⟩) (n+m) fh) W)/\Rw W w.heap.size e (cur.take (n*d)++cs++rest)/\(cur.take (n*d)++cs++rest).length=fh*d/\n+m<=fh/\fh<=maxLen/\y6 [] w W:=by
 have b:∀j v,(cur.take (n*d))[j]?=some v->w.cell? ((⟨g,0,none⟩:Addr).add j)=some v:=by
  intro j v l;rw[aD]at l;split at l
  ·rw[add_lit,aY _ _ _ _ _ _ h];simpa using l
  ·cases l
 have f:(cur.take (n*d)).length=n*d:=by have:=bN d hn;rw[au];omega
 have p:=grownCap_ge w (n+m) cap e;have o:grownCap w (n+m) cap e<=maxLen:=grownCap_le_maxLen w (n+m) cap e (by unfold maxLen;omega);have k:Builtin.nextslicecap (n+m) cap*i.bytes<=281474976710656:=growslice_fits (by omega) (av (dD _ hb) (by omega));have y:¬(9223372036854775807<((n:Int)+(m:Int))):=by omega
 have r:¬(281474976710656<Builtin.nextslicecap (n+m) cap*i.bytes):=by omega
 have s:¬(n+m<=cap):=by omega
 have A:=run_firstCells_some (P:=P) w.drew i.size m a m c cs (by rw[hs];exact hcs) (by simpa using hH);have B:=run_firstCells_some (P:=P) w.drew i.size n ⟨g,0,none⟩ n cap (cur.take (n*d)) (by rw[hs];exact f) (by simpa using b);have q:=fun ty=>run_append_grow (P:=P) w t ty e i z ht hi hz ⟨g,0,none⟩ n cap (cur.take (n*d)) (by rw[hs];exact f) b a m c cs (by rw[hs];exact hcs) hH hroom (by omega) k;have x:∀ty,(Builtin.append_ #[t,u] ty #[.slice (some ⟨g,0,none⟩) n cap,.slice (some a) m c]).run P w=(Builtin.append_ #[t,t] ty #[.slice (some ⟨g,0,none⟩) n cap,.slice (some a) m c]).run P w:=by
  intro ty;simp[Builtin.append_,aO ht,aO hu,sizeOf,typeInfo,hi]
 refine⟨_,grownCap w (n+m) cap e,(Builtin.zeroCells z.cells (grownCap w (n+m) cap e-(n+m))).toList,fun ty=>(x ty).trans ((q ty).trans rfl),?_,?_,p,o,((y6.refl [] w).drew).alloc _⟩
 ·have:=af w.drew (.cells ((cur.take (n*d)).toArray++cs.toArray++Builtin.zeroCells z.cells (grownCap w (n+m) cap e-(n+m))) e);unfold Rw;rw[show w.heap.size=w.drew.heap.size from rfl,this];simp
 ·simp only[ai,f,hcs,bZ,size_zeroCells,eE];have e:=congrArg (·*d) (show n+m+(grownCap w (n+m) cap e-(n+m))=grownCap w (n+m) cap e by omega);simp only[bT]at e;omega
theorem TN{e:TypeId}{d:Nat}(h:Rw w g e cur)(t tn:TypeId)(i:TypeInfo)(z:Value)(ht:P.underlying t=some (.slice e))(hu:P.underlying tn=some (.int .i64))(hi:P.info? e=some i)(hz:i.zero=some z)(hs:i.size=d)(hb:i.bytes<=40)(eE:z.cells.size=d)
  (cap n:Nat)(hn:n<=cap)(hc:cur.length=cap*d)(m:Nat)(h0:0<m)(hroom:cap<n+m)(hbig:n+m<=200000)(hd:0<d:=by decide):
  ∃W fh rest,(∀ty,(Builtin.append_ #[t,tn] ty #[.slice (some ⟨g,0,none⟩) n cap,.int .i64 m]).run P w=.ok (.slice (some ⟨w.heap.size,0,none⟩) (n+m) fh) W)/\Rw W w.heap.size e (cur.take (n*d)++rest)/\(cur.take (n*d)++rest).length=fh*d/\n+m<=fh/\fh<=maxLen/\y6 [] w W:=by
 have a:∀j v,(cur.take (n*d))[j]?=some v->w.cell? ((⟨g,0,none⟩:Addr).add j)=some v:=by
  intro j v f;rw[aD]at f;split at f
  ·rw[add_lit,aY _ _ _ _ _ _ h];simpa using f
  ·cases f
 have c:(cur.take (n*d)).length=n*d:=by have:=bN d hn;rw[au];omega
 have l:=grownCap_ge w (n+m) cap e;have k:grownCap w (n+m) cap e<=maxLen:=grownCap_le_maxLen w (n+m) cap e (by unfold maxLen;omega);have b:Builtin.nextslicecap (n+m) cap*i.bytes<=281474976710656:=growslice_fits (by omega) (av (dD _ hb) (by omega));have p:=run_firstCells_some (P:=P) w.drew i.size n ⟨g,0,none⟩ n cap (cur.take (n*d)) (by rw[hs];exact c) (by simpa using a);have o:=fun ty=>Lib.run_append_grow_zeros (P:=P) w t tn ty e i z .i64 .i64 ht hu hi hz (some ⟨g,0,none⟩) n cap (cur.take (n*d)) p m h0 (by rw[hs];exact hd) hroom (by omega) (av (dD _ hb) (by omega)) b;refine⟨_,grownCap w (n+m) cap e,(Builtin.zeroCells z.cells m++Builtin.zeroCells z.cells (grownCap w (n+m) cap e-(n+m))).toList,o,?_,?_,l,k,((y6.refl [] w).drew).alloc _⟩
 ·have:=af w.drew (.cells ((cur.take (n*d)).toArray++Builtin.zeroCells z.cells m++Builtin.zeroCells z.cells (grownCap w (n+m) cap e-(n+m))) e);unfold Rw;rw[show w.heap.size=w.drew.heap.size from rfl,this];simp
 ·simp only[ai,c,Array.toList_append,bZ,size_zeroCells,eE];have e:=congrArg (·*d) (show n+m+(grownCap w (n+m) cap e-(n+m))=grownCap w (n+m) cap e by omega);simp only[bT]at e;omega
theorem UX{d:Nat}{e e':TypeId}{cu:Array Value}(tS tR:TypeId)(ht:P.underlying tS=some (.slice e))(hs:(P.info? e).map (·.size)=some d)(a b:Addr)(la ca lb cb:Nat)(ha:w.heap[a.block]?=some (.cells cu e' (0,0)))(hb:b.block=g)(h:Rw w g e cur)(hne:a.block≠g)(h0:0<cur.length):
  (Extern.SlicesOverlaps.overlaps #[tS,tS] #[tR] #[.slice (some a) la ca,.slice (some b) lb cb]).run P w=.ok (.bool false) w:=by
 have j:∀w,(Go.sizeOf e).run P w=.ok d w:=by
  intro w
  cases c:P.info? e with
  |none=>simp[c]at hs
  |some i=>
   have f:i.size=d:=by simpa[c]using hs
   simp[sizeOf,typeInfo,c,f]
 subst hb;refine Lib.run_overlaps_apart w tS tR e ht d j a b la ca lb cb hne e' e cu.size cur.length ?_ ?_ (by omega) ?_ ?_
 ·simp[World.shape?,ha]
 ·unfold Rw at h;simp[World.shape?,h]
 ·simp[World.frozen?,ha]
 ·simp[World.frozen?,ha]
theorem OW.open{B:Nat}{t:TypeId}{d:Nat}(h:OW w B t d v es)(h0:0<es.length):∃g cap cur,v=.slice (some ⟨g,0,none⟩) es.length cap/\B<=g/\Rw w g t cur/\es.length<=cap/\cap<=maxLen/\cur.length=cap*d/\cur.take (es.length*d)=fl es:=by
 obtain⟨⟨_,⟨rfl,b⟩|⟨g,cap,cur,rfl,f,i,b,c,e,a⟩⟩,_⟩:=h
 ·omega
 ·exact⟨g,cap,cur.toList,rfl,f,i,b,c,by simpa using e,a⟩
theorem OW.close{B:Nat}{t:TypeId}{d:Nat}{n cap:Nat}(hw:Wd d es)(hB:B<=g)(h:Rw w g t cur)(hn:n=es.length)(h1:n<=cap)(h2:cap<=maxLen)(h3:cur.length=cap*d)(htk:cur.take (n*d)=fl es):OW w B t d (.slice (some ⟨g,0,none⟩) n cap) es:=by
 subst hn;exact⟨⟨gj hw,Or.inr ⟨g,cap,cur.toArray,rfl,hB,h,h1,h2,by simpa using h3,htk⟩⟩,hw⟩
def QF(B:Nat)(t:TypeId)(d:Nat)(v:Value)(es:List El)(w:World)(e:Ending)(w':World):Prop:=∃v',e=.returned v'/\OW w' B t d v' es/\y6 v.ownBlock.toList w w'
theorem Q5e(es:List El)(hw:Wd 2 es)(cur zs:List Value)(i n:Nat)(hn:n=es.length)(hi:i<n)(htk:cur.take (n*2)=fl es):
  (splice (splice cur (i*2) ((cur.drop ((i+1)*2)).take ((n-(i+1))*2))) ((n-1)*2) zs).take ((n-1)*2)=fl (es.take i++es.drop (i+1)):=by
 have c:(cur.drop ((i+1)*2)).take ((n-(i+1))*2)=fl (es.drop (i+1)):=by
  rw[<-Pc hw,<-htk,cC];congr 1;omega
 have d:cur.take (i*2)=fl (es.take i):=by
  rw[<-P3 hw,<-htk,cA];congr 1;omega
 rw[c];have a:(fl (es.take i)).length=i*2:=by rw[gj (hw.take i),au];omega
 have b:(fl (es.drop (i+1))).length=(n-(i+1))*2:=by rw[gj (hw.drop _),aC];omega
 unfold splice;rw[d,qx];have e:(fl (es.take i)++(fl (es.drop (i+1))++cur.drop (i*2+(fl (es.drop (i+1))).length))).take ((n-1)*2)=fl (es.take i)++fl (es.drop (i+1)):=by
  rw[<-aG,br (by rw[ai,a,b];omega),aJ (by rw[ai,a,b];omega)]
 rw[e,br (by rw[ai,a,b];omega),aJ (by rw[ai,a,b];omega)]
theorem zvp(w:World):(zeroValue 122).run prog w=.ok (.agg #[.string ⟨#[]⟩,.string ⟨#[]⟩]) w:=by kernel_rfl
theorem Zx{d:Nat}(h1:One d es){n:Nat}(htk:cur.take (n*d)=fl es)(l k:Nat)(hlk:l+k<=n):∀u∈(cur.drop (l*d)).take (k*d),u.oneCell'=true:=by
 intro u hu;refine h1.fl u ?_;rw[<-htk];obtain⟨j,a⟩:=aU.1 hu;rw[aD]at a;have b:=bN d hlk;rw[bT]at b;split at a
 ·rw[aV]at a;refine ah (i:=l*d+j) ?_;rw[aD,if_pos (by omega)];exact a
 ·cases a
theorem Q5f(B:Nat)(vl:Value)(es:List El)(i:Nat)(w:World)(h:OW w B 122 2 vl es)(h1:One 2 es)(hi:i<es.length)(hl:es.length<=50000):
  Calls prog 111 #[vl,.int .i64 i,.int .i64 ((i:Int)+1)] w (QF B 122 2 vl (es.take i++es.drop (i+1)) w):=by
 obtain⟨g,a,b,rfl,z,s,A,n,f,l⟩:=h.open (by omega);have f1:(i:Int)<=(i:Int)+1:=by omega
 have f2:(i:Int)+1<=(es.length:Int):=by omega
 have f3:(es.length:Int)<=(a:Int):=by omega
 have f4:¬(i:Int)=(i:Int)+1:=by omega
 have j:((b.drop ((i+1)*2)).take ((es.length-(i+1))*2)).length=(es.length-(i+1))*2:=by rw[au,aC];omega
 obtain⟨p,r,C,D⟩:=Pp (P:=prog) s.drew 116 116 122 underlying116 underlying116 stp a i f (qS 2 g 0 a (i+1)) (es.length-(i+1)) (a-(i+1)) (by omega) ((b.drop ((i+1)*2)).take ((es.length-(i+1))*2)) j (s.drew.src a (i+1) (es.length-(i+1)) (by omega)) (Zx h1 l (i+1) _ (by omega));have o:(splice b (i*2) ((b.drop ((i+1)*2)).take ((es.length-(i+1))*2))).length=a*2:=by rw[aN _ _ _ (by rw[j];omega),f]
 have c:i+(es.length-(i+1))=es.length-1:=by omega
 rw[c]at r;have q:y6 [g] w p:=((y6.refl [g] w).drew).trans D;have F:∀W:World,(Instr.sliceAt 116 (.slice (some ⟨g,0,none⟩) (es.length-1) a) (some (.int .i64 ((es.length-1:Nat):Int))) (some (.int .i64 (es.length:Int))) none).run prog W=.ok (.slice (some (qS 2 g 0 a (es.length-1))) (es.length-(es.length-1)) (a-(es.length-1))) W:=fun W=>We W 116 122 2 g 0 (es.length-1) a underlying116 stp (es.length-1) es.length (by omega) (by omega);obtain⟨x,E,v,y,k,t⟩:=Ot (P:=prog) C 116 122 _ underlying116 zvp (by rfl) (by intro u hu;simp[Value.cells]at hu;rcases hu with rfl|rfl<;>rfl) a es.length (es.length-1) (by omega) (by omega) o;have d:QF B 122 2 (.slice (some ⟨g,0,none⟩) es.length a) (es.take i++es.drop (i+1)) w (.returned (.slice (some ⟨g,0,none⟩) (es.length-1) a)) x:=by
  refine⟨_,rfl,OW.close (h1.wd.take i|>.app (h1.wd.drop _)) z k (by simp;omega) (by omega) n (by rw[aN _ _ _ (by rw[v,o];omega),o]) (Q5e es h1.wd b E i es.length rfl hi l),?_⟩;exact q.trans t
 have m:Hid _:=d;clear d q t k v;go_enter func111,ntmps111;go_wp2;refine yo (fun _:World=>True) (by kernel_rfl) ?_;refine uh 0 (.slice (some ⟨g,0,none⟩) es.length a) rfl (fun W e=>by rfl) trivial ?_;refine uh 1 (.int .i64 i) rfl (fun W e=>by rfl) trivial ?_;refine uh 2 (.slice (some ⟨g,0,none⟩) i a) rfl (fun W e=>yY 116 (.tmp 20) none (some (.tmp 21)) none rfl _ none (some (.int .i64 i)) none rfl rfl rfl rfl _ (qB W 116 122 2 g 0 es.length a underlying116 stp i (by omega))) trivial ?_;refine uh 3 (.slice (some ⟨g,0,none⟩) es.length a) rfl (fun W e=>by rfl) trivial ?_;refine uh 4 (.int .i64 ((i:Int)+1)) rfl (fun W e=>by rfl) trivial ?_;refine uh 5 (.slice (some (qS 2 g 0 a (i+1))) (es.length-(i+1)) (a-(i+1))) rfl (fun W e=>yY 116 (.tmp 23) (some (.tmp 24)) none none rfl _ (some (.int .i64 ((i+1:Nat):Int))) none none rfl rfl rfl rfl _ (yA W 116 122 2 g 0 es.length a underlying116 stp (i+1) (by omega))) trivial ?_;refine yi (i:=6) (by kernel_rfl) (yM rfl (by rfl) _ p (qc (.tmp 22) (.tmp 25) 116 116 rfl _ _ rfl rfl _ (r _)) ⟨trivial,?_⟩);simp only[zz];refine yi (i:=7) (by kernel_rfl) (yM rfl (by rfl) (.slice (some ⟨g,0,none⟩) (es.length-1) a) p rfl ⟨trivial,?_⟩);simp only[zz];refine aK (by kernel_rfl) ?_ _;go_wp2_with(first|(at_builtin;(refine ya rfl _ x (PY (.tmp 31) 116 rfl _ rfl _ (y _)) ?_)))
 go_ret;exact m.out
end Go.Proofs.YtcklgafpgdhnaaaGreatDoor
