import Derived.Test.YtcklgafpgdhnaaaGreatDoorPybd
set_option maxRecDepth 100000
set_option maxHeartbeats 4000000
set_option linter.unusedSimpArgs false
set_option linter.unusedVariables false
set_option linter.unusedSectionVars false
open Go.Proofs.Tryz
namespace Go.Proofs.YtcklgafpgdhnaaaGreatDoor
open Go.RowKit
def SdR(o:Option Nat)(w:World)(e:Ending)(w':World):Prop:=
 (match o with
  |some h=>e=.returned (.int .i64 (h:Nat))
  |none=>Thr 7 e w')/\y6 [] w w'
theorem W8(p:Option Addr)(n c:Nat):jj "store/tree.sound" (.iface 116 (.slice p n c)) 240 (.slice p n c):=⟨_,rfl,fun _=>by kernel_rfl,fun _ _=>by kernel_rfl⟩
theorem QcD(p:Option Addr)(n c:Nat):jj "store/tree.sound" (.iface 168 (.slice p n c)) 259 (.slice p n c):=⟨_,rfl,fun _=>by kernel_rfl,fun _ _=>by kernel_rfl⟩
theorem QcE(v:Value)(l:List Pr)(w:World)(h:LF w v l)(hl:l.length<=200)(hs:∀p∈l,p.1.size<=8/\p.2.size<=12):Calls prog 239 #[v] w fun e w'=>e=.returned (.int .i64 ((l.map psz).sum:Nat))/\y6 [] w w':=by
 have d:Hid (Calls _ _ _ _ _):=Pj v l w h (by omega) fun x f=>by have:=hs x f;unfold psz;omega
 obtain⟨p,c,b⟩:=SL.shape h;rw[aj]at b;subst b;go_enter func239,ntmps239;go_wp2_with(first|(go_at_call 244;refine d.out.mono ?_;rintro e g⟨rfl,a⟩))
 go_ret;exact⟨rfl,a⟩
theorem Vd{l:List Pr}(h:(List.map psz l).sum<=122):l.length<=200:=by
 have:∀L:List Pr,2*L.length<=(L.map psz).sum:=by
  intro L
  induction L with
  |nil=>simp
  |cons a r ih=>simp only[aB,bn,bE];unfold psz at*;omega
 have:=this l;omega
theorem QcG{w:World}{A:Nat->Prop}{d:Nat}{u:UNd d}{x:Value}(hx:UND w A d u x)(ho:okU d u):
  ∃f v,jj "store/tree.size" x f v/\∀W,y6 [] w W->Calls prog f #[v] W fun e w'=>e=.returned (.int .i64 (szU d u:Nat))/\y6 [] W w':=by
 cases d with
 |zero=>exact hx.elim
 |succ d=>
  cases u with
  |inl l=>
   obtain⟨v,rfl,a,_⟩:=hx;have g:=fun W k=>QcE v l W (LF.kept a k) (Vd ho.2) ho.1;obtain⟨p,c,j⟩:=SL.shape a;subst j;exact⟨_,_,UK _ _ _,g⟩
  |inr o=>
   obtain⟨v,m,rfl,a,_,h⟩:=hx;have q:∀x∈m,∃t v,x.2=.iface t v:=by
    intro x hx;obtain⟨i,n⟩:=aU.1 hx;have a:i<o.length:=by rw[h.1];exact(ae.1 n).1
    exact(h.2 i _ x (aa a) n).2.iface
   have b:m.length<=1000:=by rw[<-h.1];have:=ho.1;omega
   have g:=fun W k=>U6 v m W (SL.kept a k) b q;rw[<-h.1]at g;obtain⟨p,c,j⟩:=SL.shape a;subst j;exact⟨_,_,T4 _ _ _,g⟩
theorem QcH(v:Value)(l:List Pr)(f t:ByteArray)(w:World)(h:LF w v l)(hl:l.length<=200):Calls prog 240 #[v,.string f,.string t] w (SdR (if sndL f t l then some 1 else none) w):=by
 have a:=fun W (k:y6 [] w W)=>QcA v l f t W (SL.kept h k) hl;obtain⟨X,b⟩:∃X:Option Nat,X=if sndL f t l then some 1 else none:=⟨_,rfl⟩
 rw[<-b]
 cases l with
 |nil=>
  have i:Hid (X=none):=b;obtain⟨p,c,x⟩:=SL.shape h;subst x;clear a h b;go_enter func240,ntmps240;go_wp2_with(go_at_call 188;refine(jB _).mono ?_;rintro e B⟨ht,s⟩;obtain⟨g,o,rfl,D⟩:=ht.ex)
  refine⟨rfl,?_⟩;rw[i.out];exact⟨ht,s⟩
 |cons q r=>
  have j:Hid (Calls _ _ _ _ _):=VY v q r w h;obtain⟨p,c,x⟩:=SL.shape h;rw[aj]at x;subst x;have H:(0:Int)<(((q::r).length:Nat):Int):=by simp only[aB];omega
  have HL:Hid (sndL f t (q::r)=(!be q.1 yu&&qQ false ((q::r).map fun p=>p.1) f t)):=rfl
  cases d:be q.1 yu with
  |true=>
   have z:q.1.toList.isEmpty=true:=by rw[<-Mt];exact d
   have i:Hid (X=none):=by show _=_;rw[b,HL.out,d];rfl
   clear a h d HL b;generalize(q::r).length=m at*;go_enter func240,ntmps240;go_wp2_with(first|(go_at_call 234;refine j.out.mono ?_;rintro e E⟨rfl,n⟩)|(go_at_call 188;refine(jB _).mono ?_;rintro e B⟨ht,s⟩;obtain⟨g,o,rfl,D⟩:=ht.ex))
   refine⟨rfl,?_⟩;rw[i.out];exact⟨ht,n.trans s⟩
  |false=>
   have z:q.1.toList.isEmpty=false:=by rw[<-Mt];exact d
   cases u:qQ false ((q::r).map fun p=>p.1) f t with
   |true=>
    have i:Hid (X=some 1):=by show _=_;rw[b,HL.out,d,u];rfl
    rw[u]at a;have y:Hid (∀W,y6 [] w W->Calls prog 245 #[.slice p (q::r).length c,.string f,.string t] W fun e A=>e=.returned (.bool true)/\y6 [] W A):=a;clear a h d HL u b;generalize(q::r).length=m at*;go_enter func240,ntmps240;go_wp2_with(first|(go_at_call 234;refine j.out.mono ?_;rintro e E⟨rfl,n⟩)|(go_at_call 245;refine(y.out _ n).mono ?_;rintro e B⟨rfl,s⟩)|(go_at_call 188;refine(jK _).mono ?_;rintro e F⟨rfl,C⟩;rw[C];clear C F))
    go_ret;rw[i.out];exact⟨rfl,n.trans s⟩
   |false=>
    have i:Hid (X=none):=by show _=_;rw[b,HL.out,d,u];rfl
    rw[u]at a;have y:Hid (∀W,y6 [] w W->Calls prog 245 #[.slice p (q::r).length c,.string f,.string t] W fun e A=>e=.returned (.bool false)/\y6 [] W A):=a;clear a h d HL u b;generalize(q::r).length=m at*;go_enter func240,ntmps240;go_wp2_with(first|(go_at_call 234;refine j.out.mono ?_;rintro e E⟨rfl,n⟩)|(go_at_call 245;refine(y.out _ n).mono ?_;rintro e B⟨rfl,s⟩)|(go_at_call 188;refine(jB _).mono ?_;rintro e F⟨ht,G⟩;obtain⟨g,o,rfl,D⟩:=ht.ex))
    refine⟨rfl,?_⟩;rw[i.out];exact⟨ht,(n.trans s).trans G⟩
def SdOk(d:Nat):Prop:=d<=1000->∀(A:Nat->Prop) (u:UNd d) (x:Value) (f t:ByteArray) (w:World),UND w A d u x->okU d u->∃fn v,jj "store/tree.sound" x fn v/\∀W,y6 [] w W->Calls prog fn #[v,.string f,.string t] W (SdR (gc d f t u) W)
theorem Oo:∀(d:Nat) (u:UNd d) (f t:ByteArray) (h:Nat),gc d f t u=some h->h<=d
 |0,_,_,_,_,h=>by cases h
 |d+1,.inl l,f,t,x,h=>by
  simp only[gc]at h;split at h
  ·cases h;omega
  ·cases h
 |d+1,.inr g,f,t,x,h=>by
  simp only[gc]at h;split at h
  ·obtain⟨b,c,i⟩:=cj.1 h;have a:=(OS c).2
   cases g with
   |nil=>rename_i e;cases e
   |cons k r=>
    have:=Oo d k.2 _ _ _ (a 0 k rfl).1;omega
  ·cases h
def SnI(d:Nat)(t:ByteArray)(ks:List (qG (UNd d)))(w:World)(hv i:Value)(wr:World):Prop:=
 ∃(j:Nat) (hi:Option Nat),j<=ks.length/\hv=.int .i64 (hi.getD 0:Nat)/\i=.int .i64 (j:Nat)/\j3 (gc d) (szU d) t hi (ks.drop j)=j3 (gc d) (szU d) t none ks/\(j=0↔hi=none)/\(∀c,hi=some c->c<=d)/\y6 [] w wr
theorem Yy(d:Nat)(hdb:d<=1000)(IH:SdOk d)(A:Nat->Prop)(v:Value)(xs:List KE)(ks:List (qG (UNd d)))(f t:ByteArray)(w:World)(h:SL w 80 3 v (xs.map ke))(hf:F2 (fun(k:qG (UNd d)) (e:KE)=>(e.1=k.1/\e.3=k.3)/\UND w A d k.2 e.2) ks xs)(ho:okU (d+1) (.inr ks)):
  Calls prog 259 #[v,.string f,.string t] w (SdR (gc (d+1) f t (.inr ks)) w):=by
 have R:=ho.2;have E:xs.length=ks.length:=hf.1.symm;have Jd:=ho.1;have oD:∀x∈xs,∃t v,x.2=.iface t v:=by
  intro x hx;obtain⟨i,F⟩:=aU.1 hx;have hl:i<ks.length:=by rw[hf.1];exact(ae.1 F).1
  exact(hf.2 i _ x (aa hl) F).2.iface
 have D:(xs.map fun x=>x.1)=ks.map fun k=>k.1:=by
  apply cJ;intro i;rw[aA,aA];rcases bG i ks.length with F|F
  ·obtain⟨b,hb,hr⟩:=hf.get (aa F);rw[hb,aa F];simp[hr.1.1]
  ·rw[bY (by rw[E];exact F),bY F];rfl
 have H:=fun W (k:y6 [] w W)=>QcB v xs f t W (SL.kept h k) (by rw[E];omega) (fun x hx=>by obtain⟨t,v,e⟩:=oD x hx;rw[e];rfl);rw[D]at H;have o4:Hid (gc (d+1) f t (.inr ks)=if sndB f t ks then(j3 (gc d) (szU d) t none ks).map (·+1)else none):=rfl;obtain⟨pv,c,ev⟩:=SL.shape h;rw[aj,E]at ev;subst ev
 by_cases h1:1<ks.length
 rotate_left
 ·have h1':¬(1:Int)<(ks.length:Int):=by omega
  have HB:Hid (gc (d+1) f t (.inr ks)=none):=by
   show _=_;rw[o4.out]
   cases ks with
   |nil=>rfl
   |cons k r=>
    have:sndB f t (k::r)=false:=by simp only[sndB];rw[ct h1];rfl
    rw[this];rfl
  clear H hf R D oD o4;generalize ks.length=m at*;go_enter func259,ntmps259;go_wp2_with(go_at_call 188;refine(jB _).mono ?_;rintro e w2⟨ht,k2⟩;obtain⟨g,o,rfl,vI⟩:=ht.ex)
  refine⟨rfl,?_⟩;rw[HB.out];exact⟨ht,k2⟩
 have h1':(1:Int)<(ks.length:Int):=by omega
 obtain⟨k0,r0,ek⟩:∃k0 r0,ks=k0::r0:=by
  cases ks with
  |nil=>simp at h1
  |cons a r=>exact⟨a,r,rfl⟩
 obtain⟨x0,y0,zT⟩:∃x0 y0,xs=x0::y0:=by
  cases xs with
  |nil=>rw[ek]at E;simp at E
  |cons a r=>exact⟨a,r,rfl⟩
 have hx0:x0.1=k0.1:=(hf.2 0 k0 x0 (by rw[ek];rfl) (by rw[zT];rfl)).1.1;have vJ:=RR (.slice pv ks.length c) x0 y0 w (by rw[<-zT];exact h);rw[hx0]at vJ;have HFi:Hid (Calls _ _ _ _ _):=vJ;have rC:Hid (sndB f t ks=(be k0.1 f&&qQ false (ks.map fun k=>k.1) f t)):=by
  show _=_;rw[ek];simp only[sndB];rw[<-ek,bM h1];rfl
 clear vJ
 cases M:be k0.1 f with
 |false=>
  have hb1':(k0.1.toList==f.toList)=false:=M;have HB:Hid (gc (d+1) f t (.inr ks)=none):=by
   show _=_;rw[o4.out,rC.out,M];rfl
  clear H hf R D oD o4 rC M hx0 ek zT;generalize ks.length=m at*;go_enter func259,ntmps259;go_wp2_with(first|(go_at_call 253;refine HFi.out.mono ?_;rintro e w0⟨rfl,k1⟩)|(go_at_call 188;refine(jB _).mono ?_;rintro e w2⟨ht,k2⟩;obtain⟨g,o,rfl,vI⟩:=ht.ex))
  refine⟨rfl,?_⟩;rw[HB.out];exact⟨ht,k1.trans k2⟩
 |true=>
 have hb1':(k0.1.toList==f.toList)=true:=M
 cases V:qQ false (ks.map fun k=>k.1) f t with
 |false=>
  rw[V]at H;have HR:Hid (∀W,y6 [] w W->Calls prog 267 #[.slice pv ks.length c,.string f,.string t] W fun e w'=>e=.returned (.bool false)/\y6 [] W w'):=H;have HB:Hid (gc (d+1) f t (.inr ks)=none):=by
   show _=_;rw[o4.out,rC.out,M,V];rfl
  clear H hf R D oD o4 rC M hx0 ek zT V;generalize ks.length=m at*;go_enter func259,ntmps259;go_wp2_with(first|(go_at_call 253;refine HFi.out.mono ?_;rintro e w0⟨rfl,k1⟩)|(go_at_call 267;refine(HR.out _ k1).mono ?_;rintro e w1⟨rfl,k2⟩)|(go_at_call 188;refine(jB _).mono ?_;rintro e w2⟨ht,k3⟩;obtain⟨g,o,rfl,vI⟩:=ht.ex))
  refine⟨rfl,?_⟩;rw[HB.out];exact⟨ht,(k1.trans k2).trans k3⟩
 |true=>
 rw[V]at H;have HR:Hid (∀W,y6 [] w W->Calls prog 267 #[.slice pv ks.length c,.string f,.string t] W fun e w'=>e=.returned (.bool true)/\y6 [] W w'):=H;have HB:Hid (gc (d+1) f t (.inr ks)=(j3 (gc d) (szU d) t none ks).map (·+1)):=by
  show _=_;rw[o4.out,rC.out,M,V];rfl
 have X:Hid (j3 (gc d) (szU d) t none ks=none->∀e w',Thr 7 e w'->y6 [] w w'->SdR (gc (d+1) f t (.inr ks)) w e w'):=by
  intro hg e w' ht hk;rw[HB.out,hg];exact⟨ht,hk⟩
 have HH:Hid (SL w 80 3 (.slice pv ks.length c) (xs.map ke)):=h;clear H D o4 rC M hx0 ek zT V;obtain⟨m,em⟩:∃m,m=ks.length:=⟨_,rfl⟩
 have HM:Hid (m=ks.length):=em;rw[<-em]at h1 h1' HFi HR HH Jd⊢;clear h em;go_enter func259,ntmps259;go_wp2_with(first|(go_at_call 253;refine HFi.out.mono ?_;rintro e w0⟨rfl,k1⟩)|(go_at_call 267;refine(HR.out _ k1).mono ?_;rintro e w1⟨rfl,k2⟩)|(go_at_call 188;refine(jK _).mono ?_;rintro e w2⟨rfl,Z⟩;rw[Z];clear Z w2))
 go_loopw [6,29] (fun hv i wr=>SnI d t ks w hv i wr) (fun _ i _=>m-(intOf i).toNat)
 case atStart=>exact⟨0,none,ay _,rfl,rfl,rfl,by simp,by simp,k1.trans k2⟩
 case round=>
  obtain⟨j,F,iU,rfl,rfl,s,hj,kM,L⟩:=hrel;rw[<-HM.out]at iU
  by_cases Q:j<m
  ·have hlt':(j:Int)<(m:Int):=by omega
   obtain⟨k,hq⟩:∃k,ks[j]?=some k:=⟨_,aa (by rw[<-HM.out];exact Q)⟩
   obtain⟨x,hx,hr⟩:=hf.get hq;obtain⟨ty,G,ex⟩:=hr.2.iface;have fI:x.1=k.1:=hr.1.1;obtain⟨g,n,cap,cur,e,hg,hc1,hc2,hc3,dW⟩:=(SL.kept HH.out L).at_ (by rw[aj,E,<-HM.out];omega);rw[aj,E,<-HM.out]at e
   cases e
   have eK:=jC (P:=prog) (ty:=80) _ hg (dW j _ (by rw[aA,hx];rfl)) underlying80 stk;simp only[ke,ex]at eK;have hdr:ks.drop j=k::ks.drop (j+1):=by
    obtain⟨u,e2⟩:=ae.1 hq;rw[aL u,e2]
   have hu:UND w A d k.2 (.iface ty G):=ex▸hr.2;obtain⟨fz,vz,⟨t2,e2,uP,rR⟩,FSS⟩:=QcG hu (R k (ah hq)).2.2
   cases e2
   have Y:Hid (∀W,y6 [] w W->Calls prog fz #[G] W fun e w'=>e=.returned (.int .i64 (szU d k.2:Nat))/\y6 [] W w'):=FSS;have Je:szU d k.2<=122:=by
    have Bh:=(R k (ah hq)).2.2
    cases d with
    |zero=>simp[szU]
    |succ d=>
     cases hu:k.2 with
     |inl l=>rw[hu]at Bh;exact Bh.2
     |inr l=>rw[hu]at Bh;exact Bh.1
   have hr3:x.3=k.3:=hr.1.2;rw[fI,hr3]at eK;clear FSS hr fI hr3 ex
   by_cases hnl:j+1<m
   focus
    obtain⟨O,FT⟩:∃O,ks[j+1]?=some O:=⟨_,aa (by rw[<-HM.out];exact hnl)⟩
    obtain⟨xn,FU,oF⟩:=hf.get FT;have hnl':(j:Int)+1<(m:Int):=by omega
    have u:j+1<m:=hnl;have hnxt:(((ks.drop (j+1))[0]?).map fun q=>q.1).getD t=O.1:=by
     rw[aV,dG,FT];rfl
    have U:Hid (∀W,y6 [] wr W->W.cell? ⟨g,n+(j+1)*3,none⟩=some (.string O.1)):=by
     intro W kW;rw[aY _ _ _ _ _ _ (kW.get hg (by simp))];have:=(dW (j+1) (ke xn) (by rw[aA,FU];rfl)).2 0 _ rfl;rw[dG]at this;rw[this];exact congrArg (fun z=>some (Value.string z)) oF.1.1
    clear dW oF FU;have vK:=IH hdb A k.2 (.iface ty G) k.1 O.1 w hu (R k (ah hq)).2.2;obtain⟨fs,vs,⟨t1,e1,mu,iF⟩,hcs⟩:=vK
    cases e1
    have J:Hid (∀W,y6 [] w W->Calls prog fs #[G,.string k.1,.string O.1] W (SdR (gc d k.1 O.1 k.2) W)):=hcs;have iy:j3 (gc d) (szU d) t F (ks.drop j)=match gc d k.1 O.1 k.2 with
      |none=>none
      |some b=>if 40<=szU d k.2/\(F=none\/F=some b)then j3 (gc d) (szU d) t (some b) (ks.drop (j+1))else none:=by
     rw[hdr,Ow,hnxt]
     cases gc d k.1 O.1 k.2<;>rfl
    clear hcs;have sU:=Oo d k.2 k.1 O.1;generalize gc d k.1 O.1 k.2=sv at J iy sU
   rotate_left
   focus
    have hnl':¬(j:Int)+1<(m:Int):=by omega
    have hnxt:(((ks.drop (j+1))[0]?).map fun q=>q.1).getD t=t:=by
     rw[aV,dG,bY (by rw[<-HM.out];omega)];rfl
    have u:j<m:=Q;have U:Hid (∀W,y6 [] wr W->True):=fun _ _=>trivial;clear dW;have vK:=IH hdb A k.2 (.iface ty G) k.1 t w hu (R k (ah hq)).2.2;obtain⟨fs,vs,⟨t1,e1,mu,iF⟩,hcs⟩:=vK
    cases e1
    have J:Hid (∀W,y6 [] w W->Calls prog fs #[G,.string k.1,.string t] W (SdR (gc d k.1 t k.2) W)):=hcs;have iy:j3 (gc d) (szU d) t F (ks.drop j)=match gc d k.1 t k.2 with
      |none=>none
      |some b=>if 40<=szU d k.2/\(F=none\/F=some b)then j3 (gc d) (szU d) t (some b) (ks.drop (j+1))else none:=by
     rw[hdr,Ow,hnxt]
     cases gc d k.1 t k.2<;>rfl
    clear hcs;have sU:=Oo d k.2 k.1 t;generalize gc d k.1 t k.2=sv at J iy sU
   all_goals
    obtain hs|⟨b,hs⟩:sv=none\/∃b,sv=some b:=by cases sv<;>simp
    ·have wZ:Hid (sv=none):=hs;rw[iy,hs]at s;have I:Hid (j3 (gc d) (szU d) t none ks=none):=s.symm;clear s iy hs;go_wp2_with(first|(refine ya rfl _ _ (yc 168 (.tmp 27) (.tmp 29) rfl g n m c j 3 rfl rfl 80 underlying168 stk Q (n+j*3) rfl) ?_)|(refine y8 rfl 80 (.tmp 32) rfl ⟨g,n+j*3,none⟩ rfl _ eK ?_)|(refine yj rfl 8 rfl 80 rfl _ (zkid _) ?_;intro wa na ka mZ;clear mZ)|(refine ye rfl 80 (.tmp 8) (.tmp 33) rfl wr.heap.size #[.string k.1,.int .i64 (k.3:Nat),.iface ty G] rfl rfl 80 _ na stk rfl (qf (jb _ _ rfl)) ?_;intro C B kb;have kx:y6 [] wr C:=ka.trans2 kb (by intro y S;simp at S;subst S;exact Or.inr (ag _));have d0:C.cell? ⟨wr.heap.size,0,none⟩=some (.string k.1):=y7 B rfl;have d2:C.cell? ⟨wr.heap.size,2,none⟩=some (.iface ty G):=y7 B rfl;have dn:=U.out C kx)|(refine ya rfl _ _ (yc 168 (.tmp 40) (.tmp 42) rfl g n m c (j+1) 3 rfl (by go_num) 80 underlying168 stk u (n+(j+1)*3) rfl) ?_)|(go_at_fn fs;refine(J.out _ (L.trans kx)).mono ?_;rintro e wc⟨p,N⟩;rw[wZ.out]at p;obtain⟨fg,fo,rfl,vI⟩:=Thr.ex p)|(go_at_fn fz;refine(Y.out _ (L.trans kx)).mono ?_;rintro e wz⟨rfl,T⟩;replace kx:=kx.trans T;clear T)|(go_at_call 188;refine(jK _).mono ?_;rintro e wn⟨rfl,Z⟩;rw[Z];clear Z wn))
     exact⟨rfl,X.out I.out _ _ p (L.trans (kx.trans N))⟩
    ·have wZ:Hid (sv=some b):=hs;have lJ:=sU b hs;rw[iy,hs]at s;simp only at s
     by_cases h40:40<=szU d k.2
     ·have C8:(40:Int)<=(szU d k.2:Int):=by omega
      by_cases hj0:j=0
      ·have iT:=hj.1 hj0;rw[if_pos ⟨h40,Or.inl iT⟩]at s;have HG:Hid (j3 (gc d) (szU d) t (some b) (ks.drop (j+1))=j3 (gc d) (szU d) t none ks):=s
       first|(exfalso;omega)|skip
       all_goals
        have hhi:(F.getD 0:Nat)=0:=by rw[iT];rfl
        rw[hhi];subst hj0;have C9:(loadVar 80 ⟨g,n,none⟩).run prog wr=.ok (.agg #[.string k.1,.int .i64 (k.3:Nat),.iface ty G]) wr:=by simpa using eK
        have HNx0:Hid (∀W,y6 [] wr W->W.cell? ⟨g,n+3,none⟩=some (.string O.1)):=fun W kW=>by simpa using U.out W kW
        clear s iy hs iT hj eK;go_wp2_with(first|(refine ya rfl _ _ (yc 168 (.tmp 27) (.tmp 29) rfl g n m c 0 3 rfl rfl 80 underlying168 stk Q n (by omega)) ?_)|(refine y8 rfl 80 (.tmp 32) rfl ⟨g,n,none⟩ rfl _ C9 ?_)|(refine yj rfl 8 rfl 80 rfl _ (zkid _) ?_;intro wa na ka mZ;clear mZ)|(refine ye rfl 80 (.tmp 8) (.tmp 33) rfl wr.heap.size #[.string k.1,.int .i64 (k.3:Nat),.iface ty G] rfl rfl 80 _ na stk rfl (qf (jb _ _ rfl)) ?_;intro C B kb;have kx:y6 [] wr C:=ka.trans2 kb (by intro y S;simp at S;subst S;exact Or.inr (ag _));have d0:C.cell? ⟨wr.heap.size,0,none⟩=some (.string k.1):=y7 B rfl;have d2:C.cell? ⟨wr.heap.size,2,none⟩=some (.iface ty G):=y7 B rfl;have dn:C.cell? ⟨g,n+3,none⟩=some (.string O.1):=HNx0.out C kx)|(refine ya rfl _ _ (yc 168 (.tmp 40) (.tmp 42) rfl g n m c 1 3 rfl rfl 80 underlying168 stk u (n+3) (by omega)) ?_)|(go_at_fn fs;refine(J.out _ (L.trans kx)).mono ?_;rintro e wc⟨p,N⟩;rw[wZ.out]at p;subst p;replace B:=N.get B (by simp);replace kx:=kx.trans N;clear N;have Da:wc.cell? ⟨wr.heap.size,2,none⟩=some (.iface ty G):=y7 B rfl)|(go_at_fn fz;refine(Y.out _ (L.trans kx)).mono ?_;rintro e wz⟨rfl,T⟩;replace kx:=kx.trans T;clear T)|(go_at_call 188;refine(jK _).mono ?_;rintro e wn⟨rfl,Z⟩;rw[Z];clear Z wn))
        go_roundw
        case rel=>exact⟨1,some b,by rw[<-HM.out];omega,rfl,by go_num,HG.out,by simp,fun c hc=>by cases hc;exact lJ,L.trans kx⟩
        case measure=>simp[intOf];omega
      ·obtain⟨K,fQ⟩:∃K,F=some K:=by
        cases F with
        |none=>exact absurd (hj.2 rfl) hj0
        |some K=>exact⟨K,rfl⟩
       subst fQ;have Jf:=kM K rfl;have Dd:¬(j:Int)=0:=by omega
       simp only[cV]
       by_cases hbc:b=K
       ·rw[if_pos ⟨h40,Or.inr (by rw[hbc])⟩]at s;have HG:Hid (j3 (gc d) (szU d) t (some b) (ks.drop (j+1))=j3 (gc d) (szU d) t none ks):=s;have vL:(b:Int)=(K:Int):=by omega
        clear s iy hs hbc hj hj0;go_wp2_with(first|(refine ya rfl _ _ (yc 168 (.tmp 27) (.tmp 29) rfl g n m c j 3 rfl rfl 80 underlying168 stk Q (n+j*3) rfl) ?_)|(refine y8 rfl 80 (.tmp 32) rfl ⟨g,n+j*3,none⟩ rfl _ eK ?_)|(refine yj rfl 8 rfl 80 rfl _ (zkid _) ?_;intro wa na ka mZ;clear mZ)|(refine ye rfl 80 (.tmp 8) (.tmp 33) rfl wr.heap.size #[.string k.1,.int .i64 (k.3:Nat),.iface ty G] rfl rfl 80 _ na stk rfl (qf (jb _ _ rfl)) ?_;intro C B kb;have kx:y6 [] wr C:=ka.trans2 kb (by intro y S;simp at S;subst S;exact Or.inr (ag _));have d0:C.cell? ⟨wr.heap.size,0,none⟩=some (.string k.1):=y7 B rfl;have d2:C.cell? ⟨wr.heap.size,2,none⟩=some (.iface ty G):=y7 B rfl;have dn:=U.out C kx)|(refine ya rfl _ _ (yc 168 (.tmp 40) (.tmp 42) rfl g n m c (j+1) 3 rfl (by go_num) 80 underlying168 stk u (n+(j+1)*3) rfl) ?_)|(go_at_fn fs;refine(J.out _ (L.trans kx)).mono ?_;rintro e wc⟨p,N⟩;rw[wZ.out]at p;subst p;replace B:=N.get B (by simp);replace kx:=kx.trans N;clear N;have Da:wc.cell? ⟨wr.heap.size,2,none⟩=some (.iface ty G):=y7 B rfl)|(go_at_fn fz;refine(Y.out _ (L.trans kx)).mono ?_;rintro e wz⟨rfl,T⟩;replace kx:=kx.trans T;clear T)|(go_at_call 188;refine(jK _).mono ?_;rintro e wn⟨rfl,Z⟩;rw[Z];clear Z wn))
        go_roundw
        case rel=>exact⟨j+1,some b,by rw[<-HM.out];omega,by simp only[cV];rw[vL],by go_num,HG.out,by simp,fun c hc=>by cases hc;exact lJ,L.trans kx⟩
        case measure=>simp[intOf];omega
       ·rw[if_neg (by simp;intro _;exact fun e=>hbc e.symm)]at s;have I:Hid (j3 (gc d) (szU d) t none ks=none):=s.symm;have vL:¬(b:Int)=(K:Int):=by omega
        have hbeq:((b:Int)==(K:Int))=false:=by simpa using vL
        have hbeq2:(b==K)=false:=by simpa using hbc
        have hjb:((j:Int)==0)=false:=by simpa using Dd
        clear s iy hs hj hj0;go_wp2_with(first|(refine ya rfl _ _ (yc 168 (.tmp 27) (.tmp 29) rfl g n m c j 3 rfl rfl 80 underlying168 stk Q (n+j*3) rfl) ?_)|(refine y8 rfl 80 (.tmp 32) rfl ⟨g,n+j*3,none⟩ rfl _ eK ?_)|(refine yj rfl 8 rfl 80 rfl _ (zkid _) ?_;intro wa na ka mZ;clear mZ)|(refine ye rfl 80 (.tmp 8) (.tmp 33) rfl wr.heap.size #[.string k.1,.int .i64 (k.3:Nat),.iface ty G] rfl rfl 80 _ na stk rfl (qf (jb _ _ rfl)) ?_;intro C B kb;have kx:y6 [] wr C:=ka.trans2 kb (by intro y S;simp at S;subst S;exact Or.inr (ag _));have d0:C.cell? ⟨wr.heap.size,0,none⟩=some (.string k.1):=y7 B rfl;have d2:C.cell? ⟨wr.heap.size,2,none⟩=some (.iface ty G):=y7 B rfl;have dn:=U.out C kx)|(refine ya rfl _ _ (yc 168 (.tmp 40) (.tmp 42) rfl g n m c (j+1) 3 rfl (by go_num) 80 underlying168 stk u (n+(j+1)*3) rfl) ?_)|(go_at_fn fs;refine(J.out _ (L.trans kx)).mono ?_;rintro e wc⟨p,N⟩;rw[wZ.out]at p;subst p;replace B:=N.get B (by simp);replace kx:=kx.trans N;clear N;have Da:wc.cell? ⟨wr.heap.size,2,none⟩=some (.iface ty G):=y7 B rfl)|(go_at_fn fz;refine(Y.out _ (L.trans kx)).mono ?_;rintro e wz⟨rfl,T⟩;replace kx:=kx.trans T;clear T)|(go_at_call 188;refine(jB _).mono ?_;rintro e wn⟨ht,O⟩;obtain⟨fg,fo,rfl,vI⟩:=ht.ex))
        exact⟨rfl,X.out I.out _ _ ht (L.trans (kx.trans O))⟩
     ·have C8:¬(40:Int)<=(szU d k.2:Int):=by omega
      rw[if_neg (fun e=>h40 e.1)]at s;have I:Hid (j3 (gc d) (szU d) t none ks=none):=s.symm;clear s iy hs hj;go_wp2_with(first|(refine ya rfl _ _ (yc 168 (.tmp 27) (.tmp 29) rfl g n m c j 3 rfl rfl 80 underlying168 stk Q (n+j*3) rfl) ?_)|(refine y8 rfl 80 (.tmp 32) rfl ⟨g,n+j*3,none⟩ rfl _ eK ?_)|(refine yj rfl 8 rfl 80 rfl _ (zkid _) ?_;intro wa na ka mZ;clear mZ)|(refine ye rfl 80 (.tmp 8) (.tmp 33) rfl wr.heap.size #[.string k.1,.int .i64 (k.3:Nat),.iface ty G] rfl rfl 80 _ na stk rfl (qf (jb _ _ rfl)) ?_;intro C B kb;have kx:y6 [] wr C:=ka.trans2 kb (by intro y S;simp at S;subst S;exact Or.inr (ag _));have d0:C.cell? ⟨wr.heap.size,0,none⟩=some (.string k.1):=y7 B rfl;have d2:C.cell? ⟨wr.heap.size,2,none⟩=some (.iface ty G):=y7 B rfl;have dn:=U.out C kx)|(refine ya rfl _ _ (yc 168 (.tmp 40) (.tmp 42) rfl g n m c (j+1) 3 rfl (by go_num) 80 underlying168 stk u (n+(j+1)*3) rfl) ?_)|(go_at_fn fs;refine(J.out _ (L.trans kx)).mono ?_;rintro e wc⟨p,N⟩;rw[wZ.out]at p;subst p;replace B:=N.get B (by simp);replace kx:=kx.trans N;clear N;have Da:wc.cell? ⟨wr.heap.size,2,none⟩=some (.iface ty G):=y7 B rfl)|(go_at_fn fz;refine(Y.out _ (L.trans kx)).mono ?_;rintro e wz⟨rfl,T⟩;replace kx:=kx.trans T;clear T)|(go_at_call 188;refine(jB _).mono ?_;rintro e wn⟨ht,O⟩;obtain⟨fg,fo,rfl,vI⟩:=ht.ex))
      exact⟨rfl,X.out I.out _ _ ht (L.trans (kx.trans O))⟩
  ·have hge:¬(j:Int)<(m:Int):=by omega
   have ej:j=m:=by omega
   subst ej;have hne:F≠none:=fun e=>by have:=hj.2 e;omega
   obtain⟨K,fQ⟩:∃K,F=some K:=by
    cases F with
    |none=>exact absurd rfl hne
    |some K=>exact⟨K,rfl⟩
   subst fQ;rw[bC (by rw[<-HM.out];exact ag _)]at s;have HG:Hid (j3 (gc d) (szU d) t none ks=some K):=s.symm;have Jf:=kM K rfl;simp only[cV];clear s kM hj hne;go_wp2;go_ret;rw[HB.out,HG.out];exact⟨by simp only[b7];first|rfl|(congr 2;done)|(congr 2;rw[w64 _ (by omega)];omega),L⟩
theorem R4:∀d,SdOk d
 |0=>fun _ _ _ _ _ _ _ b _=>b.elim
 |d+1=>by
  intro j A u x f t w b h
  cases u with
  |inl l=>
   obtain⟨v,rfl,a,_⟩:=b;have e:=fun W (k:y6 [] w W)=>QcH v l f t W (LF.kept a k) (Vd h.2);obtain⟨p,c,g⟩:=SL.shape a;subst g;exact⟨_,_,W8 _ _ _,e⟩
  |inr n=>
   obtain⟨v,o,rfl,a,_,m⟩:=b;have e:=fun W (k:y6 [] w W)=>Yy d (by omega) (R4 d) A v o n f t W (SL.kept a k) (m.mono fun _ _ _ i=>⟨i.1,UND.ka (KA.k0 k) i.2⟩) h;obtain⟨p,c,g⟩:=SL.shape a;subst g;exact⟨_,_,QcD _ _ _,e⟩
end Go.Proofs.YtcklgafpgdhnaaaGreatDoor
