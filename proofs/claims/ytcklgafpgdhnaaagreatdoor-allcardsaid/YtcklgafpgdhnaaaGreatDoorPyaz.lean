import Derived.Test.YtcklgafpgdhnaaaGreatDoorPyat
import Derived.Test.YtcklgafpgdhnaaaGreatDoorPyax
set_option maxRecDepth 100000
set_option maxHeartbeats 4000000
set_option linter.unusedSimpArgs false
set_option linter.unusedVariables false
set_option linter.unusedSectionVars false
open Go.Proofs.Tryz
namespace Go.Proofs.YtcklgafpgdhnaaaGreatDoor
open Go.RowKit
def jz{α β σ:Type}(f:α->σ->β×σ):List α->σ->List β×σ
 | [],s=>([],s)
 |x::l,s=>((f x s).1::(jz f l (f x s).2).1,(jz f l (f x s).2).2)
theorem Q7o{α β σ:Type}(f:α->σ->β×σ)(l:List α):∀s:σ,(jz f l s).1.length=l.length:=by
 induction l with
 |nil=>intro s;rfl
 |cons y l ih=>intro s;simp[jz,ih]
def nbN:(h:Nat)->Nd h->Nb
 |0,l=> .leaf l
 |h+1,ks=> .branch (List.map (fun k:Kid h=>(k.1,k.3)) ks)
def tkF(us:List Nat):Nat->Nat->Nat
 |0,i=>i
 |f+1,i=>if i∈us then tkF us f (i+1)else i
def mxs(us:List Nat):Nat:=us.foldr (fun a b=>max a b) 0
theorem RK{us:List Nat}{i:Nat}(h:i∈us):i<=mxs us:=by
 induction us with
 |nil=>cases h
 |cons a r ih=>
  have e:mxs (a::r)=max a (mxs r):=rfl;rw[e];rcases an.1 h with rfl|h
  ·omega
  ·have:=ih h;omega
def tk(us:List Nat):Nat:=tkF us (mxs us+1) 0
theorem Uw(us:List Nat):∀f i,mxs us+1<=f+i->tkF us f i∉us
 |0,i,h=>fun a=>by have:=RK a;simp only[tkF]at this;omega
 |f+1,i,h=>by
  rw[tkF];split
  ·exact Uw us f (i+1) (by omega)
  ·assumption
theorem Ma(us:List Nat):tk us∉us:=Uw us _ _ (by omega)
theorem Ut(us:List Nat):∀f i,(∀j,j<i->j∈us)->∀j,j<tkF us f i->j∈us
 |0,_,h,j,a=>h j a
 |f+1,i,h,j,a=>by
  rw[tkF]at a;split at a
  ·rename_i b;refine Ut us f (i+1) (fun j a=> ?_) j a
   by_cases e:j=i
   ·rw[e];exact b
   ·exact h j (by omega)
  ·exact h j a
theorem VE(us:List Nat){j:Nat}(h:j<tk us):j∈us:=Ut us _ 0 (by omega) j h
theorem Q7u{us:List Nat}{i:Nat}(h1:i∉us)(h2:∀j,j<i->j∈us):tk us=i:=by
 rcases Nat.lt_trichotomy (tk us) i with h|h|h
 ·exact absurd (h2 _ h) (Ma us)
 ·exact h
 ·exact absurd (VE us h) h1
theorem U4:∀(n:Nat) (us:List Nat),(∀j,j<n->j∈us)->n<=us.length
 |0,_,_=>ay _
 |n+1,us,h=>by
  have a:=h n (by omega);have:=U4 n (us.erase n) fun j b=>(List.mem_erase_of_ne (by omega)).2 (h j (by omega));rw[List.length_erase_of_mem a]at this;have:0<us.length:=List.length_pos_of_mem a;omega
theorem Q7w{us:List Nat}{n:Nat}(h:us.length<n):tk us<n:=by
 rcases bG (tk us) n with a|a
 ·exact a
 ·have:=U4 n us fun j b=>VE us (by omega);omega
structure Ls where
 us:List Nat
 ws:List (Nat×List UInt8)
def Ls.step(s:Ls)(B:List UInt8):Ls:=⟨tk s.us::s.us,s.ws++ [(tk s.us,B)]⟩
def qg:(h:Nat)->Nd h->Ls->Nd h×Ls
 |0,l,s=>(l,s)
 |h+1,ks,s=>jz (fun(k:Kid h) (s:Ls)=>if k.3=0 then(⟨k.1,(qg h k.2 s).1,tk (qg h k.2 s).2.us⟩,(qg h k.2 s).2.step (gS (nbN h (qg h k.2 s).1)))else(k,s)) ks s
def qr(h:Nat)(k:Kid h)(s:Ls):Kid h×Ls:=if k.3=0 then(⟨k.1,(qg h k.2 s).1,tk (qg h k.2 s).2.us⟩,(qg h k.2 s).2.step (gS (nbN h (qg h k.2 s).1)))else(k,s)
theorem Q6{h:Nat}{k:Kid h}(e:k.3≠0)(s:Ls):qr h k s=(k,s):=by rw[qr,if_neg e]
theorem Z1{h:Nat}{k:Kid h}(e:k.3=0)(s:Ls):qr h k s=(⟨k.1,(qg h k.2 s).1,tk (qg h k.2 s).2.us⟩,(qg h k.2 s).2.step (gS (nbN h (qg h k.2 s).1))):=by rw[qr,if_pos e]
def erN:(h:Nat)->Nd h->Nd h
 |0,l=>l
 |h+1,ks=>List.map (fun k:Kid h=>(⟨k.1,erN h k.2,0⟩:Kid h)) ks
def erK(h:Nat)(k:Kid h):Kid h:=⟨k.1,erN h k.2,0⟩
theorem N4:∀(h:Nat) (n:Nd h),yV h (erN h n)=yV h n
 |0,_=>rfl
 |h+1,a=>by
  have:∀L:List (Kid h),(L.map (erK h)).flatMap (fun k=>yV h k.2)=L.flatMap fun k=>yV h k.2:=by
   intro L;rw[List.flatMap_map];congr 1;funext k;exact N4 h k.2
  exact this a
theorem Nv:∀(h:Nat) (n:Nd h),yq h (erN h n)=yq h n
 |0,_=>rfl
 |h+1,a=>by
  have:∀L:List (Kid h),11*(L.map (erK h)).length=11*L.length:=by
   intro L;rw[aj]
  exact this a
theorem PZ:∀(h:Nat) (n:Nd h),j5 h (erN h n)=j5 h n
 |0,_=>rfl
 |h+1,a=>by
  have:∀L:List (Kid h),1+((L.map (erK h)).map fun k=>j5 h k.2).sum=1+(L.map fun k=>j5 h k.2).sum:=by
   intro L;rw[List.map_map];congr 3;funext k;exact PZ h k.2
  exact this a
theorem Si:∀(h:Nat) (n:Nd h),g9 h (erN h n)=g9 h n
 |0,_=>rfl
 |_+1,_=>rfl
theorem Se(h:Nat)(a b:Kid h):Bef h (erK h a) (erK h b)↔Bef h a b:=by unfold Bef erK;rw[N4]
theorem Nk:∀(h:Nat) (f:ByteArray) (n:Nd h),WFN h f (erN h n)↔WFN h f n
 |0,_,_=>Iff.rfl
 |h+1,f,(i:List (Kid h))=>by
  refine(yN h f (i.map (erK h))).trans (Iff.trans ?_ (yN h f i).symm);constructor
  ·rintro⟨⟨n,x,r,e⟩,g,c⟩;refine⟨?_,?_,fun a d=>(Nk h a.1 a.2).1 (c _ (bg.2 ⟨a,d,rfl⟩))⟩
   ·cases i with
    |nil=>cases e
    |cons a o=>
     rw[bn]at e;have k:=(List.cons.inj e).1;refine⟨a.2,a.3,o,?_⟩;have l:a.1=f:=congrArg qG.fr k;rw[<-l]
   ·exact(db.1 g).imp fun{a b} j=>(Se h a b).1 j
  ·rintro⟨⟨n,x,r,e⟩,g,c⟩;refine⟨⟨erN h n,0,r.map (erK h),by rw[e];rfl⟩,db.2 (g.imp fun{a b} j=>(Se h a b).2 j),?_⟩;intro a d;obtain⟨b,m,rfl⟩:=bg.1 d;exact(Nk h b.1 b.2).2 (c b m)
theorem NA:∀(h:Nat) (n:Nd h),qd h (erN h n)↔qd h n
 |0,_=>Iff.rfl
 |h+1,(d:List (Kid h))=>by
  refine(yO h (d.map (erK h))).trans (Iff.trans ?_ (yO h d).symm);constructor
  ·intro H a c;have:=H _ (bg.2 ⟨a,c,rfl⟩);unfold Rt erK at this;rw[Nv]at this;exact⟨this.1,(NA h a.2).1 this.2⟩
  ·intro H a c;obtain⟨b,e,rfl⟩:=bg.1 c;have:=H b e;unfold Rt erK;rw[Nv];exact⟨this.1,(NA h b.2).2 this.2⟩
theorem Mv:∀(h:Nat) (n:Nd h) (s:Ls),erN h (qg h n s).1=erN h n
 |0,_,_=>rfl
 |h+1,(c:List (Kid h)),s=>by
  have b:∀(k:Kid h) (s:Ls),erK h (qr h k s).1=erK h k:=by
   intro k s;unfold qr;split
   ·unfold erK;rw[Mv h k.2 s]
   ·rfl
  have:∀(L:List (Kid h)) (s:Ls),(jz (qr h) L s).1.map (erK h)=L.map (erK h):=by
   intro L
   induction L with
   |nil=>intro s;rfl
   |cons a r ih=>intro s;simp only[jz,bn,b,ih]
  exact this c s
theorem OG{h:Nat}{n n':Nd h}(e:erN h n'=erN h n):yV h n'=yV h n/\yq h n'=yq h n/\j5 h n'=j5 h n/\g9 h n'=g9 h n/\(∀f,WFN h f n->WFN h f n')/\(qd h n->qd h n'):=
 ⟨by rw[<-N4 h n',e,N4],by rw[<-Nv h n',e,Nv],by rw[<-PZ h n',e,PZ],by rw[<-Si h n',e,Si],fun f b=>(Nk h f n').1 (by rw[e];exact(Nk h f n).2 b),fun a=>(NA h n').1 (by rw[e];exact(NA h n).2 a)⟩
def frN:(h:Nat)->Nd h->Nat
 |0,_=>0
 |h+1,ks=>(List.map (fun k:Kid h=>if k.3=0 then 1+frN h k.2 else 0) ks).sum
inductive Stp:Ls->Ls->Prop
 |refl (s:Ls):Stp s s
 |step {s s':Ls} (h:Stp s s') (B:List UInt8):Stp s (s'.step B)
theorem Stp.trans{a b c:Ls}(h:Stp a b)(g:Stp b c):Stp a c:=by
 induction g with
 |refl=>exact h
 |step _ B ih=>exact ih.step B
theorem Zf:∀(h:Nat) (n:Nd h) (s:Ls),Stp s (qg h n s).2/\(qg h n s).2.ws.length=s.ws.length+frN h n
 |0,_,s=>⟨.refl s,by simp[qg,frN]⟩
 |h+1,f,s=>by
  have e:∀(k:Kid h) (s:Ls),Stp s (qr h k s).2/\(qr h k s).2.ws.length=s.ws.length+(if k.3=0 then 1+frN h k.2 else 0):=by
   intro k s;unfold qr;obtain⟨b,c⟩:=Zf h k.2 s;split
   ·refine⟨b.step _,?_⟩;simp only[Ls.step,ai,c,List.length_singleton];omega
   ·exact⟨.refl s,by simp⟩
  have:∀(L:List (Kid h)) (s:Ls),Stp s (jz (qr h) L s).2/\(jz (qr h) L s).2.ws.length=s.ws.length+(L.map fun k:Kid h=>if k.3=0 then 1+frN h k.2 else 0).sum:=by
   intro L
   induction L with
   |nil=>intro s;exact⟨.refl s,by simp[jz]⟩
   |cons a r ih=>
    intro s;obtain⟨b,c⟩:=e a s;obtain⟨d,g⟩:=ih (qr h a s).2;refine⟨b.trans d,?_⟩;simp only[jz,bn,bE];omega
  exact this f s
theorem V8(p:Option Addr)(n c:Nat):jj "store/tree.block" (.iface 116 (.slice p n c)) 231 (.slice p n c):=⟨_,rfl,fun _=>by kernel_rfl,fun _ _=>by kernel_rfl⟩
theorem UI(p:Option Addr)(n c:Nat):jj "store/tree.block" (.iface 168 (.slice p n c)) 250 (.slice p n c):=⟨_,rfl,fun _=>by kernel_rfl,fun _ _=>by kernel_rfl⟩
theorem WD(v:Value)(l:List Pr)(w:World)(h:LF w v l)(hk:Qx (.leaf l)):
  Calls prog 231 #[v] w fun e w'=>e=.returned (.agg (u8s (encL l)).toArray)/\y6 [] w w':=by
 have a:(l.flatMap pkP).length<=122:=by rw[ZJ];exact hk.2
 have c:l.length<=200:=by have:=Uz l;have:=hk.2;omega
 have b:(encL l).length=128:=jX _ _ _ a;have i:Hid (∀W,y6 [] w W->Calls prog 242 #[.int .u8 76,v] W fun e w'=>e=.returned (.agg (u8s (encL l)).toArray)/\y6 [] W w'):=fun W m=>Ya 76 v l W (SL.kept h m) c hk.1 a;generalize encL l=E at*;go_enter func231,ntmps231;go_wp2_with(first|(refine yj rfl 2 rfl 92 rfl _ (zblk _) ?_;intro p n f j)|(go_at_call 242;refine(i.out p f).mono ?_;rintro e r⟨rfl,g⟩)|(refine ye rfl 92 (.tmp 2) (.tmp 4) rfl w.heap.size (u8s E).toArray rfl rfl 92 _ (g.get n (by simp)) (by rw[QM];simp[yd,b]) (by simp[yd,b]) (qf (qP _)) ?_;intro q o k))
 refine aR (aI rfl _ q w.heap.size 92 _ (0,0) _ rfl o underlying92 rfl (by rw[QM];simp[yd,b])) rfl ?_;exact⟨rfl,(f.trans g).trans2 k (by intro y d;simp at d;subst d;exact Or.inr (ag _))⟩
theorem TA(v:Value)(l:List KE)(w:World)(h:SL w 80 3 v (l.map ke))(hk:Qx (.branch (l.map kp)))(ho:∀x∈l,x.2=.nilIface\/∃t v,x.2=.iface t v):
  Calls prog 250 #[v] w fun e w'=>e=.returned (.agg (u8s (encB (l.map kp))).toArray)/\y6 [] w w':=by
 have d:∀x∈l,x.1.size<=8/\x.3<65536:=fun x o=>hk.1 (kp x) (bg.2 ⟨x,o,rfl⟩);have c:=hk.2;rw[aj]at c;have a:((l.map kp).flatMap pkK).length<=122:=by rw[ZK _ fun k m=>(hk.1 k m).1,aj];exact c
 have b:(encB (l.map kp)).length=128:=jX _ _ _ a;have j:Hid (∀W,y6 [] w W->Calls prog 261 #[.int .u8 66,v] W fun e w'=>e=.returned (.agg (u8s (encB (l.map kp))).toArray)/\y6 [] W w'):=fun W q=>by
  have:=Q7V 66 v l W (SL.kept h q) (by omega) d a ho;unfold encB;rw[aj];exact this
 generalize encB (l.map kp)=E at*;go_enter func250,ntmps250;go_wp2_with(first|(refine yj rfl 2 rfl 92 rfl _ (zblk _) ?_;intro u r g n)|(go_at_call 261;refine(j.out u g).mono ?_;rintro e A⟨rfl,i⟩)|(refine ye rfl 92 (.tmp 2) (.tmp 4) rfl w.heap.size (u8s E).toArray rfl rfl 92 _ (i.get r (by simp)) (by rw[QM];simp[yd,b]) (by simp[yd,b]) (qf (qP _)) ?_;intro z s p))
 refine aR (aI rfl _ z w.heap.size 92 _ (0,0) _ rfl s underlying92 rfl (by rw[QM];simp[yd,b])) rfl ?_;exact⟨rfl,(g.trans i).trans2 p (by intro y f;simp at f;subst f;exact Or.inr (ag _))⟩
theorem F2.kps{w:World}{A:Nat->Prop}{h:Nat}{ks:List (Kid h)}{xs:List KE}(hf:F2 (KR w A h) ks xs):xs.map kp=ks.map fun k=>(k.1,k.3):=by
 apply cJ;intro i;rw[aA,aA];rcases bG i ks.length with a|a
 ·obtain⟨b,d,c⟩:=hf.get (aa a);rw[d,aa a];simp[kp,c.1.1,c.1.2]
 ·rw[bY (by rw[<-hf.1];exact a),bY a];rfl
theorem Q80{w:World}{A:Nat->Prop}:∀{h:Nat} {n:Nd h} {x:Value},ND w A h n x->Qx (nbN h n)->∃fn v,jj "store/tree.block" x fn v/\Calls prog fn #[v] w fun e w'=>e=.returned (.agg (u8s (gS (nbN h n))).toArray)/\y6 [] w w'
 |0,n,x,b,g=>by
  obtain⟨v,rfl,a,_⟩:=b;have d:=WD v n w a g;obtain⟨p,c,f⟩:=SL.shape a;subst f;exact⟨_,_,V8 _ _ _,d⟩
 |h+1,n,x,b,g=>by
  obtain⟨v,j,rfl,a,_,i⟩:=gg.1 b;have e:=i.kps;have d:=TA v j w a (by rw[e];exact g) fun x b=>Or.inr (gO i x b);rw[e]at d;obtain⟨p,c,f⟩:=SL.shape a;subst f;exact⟨_,_,UI _ _ _,d⟩
def UNd:Nat->Type
 |0=>Unit
 |d+1=>List Pr⊕List (qG (UNd d))
def jk{α β σ:Type}(f:α->σ->Option (β×σ)):List α->σ->Option (List β×σ)
 | [],s=>some ([],s)
 |x::l,s=>match f x s with
  |none=>none
  |some (b,s1)=>match jk f l s1 with
   |none=>none
   |some (bs,s2)=>some (b::bs,s2)
theorem Q9d{α β σ:Type}(f:α->σ->Option (β×σ))(l:List α)(x:α):∀s:σ,jk f (l++ [x]) s=match jk f l s with
  |none=>none
  |some (d,a)=>match f x a with
   |none=>none
   |some (b,c)=>some (d++ [b],c):=by
 induction l with
 |nil=>
  intro s;simp only[aX,jk]
 |cons y l ih=>
  intro s;simp only[bD,jk]
  cases g:f y s with
  |none=>rfl
  |some r=>
   obtain⟨b,a⟩:=r;simp only[ih]
   cases jk f l a with
   |none=>rfl
   |some e=>
    obtain⟨d,c⟩:=e;simp only
    cases f x c<;>rfl
theorem Q9e{α β σ:Type}(f:α->σ->Option (β×σ))(l r:List α)(x:α)(s s1:σ)(bs:List β)(h1:jk f l s=some (bs,s1))(h2:f x s1=none):jk f (l++(x::r)) s=none:=by
 induction l generalizing s bs with
 |nil=>
  simp only[jk,ba,cO]at h1;obtain⟨_,rfl⟩:=h1;simp[jk,h2]
 |cons y l ih=>
  simp only[jk]at h1;simp only[bD,jk]
  cases d:f y s with
  |none=>rfl
  |some q=>
   obtain⟨b,c⟩:=q;rw[d]at h1;simp only at h1⊢
   cases a:jk f l c with
   |none=>rw[a]at h1;cases h1
   |some e=>
    obtain⟨g,h⟩:=e;rw[a]at h1;simp only[ba,cO]at h1;obtain⟨_,rfl⟩:=h1;rw[ih c g a]
theorem YT{α β σ:Type}{f:α->σ->Option (β×σ)}{G:α->β->Prop}(hf:∀x s b s',f x s=some (b,s')->G x b):∀{l:List α} {s s':σ} {bs:List β},jk f l s=some (bs,s')->F2 G l bs:=by
 intro l
 induction l with
 |nil=>
  intro s s' bs h;simp only[jk,ba,cO]at h;rw[<-h.1];exact F2.nil
 |cons x l ih=>
  intro s s' bs h;simp only[jk]at h;split at h
  ·cases h
  ·rename_i b d a;split at h
   ·cases h
   ·rename_i g e c;simp only[ba,cO]at h;rw[<-h.1];exact F2.append (F2.one (hf _ _ _ _ a)) (ih c)
def rdU(n:Nat)(lk:Nat->List UInt8):(d:Nat)->Nat->List Nat->Option (UNd d×List Nat)
 |0,_,_=>none
 |d+1,i,us=>if i<n/\i∉us then match decN (lk i)with
   |none=>none
   |some (.leaf l)=>some (.inl l,i::us)
   |some (.branch ks)=>match jk (fun(k:ByteArray×Nat) (us:List Nat)=>match rdU n lk d k.2 us with
     |none=>none
     |some (u,e8)=>some ((⟨k.1,u,k.2⟩:qG (UNd d)),e8)) ks (i::us)with
    |none=>none
    |some (bs,e8)=>some (.inr bs,e8)
  else none
def rdK(n:Nat)(lk:Nat->List UInt8)(d:Nat)(k:ByteArray×Nat)(us:List Nat):Option (qG (UNd d)×List Nat):=match rdU n lk d k.2 us with
 |none=>none
 |some (u,e8)=>some ((⟨k.1,u,k.2⟩:qG (UNd d)),e8)
variable {lk:Nat->List UInt8}
theorem RV{n:Nat}{d i:Nat}{us:List Nat}{l:List Pr}(h:i<n/\i∉us)(e:decN (lk i)=some (.leaf l)):rdU n lk (d+1) i us=some (.inl l,i::us):=by
 rw[rdU,if_pos h,e]
theorem P6{n:Nat}{d i:Nat}{us:List Nat}{ks:List (ByteArray×Nat)}(h:i<n/\i∉us)(e:decN (lk i)=some (.branch ks)):rdU n lk (d+1) i us=match jk (rdK n lk d) ks (i::us)with
  |none=>none
  |some (a,b)=>some (.inr a,b):=by
 rw[rdU,if_pos h,e];rfl
theorem Xa{n:Nat}{d i:Nat}{us:List Nat}(h:¬(i<n/\i∉us)):rdU n lk d i us=none:=by
 cases d with
 |zero=>rfl
 |succ d=>rw[rdU,if_neg h]
theorem Q9j{n:Nat}{d i:Nat}{us:List Nat}(h:decN (lk i)=none):rdU n lk d i us=none:=by
 cases d with
 |zero=>rfl
 |succ d=>
  rw[rdU];split
  ·rw[h]
  ·rfl
def qQ:Bool->List ByteArray->ByteArray->ByteArray->Bool
 |_,[],f,t=>be t yu||bl f t
 |b,k::r,f,t=>if bl k f||(b&&be k f)then false else qQ true r k t
def j3{α:Type}(sd:ByteArray->ByteArray->α->Option Nat)(sz:α->Nat)(t:ByteArray):Option Nat->List (qG α)->Option Nat
 |hi,[]=>hi
 |hi,k::r=>match sd k.1 (match r with| []=>t|k2::_=>k2.1) k.2 with
  |none=>none
  |some b=>if 40<=sz k.2/\(hi=none\/hi=some b)then j3 sd sz t (some b) r else none
def szU:(d:Nat)->UNd d->Nat
 |0,_=>0
 |_+1,.inl l=>(List.map psz l).sum
 |_+1,.inr ks=>11*ks.length
def sndL(f t:ByteArray)(l:List Pr):Bool:=match l with
 | []=>false
 |p::_=> !be p.1 yu&&qQ false (l.map fun p=>p.1) f t
def sndB{α:Type}(f t:ByteArray)(ks:List (qG α)):Bool:=match ks with
 | []=>false
 |k::_=>decide (1<ks.length)&&be k.1 f&&qQ false (ks.map fun k=>k.1) f t
def gc:(d:Nat)->ByteArray->ByteArray->UNd d->Option Nat
 |0,_,_,_=>none
 |_+1,f,t,.inl l=>if sndL f t l then some 1 else none
 |d+1,f,t,.inr ks=>if sndB f t ks then(j3 (gc d) (szU d) t none ks).map (·+1)else none
def Rep:(d:Nat)->UNd d->(h:Nat)->Nd h->Prop
 |0,_,_,_=>False
 |_+1,.inl l,0,n=>n=l
 |_+1,.inl _,_+1,_=>False
 |_+1,.inr _,0,_=>False
 |d+1,.inr ks,h+1,ns=>F2 (fun(k:qG (UNd d)) (k':Kid h)=>(k'.1=k.1/\k'.3=k.3)/\Rep d k.2 h k'.2) ks ns
theorem Pt:∀{keys:List ByteArray} {b:Bool} {f t:ByteArray},qQ b keys f t=true->ZM keys/\(∀k∈keys,ge k f/\(b=true->bl f k=true))/\(t=yu\/(bl f t=true/\∀k∈keys,bl k t=true))
 | [],b,f,t,h=>by
  refine⟨List.Pairwise.nil,by simp,?_⟩;simp only[qQ,Bool.or_eq_true]at h;rcases h with h|h
  ·exact Or.inl ((QD _ _).1 h)
  ·exact Or.inr ⟨h,by simp⟩
 |k::r,b,f,t,h=>by
  simp only[qQ]at h;split at h
  ·cases h
  ·rename_i hc;simp only[Bool.or_eq_true,cz,not_or,not_and,Bool.not_eq_true]at hc;obtain⟨o,m,p⟩:=Pt h;have i:ge k f:=hc.1;have l:b=true->bl f k=true:=by
    intro g;have j:=hc.2 g;rcases QX f k with c|c|c
    ·exact c
    ·rw[c,Qq]at j;cases j
    ·rw[hc.1]at c;cases c
   refine⟨aP.2 ⟨fun x a=>(m x a).2 rfl,o⟩,?_,?_⟩
   ·intro x a;rcases an.1 a with rfl|a
    ·exact⟨i,l⟩
    ·have d:=(m x a).2 rfl;exact⟨jn (Zt d) i,fun g=>gV (l g) d⟩
   ·rcases p with e|⟨d,n⟩
    ·exact Or.inl e
    ·refine Or.inr ⟨Zc i d,?_⟩;intro x a;rcases an.1 a with rfl|a
     ·exact d
     ·exact n x a
theorem Rb:∀{keys:List ByteArray} {b:Bool} {f t:ByteArray},ZM keys->(∀k∈keys,ge k f/\(b=true->bl f k=true))->(t=yu\/(bl f t=true/\∀k∈keys,bl k t=true))->qQ b keys f t=true
 | [],_,_,_,_,_,h=>by
  simp only[qQ,Bool.or_eq_true];rcases h with rfl|h
  ·exact Or.inl (Qq _)
  ·exact Or.inr h.1
 |k::r,b,f,t,i,j,l=>by
  have g:=j k (by simp);have c:=aP.1 i;have hc:(bl k f||(b&&be k f))=false:=by
   rw[Bool.or_eq_false_iff];refine⟨g.1,?_⟩
   cases b with
   |false=>rfl
   |true=>rw[Bool.true_and,ZL];exact jo (g.2 rfl)
  rw[qQ,hc];refine Rb c.2 (fun x a=>⟨Zt (c.1 x a),fun _=>c.1 x a⟩) ?_;rcases l with e|⟨_,d⟩
  ·exact Or.inl e
  ·exact Or.inr ⟨d k (by simp),fun x a=>d x (by simp[a])⟩
theorem OS{α:Type}{sd:ByteArray->ByteArray->α->Option Nat}{sz:α->Nat}{t:ByteArray}{b:Nat}:∀{ks:List (qG α)} {hi:Option Nat},j3 sd sz t hi ks=some b->(∀c,hi=some c->c=b)/\∀(i:Nat) (k:qG α),ks[i]?=some k->sd k.1 (((ks[i+1]?).map fun q=>q.1).getD t) k.2=some b/\40<=sz k.2
 | [],hi,h=>by
  simp only[j3]at h;exact⟨fun c hc=>by rw[h]at hc;cases hc;rfl,by simp⟩
 |k::r,hi,h=>by
  simp only[j3]at h;split at h
  ·cases h
  ·rename_i g f;split at h
   ·rename_i hc;obtain⟨l,m⟩:=OS h;have j:=l g rfl;subst j;refine⟨?_,?_⟩
    ·intro c a;rcases hc.2 with e|e
     ·rw[e]at a;cases a
     ·rw[e]at a;cases a;rfl
    ·intro i q d
     cases i with
     |zero=>
      simp only[cX,ba]at d;subst d;refine⟨?_,hc.1⟩
      cases r with
      |nil=>exact f
      |cons n o=>exact f
     |succ i=>
      rw[bI]at d⊢;exact m i q d
   ·cases h
theorem Ow{α:Type}{sd:ByteArray->ByteArray->α->Option Nat}{sz:α->Nat}{t:ByteArray}{hi:Option Nat}{k:qG α}{r:List (qG α)}:j3 sd sz t hi (k::r)=match sd k.1 (((r[0]?).map fun q=>q.1).getD t) k.2 with
  |none=>none
  |some b=>if 40<=sz k.2/\(hi=none\/hi=some b)then j3 sd sz t (some b) r else none:=by
 cases r<;>rfl
theorem Sw{α:Type}{sd:ByteArray->ByteArray->α->Option Nat}{sz:α->Nat}{t:ByteArray}{b:Nat}:∀{ks:List (qG α)} {hi:Option Nat},(hi=none\/hi=some b)->(ks= []->hi=some b)->(∀(i:Nat) (k:qG α),ks[i]?=some k->sd k.1 (((ks[i+1]?).map fun q=>q.1).getD t) k.2=some b/\40<=sz k.2)->j3 sd sz t hi ks=some b
 | [],hi,_,h2,_=>h2 rfl
 |k::r,hi,d,_,c=>by
  have a:=c 0 k rfl;rw[bI]at a;rw[Ow,a.1];simp only;rw[if_pos ⟨a.2,d⟩];refine Sw (Or.inr rfl) (fun _=>rfl) fun i q e=> ?_;have:=c (i+1) q (by rw[bI];exact e);rw[bI]at this;exact this
def okU:(d:Nat)->UNd d->Prop
 |0,_=>True
 |_+1,.inl l=>(∀p∈l,p.1.size<=8/\p.2.size<=12)/\(List.map psz l).sum<=122
 |d+1,.inr ks=>11*ks.length<=122/\∀k∈ks,k.1.size<=8/\k.3<65536/\okU d k.2
theorem Qcj{k:ByteArray}(h:k≠yu):1<=k.size:=by
 rcases dM k.size with a|a
 ·refine absurd ?_ h;have:k.data=#[]:=Array.eq_empty_of_size_eq_zero a
  cases k
  simp only at this;subst this;rfl
 ·exact a
theorem X3{α β:Type}{R:Nat->α->β->Prop}:∀(ls:List α),(∀i a,ls[i]?=some a->∃b,R i a b)->∃bs:List β,ls.length=bs.length/\∀i a b,ls[i]?=some a->bs[i]?=some b->R i a b:=by
 intro ls
 induction ls generalizing R with
 |nil=>intro _;exact⟨[],rfl,by simp⟩
 |cons x l ih=>
  intro h;obtain⟨b,g⟩:=h 0 x rfl;obtain⟨bs,e,f⟩:=ih (R:=fun i=>R (i+1)) fun i a d=>h (i+1) a (by rw[bI];exact d);refine⟨b::bs,by simp[e],?_⟩;intro i a c d hc
  cases i with
  |zero=>simp at d hc;subst d;subst hc;exact g
  |succ i=>
   rw[bI]at d hc;exact f i a c d hc
theorem Ss{d:Nat}{u:UNd d}{h:Nat}{n:Nd h}(hr:Rep d u h n):szU d u=yq h n:=by
 cases d with
 |zero=>exact hr.elim
 |succ d=>
  cases u with
  |inl l=>
   cases h with
   |zero=>
    have e:n=l:=hr;subst e;rfl
   |succ h=>exact hr.elim
  |inr a=>
   cases h with
   |zero=>exact hr.elim
   |succ h=>
    have e:=hr.1;show 11*a.length=11*List.length n;rw[e]
theorem NH:∀(d:Nat) (u:UNd d) (f t:ByteArray) (x:Nat),gc d f t u=some x->okU d u->∃(h:Nat) (n:Nd h),x=h+1/\Rep d u h n/\WFN h f n/\qd h n/\yq h n<=122/\(t=yu\/∀p∈yV h n,bl p.1 t=true)/\(0<h->22<=yq h n)/\g9 h n=false
 |0,_,_,_,_,h,_=>by cases h
 |d+1,.inl l,f,t,x,h,P=>by
  simp only[gc]at h;split at h
  ·rename_i G;simp only[ba]at h;subst h
   cases l with
   |nil=>cases G
   |cons p r=>
    simp only[sndL,cz,Bool.not_eq_true']at G;obtain⟨Y,Z⟩:=G;obtain⟨i1,i2,i3⟩:=Pt Z;have rY:p.1≠yu:=(MY _ _).1 Y;have G:Srt (p::r):=db.1 i1;have eV:∀q∈p::r,q.1≠yu:=by
     intro q F;rcases an.1 F with rfl|F
     ·exact rY
     ·intro e;have:=(aP.1 G).1 q F;rw[e,show bl p.1 yu=false from jQ p.1]at this
      cases this
    refine⟨0,p::r,rfl,rfl,⟨G,fun q F=>⟨(i2 q.1 (bg.2 ⟨q,F,rfl⟩)).1,Qcj (eV q F),(P.1 q F).1,(P.1 q F).2⟩⟩,trivial,P.2,?_,(by intro h;cases h),rfl⟩;rcases i3 with e|⟨_,V⟩
    ·exact Or.inl e
    ·exact Or.inr fun q F=>V q.1 (bg.2 ⟨q,F,rfl⟩)
  ·cases h
 |d+1,.inr H,f,t,x,h,P=>by
  simp only[gc]at h;split at h
  ·rename_i G;obtain⟨b,v,hx⟩:=cj.1 h;obtain⟨_,J⟩:=OS v
   cases z:H with
   |nil=>rw[z]at G;cases G
   |cons W r0=>
    have lH:=G;rw[z]at lH;simp only[sndB,cz,cE]at lH;obtain⟨⟨hl,hf⟩,fH⟩:=lH;rw[<-z]at hl fH⊢;obtain⟨i1,i2,i3⟩:=Pt fH;have ox:=(QD _ _).1 hf;have I4:H.Pairwise (fun(a b:qG (UNd d))=>bl a.1 b.1=true):=db.1 i1;have O:∀(i j:Nat) (a b:qG (UNd d)),i<j->H[i]?=some a->H[j]?=some b->bl a.1 b.1=true:=by
     intro i j a b A o v;obtain⟨E,rfl⟩:=ae.1 o;obtain⟨hj,rfl⟩:=ae.1 v;exact bP.1 I4 i j E hj A
    obtain⟨w,_,eb,_⟩:=NH d W.2 _ _ _ (J 0 W (by rw[z];rfl)).1 (P.2 W (by rw[z];simp)).2.2;have fQ:=X3 (R:=fun i (k:qG (UNd d)) (Q:Kid w)=>(Q.1=k.1/\Q.3=k.3)/\Rep d k.2 w Q.2/\WFN w k.1 Q.2/\qd w Q.2/\Rt w Q.2/\(((H[i+1]?).map fun q=>q.1).getD t=yu\/∀p∈yV w Q.2,bl p.1 (((H[i+1]?).map fun q=>q.1).getD t)=true)) H (by
     intro i k hk;obtain⟨Y,Z⟩:=J i k hk;obtain⟨U,n',e',r1,r2,r3,r4,r5,r6,r7⟩:=NH d k.2 _ _ _ Y (P.2 k (ah hk)).2.2;have:U=w:=by omega
     subst this;exact⟨⟨k.1,n',k.3⟩,⟨rfl,rfl⟩,r1,r2,r3,⟨by rw[<-Ss r1];exact Z,r4⟩,r5⟩)
    obtain⟨s,K,m⟩:=fQ;have g:∀{i:Nat} {b:Kid w},s[i]?=some b->∃a,H[i]?=some a:=by
     intro i b v;have:=(ae.1 v).1;exact⟨_,aa (by omega)⟩
    have hcut:∀{i j:Nat} {a b:Kid w} {p:Pr},i<j->s[i]?=some a->s[j]?=some b->p∈yV w a.2->bl p.1 b.1=true:=by
     intro i j a b p A o v L;obtain⟨y,I⟩:=g o;obtain⟨M,c⟩:=g v;obtain⟨T,X⟩:∃T,H[i+1]?=some T:=⟨_,aa (by have:=(ae.1 c).1;omega)⟩
     obtain⟨⟨ea,_⟩,_,_,_,_,D⟩:=m i y a I o;obtain⟨⟨I5,_⟩,_⟩:=m j M b c v;rw[X]at D;simp only[b7,cV]at D;have FM:=O i (i+1) y T (by omega) I X;rcases D with e|D
     ·rw[e,show bl y.1 yu=false from jQ y.1]at FM
      cases FM
     ·have:=D p L;rw[I5];rcases bG (i+1) j with U|U
      ·exact gV this (O (i+1) j T M U X c)
      ·have e:j=i+1:=by omega
       subst e;rw[X]at c
       cases c
       exact this
    have S:s.Pairwise (Bef w):=by
     refine bP.2 fun i j E hj A=> ?_;have o:s[i]?=some s[i]:=aa E;have v:s[j]?=some s[j]:=aa hj;obtain⟨y,I⟩:=g o;obtain⟨M,c⟩:=g v;refine⟨?_,fun p L=>hcut A o v L⟩;rw[(m i _ _ I o).1.1,(m j _ _ c v).1.1];exact O i j y M A I c
    have C:∀a∈s,WFN w a.1 a.2/\Rt w a.2/\qd w a.2:=by
     intro a o;obtain⟨i,E⟩:=aU.1 o;obtain⟨y,I⟩:=g E;obtain⟨⟨e1,_⟩,_,r2,r3,r4,_⟩:=m i y a I E;rw[e1];exact⟨r2,r4,r3⟩
    have B:2<=s.length:=by omega
    refine⟨w+1,s,by omega,⟨K,fun i a b o v=>⟨(m i a b o v).1,(m i a b o v).2.1⟩⟩,(yN w f s).2 ⟨?_,S,fun a o=>(C a o).1⟩,(yO w s).2 fun a o=>⟨(C a o).2.1,(C a o).2.2⟩,?_,?_,?_,rfl⟩
    ·cases FN:s with
     |nil=>rw[FN]at B;simp at B
     |cons a r=>
      have e:=(m 0 W a (by rw[z];rfl) (by rw[FN];rfl)).1.1;refine⟨a.2,a.3,r,?_⟩;rw[ox]at e;rw[<-e]
    ·show 11*s.length<=122;rw[<-K];exact P.1
    ·rcases i3 with e|⟨_,V⟩
     ·exact Or.inl e
     ·refine Or.inr fun p L=> ?_;obtain⟨a,o,L⟩:=qb.1 (show p∈yJ w s from L);obtain⟨i,E⟩:=aU.1 o;obtain⟨y,I⟩:=g E
      by_cases N:i+1<s.length
      ·have v:s[i+1]?=some s[i+1]:=aa N;obtain⟨M,c⟩:=g v;have h5:=hcut (by omega) E v L;rw[(m _ _ _ c v).1.1]at h5;exact gV h5 (V M.1 (bg.2 ⟨M,ah c,rfl⟩))
      ·obtain⟨_,_,_,_,_,D⟩:=m i y a I E;have e:H[i+1]?=none:=bY (by omega);rw[e]at D;simp only[Option.map_none,Option.getD_none]at D;rcases D with e|D
       ·exfalso;have:=V y.1 (bg.2 ⟨y,ah I,rfl⟩);rw[e,show bl y.1 yu=false from jQ y.1]at this
        cases this
       ·exact D p L
    ·intro _;show 22<=11*s.length;omega
  ·cases h
theorem NI{n:Nat}{lk:Nat->List UInt8}:∀{d i:Nat} {us e8:List Nat} {u:UNd d},rdU n lk d i us=some (u,e8)->okU d u
 |0,_,_,_,_,h=>by cases h
 |d+1,i,us,e8,u,h=>by
  rw[rdU]at h;split at h
  ·split at h
   ·cases h
   ·rename_i l e;simp only[ba]at h
    cases h
    exact(MD e).2
   ·rename_i p e;have m:=(MD e).2;split at h
    ·cases h
    ·rename_i q x t;simp only[ba]at h
     cases h
     have g:=YT (f:=rdK n lk d) (G:=fun k (b:qG (UNd d))=>b.1=k.1/\b.3=k.2/\okU d b.2) (by
      intro k s b z a;unfold rdK at a;split at a
      ·cases a
      ·rename_i u2 y c;simp only[ba,cO]at a;rw[<-a.1];exact⟨rfl,rfl,NI c⟩) (show jk (rdK n lk d) p (i::us)=some (q,_)from t)
     refine⟨by rw[<-g.1];exact m.2,?_⟩;intro b w;obtain⟨j,o⟩:=aU.1 w;obtain⟨k,a⟩:∃k,p[j]?=some k:=⟨_,aa (by rw[g.1];exact(ae.1 o).1)⟩
     obtain⟨r,c,v⟩:=g.2 j k b a o;have:=m.1 k (ah a);rw[r,c];exact⟨this.1,this.2,v⟩
  ·cases h
def TkI(us:List Nat)(w:World)(i:Value)(wr:World):Prop:=∃j:Nat,i=.int .i64 j/\(∀k,k<j->k∈us)/\y6 [] w wr
def TkR(n b:Nat)(us:List Nat)(w:World)(e:Ending)(w':World):Prop:=
 (tk us<n/\e=.returned (.int .i64 (tk us:Nat))/\SpM w' b (tk us::us)/\y6 [b] w w')\/(n<=tk us/\Thr 3 e w'/\y6 [] w w')
theorem Q7G(n b:Nat)(us:List Nat)(w:World)(h:SpM w b us)(hu:∀u∈us,u<1000)(hl:us.length<70000):Calls prog 81 #[.agg #[.int .i64 n,.map (some b)]] w (TkR n b us w):=by
 have p:=(y6.refl [] w).alloc (.cells #[.int .i64 n,.map (some b)] 131);have I:=af w (.cells #[.int .i64 n,.map (some b)] 131);have C:Hid (∀(j:Nat) (W:World),j<70000->SpM W b us->Calls prog 114 #[.agg #[.int .i64 n,.map (some b)],.int .i64 j] W fun e q=>e=.returned (.bool (decide (j∈us)))/\y6 [] W q):=fun j W m s=>Ol n b us j W s m;have y:Hid (SpM w b us):=h;have M:=h.lt;clear h;go_enter func81,ntmps81;go_wp2_with fail
 go_loopw [3] (fun i wr=>TkI us (w.alloc (.cells #[.int .i64 n,.map (some b)] 131)) i wr) (fun i _=>mxs us+1-(intOf i).toNat)
 case atStart=>exact⟨0,rfl,by omega,y6.refl _ _⟩
 case round=>
  obtain⟨j,rfl,x,c⟩:=hrel;have m:j<70000:=by
   cases j with
   |zero=>omega
   |succ j=>have:=hu j (x j (by omega));omega
  have l:=c.get I (by simp);have g:Hid (Calls _ _ _ _ _):=C.out j wr m ((y.out.kept p (by simp)).kept c (by simp))
  by_cases d:j∈us
  ·have t:decide (j∈us)=true:=by simpa using d
   rw[t]at g;have L:=RK d;go_wp2_with(first|(refine aW rfl 131 (.tmp 1) rfl w.heap.size rfl 131 #[.int .i64 n,.map (some b)] (0,0) _ l underlying131 rfl Zl ?_)|(go_at_call 114;refine g.out.mono ?_;rintro e r⟨rfl,a⟩))
   go_roundw
   case rel=>
    refine⟨j+1,by go_num,?_,c.trans a⟩;intro k O
    by_cases e:k=j
    ·rw[e];exact d
    ·exact x k (by omega)
   case measure=>simp[intOf];omega
  ·have t:decide (j∈us)=false:=by simpa using d
   rw[t]at g;have z:=Q7u d x
   by_cases H:n<=j
   ·have G:(n:Int)<=j:=by omega
    go_wp2_with(first|(refine aW rfl 131 (.tmp 1) rfl w.heap.size rfl 131 #[.int .i64 n,.map (some b)] (0,0) _ l underlying131 rfl Zl ?_)|(go_at_call 114;refine g.out.mono ?_;rintro e r⟨rfl,a⟩;have E:r.cell? ⟨w.heap.size,0,none⟩=some (.int .i64 n):=y7 (a.get l (by simp)) rfl)|(go_at_call 62;refine(ZH _ _ _).mono ?_;rintro e Q⟨ht,F⟩;obtain⟨f,o,rfl,N⟩:=ht.ex))
    exact⟨rfl,Or.inr ⟨by omega,ht,((p.trans c).trans a).trans F⟩⟩
   ·have G:¬(n:Int)<=j:=by omega
    have D:Hid (∀W,SpM W b us->Calls prog 78 #[.agg #[.int .i64 n,.map (some b)],.int .i64 j] W fun e q=>e=.returned (.tuple #[])/\SpM q b (j::us)/\y6 [b] W q):=fun W s=>MT n b us j W s m hl (by omega) d;have B:Hid (tk us=j):=z;clear z;go_wp2_with(first|(refine aW rfl 131 (.tmp 1) rfl w.heap.size rfl 131 #[.int .i64 n,.map (some b)] (0,0) _ l underlying131 rfl Zl ?_)|(go_at_call 114;refine g.out.mono ?_;rintro e r⟨rfl,a⟩;have A:=a.get l (by simp);have E:r.cell? ⟨w.heap.size,0,none⟩=some (.int .i64 n):=y7 A rfl;have J:=(((y.out.kept p (by simp)).kept c (by simp)).kept a (by simp)))|(refine aW rfl 131 (.tmp 1) rfl w.heap.size rfl 131 #[.int .i64 n,.map (some b)] (0,0) _ A underlying131 rfl Zl ?_)|(go_at_call 78;refine(D.out _ J).mono ?_;rintro e P⟨rfl,K,v⟩))
    go_ret;refine Or.inl ?_;rw[B.out];exact⟨by omega,rfl,K,(((p.trans c).trans a).mono (by simp)).trans v⟩
def jd(lk:Nat->List UInt8):(h:Nat)->Nd h->Prop
 |0,_=>True
 |h+1,ks=>∀k:Kid h,List.Mem k ks->lk k.3=gS (nbN h k.2)/\jd lk h k.2
def QI:(h:Nat)->Nd h->List Nat
 |0,_=> []
 |h+1,ks=>List.flatMap (fun k:Kid h=>if k.3=0 then QI h k.2 else k.3::j0 h k.2) ks
def qT(h:Nat)(k:Kid h):List Nat:=if k.3=0 then QI h k.2 else k.3::j0 h k.2
def PlN(lk:Nat->List UInt8):(h:Nat)->Nd h->Prop
 |0,_=>True
 |h+1,ks=>∀k:Kid h,List.Mem k ks->(k.3≠0->lk k.3=gS (nbN h k.2)/\jd lk h k.2)/\(k.3=0->PlN lk h k.2)
theorem gQ{h:Nat}{ks:List (Kid h)}:jd lk (h+1) ks↔∀k∈ks,lk k.3=gS (nbN h k.2)/\jd lk h k.2:=Iff.rfl
theorem TJ{h:Nat}{ks:List (Kid h)}:PlN lk (h+1) ks↔∀k∈ks,(k.3≠0->lk k.3=gS (nbN h k.2)/\jd lk h k.2)/\(k.3=0->PlN lk h k.2):=Iff.rfl
theorem QaX(h:Nat)(ks:List (Kid h)):QI (h+1) ks=ks.flatMap (qT h):=rfl
theorem jd.agree{lk fX:Nat->List UInt8}:∀{h:Nat} {n:Nd h},jd lk h n->(∀b∈j0 h n,fX b=lk b)->jd fX h n
 |0,_,_,_=>trivial
 |h+1,(i:List (Kid h)),g,f=>gQ.2 fun k d=>by
  have c:=gQ.1 g k d;have e:∀b∈k.3::j0 h k.2,fX b=lk b:=fun b a=>f b (show b∈i.flatMap (gD h)from cU.2 ⟨k,d,a⟩);exact⟨by rw[e k.3 (by simp)];exact c.1,c.2.agree fun b a=>e b (by simp[a])⟩
theorem Stp.sub{s s':Ls}(h:Stp s s'):(∀b∈s.us,b∈s'.us)/\(∀x∈s.ws,x∈s'.ws):=by
 induction h with
 |refl=>exact⟨fun _ h=>h,fun _ h=>h⟩
 |step _ B ih=>exact⟨fun b a=>by simp[Ls.step,ih.1 b a],fun x c=>by simp[Ls.step,ih.2 x c]⟩
structure Lad(fX:Nat->List UInt8)(h:Nat)(n n':Nd h)(s s':Ls):Prop where
 lies:jd fX h n'
 nd:(j0 h n').Nodup
 mem:∀b∈j0 h n',b∈QI h n\/(b∈s'.us/\b∉s.us)
theorem Un(lk fX:Nat->List UInt8)(kr:List Nat)(hlk:∀b∈kr,fX b=lk b):∀(h:Nat) (n:Nd h) (s:Ls),PlN lk h n->(QI h n).Nodup->(∀b∈QI h n,b∈kr)->(∀b∈kr,b∈s.us)->(∀x∈(qg h n s).2.ws,fX x.1=x.2)->Lad fX h n (qg h n s).1 s (qg h n s).2
 |0,_,_,_,_,_,_,_=>⟨trivial,List.nodup_nil,by intro b f;cases f⟩
 |h+1,(t:List (Kid h)),s,p,l,hu,g,j=>by
  have j:∀x∈(jz (qr h) t s).2.ws,fX x.1=x.2:=j;have l:(t.flatMap (qT h)).Nodup:=l;have hu:∀b∈t.flatMap (qT h),b∈kr:=hu;have I:∀(k:Kid h) (s:Ls),((k.3≠0->lk k.3=gS (nbN h k.2)/\jd lk h k.2)/\(k.3=0->PlN lk h k.2))->(qT h k).Nodup->(∀b∈qT h k,b∈kr)->(∀b∈kr,b∈s.us)->(∀x∈(qr h k s).2.ws,fX x.1=x.2)->
    (fX (qr h k s).1.3=gS (nbN h (qr h k s).1.2)/\jd fX h (qr h k s).1.2)/\(gD h (qr h k s).1).Nodup/\∀b∈gD h (qr h k s).1,b∈qT h k\/(b∈(qr h k s).2.us/\b∉s.us):=by
   intro k s p l hu g j
   by_cases e:k.3=0
   ·rw[Z1 e]at j⊢;have u:qT h k=QI h k.2:=by rw[qT,if_pos e]
    rw[u]at l hu⊢;obtain⟨D,_⟩:=Zf h k.2 s;have ih:=Un lk fX kr hlk h k.2 s (p.2 e) l hu g fun x y=>j x (by simp[Ls.step,y]);have v:=Ma (qg h k.2 s).2.us;refine⟨⟨j (tk (qg h k.2 s).2.us,gS (nbN h (qg h k.2 s).1)) (by simp[Ls.step]),ih.lies⟩,?_,?_⟩
    ·refine dj.2 ⟨fun q=> ?_,ih.nd⟩;rcases ih.mem _ q with d|d
     ·exact v (D.sub.1 _ (g _ (hu _ d)))
     ·exact v d.1
    ·intro b f;rcases an.1 f with rfl|f
     ·exact Or.inr ⟨by simp[Ls.step],fun q=>v (D.sub.1 _ q)⟩
     ·rcases ih.mem b f with d|d
      ·exact Or.inl d
      ·exact Or.inr ⟨by simp[Ls.step,d.1],d.2⟩
   ·rw[Q6 e];have u:qT h k=gD h k:=by rw[qT,if_neg e];rfl
    rw[u]at l hu⊢;have d:=p.1 e;refine⟨⟨by rw[hlk _ (hu k.3 (by simp[gD]))];exact d.1,d.2.agree fun b f=>hlk b (hu b (by simp[gD,f]))⟩,l,fun b f=>Or.inl f⟩
  have C:∀(k:Kid h) (s:Ls),Stp s (qr h k s).2:=by
   intro k s;unfold qr;split
   ·exact(Zf h k.2 s).1.step _
   ·exact .refl s
  have w:∀(L:List (Kid h)) (s:Ls),Stp s (jz (qr h) L s).2:=by
   intro L
   induction L with
   |nil=>intro s;exact .refl s
   |cons a r ih=>intro s;exact(C a s).trans (ih _)
  have z:∀(L:List (Kid h)) (s:Ls),(∀k∈L,(k.3≠0->lk k.3=gS (nbN h k.2)/\jd lk h k.2)/\(k.3=0->PlN lk h k.2))->(L.flatMap (qT h)).Nodup->(∀b∈L.flatMap (qT h),b∈kr)->(∀b∈kr,b∈s.us)->(∀x∈(jz (qr h) L s).2.ws,fX x.1=x.2)->
    (∀k∈(jz (qr h) L s).1,fX k.3=gS (nbN h k.2)/\jd fX h k.2)/\((jz (qr h) L s).1.flatMap (gD h)).Nodup/\∀b∈(jz (qr h) L s).1.flatMap (gD h),b∈L.flatMap (qT h)\/(b∈(jz (qr h) L s).2.us/\b∉s.us):=by
   intro L
   induction L with
   |nil=>intro s _ _ _ _ _;exact⟨fun k o=>(bW o).elim,List.nodup_nil,fun b f=>(bW f).elim⟩
   |cons a r ih=>
    intro s p l hu g j;rw[bF,cL]at l;obtain⟨J,K,M⟩:=l;simp only[jz]at j⊢;have i:=(C a s).sub;have E:=(w r (qr h a s).2).sub;obtain⟨F,G,B⟩:=I a s (p a (by simp)) J (fun b f=>hu b (by simp[f])) g fun x y=>j x (E.2 x y);obtain⟨N,O,A⟩:=ih (qr h a s).2 (fun k o=>p k (by simp[o])) K (fun b f=>hu b (by rw[bF];exact az _ f)) (fun b f=>i.1 b (g b f)) j;refine⟨?_,?_,?_⟩
    ·intro k o;rcases an.1 o with rfl|o
     ·exact F
     ·exact N k o
    ·rw[bF,cL];refine⟨G,O,?_⟩;rintro b f c hc rfl;rcases B b f with d|d
     ·rcases A b hc with m|m
      ·exact M b d b m rfl
      ·exact m.2 (i.1 b (g b (hu b (by simp[d]))))
     ·rcases A b hc with m|m
      ·exact d.2 (g b (hu b (by rw[bF];exact az _ m)))
      ·exact m.2 d.1
    ·intro b f;rw[bF,ar]at f⊢;rcases f with f|f
     ·rcases B b f with d|d
      ·exact Or.inl (Or.inl d)
      ·exact Or.inr ⟨E.1 b d.1,d.2⟩
     ·rcases A b f with d|d
      ·exact Or.inl (Or.inr d)
      ·exact Or.inr ⟨d.1,fun q=>d.2 (i.1 b q)⟩
  obtain⟨d,m,H⟩:=z t s (TJ.1 p) l hu g j;exact⟨gQ.2 d,m,H⟩
end Go.Proofs.YtcklgafpgdhnaaaGreatDoor
