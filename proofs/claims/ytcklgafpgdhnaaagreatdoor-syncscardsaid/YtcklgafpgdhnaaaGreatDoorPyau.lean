import Derived.Test.YtcklgafpgdhnaaaGreatDoorPyan
import Derived.Test.YtcklgafpgdhnaaaGreatDoorPyap
import Derived.Shelf.Abstract
set_option maxRecDepth 100000
set_option maxHeartbeats 4000000
set_option linter.unusedSimpArgs false
set_option linter.unusedVariables false
set_option linter.unusedSectionVars false
open Go.Proofs.Tryz
namespace Go.Proofs.YtcklgafpgdhnaaaGreatDoor
open Go.RowKit
def jj(nm:String)(x:Value)(f:FuncId)(v:Value):Prop:=
 ∃t,x=.iface t v/\(∀W,(Go.method 433 t v nm).run prog W=.ok (f,v) W)/\∀(args:Array Value) (W:World),(callFunc f args).run prog W=.ok (.enter f args) W
theorem UK(p:Option Addr)(n c:Nat):jj "store/tree.size" (.iface 116 (.slice p n c)) 239 (.slice p n c):=⟨_,rfl,fun _=>by kernel_rfl,fun _ _=>by kernel_rfl⟩
theorem T4(p:Option Addr)(n c:Nat):jj "store/tree.size" (.iface 168 (.slice p n c)) 258 (.slice p n c):=⟨_,rfl,fun _=>by kernel_rfl,fun _ _=>by kernel_rfl⟩
def Sm:(h:Nat)->Nd h->Prop
 |0,l=>(∀p:Pr,List.Mem p l->okp p)/\List.length (α:=Pr) l<=1000
 |h+1,ks=>List.length (α:=Kid h) ks<=1000
theorem Q6a(l:List Pr):l.length<=(l.map psz).sum:=by
 induction l with
 |nil=>simp
 |cons p r ih=>have:=US p;simp;omega
theorem Sm.of{h:Nat}{f:ByteArray}{n:Nd h}(hw:WFN h f n)(hs:yq h n<=1000):Sm h n:=by
 cases h with
 |zero=>
  refine⟨fun p a=>(hw.2 p a).2,?_⟩;have:=Q6a n;have e:yq 0 n=(List.map psz n).sum:=rfl;omega
 |succ h=>
  have e:yq (h+1) n=11*List.length (α:=Kid h) n:=rfl;show List.length (α:=Kid h) n<=1000;omega
theorem Q6b(xs:List KE):(xs.map ksz).sum=11*xs.length:=by
 induction xs with
 |nil=>rfl
 |cons a r ih=>simp[ih,ksz];omega
theorem Q6c(v:Value)(l:List Pr)(w:World)(h:LF w v l)(hs:Sm 0 l):Calls prog 239 #[v] w fun e w'=>e=.returned (.int .i64 (yq 0 l:Nat))/\y6 [] w w':=by
 have d:Hid (Calls _ _ _ _ _):=Pj v l w h (by have:=hs.2;omega) fun x f=>LX (hs.1 x f);obtain⟨p,c,b⟩:=SL.shape h;rw[aj]at b;subst b;go_enter func239,ntmps239;go_wp2_with(first|(go_at_call 244;refine d.out.mono ?_;rintro e g⟨rfl,a⟩))
 go_ret;exact⟨rfl,a⟩
theorem U6(v:Value)(xs:List KE)(w:World)(h:SL w 80 3 v (xs.map ke))(hl:xs.length<=1000)(ho:∀x∈xs,∃t v,x.2=.iface t v):Calls prog 258 #[v] w fun e w'=>e=.returned (.int .i64 (11*xs.length:Nat))/\y6 [] w w':=by
 have b:Hid (Calls _ _ _ _ _):=Tc v xs w h (by omega) (fun x f=>by show 11<=22;omega) ho;rw[Q6b]at b;obtain⟨p,c,d⟩:=SL.shape h;rw[aj]at d;subst d;go_enter func258,ntmps258;go_wp2_with(first|(go_at_call 266;refine b.out.mono ?_;rintro e g⟨rfl,a⟩))
 go_ret;exact⟨rfl,a⟩
variable {w W:World}{A:Nat->Prop}
theorem ND.k{h:Nat}{n:Nd h}{x:Value}(hx:ND w A h n x)(k:y6 [] w W):ND W A h n x:=ND.kept k (by simp) (fun _ h=>h) hx
variable {xs:List KE}
theorem F2.k{h:Nat}{ks:List (Kid h)}(hx:F2 (KR w A h) ks xs)(k:y6 [] w W):F2 (KR W A h) ks xs:=hx.mono fun _ _ _ a=>KR.kept a k (by simp) fun _ h=>h
theorem ZR{h:Nat}{n:Nd h}{x:Value}(hx:ND w A h n x)(hs:Sm h n):
  ∃f v,jj "store/tree.size" x f v/\∀W,y6 [] w W->Calls prog f #[v] W fun e w'=>e=.returned (.int .i64 (yq h n:Nat))/\y6 [] W w':=by
 cases h with
 |zero=>
  obtain⟨v,rfl,b,_⟩:=hx;have d:=fun W k=>Q6c v n W (b.kept k) hs;obtain⟨p,c,g⟩:=SL.shape b;subst g;exact⟨_,_,UK _ _ _,d⟩
 |succ h=>
  obtain⟨v,j,rfl,b,_,i⟩:=gg.1 hx;have a:j.length=List.length (α:=Kid h) n:=i.1.symm;have d:=fun W k=>U6 v j W (b.kept k) (by rw[a];exact hs) (gO i);rw[a]at d;obtain⟨p,c,g⟩:=SL.shape b;subst g;exact⟨_,_,T4 _ _ _,d⟩
theorem Q6e(p:Option Addr)(n c:Nat):jj "store/tree.first" (.iface 116 (.slice p n c)) 234 (.slice p n c):=⟨_,rfl,fun _=>by kernel_rfl,fun _ _=>by kernel_rfl⟩
theorem Q6f(p:Option Addr)(n c:Nat):jj "store/tree.first" (.iface 168 (.slice p n c)) 253 (.slice p n c):=⟨_,rfl,fun _=>by kernel_rfl,fun _ _=>by kernel_rfl⟩
theorem Q6g(p:Option Addr)(n c:Nat):jj "store/tree.halves" (.iface 116 (.slice p n c)) 235 (.slice p n c):=⟨_,rfl,fun _=>by kernel_rfl,fun _ _=>by kernel_rfl⟩
theorem Q6h(p:Option Addr)(n c:Nat):jj "store/tree.halves" (.iface 168 (.slice p n c)) 254 (.slice p n c):=⟨_,rfl,fun _=>by kernel_rfl,fun _ _=>by kernel_rfl⟩
theorem Q6i(p:Option Addr)(n c:Nat):jj "store/tree.joined" (.iface 116 (.slice p n c)) 236 (.slice p n c):=⟨_,rfl,fun _=>by kernel_rfl,fun _ _=>by kernel_rfl⟩
theorem Xv(p:Option Addr)(n c:Nat):jj "store/tree.joined" (.iface 168 (.slice p n c)) 255 (.slice p n c):=⟨_,rfl,fun _=>by kernel_rfl,fun _ _=>by kernel_rfl⟩
theorem QG:(prog.info? 80).map (·.size)=some 3:=by kernel_rfl
theorem VY(v:Value)(q:Pr)(r:List Pr)(w:World)(h:LF w v (q::r)):Calls prog 234 #[v] w fun e w'=>e=.returned (.string q.1)/\y6 [] w w':=by
 obtain⟨g,a,c,f,i,n,j,k,l,d⟩:=SL.at_ h (by simp);subst i;have hc:=(d 0 (pe q) rfl).2 0 _ rfl;have o:w.cell? ⟨g,a,none⟩=some (.string q.1):=by rw[aY _ _ _ _ _ _ n];simpa using hc
 have b:0<(List.map pe (q::r)).length:=by simp
 generalize(List.map pe (q::r)).length=m at b⊢;clear d hc;go_enter func234,ntmps234;go_wp2_with(first|(refine ya rfl _ _ (yc 116 (.tmp 3) (.const (.int .i64 0)) rfl g a m c 0 2 rfl rfl 122 underlying116 stp b a (by omega)) ?_))
 go_ret;exact⟨rfl,y6.refl _ _⟩
theorem RR(v:Value)(q:KE)(r:List KE)(w:World)(h:SL w 80 3 v ((q::r).map ke)):Calls prog 253 #[v] w fun e w'=>e=.returned (.string q.1)/\y6 [] w w':=by
 obtain⟨g,a,c,f,i,n,j,k,l,d⟩:=SL.at_ h (by simp);subst i;have hc:=(d 0 (ke q) rfl).2 0 _ rfl;have o:w.cell? ⟨g,a,none⟩=some (.string q.1):=by rw[aY _ _ _ _ _ _ n];simpa using hc
 have b:0<(List.map ke (q::r)).length:=by simp
 generalize(List.map ke (q::r)).length=m at b⊢;clear d hc;go_enter func253,ntmps253;go_wp2_with(first|(refine ya rfl _ _ (yc 168 (.tmp 3) (.const (.int .i64 0)) rfl g a m c 0 3 rfl rfl 80 underlying168 QG b a (by omega)) ?_))
 go_ret;exact⟨rfl,y6.refl _ _⟩
theorem Q6m(v:Value)(l:List Pr)(w:World)(h:LF w v l)(hs:Sm 0 l)(h0:yT psz l<l.length):Calls prog 235 #[v] w fun e w'=>
  ∃a b,e=.returned (.tuple #[.iface 116 a,.iface 116 b])/\LF w' a (l.take (yT psz l))/\LF w' b (l.drop (yT psz l))/\(∀y,a.ownBlock=some y->v.ownBlock=some y)/\(∀y,b.ownBlock=some y->v.ownBlock=some y)/\y6 [] w w':=by
 have g:Hid (Calls _ _ _ _ _):=Q4X v l w h (by have:=hs.2;omega) (fun x k=>LX (hs.1 x k)) h0;obtain⟨p,c,f⟩:=SL.shape h;rw[aj]at f;subst f;clear h hs h0;go_enter func235,ntmps235;go_wp2_with(first|(go_at_call 243;refine g.out.mono ?_;rintro e o⟨a,b,rfl,i,j,m,n,d⟩))
 go_ret2
 exact⟨_,_,rfl,i,j,m,n,d⟩
theorem Q6n(v:Value)(l:List KE)(w:World)(h:SL w 80 3 v (l.map ke))(hl:l.length<=1000)(ho:∀x∈l,∃t v,x.2=.iface t v)(h0:yT ksz l<l.length):Calls prog 254 #[v] w fun e w'=>
  ∃a b,e=.returned (.tuple #[.iface 168 a,.iface 168 b])/\SL w' 80 3 a ((l.take (yT ksz l)).map ke)/\SL w' 80 3 b ((l.drop (yT ksz l)).map ke)/\(∀y,a.ownBlock=some y->v.ownBlock=some y)/\(∀y,b.ownBlock=some y->v.ownBlock=some y)/\y6 [] w w':=by
 have g:Hid (Calls _ _ _ _ _):=XU v l w h (by omega) (fun x n=>by show 11<=22;omega) ho h0;obtain⟨p,c,f⟩:=SL.shape h;rw[aj]at f;subst f;clear h hl ho h0;go_enter func254,ntmps254;go_wp2_with(first|(go_at_call 265;refine g.out.mono ?_;rintro e o⟨a,b,rfl,i,j,k,m,d⟩))
 go_ret2
 exact⟨_,_,rfl,i,j,k,m,d⟩
theorem Wv{α β:Type}(whole:Nat):∀(part:Nat) (l:List α) (l':List β),l.length=l'.length->Za (fun _:α=>11) whole part l=Za (fun _:β=>11) whole part l'
 |_,[],[],_=>rfl
 |_,[],_::_,h=>by simp at h
 |_,_::_,[],h=>by simp at h
 |part,_::r,_::a,h=>by
  rw[Za,Za,Wv whole (part+11) r a (by simpa using h)]
theorem SY{α:Type}(l:List α):(l.map fun _:α=>11).sum=11*l.length:=by
 induction l with
 |nil=>rfl
 |cons a r ih=>simp[ih];omega
theorem Q6q{α β:Type}(l:List α)(l':List β)(h:l.length=l'.length):yT (fun _:α=>11) l=yT (fun _:β=>11) l':=by
 unfold yT;rw[SY,SY,h];exact Wv _ _ _ _ h
def Hf:(h:Nat)->Nd h->Prop
 |0,l=>yT psz l<List.length (α:=Pr) l
 |h+1,ks=>yT (fun _:Kid h=>11) ks<List.length (α:=Kid h) ks
theorem Q6r{h:Nat}{n:Nd h}{x:Value}(hx:ND w A h n x)(hs:Sm h n)(h0:Hf h n):
  ∃f v,jj "store/tree.halves" x f v/\∀W,y6 [] w W->Calls prog f #[v] W fun e w'=>∃a b,e=.returned (.tuple #[a,b])/\ND w' A h (yW h n).1 a/\ND w' A h (yW h n).2 b/\y6 [] W w':=by
 cases h with
 |zero=>
  obtain⟨v,rfl,j,i⟩:=hx;have l:=fun W k=>Q6m v n W (j.kept k) hs h0;obtain⟨p,c,q⟩:=SL.shape j;subst q;refine⟨_,_,Q6g _ _ _,fun W k=>(l W k).mono ?_⟩;rintro e w'⟨a,b,rfl,r,s,u,z,m⟩;exact⟨_,_,rfl,⟨a,rfl,r,fun y g=>i y (u y g)⟩,⟨b,rfl,s,fun y g=>i y (z y g)⟩,m⟩
 |succ h=>
  obtain⟨v,o,rfl,j,i,t⟩:=gg.1 hx;have d:o.length=List.length (α:=Kid h) n:=t.1.symm;have D:(ksz:KE->Nat)=fun _=>11:=rfl;have C:yT ksz o=yT (fun _:Kid h=>11) n:=by rw[D];exact Q6q (β:=Kid h) o n d
  have l:=fun W k=>Q6n v o W (j.kept k) (by rw[d];exact hs) (gO t) (by rw[C,d];exact h0);rw[C]at l;obtain⟨p,c,q⟩:=SL.shape j;subst q;refine⟨_,_,Q6h _ _ _,fun W k=>(l W k).mono ?_⟩;rintro e w'⟨a,b,rfl,r,s,u,z,m⟩;have B:=(t.k k).k m;exact⟨_,_,rfl,gg.2 ⟨a,_,rfl,r,fun y g=>i y (u y g),B.take _⟩,gg.2 ⟨b,_,rfl,s,fun y g=>i y (z y g),B.drop _⟩,m⟩
theorem Q6s{h:Nat}{n:Nd h}{x:Value}(hx:ND w A h n x)(h0:0<yq h n):
  ∃f v,jj "store/tree.first" x f v/\∀W,y6 [] w W->Calls prog f #[v] W fun e w'=>e=.returned (.string (jG h n))/\y6 [] W w':=by
 cases h with
 |zero=>
  obtain⟨v,rfl,b,l⟩:=hx
  cases n with
  |nil=>simp[yq]at h0
  |cons q r=>
   have d:=fun W k=>VY v q r W (b.kept k);obtain⟨p,c,g⟩:=SL.shape b;subst g;exact⟨_,_,Q6e _ _ _,d⟩
 |succ h=>
  obtain⟨v,s,rfl,b,l,m⟩:=gg.1 hx
  cases n with
  |nil=>simp[yq]at h0
  |cons q r=>
   obtain⟨y,j,o⟩:=m.get (i:=0) (a:=q) rfl
   cases s with
   |nil=>simp at j
   |cons z t=>
    simp at j;subst j;have d:=fun W k=>RR v z t W (b.kept k);rw[o.1.1]at d;obtain⟨p,c,g⟩:=SL.shape b;subst g;exact⟨_,_,Q6f _ _ _,d⟩
theorem Q6t(v:Value)(w:World):(Instr.typeAssert (.iface 116 v) 78 116 false).run prog w=.ok v w:=by kernel_rfl
theorem Q6u(v:Value)(w:World):(Instr.typeAssert (.iface 168 v) 78 168 false).run prog w=.ok v w:=by kernel_rfl
theorem bs2L(p p':Option Addr)(n c n' c':Nat)(w:World):(Instr.buildSlice 312 2 #[(0,.slice p n c),(1,.slice p' n' c')]).run prog w=.ok (.slice (some ⟨w.heap.size,0,none⟩) 2 2) (w.alloc (.cells #[.slice p n c,.slice p' n' c'] 116)):=by kernel_rfl
theorem bs2B(p p':Option Addr)(n c n' c':Nat)(w:World):(Instr.buildSlice 314 2 #[(0,.slice p n c),(1,.slice p' n' c')]).run prog w=.ok (.slice (some ⟨w.heap.size,0,none⟩) 2 2) (w.alloc (.cells #[.slice p n c,.slice p' n' c'] 168)):=by kernel_rfl
theorem Q6v(v v2:Value)(l l2:List Pr)(w:World)(h:LF w v l)(h2:LF w v2 l2)(hl:l.length+l2.length<=50000):Calls prog 236 #[v,.iface 116 v2] w fun e w'=>
  ∃a,e=.returned (.iface 116 a)/\LF w' a (l++l2)/\(∀y,a.ownBlock=some y->w.heap.size<=y)/\y6 [] w w':=by
 obtain⟨p,c,f⟩:=SL.shape h;obtain⟨q,m,g⟩:=SL.shape h2;rw[aj]at f g;have d:=(y6.refl [] w).alloc (.cells #[v,v2] 116);have j:Hid (Calls _ _ _ _ _):=XI w.heap.size v v2 (l.map pe) (l2.map pe) (w.alloc (.cells #[v,v2] 116)) (af _ _) (SL.kept h d) (SL.kept h2 d) (L3 l) (L3 l2) (by simpa using hl);subst f;subst g;have o:=bs2L;have n:=Q6t;go_enter func236,ntmps236;go_wp2_with(first|(go_at_call 270;refine j.out.mono ?_;rintro e r⟨a,rfl,i,b⟩))
 go_ret;refine⟨_,rfl,?_,fun y k=> ?_,d.trans b⟩
 ·have:=i.sl;rw[<-cS]at this;exact this
 ·have:=qj i.1 y (by rw[k];simp);simp at this;omega
theorem Q6w(v v2:Value)(l l2:List KE)(w:World)(h:SL w 80 3 v (l.map ke))(h2:SL w 80 3 v2 (l2.map ke))(o1:∀x∈l,∃t v,x.2=.iface t v)(o2:∀x∈l2,∃t v,x.2=.iface t v)(hl:l.length+l2.length<=50000):Calls prog 255 #[v,.iface 168 v2] w fun e w'=>
  ∃a,e=.returned (.iface 168 a)/\SL w' 80 3 a ((l++l2).map ke)/\(∀y,a.ownBlock=some y->w.heap.size<=y)/\y6 [] w w':=by
 obtain⟨p,c,f⟩:=SL.shape h;obtain⟨q,m,g⟩:=SL.shape h2;rw[aj]at f g;have d:=(y6.refl [] w).alloc (.cells #[v,v2] 168);have j:Hid (Calls _ _ _ _ _):=Q5D w.heap.size v v2 (l.map ke) (l2.map ke) (w.alloc (.cells #[v,v2] 168)) (af _ _) (SL.kept h d) (SL.kept h2 d) (L4 o1) (L4 o2) (by simpa using hl);subst f;subst g;have o:=bs2B;have n:=Q6u;go_enter func255,ntmps255;go_wp2_with(first|(go_at_call 271;refine j.out.mono ?_;rintro e r⟨a,rfl,i,b⟩))
 go_ret;refine⟨_,rfl,?_,fun y k=> ?_,d.trans b⟩
 ·have:=i.sl;rw[<-cS]at this;exact this
 ·have:=qj i.1 y (by rw[k];simp);simp at this;omega
theorem Uu{h:Nat}{n n2:Nd h}{x x2:Value}(hx:ND w A h n x)(hx2:ND w A h n2 x2)(hs:Sm h n)(eS:Sm h n2):
  ∃f v,jj "store/tree.joined" x f v/\∀W,y6 [] w W->Calls prog f #[v,x2] W fun e w'=>∃a,e=.returned a/\ND w' (fun y=>A y\/w.heap.size<=y) h (Q4 h n n2) a/\y6 [] W w':=by
 cases h with
 |zero=>
  obtain⟨v,rfl,d,G⟩:=hx;obtain⟨u,rfl,b,F⟩:=hx2;have i:=fun W k=>Q6v v u n n2 W (d.kept k) (b.kept k) (by have:=hs.2;have:=eS.2;omega);obtain⟨p,c,j⟩:=SL.shape d;subst j;refine⟨_,_,Q6i _ _ _,fun W k=>(i W k).mono ?_⟩;rintro e w'⟨a,rfl,m,t,g⟩;exact⟨_,rfl,⟨a,rfl,m,fun y r=>Or.inr (av k.size (t y r))⟩,g⟩
 |succ h=>
  obtain⟨v,E,rfl,d,G,o⟩:=gg.1 hx;obtain⟨u,B,rfl,b,F,l⟩:=gg.1 hx2;have C:E.length=List.length (α:=Kid h) n:=o.1.symm;have q:B.length=List.length (α:=Kid h) n2:=l.1.symm;have i:=fun W k=>Q6w v u E B W (d.kept k) (b.kept k) (gO o) (gO l) (by have:List.length (α:=Kid h) n<=1000:=hs;have:List.length (α:=Kid h) n2<=1000:=eS;omega);obtain⟨p,c,j⟩:=SL.shape d;subst j;refine⟨_,_,Xv _ _ _,fun W k=>(i W k).mono ?_⟩;rintro e w'⟨a,rfl,m,t,g⟩;have D:∀(s:List (Kid h)) (z:List KE),F2 (KR w A h) s z->F2 (KR w' (fun y=>A y\/w.heap.size<=y) h) s z:=fun s z H=>H.mono fun _ _ _ I=>KR.kept I (k.trans g) (by simp) fun _ h=>Or.inl h;exact⟨_,rfl,gg.2 ⟨a,_,rfl,m,fun y r=>Or.inr (av k.size (t y r)),(D _ _ o).append (D _ _ l)⟩,g⟩
theorem Q6y(p:Option Addr)(n c:Nat):jj "store/tree.leaf" (.iface 116 (.slice p n c)) 238 (.slice p n c):=⟨_,rfl,fun _=>by kernel_rfl,fun _ _=>by kernel_rfl⟩
theorem Q6z(p:Option Addr)(n c:Nat):jj "store/tree.leaf" (.iface 168 (.slice p n c)) 257 (.slice p n c):=⟨_,rfl,fun _=>by kernel_rfl,fun _ _=>by kernel_rfl⟩
theorem Q6A(xs:List KE):(xs.map ke).map List.head?=(xs.map (·.1)).map fun q=>some (Value.string q):=by
 rw[List.map_map,List.map_map];rfl
theorem NJ(l:List Pr):(l.map pe).map List.head?=(l.map (·.1)).map fun q=>some (Value.string q):=by
 rw[List.map_map,List.map_map];rfl
theorem Ro(h:Nat)(A:Nat->Prop)(v:Value)(xs:List KE)(ks:List (Kid h))(k:ByteArray)(w:World)(hl:SL w 80 3 v (xs.map ke))(hf:F2 (KR w A h) ks xs)(hk:KW h ks)(hkl:ks.length<=1000):
  Calls prog 262 #[v,.string k] w fun e w'=>e=.returned (.int .i64 (qq ks k:Nat))/\y6 [] w w':=by
 have n:(xs.map ke).length=ks.length:=by rw[aj,hf.1]
 have g:=ME (O4 hk) k;have o:=Q5L hk g (L5 (ks.map (·.1)) k);have l:=(Q4Q v (xs.map ke) (ks.map (·.1)) k w hl (by rw[Q6A,Q5G hf]) (O4 hk) (by omega)).mono fun _ _ h=>MS h;have j:=g.1;rw[aj]at j;obtain⟨p,c,m⟩:=hl.shape;rw[aj]at m;subst m;generalize pK (ks.map (·.1)) k=i at*;generalize bK (ks.map (·.1)) k=b at*;have d:Hid (Calls _ _ _ _ _):=l;have f:Hid _:=o;clear hk hf l o g
 cases b with
 |true=>
  go_enter func262,ntmps262;go_wp2_with(first|(go_at_call 268;refine d.out.mono ?_;rintro e q⟨rfl,a⟩))
  go_ret;exact⟨by rw[f.out];rfl,a⟩
 |false=>
  rcases dM i with rfl|r
  ·go_enter func262,ntmps262;go_wp2_with(first|(go_at_call 268;refine d.out.mono ?_;rintro e q⟨rfl,a⟩))
   go_ret;exact⟨by rw[f.out];rfl,a⟩
  ·have s:(0:Int)<(i:Int):=by omega
   go_enter func262,ntmps262;go_wp2_with(first|(go_at_call 268;refine d.out.mono ?_;rintro e q⟨rfl,a⟩))
   go_ret;refine⟨?_,a⟩;rw[f.out];simp;omega
theorem Pg{h:Nat}{f:ByteArray}{ks:List (Kid h)}(k:ByteArray)(hw:WFN (h+1) f ks):qq ks k<ks.length:=by
 obtain⟨⟨d,g,e,b⟩,_⟩:=(yN h f ks).1 hw;have:(ks.takeWhile fun a=> !bl k a.1).length<=ks.length:=(List.takeWhile_prefix _).length_le;have c:0<ks.length:=by rw[b];simp
 unfold qq;omega
theorem Q6E(p:Option Addr)(n c:Nat)(k:ByteArray)(w:World):Calls prog 238 #[.slice p n c,.string k] w fun e w'=>e=.returned (.slice p n c)/\y6 [] w w':=by
 go_enter func238,ntmps238;go_wp2;go_ret;exact⟨rfl,y6.refl _ _⟩
def Ts(k:ByteArray)(h:Nat):Prop:=∀(w:World) (A:Nat->Prop) (f:ByteArray) (n:Nd h) (x:Value),ND w A h n x->WFN h f n->qd h n->yq h n<=1000->
  ∃f v,jj "store/tree.leaf" x f v/\∀W,y6 [] w W->Calls prog f #[v,.string k] W fun e w'=>∃v',e=.returned v'/\LF w' v' (gW k h n)/\y6 [] W w'
theorem Q6G(k:ByteArray)(h:Nat)(IH:Ts k h)(A:Nat->Prop)(f0:ByteArray)(v:Value)(xs:List KE)(ks:List (Kid h))(w:World)(hl:SL w 80 3 v (xs.map ke))(hf:F2 (KR w A h) ks xs)(hw:WFN (h+1) f0 ks)(kq:qd (h+1) ks)(hsz:ks.length<=1000):
  Calls prog 257 #[v,.string k] w fun e w'=>∃v',e=.returned v'/\LF w' v' (gW k (h+1) ks)/\y6 [] w w':=by
 have d:(xs.map ke).length=ks.length:=by rw[aj,hf.1]
 have x:=((yN h f0 ks).1 hw).2;have m:Hid (Calls _ _ _ _ _):=Ro h A v xs ks k w hl hf x (by omega);have j:=Pg k hw;obtain⟨q,l⟩:∃q,ks[qq ks k]?=some q:=⟨_,aa j⟩
 have r:=ah l;have b:=(yO h ks).1 kq q r;obtain⟨y,C,B⟩:=hf.get l;have D:gW k (h+1) ks=gW k h q.2:=ZQ k h ks q l;obtain⟨f,N,⟨t,G,R,Q⟩,u⟩:=IH _ _ _ _ _ B.2 (x.all q r) b.2 (by have:=b.1.2;omega);obtain⟨g,c,n,F,e,K,H,I,J,s⟩:=hl.at_ (by omega);rw[d]at e;subst e;have hc:=(s (qq ks k) (ke y) (by rw[aA,C];rfl)).2;simp only[ke,G]at hc;have z:∀W,y6 [] w W->W.cell? ⟨g,c+qq ks k*3+2,none⟩=some (.iface t N):=fun W M=>by rw[aY _ _ _ _ _ _ (M.get K (by simp))];exact hc 2 _ rfl
 rw[D];have E:Hid (∀W,y6 [] w W->_):=u;have L:Hid _:=z;generalize qq ks k=i at*;clear u z s hc D C l B b r hw kq hf;go_enter func257,ntmps257;go_wp2_with(first|(go_at_call 262;refine m.out.mono ?_;rintro e O⟨rfl,a⟩;have P:=L.out O a)|(refine ya rfl _ _ (yc 168 (.tmp 5) (.tmp 8) rfl g c ks.length n i 3 rfl rfl 80 underlying168 QG j (c+i*3) rfl) ?_)|(go_at_fn f;refine(E.out _ a).mono ?_;rintro e T⟨S,rfl,p,o⟩))
 go_ret;exact⟨_,rfl,p,a.trans o⟩
theorem Uy(k:ByteArray):∀h,Ts k h
 |0=>by
  intro w A f n x j _ _ _;obtain⟨v,rfl,a,o⟩:=j;have g:=a;obtain⟨p,c,d⟩:=SL.shape a;subst d;refine⟨_,_,Q6y _ _ _,fun W b=>(Q6E _ _ _ k W).mono ?_⟩;rintro e y⟨rfl,l⟩;exact⟨_,rfl,(g.kept b).kept l,l⟩
 |h+1=>by
  intro w A f n x j s t r;obtain⟨v,u,rfl,a,o,q⟩:=gg.1 j;have i:List.length (α:=Kid h) n<=1000:=by have:11*List.length (α:=Kid h) n<=1000:=r;omega
  have m:=fun W b=>Q6G k h (Uy k h) A f v u n W (a.kept b) (q.k b) s t i;obtain⟨p,c,d⟩:=SL.shape a;subst d;exact⟨_,_,Q6z _ _ _,m⟩
def Mb(v:Value)(l:List Pr)(w:World)(e:Ending)(w':World):Prop:=∃v',e=.returned v'/\LF w' v' l/\(∀y,v'.ownBlock=some y->v.ownBlock=some y\/w.heap.size<=y)/\y6 [] w w'
theorem XS(v:Value)(l:List Pr)(k:ByteArray)(w:World)(h:LF w v l)(hs:Srt l)(hl:l.length<=1000)(hh:(gA k l).isSome=true):Calls prog 74 #[v,.string k] w (Mb v (ym k l) w):=by
 have n:=ME (Q5 hs) k;have d:=Yp hs n (L5 (l.map (·.1)) k);have x:=L5 (l.map (·.1)) k;have H:=Vq hs n x;have A:=(NL v (l.map pe) (l.map (·.1)) k w h (NJ l) (Q5 hs) (by simp;omega)).mono fun _ _ h=>MS h;have q:=n.1;rw[aj]at q;have j:(l.map pe).length=l.length:=aj _;have I:=h;obtain⟨p,c,C⟩:=SL.shape I;rw[j]at C;subst C;generalize pK (l.map (·.1)) k=i at*;generalize bK (l.map (·.1)) k=b at*;have F:Hid (Calls _ _ _ _ _):=A;have G:Hid _:=d;clear A d n
 cases b with
 |false=>
  rw[H]at hh;simp at hh
 |true=>
  have r:i<l.length:=by
   have:=(ae.1 (x.1 rfl)).1
   rwa[aj]at this
  have o:Hid (∀W,y6 [] w W->_):=fun W L=>U7 _ (l.map pe) W (SL.kept h L) (L3 l) (by simp;omega);have g:(l.map pe).length<=50000:=by simp;omega
  have f:i<(l.map pe).length:=by simpa using r
  have E:Hid (∀B z W,OW W B 122 2 z (l.map pe)->_):=fun B z W J=>Q5f B z (l.map pe) i W J (L3 l) f g;clear x g f;go_enter func74,ntmps74;go_wp2_with(first|(go_at_call 70;refine F.out.mono ?_;rintro e P⟨rfl,a⟩)|(go_at_call 112;refine(o.out _ a).mono ?_;rintro e Q⟨O,rfl,m,s⟩)|(go_at_call 111;refine(E.out _ _ _ m).mono ?_;rintro e N⟨M,rfl,D,t⟩))
  go_ret;have K:y6 [] w N:=(a.trans s).trans2 t fun y u=>Or.inr (av a.size (qj m.1 y u));refine⟨M,rfl,?_,fun y u=>Or.inr ?_,K⟩
  ·have:=D.sl;rw[<-List.map_take,<-List.map_drop,<-cS]at this;rw[G.out];exact this
  ·have:=qj D.1 y (by rw[u];simp);exact av a.size this
theorem Yi(B:Nat)(vl:Value)(es:List El)(i:Nat)(w:World)(h:OW w B 122 2 vl es)(h1:One 2 es)(hi:i<=es.length)(hl:es.length<=50000)(ni:B<=w.heap.size)
  (gv off cv:Nat)(vs:List El)(hv:SL w 122 2 (.slice (some ⟨gv,off,none⟩) vs.length cv) vs)(hv1:One 2 vs)(hv0:0<vs.length)(hv2:vs.length<=1000)(iw:vl.ownBlock≠some gv):
  Calls prog 125 #[vl,.int .i64 i,.int .i64 i,.slice (some ⟨gv,off,none⟩) vs.length cv] w (QF B 122 2 vl (es.take i++vs++es.drop i) w):=by
 have l:Hid (Calls _ _ _ _ _):=Q5x B vl es i w h h1 hi hl ni gv off cv vs hv hv1 hv0 hv2 iw;obtain⟨x,q,s,o,t⟩:=bu itp;obtain⟨p,c,rfl⟩:=h.sl.shape;have hc:es.length<=c:=by
  obtain⟨_,⟨e,v⟩|⟨g,m,n,e,_,_,h1,_⟩⟩:=h.1
  ·injection e with e1 e2 e3;omega
  ·injection e with e1 e2 e3;omega
 have b:i<=c:=by omega
 obtain⟨j,a⟩:∃j,j=(if c=i then p else p.map (·.add (i*2))):=⟨_,rfl⟩
 obtain⟨f,k⟩:∃f,f=c-i:=⟨_,rfl⟩
 have r:∀W:World,(Instr.sliceAt 116 (.slice p es.length c) (some (.int .i64 (i:Int))) (some (.int .i64 (i:Int))) none).run prog W=.ok (.slice j 0 f) W:=by
  intro W;rw[a,k];simp[Instr.sliceAt,Instr.slice,aO underlying116,Instr.sliceBounds,Instr.sliceBound,asIntOf,sizeOf,typeInfo,q,o,b]
 clear a k;go_enter func125,ntmps125;go_wp2_with(first|(go_at_call 156;refine l.out.mono ?_;rintro e z⟨y,rfl,u,d⟩))
 go_ret;exact⟨_,rfl,u,d⟩
theorem Sj{α:Type}(sz:α->Nat)(b:Nat)(l:List α)(hs:∀x∈l,sz x<=b)(hb:0<b)(hb2:b<=22)(h1:122<(l.map sz).sum):yT sz l<l.length/\0<((l.drop (yT sz l)).map sz).sum:=by
 obtain⟨d,f⟩:=Pw sz b l hs (by omega) hb;have g:=Zu sz l (yT sz l);have c:0<((l.drop (yT sz l)).map sz).sum:=by omega
 refine⟨?_,c⟩;obtain⟨a,r,e⟩:=ja sz _ c;have:=congrArg List.length e;rw[aC,aB]at this;omega
theorem Q6M{h:Nat}(ks:List (Kid h))(h1:122<11*ks.length):yT (fun _:Kid h=>11) ks<ks.length/\0<11*(ks.drop (yT (fun _:Kid h=>11) ks)).length:=by
 have:=Sj (fun _:Kid h=>11) 11 ks (by simp) (by omega) (by omega) (by rw[M3];exact h1);rw[M3]at this;exact this
theorem Q6N{h:Nat}{f:ByteArray}{n:Nd h}(hw:WFN h f n)(h1:122<yq h n):Hf h n/\0<yq h (yW h n).2:=by
 cases h with
 |zero=>exact Sj psz 22 n (fun x a=>LX (hw.2 x a).2) (by omega) (by omega) h1
 |succ h=>exact Q6M n h1
theorem bkid(f:ByteArray)(t:TypeId)(v:Value)(w:World):(Instr.build 80 #[(0,.string f),(2,.iface t v)]).run prog w=.ok (.agg #[.string f,.int .i64 0,.iface t v]) w:=by kernel_rfl
theorem bs1K(f:ByteArray)(t:TypeId)(v:Value)(w:World):(Instr.buildSlice 165 1 #[(0,.agg #[.string f,.int .i64 0,.iface t v])]).run prog w=.ok (.slice (some ⟨w.heap.size,0,none⟩) 1 1) (w.alloc (.cells #[.string f,.int .i64 0,.iface t v] 80)):=by kernel_rfl
theorem bs2K(f f2:ByteArray)(t t2:TypeId)(v v2:Value)(w:World):(Instr.buildSlice 165 2 #[(0,.agg #[.string f,.int .i64 0,.iface t v]),(1,.agg #[.string f2,.int .i64 0,.iface t2 v2])]).run prog w=.ok (.slice (some ⟨w.heap.size,0,none⟩) 2 2) (w.alloc (.cells #[.string f,.int .i64 0,.iface t v,.string f2,.int .i64 0,.iface t2 v2] 80)):=by kernel_rfl
theorem OO(q:KE)(A B:List Value):∀(j:Nat) (u:Value),(ke q)[j]?=some u->((A++ke q++B).toArray)[A.length+j]?=some u:=by
 intro j u a;have b:j<(ke q).length:=(ae.1 a).1;rw[List.getElem?_toArray,aG,bh (by omega),Nat.add_sub_cancel_left,bq b];exact a
def FitR{h:Nat}(A:Nat->Prop)(M:List (Kid h))(w:World)(e:Ending)(w':World):Prop:=
 ∃gv cv xs,e=.returned (.slice (some ⟨gv,0,none⟩) xs.length cv)/\SL w' 80 3 (.slice (some ⟨gv,0,none⟩) xs.length cv) (xs.map ke)/\F2 (KR w' A h) M xs/\w.heap.size<=gv/\y6 [] w w'
theorem NM{h:Nat}{f:ByteArray}{n:Nd h}{x:Value}(hx:ND w A h n x)(hw:WFN h f n)(h2:yq h n<=161):
  Calls prog 110 #[.string f,x] w (FitR A (qN h f n) w):=by
 have C:=Sm.of hw (by omega);obtain⟨f1,M,⟨t1,X,mu,iF⟩,d⟩:=ZR hx C;have y:=hx;subst X;have hb:=bkid
 by_cases v:yq h n<=122
 ·have m:qN h f n= [⟨f,n,0⟩]:=by unfold qN;rw[if_pos v]
  have I:((yq h n:Nat):Int)<=122:=by omega
  generalize yq h n=S at*;have J:Hid (∀W,y6 [] w W->_):=d;have U:Hid _:=hx;have G:Hid _:=m;clear d m hw hx y C;have nK:=bs1K;go_enter func110,ntmps110;go_wp2_with(first|(go_at_fn f1;refine(J.out _ (y6.refl _ _)).mono ?_;rintro e K⟨rfl,c⟩))
  go_ret;refine⟨K.heap.size,1,[⟨f,.iface t1 M,0⟩],rfl,?_,?_,c.size,c.alloc _⟩
  ·refine Or.inr ⟨K.heap.size,0,1,_,rfl,af _ _,ag _,by unfold maxLen;omega,by simp,?_⟩;intro i e g
   cases i with
   |zero=>simp at g;subst g;exact⟨rfl,fun j u q=>by simpa[ke]using OO ⟨f,.iface t1 M,0⟩ [] [] j u q⟩
   |succ i=>simp at g
  ·rw[G.out];exact F2.one ⟨⟨rfl,rfl⟩,ND.k U.out (c.alloc _)⟩
 ·obtain⟨L,t⟩:=Q6N hw (by omega);have m:qN h f n= [⟨f,(yW h n).1,0⟩,⟨jG h (yW h n).2,(yW h n).2,0⟩]:=by unfold qN;rw[if_neg v]
  obtain⟨f2,v2,⟨t2,Y,uP,rR⟩,o⟩:=Q6r hx C L
  cases Y
  have I:¬((yq h n:Nat):Int)<=122:=by omega
  generalize yq h n=S at*;have J:Hid (∀W,y6 [] w W->_):=d;have F:Hid (∀W,y6 [] w W->_):=o;have T:Hid (∀W x,ND W A h (yW h n).2 x->_):=fun W x hx=>Q6s hx t;have G:Hid _:=m;clear d o m hw hx y C t L;have nK:=bs2K;go_enter func110,ntmps110;go_wp2_with(first|(go_at_fn f1;refine(J.out _ (y6.refl _ _)).mono ?_;rintro e K⟨rfl,c⟩)|(go_at_fn f2;refine(F.out _ c).mono ?_;rintro e N⟨a,b,rfl,H,l,r⟩;obtain⟨f3,D,⟨t3,Z,iZ,EN⟩,p⟩:=T.out N b l;obtain⟨z,B,ea⟩:=H.iface;have P:Hid _:=H;have Q:Hid _:=l;have V:Hid (∀W,y6 [] N W->_):=p;clear H l p;subst Z;subst ea)|(go_at_fn f3;refine(V.out _ (y6.refl _ _)).mono ?_;rintro e O⟨rfl,s⟩))
  go_ret;have E:=s.alloc (.cells #[.string f,.int .i64 0,.iface z B,.string (jG h (yW h n).2),.int .i64 0,.iface t3 D] 80);refine⟨O.heap.size,2,[⟨f,.iface z B,0⟩,⟨jG h (yW h n).2,.iface t3 D,0⟩],rfl,?_,?_,((c.trans r).trans s).size,(c.trans r).trans E⟩
  ·refine Or.inr ⟨O.heap.size,0,2,_,rfl,af _ _,ag _,by unfold maxLen;omega,by simp,?_⟩;intro i e g;rcases i with _|_|i
   ·simp at g;subst g;exact⟨rfl,fun j u q=>by simpa[ke]using OO ⟨f,.iface z B,0⟩ [] (ke ⟨jG h (yW h n).2,.iface t3 D,0⟩) j u q⟩
   ·simp at g;subst g;exact⟨rfl,fun j u q=>by simpa[ke]using OO ⟨jG h (yW h n).2,.iface t3 D,0⟩ (ke ⟨f,.iface z B,0⟩) [] j u q⟩
   ·simp at g
  ·rw[G.out];exact(F2.one (R:=KR _ A h) (a:=⟨f,(yW h n).1,0⟩) (b:=⟨f,.iface z B,0⟩) ⟨⟨rfl,rfl⟩,ND.k P.out E⟩).append (F2.one ⟨⟨rfl,rfl⟩,ND.k Q.out E⟩)
def MC{h:Nat}(B:Nat)(A:Nat->Prop)(v:Value)(L:List (Kid h))(w:World)(e:Ending)(w':World):Prop:=
 ∃v' oX,e=.returned v'/\OW w' B 80 3 v' (oX.map ke)/\F2 (KR w' A h) L oX/\y6 v.ownBlock.toList w w'
variable {i:Nat}
theorem Rg{h:Nat}{B:Nat}{v:Value}{ks:List (Kid h)}(ho:OW w B 80 3 v (xs.map ke))(hB:B<=w.heap.size)(hf:F2 (KR w A h) ks xs)(hA:∀y,A y->v.ownBlock≠some y)(hkl:ks.length<=1000)
  {j:Nat}{M:List (Kid h)}{gv cv:Nat}{fW:List KE}(hW:y6 [] w W)(hij:i<j)(hj:j<=ks.length)(hv:SL W 80 3 (.slice (some ⟨gv,0,none⟩) fW.length cv) (fW.map ke))(ik:F2 (KR W (fun y=>A y\/w.heap.size<=y) h) M fW)(mT:w.heap.size<=gv)(hM:M.length=1\/M.length=2)(iv jv:Int)(Hs:iv=i)(Ht:jv=j):
  Calls prog 269 #[v,.int .i64 iv,.int .i64 jv,.slice (some ⟨gv,0,none⟩) fW.length cv] W (MC B (fun y=>A y\/w.heap.size<=y) v (ks.take i++(M++ks.drop j)) w):=by
 subst Hs;subst Ht;have b:=LW ho.1;have t:(xs.map ke).length=ks.length:=by rw[aj,hf.1]
 have c:OW W B 80 3 v (xs.map ke):=⟨yb ho.1 hW (by simp),ho.2⟩
 have s:fW.length=M.length:=ik.1.symm;have f:SL W 80 3 (.slice (some ⟨gv,0,none⟩) (fW.map ke).length cv) (fW.map ke):=by rw[aj];exact hv
 have hc:=Ua RP.k B v (xs.map ke) i j W c (L4 (gO hf)) hij (by omega) (by omega) (av hB hW.size) gv 0 cv (fW.map ke) f (L4 (gO ik)) (by rw[aj];omega) (by rw[aj];omega) (by
  intro e;have:=b gv (by rw[e];simp);omega)
 rw[aj]at hc;refine hc.mono ?_;rintro e p⟨u,rfl,n,a⟩;have l:∀y∈v.ownBlock.toList,¬(A y\/w.heap.size<=y):=by
  intro y m q;rcases q with g|g
  ·exact hA y g (by simpa using m)
  ·have:=b y m;omega
 refine⟨u,xs.take i++(fW++xs.drop j),rfl,?_,?_,(hW.mono (by simp)).trans a⟩
 ·have e:(xs.map ke).take i++fW.map ke++(xs.map ke).drop j=(xs.take i++(fW++xs.drop j)).map ke:=by simp
  rw[e]at n;exact n
 ·have o:F2 (KR p (fun y=>A y\/w.heap.size<=y) h) ks xs:=hf.mono fun _ _ _ d=>KR.kept (KR.kept d hW (by simp) fun _ h=>Or.inl h) a l fun _ h=>h;have r:F2 (KR p (fun y=>A y\/w.heap.size<=y) h) M fW:=ik.mono fun _ _ _ d=>KR.kept d a l fun _ h=>h;exact(o.take i).append (r.append (o.drop j))
theorem UR{h:Nat}{ks:List (Kid h)}(hl:LJ h ks i){a:Kid h}(ha:ks[i]?=some a)(hs:yq h a.2<40):
  ∃x y,ks[i-1]?=some x/\ks[i-1+1]?=some y/\WFN h x.1 (Q4 h x.2 y.2)/\yq h (Q4 h x.2 y.2)<=161/\qA h ks i=ks.take (i-1)++(qN h x.1 (Q4 h x.2 y.2)++ks.drop (i-1+2)):=by
 obtain⟨s,t⟩:=hl.lo a ha;have c:∀{j b},ks[j]?=some b->b∈ks:=fun h=>ah h;have r:=hl.two;have l:=hl.lt;obtain⟨x,e⟩:∃x,ks[i-1]?=some x:=⟨_,aa (by omega)⟩
 obtain⟨y,f⟩:∃y,ks[i-1+1]?=some y:=⟨_,aa (by omega)⟩
 have o:=TU ks (i-1) x y e f;have d:=hl.kw.ord;rw[o]at d;have k:Bef h x y:=by
  have:=(aQ.1 (aQ.1 d).2.1).1;exact(aP.1 this).1 y (by simp)
 have n:=SV h x y k (hl.kw.all x (c e)) (hl.kw.all y (c f)) (hl.full x (c e));have m:=NQ h x.2 y.2;have u:yq h x.2+yq h y.2<=161:=by
  by_cases g:i=0
  ·subst g;have p:x=a:=by rw[ha]at e;cases e;rfl
   have t2:=(hl.rt _ y f (by omega)).2;subst p;omega
  ·have q:y=a:=by rw[show i-1+1=i by omega,ha]at f;cases f;rfl
   have t2:=(hl.rt _ x e (by omega)).2;subst q;omega
 refine⟨x,y,e,f,n,by omega,?_⟩;unfold qA;rw[ha];simp only;rw[if_pos hs,e,f]
theorem Oj(h:Nat)(f:ByteArray)(n:Nd h):(qN h f n).length=1\/(qN h f n).length=2:=by
 unfold qN;split
 ·exact Or.inl rfl
 ·exact Or.inr rfl
theorem Q6U{h:Nat}{B:Nat}{v:Value}{ks:List (Kid h)}(ho:OW w B 80 3 v (xs.map ke))(hB:B<=w.heap.size)(hf:F2 (KR w A h) ks xs)(hA:∀y,A y->v.ownBlock≠some y)(hkl:ks.length<=1000)
  (hl:LJ h ks i){a:Kid h}(ha:ks[i]?=some a)(hs:¬yq h a.2<40):
  Calls prog 264 #[v,.int .i64 i] w (MC B (fun y=>A y\/w.heap.size<=y) v (qA h ks i) w):=by
 have l:qA h ks i=ks.take i++(qN h a.1 a.2++ks.drop (i+1)):=by
  unfold qA;rw[ha];simp only;rw[if_neg hs]
 have r:=hl.lt;have u:=hl.kw.all a (ah ha);have Z:=hl.lo a ha;obtain⟨y,M,t⟩:=hf.get ha;obtain⟨f1,v1,⟨t1,x,mu,iF⟩,q⟩:=ZR t.2 (Sm.of u (by omega));have D:(xs.map ke).length=ks.length:=by rw[aj,hf.1]
 obtain⟨g,b,o,N,J,L,P,Q,pU,I⟩:=ho.sl.at_ (by omega);rw[D]at J;have c:=I i (ke y) (by rw[aA,M];rfl);simp only[ke,x,t.1.1]at c;have K:∀W,y6 [] w W->W.cell? ⟨g,b+i*3,none⟩=some (.string a.1):=fun W G=>by rw[aY _ _ _ _ _ _ (G.get L (by simp))];exact c.2 0 _ rfl
 have c0:w.cell? ⟨g,b+i*3+2,none⟩=some (.iface t1 v1):=by rw[aY _ _ _ _ _ _ L];exact c.2 2 _ rfl
 have k:Hid (∀W,y6 [] w W->_):=fun W G=>NM (A:=fun y=>A y\/w.heap.size<=y) (f:=a.1) (ND.kept G (by simp) (fun _ h=>Or.inl h) t.2) u (by omega);rw[x]at k;have pY:Hid (∀W p s n,y6 [] w W->SL W 80 3 (.slice (some ⟨p,0,none⟩) n.length s) (n.map ke)->F2 (KR W (fun y=>A y\/w.heap.size<=y) h) (qN h a.1 a.2) n->w.heap.size<=p->_):=fun W p s n O U F H=>Rg ho hB hf hA hkl O (i:=i) (j:=i+1) (by omega) (by omega) U F H (Oj h a.1 a.2) (i:Int) ((i:Int)+1) rfl (by omega);rw[l];have Y:Hid (∀W,y6 [] w W->_):=q;have X:Hid _:=K;have R:¬((yq h a.2:Nat):Int)<40:=by omega
 have T:i<=1000:=by omega
 subst J;generalize yq h a.2=S at*;generalize ks.length=m at*;clear K c I q u Z hl M t hf ho hA l ha x;go_enter func264,ntmps264;go_wp2_with(first|(refine ya rfl _ _ (yc 168 (.tmp 7) (.tmp 8) rfl g b m o i 3 rfl rfl 80 underlying168 QG r (b+i*3) rfl) ?_)|(go_at_fn f1;refine(Y.out _ (y6.refl _ _)).mono ?_;rintro e w1⟨rfl,d⟩;have c1:=X.out w1 d)|(refine ya rfl _ _ (yc 168 (.tmp 39) (.tmp 40) rfl g b m o i 3 rfl rfl 80 underlying168 QG r (b+i*3) rfl) ?_)|(go_at_call 110;refine(k.out _ d).mono ?_;rintro e w2⟨p,s,n,rfl,E,F,H,z⟩)|(go_at_call 269;refine(pY.out _ p s n (d.trans z) E F (av d.size H)).mono ?_;rintro e w3⟨v3,KD,rfl,V,nL,C⟩))
 go_ret;exact⟨_,_,rfl,V,nL,C⟩
theorem Qr(args:Array Value)(w:World):(callFunc 112 args).run prog w=.ok (.enter 112 args) w:=qy func112 (by kernel_rfl) (by kernel_rfl) args w
theorem QN(args:Array Value)(w:World):(callFunc 125 args).run prog w=.ok (.enter 125 args) w:=qy func125 (by kernel_rfl) (by kernel_rfl) args w
def WiS(w:World)(k x:ByteArray)(W:World):Prop:=W.heap[w.heap.size]?=some (.cells #[.string k,.string x] 122 (0,0))
theorem ZS(w:World)(k x:ByteArray):(Instr.buildSlice 115 1 #[(0,.agg #[.string k,.string x])]).run prog w=.ok (.slice (some ⟨w.heap.size,0,none⟩) 1 1) (w.alloc (.cells #[.string k,.string x] 122)):=by
 obtain⟨e,c,a,b,d⟩:=bu itp;exact Qd w 115 122 _ e _ underlying115 c a b (by simp) (by simp)
theorem Rf(k x:ByteArray):∀(j:Nat) (u:Value),(pe (k,x))[j]?=some u->(#[.string k,.string x]:Array Value)[0+j]?=some u:=by
 intro j u a
 match j,a with
 |0,a=>simpa[pe]using a
 |1,a=>simpa[pe]using a
 |j+2,a=>simp[pe]at a
theorem Oa(W:World)(k x:ByteArray):SL (W.alloc (.cells #[.string k,.string x] 122)) 122 2 (.slice (some ⟨W.heap.size,0,none⟩) 1 1) [pe (k,x)]:=by
 refine Or.inr ⟨W.heap.size,0,1,#[.string k,.string x],rfl,af _ _,ag _,by unfold maxLen;omega,by simp,?_⟩;intro i e b
 cases i with
 |zero=>simp at b;subst b;refine⟨rfl,?_⟩;intro j u a;match j,a with
  |0,a=>simpa[pe]using a
  |1,a=>simpa[pe]using a
  |j+2,a=>simp[pe]at a
 |succ i=>simp at b
theorem Q72(v:Value)(l:List Pr)(k x:ByteArray)(w:World)(h:LF w v l)(hs:Srt l)(hl:l.length<=1000):Calls prog 93 #[v,.agg #[.string k,.string x]] w (Mb v (yy k x l) w):=by
 have eV:=ME (Q5 hs) k;have H:=Q5P (v:=x) hs eV (L5 (l.map (·.1)) k);have pX:=L5 (l.map (·.1)) k;have Z:=(y6.refl [] w).alloc (.cells #[.string k,.string x] 122);have eo:=fun W (kW:y6 [] w W)=>(NL v (l.map pe) (l.map (·.1)) k W (SL.kept h kW) (NJ l) (Q5 hs) (by simp;omega)).mono fun _ _ h=>MS h;have hib:=eV.1;rw[aj]at hib;have T:(l.map pe).length=l.length:=aj _;have h':=h;obtain⟨p,c,ev⟩:=SL.shape h';rw[T]at ev;subst ev;have im:One 2 [pe (k,x)]:=by intro e he;simp at he;subst he;exact⟨rfl,by intro u hu;simp[pe]at hu;rcases hu with rfl|rfl<;>rfl⟩
 have M:Hid (∀W,y6 [] w W->_):=fun W kW=>U7 _ (l.map pe) W (SL.kept h kW) (L3 l) (by simp;omega);generalize pK (l.map (·.1)) k=i at*;generalize bK (l.map (·.1)) k=b at*;have HF:Hid (∀W,y6 [] w W->_):=eo;have O:∀(j:Nat) (e:yy k x l=l.take i++ [(k,x)]++l.drop j),(l.map pe).take i++ [pe (k,x)]++(l.map pe).drop j=(yy k x l).map pe:=by
  intro j e;rw[e];simp[pe]
 clear eo eV
 cases b with
 |false=>
  have Y:=O (i) H;have X:Hid (∀W B d J,OW W B 122 2 d (l.map pe)->B<=W.heap.size->SL W 122 2 (.slice (some ⟨J,0,none⟩) 1 1) [pe (k,x)]->d.ownBlock≠some J->Calls prog 125 #[d,.int .i64 (i:Int),.int .i64 ((i:Int)),.slice (some ⟨J,0,none⟩) 1 1] W (QF B 122 2 d ((yy k x l).map pe) W)):=by
   intro W B d J ho hB hv iw;have:=Yi B d (l.map pe) i W ho (L3 l) (by omega) (by omega) hB J 0 1 [pe (k,x)] hv im (by simp) (by simp) iw;rw[Y]at this;exact this
  clear pX H Y O;go_enter func93,ntmps93;go_wp2_with(first|(go_at_call 70;refine(HF.out _ Z).mono ?_;rintro e f⟨rfl,E⟩))
  have z:WiS w k x f.drew:=E.get (by exact af w _) (by simp);have P:y6 [] w f:=Z.trans E;have V:w.heap.size+1<=f.heap.size:=by have:=E.size;rwa[ak]at this
  refine yo (WiS w k x) (by kernel_rfl) ?_;refine uh 0 (.slice p l.length c) rfl (fun W N=>by rfl) z ?_;refine uh 2 (.int .i64 (i:Int)) rfl (fun W N=>by rfl) z ?_;refine uh 3 (.int .i64 ((i:Int))) rfl (fun W N=>by rfl) z ?_;refine uh 4 (.agg #[.string k,.string x]) rfl (fun W N=>y9 122 (.tmp 3) rfl ⟨w.heap.size,0,none⟩ rfl _ (jC (e:=pe (k,x)) _ N ⟨rfl,Rf k x⟩ underlying122 stp)) z ?_;refine Nf (i:=1) (j:=5) (by kernel_rfl) ?_ ?_
  ·refine yp rfl (by rfl) 112 #[.slice p l.length c] (yn _ _ _ rfl _ (by simp[Act.eval]) (Qr _ _)) _ (M.out _ P.drew) ?_;rintro e o⟨d,rfl,n,a⟩;have D:WiS w k x o:=a.get z (by simp);refine⟨_,rfl,D,?_⟩;simp only[zz];have mi:w.heap.size+1<=f.drew.heap.size:=V;have S:=a.size;have R:=(y6.refl [] o).alloc (.cells #[.string k,.string x] 122);have g:WiS w k x (o.alloc (.cells #[.string k,.string x] 122)):=R.get D (by simp);have r:OW (o.alloc (.cells #[.string k,.string x] 122)) f.drew.heap.size 122 2 d (l.map pe):=⟨yb n.1 R (by simp),n.2⟩
   have K:=Oa o k x;have L:d.ownBlock≠some o.heap.size:=by intro e;have:=LW n.1 o.heap.size (by rw[e];simp);omega
   have q:f.drew.heap.size<=(o.alloc (.cells #[.string k,.string x] 122)).heap.size:=by rw[ak];omega
   refine yi (i:=5) (by kernel_rfl) (yM rfl (by rfl) _ _ (yv 115 1 (.tmp 24) rfl (.agg #[.string k,.string x]) rfl _ (ZS _ k x)) ⟨g,?_⟩);simp only[zz];refine yi (i:=6) (by kernel_rfl) (yp rfl (by rfl) 125 #[d,.int .i64 (i:Int),.int .i64 ((i:Int)),.slice (some ⟨o.heap.size,0,none⟩) 1 1] (yn _ _ _ rfl _ (by simp[Act.eval]) (QN _ _)) _ (X.out _ _ d o.heap.size r q K L) ?_);rintro e t⟨s,rfl,G,C⟩;have m:WiS w k x t:=C.get g (by intro Q;have:=qj r.1 _ Q;omega);refine⟨s,rfl,m,?_⟩;simp only[zz];refine yi (i:=7) (by kernel_rfl) (yM rfl (by rfl) s t rfl ⟨m,?_⟩);simp only[zz];refine aK (by kernel_rfl) ?_ _;have I:y6 [] w t:=(P.drew.trans (a.trans R)).trans2 C fun y F=>Or.inr (by have:=qj r.1 y F;omega);have A:Hid (Mb (.slice p l.length c) (yy k x l) w (.returned s) t):=⟨s,rfl,G.sl,fun y F=>Or.inr (by have:=qj G.1 y (by rw[F];simp);omega),I⟩
   clear z D g m G C I r K L q n a;go_wp2;go_ret;exact A.out
  ·have U:=(y6.refl [] f.drew).alloc (.cells #[.string k,.string x] 122);have D:WiS w k x (f.drew.alloc (.cells #[.string k,.string x] 122)):=U.get z (by simp);refine yM rfl (by rfl) _ _ (yv 115 1 (.tmp 24) rfl (.agg #[.string k,.string x]) rfl _ (ZS _ k x)) ⟨D,?_⟩;simp only[zz];refine yi (i:=1) (by kernel_rfl) (yp rfl (by rfl) 112 #[.slice p l.length c] (yn _ _ _ rfl _ (by simp[Act.eval]) (Qr _ _)) _ (M.out _ (P.drew.alloc _)) ?_);rintro e o⟨d,rfl,n,a⟩;have g:WiS w k x o:=a.get D (by simp);refine⟨_,rfl,g,?_⟩;simp only[zz];have mi:w.heap.size+1<=f.drew.heap.size:=V;have S:=a.size;rw[ak]at S;have r:OW o (f.drew.heap.size+1) 122 2 d (l.map pe):=by have:=n;rw[ak]at this;exact this
   have K:=(Oa f.drew k x).kept a;have L:d.ownBlock≠some f.drew.heap.size:=by intro e;have:=qj r.1 f.drew.heap.size (by rw[e];simp);omega
   have q:f.drew.heap.size+1<=o.heap.size:=S;refine yi (i:=6) (by kernel_rfl) (yp rfl (by rfl) 125 #[d,.int .i64 (i:Int),.int .i64 ((i:Int)),.slice (some ⟨f.drew.heap.size,0,none⟩) 1 1] (yn _ _ _ rfl _ (by simp[Act.eval]) (QN _ _)) _ (X.out _ _ d f.drew.heap.size r q K L) ?_);rintro e t⟨s,rfl,G,C⟩;have m:WiS w k x t:=C.get g (by intro Q;have:=qj r.1 _ Q;omega);refine⟨s,rfl,m,?_⟩;simp only[zz];refine yi (i:=7) (by kernel_rfl) (yM rfl (by rfl) s t rfl ⟨m,?_⟩);simp only[zz];refine aK (by kernel_rfl) ?_ _;have I:y6 [] w t:=(P.drew.trans (U.trans a)).trans2 C fun y F=>Or.inr (by have:=qj r.1 y F;omega);have A:Hid (Mb (.slice p l.length c) (yy k x l) w (.returned s) t):=⟨s,rfl,G.sl,fun y F=>Or.inr (by have:=qj G.1 y (by rw[F];simp);omega),I⟩
   clear z D g m G C I r K L q n a;go_wp2;go_ret;exact A.out
 |true=>
  have hil:i<l.length:=by
   have:=(ae.1 (pX.1 rfl)).1
   rwa[aj]at this
  have Y:=O (i+1) H;have X:Hid (∀W B d J,OW W B 122 2 d (l.map pe)->B<=W.heap.size->SL W 122 2 (.slice (some ⟨J,0,none⟩) 1 1) [pe (k,x)]->d.ownBlock≠some J->Calls prog 125 #[d,.int .i64 (i:Int),.int .i64 ((i:Int)+1),.slice (some ⟨J,0,none⟩) 1 1] W (QF B 122 2 d ((yy k x l).map pe) W)):=by
   intro W B d J ho hB hv iw;have:=Ua RP.p B d (l.map pe) i (i+1) W ho (L3 l) (by omega) (by omega) (by omega) hB J 0 1 [pe (k,x)] hv im (by simp) (by simp) iw;rw[Y]at this;exact this
  clear pX H Y O;go_enter func93,ntmps93;go_wp2_with(first|(go_at_call 70;refine(HF.out _ Z).mono ?_;rintro e f⟨rfl,E⟩))
  have z:WiS w k x f.drew:=E.get (by exact af w _) (by simp);have P:y6 [] w f:=Z.trans E;have V:w.heap.size+1<=f.heap.size:=by have:=E.size;rwa[ak]at this
  refine yo (WiS w k x) (by kernel_rfl) ?_;refine uh 0 (.slice p l.length c) rfl (fun W N=>by rfl) z ?_;refine uh 2 (.int .i64 (i:Int)) rfl (fun W N=>by rfl) z ?_;refine uh 3 (.int .i64 ((i:Int)+1)) rfl (fun W N=>by rfl) z ?_;refine uh 4 (.agg #[.string k,.string x]) rfl (fun W N=>y9 122 (.tmp 3) rfl ⟨w.heap.size,0,none⟩ rfl _ (jC (e:=pe (k,x)) _ N ⟨rfl,Rf k x⟩ underlying122 stp)) z ?_;refine Nf (i:=1) (j:=5) (by kernel_rfl) ?_ ?_
  ·refine yp rfl (by rfl) 112 #[.slice p l.length c] (yn _ _ _ rfl _ (by simp[Act.eval]) (Qr _ _)) _ (M.out _ P.drew) ?_;rintro e o⟨d,rfl,n,a⟩;have D:WiS w k x o:=a.get z (by simp);refine⟨_,rfl,D,?_⟩;simp only[zz];have mi:w.heap.size+1<=f.drew.heap.size:=V;have S:=a.size;have R:=(y6.refl [] o).alloc (.cells #[.string k,.string x] 122);have g:WiS w k x (o.alloc (.cells #[.string k,.string x] 122)):=R.get D (by simp);have r:OW (o.alloc (.cells #[.string k,.string x] 122)) f.drew.heap.size 122 2 d (l.map pe):=⟨yb n.1 R (by simp),n.2⟩
   have K:=Oa o k x;have L:d.ownBlock≠some o.heap.size:=by intro e;have:=LW n.1 o.heap.size (by rw[e];simp);omega
   have q:f.drew.heap.size<=(o.alloc (.cells #[.string k,.string x] 122)).heap.size:=by rw[ak];omega
   refine yi (i:=5) (by kernel_rfl) (yM rfl (by rfl) _ _ (yv 115 1 (.tmp 24) rfl (.agg #[.string k,.string x]) rfl _ (ZS _ k x)) ⟨g,?_⟩);simp only[zz];refine yi (i:=6) (by kernel_rfl) (yp rfl (by rfl) 125 #[d,.int .i64 (i:Int),.int .i64 ((i:Int)+1),.slice (some ⟨o.heap.size,0,none⟩) 1 1] (yn _ _ _ rfl _ (by simp[Act.eval]) (QN _ _)) _ (X.out _ _ d o.heap.size r q K L) ?_);rintro e t⟨s,rfl,G,C⟩;have m:WiS w k x t:=C.get g (by intro Q;have:=qj r.1 _ Q;omega);refine⟨s,rfl,m,?_⟩;simp only[zz];refine yi (i:=7) (by kernel_rfl) (yM rfl (by rfl) s t rfl ⟨m,?_⟩);simp only[zz];refine aK (by kernel_rfl) ?_ _;have I:y6 [] w t:=(P.drew.trans (a.trans R)).trans2 C fun y F=>Or.inr (by have:=qj r.1 y F;omega);have A:Hid (Mb (.slice p l.length c) (yy k x l) w (.returned s) t):=⟨s,rfl,G.sl,fun y F=>Or.inr (by have:=qj G.1 y (by rw[F];simp);omega),I⟩
   clear z D g m G C I r K L q n a;go_wp2;go_ret;exact A.out
  ·have U:=(y6.refl [] f.drew).alloc (.cells #[.string k,.string x] 122);have D:WiS w k x (f.drew.alloc (.cells #[.string k,.string x] 122)):=U.get z (by simp);refine yM rfl (by rfl) _ _ (yv 115 1 (.tmp 24) rfl (.agg #[.string k,.string x]) rfl _ (ZS _ k x)) ⟨D,?_⟩;simp only[zz];refine yi (i:=1) (by kernel_rfl) (yp rfl (by rfl) 112 #[.slice p l.length c] (yn _ _ _ rfl _ (by simp[Act.eval]) (Qr _ _)) _ (M.out _ (P.drew.alloc _)) ?_);rintro e o⟨d,rfl,n,a⟩;have g:WiS w k x o:=a.get D (by simp);refine⟨_,rfl,g,?_⟩;simp only[zz];have mi:w.heap.size+1<=f.drew.heap.size:=V;have S:=a.size;rw[ak]at S;have r:OW o (f.drew.heap.size+1) 122 2 d (l.map pe):=by have:=n;rw[ak]at this;exact this
   have K:=(Oa f.drew k x).kept a;have L:d.ownBlock≠some f.drew.heap.size:=by intro e;have:=qj r.1 f.drew.heap.size (by rw[e];simp);omega
   have q:f.drew.heap.size+1<=o.heap.size:=S;refine yi (i:=6) (by kernel_rfl) (yp rfl (by rfl) 125 #[d,.int .i64 (i:Int),.int .i64 ((i:Int)+1),.slice (some ⟨f.drew.heap.size,0,none⟩) 1 1] (yn _ _ _ rfl _ (by simp[Act.eval]) (QN _ _)) _ (X.out _ _ d f.drew.heap.size r q K L) ?_);rintro e t⟨s,rfl,G,C⟩;have m:WiS w k x t:=C.get g (by intro Q;have:=qj r.1 _ Q;omega);refine⟨s,rfl,m,?_⟩;simp only[zz];refine yi (i:=7) (by kernel_rfl) (yM rfl (by rfl) s t rfl ⟨m,?_⟩);simp only[zz];refine aK (by kernel_rfl) ?_ _;have I:y6 [] w t:=(P.drew.trans (U.trans a)).trans2 C fun y F=>Or.inr (by have:=qj r.1 y F;omega);have A:Hid (Mb (.slice p l.length c) (yy k x l) w (.returned s) t):=⟨s,rfl,G.sl,fun y F=>Or.inr (by have:=qj G.1 y (by rw[F];simp);omega),I⟩
   clear z D g m G C I r K L q n a;go_wp2;go_ret;exact A.out
end Go.Proofs.YtcklgafpgdhnaaaGreatDoor
