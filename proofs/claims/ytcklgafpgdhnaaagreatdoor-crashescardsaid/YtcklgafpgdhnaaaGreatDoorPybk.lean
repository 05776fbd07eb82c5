import Derived.Test.YtcklgafpgdhnaaaGreatDoorPybj
set_option maxRecDepth 100000
set_option maxHeartbeats 4000000
set_option linter.unusedSimpArgs false
set_option linter.unusedVariables false
set_option linter.unusedSectionVars false
open Go.Proofs.Tryz
namespace Go.Proofs.YtcklgafpgdhnaaaGreatDoor
open Go.RowKit Go.Shelf
attribute [local go_sem] Oper.semAt_some
theorem QdI(x v a n:Nat)(hd:Hd)(r:Value)(t:Tr)(lo hi:ByteArray)(mm:Int)(ht:TW t)(hbig:(yH t).length<=20000)(w:World)(h:Rec x v a n hd r t w):
  Calls prog 19 #[.pointer (some ⟨x,0,none⟩),.string lo,.string hi,.int .i64 mm] w fun e w'=>∃vv,e=.returned (.tuple #[vv,.nilIface])/\PL w' 41 vv (Qu lo hi (mst mm) (yH t))/\(∀y,vv.ownBlock=some y->w.heap.size<=y)/\y6 [] w w':=by
 have hfl:(flt lo hi (yH t)).length<=20000:=av (dt _ _) hbig;refine(dH (n:=1)).1 (callsIn_of_wp_marks func19 rfl trivial ?_ rfl);simp only[ntmps19,bX,aB,bO,Nat.reduceAdd,Nat.reduceSub,dz,dA,dQ,dF,aX,bD];refine wpIn_mono (Q:=NoP _) ?_ NoP.of;refine wpIn_wide.2 ?_
 by_cases P:mm<1
 focus
  go_wp2_with(first|(go_at_call 41;refine(N9 x lo hi _).mono ?_;rintro e w1⟨rfl,G,J,N⟩))
  have nG:=ScV.new w (0);obtain⟨S,V⟩:∃S,S=(((w.alloc (.cells #[.int .i64 (0)] 3)).alloc (.cells #[.slice none 0 0] 28)).alloc (.cells #[.nilIface] 35)).alloc (.cells #[.slice none 0 0] 28):=⟨_,rfl⟩
  have s0:S.heap.size=w.heap.size+1+1+1+1:=by rw[V,ak,ak,ak,ak]
  have k0:y6 [] w S:=by rw[V];exact((((y6.refl [] w).alloc _).alloc _).alloc _).alloc _
  rw[<-V]at G J N nG;rw[s0]at G J;have sZ:(0)=((mst mm:Nat):Int):=by unfold mst;omega
  obtain⟨l,I⟩:∃l:Int,l=(0):=⟨_,rfl⟩
  rw[<-I]at nG;have Dn:l=((mst mm:Nat):Int):=I.trans sZ;have hbb:decide (mm<1)=true:=by simp[P]
 rotate_left
 focus
  go_wp2_with(first|(go_at_call 41;refine(N9 x lo hi _).mono ?_;rintro e w1⟨rfl,G,J,N⟩))
  have nG:=ScV.new w (mm);obtain⟨S,V⟩:∃S,S=(((w.alloc (.cells #[.int .i64 (mm)] 3)).alloc (.cells #[.slice none 0 0] 28)).alloc (.cells #[.nilIface] 35)).alloc (.cells #[.slice none 0 0] 28):=⟨_,rfl⟩
  have s0:S.heap.size=w.heap.size+1+1+1+1:=by rw[V,ak,ak,ak,ak]
  have k0:y6 [] w S:=by rw[V];exact((((y6.refl [] w).alloc _).alloc _).alloc _).alloc _
  rw[<-V]at G J N nG;rw[s0]at G J;have sZ:(mm)=((mst mm:Nat):Int):=by unfold mst;omega
  obtain⟨l,I⟩:∃l:Int,l=(mm):=⟨_,rfl⟩
  rw[<-I]at nG;have Dn:l=((mst mm:Nat):Int):=I.trans sZ;have hbb:decide (mm<1)=false:=by simp[P]
 all_goals
  have Do:=nG.gr (ag _) (Gr.of (B:=w.heap.size) N);have K1:=k0.trans N;have hx:=yt h.row;have Ln:=yt h.vol;have F1:SM [w.heap.size+1+1+1] x v a n hd r t w1:=⟨K1.get h.row (by simp),K1.get h.vol (by simp),h.st,TV.kept h.lv.tags K1 (by simp) (fun y C=>by have:=TT.lt C;simp;omega),TV.kept h.tv.tags K1 (by simp) (fun y C=>by have:=TT.lt C;simp;omega),by simp;omega,by simp;omega⟩
  have zV:=Qdy [w.heap.size+1+1+1] x v a n (w.heap.size+1+1+1+1) (w.heap.size+1+1+1+1+1) (w.heap.size+1+1+1+1+1+1) hd r t lo hi ht w1 G (by intro y C;simp at C;omega) (by simp;try omega) (by simp;try omega) (by simp;try omega) F1;have Jr:0<=l:=by omega
  have HMO:Hid _:=Dn;have Dp:w.heap.size+7<=w1.heap.size:=by omega
  clear sZ V nG I G F1 Dn J;refine PV (α:=Pr) rfl (fun _ _=>by kernel_rfl) zV (fun _=>rfl)
   (ScnI w l) (ScnX w l) ?_ ?_ ⟨_,Do,aM _ _ _ _,by simp;omega⟩
   (fun p a' A=>∃q,a'={tmps:=#[.pointer (some ⟨x,0,none⟩),.string lo,.string hi,.int .i64 mm,undef,undef,undef,.pointer (some ⟨w.heap.size,0,none⟩),.pointer (some ⟨w.heap.size+1,0,none⟩),.pointer (some ⟨w.heap.size+1+1,0,none⟩),.pointer (some ⟨w.heap.size+1+1+1,0,none⟩),.pointer (some ⟨q,0,none⟩),.nilIface,.int .i64 mm,.bool (decide (mm<1)),.pointer (some ⟨x,0,none⟩),.string lo,.string hi,.func (.func 64) #[] #[.pointer (some ⟨w.heap.size+1+1+1+1,0,none⟩),.pointer (some ⟨w.heap.size+1+1+1+1+1,0,none⟩),.pointer (some ⟨w.heap.size+1+1+1+1+1+1,0,none⟩)],.agg #[.string p.1,.string p.2],.nilIface,undef,undef,undef,undef,undef,undef,undef,undef,undef,undef,undef,undef],defers:= []}/\A.heap[q]?=some (.cells #[.string p.1,.string p.2] 41 (0,0))) ?_ ?_ ?assign ?body ?done ?stop
  ·rintro s A A'⟨R,Y,O,h3⟩Z;exact⟨R,Y.gr (by omega) Z,Pv O Z,h3⟩
  ·rintro c s A A'⟨X,y,R,h0,Y,O,h3,h4⟩Z;exact⟨X,y,R,h0,Y,O.gr (by omega) Z,Pv h3 Z,h4⟩
  ·rintro p a' _ A A'⟨q,Y,O⟩Z;exact⟨q,Y,Z.row _ _ _ _ O⟩
  ·intro p _ A A' h _;exact h
  case assign=>
   rintro m l1 f p A K _ _ hK;dsimp only[enc2]
   gi_wp2
   exact hK _ _ ((y6.refl [] A).alloc _) ⟨A.heap.size,by rw[hbb],af _ _⟩
  case body=>
   rintro m l1 f p a' A⟨R,z,u,hle⟩_⟨q,rfl,hq⟩hlen;have Dl:=z.bl.size;obtain⟨po,co,F⟩:=Rz u;subst F;have c1:A.cell? ⟨w.heap.size,0,none⟩=some (.int .i64 l):=y7 z.mb rfl;have c2:A.cell? ⟨w.heap.size+1+1+1,0,none⟩=some (.slice po f.length co):=y7 z.ov rfl
   by_cases heq:(f.length:Int)=l
   ·have j:Hid (ScnX w l (.exit 0) (f++ [p]) A):=⟨f,p,_,rfl,rfl,z,u,heq⟩
    clear z u
    gi_wp2
    exact⟨KeepsFrom.refl _ _,j.out⟩
   ·have hpl:f.length<=100000:=by omega
    obtain⟨g2,eH,U,fE,T,d⟩:=QdG w.heap.size A (.slice po f.length co) f u Dl hpl p;obtain⟨L,k⟩:∃L,L=(f++ [p]).length:=⟨_,rfl⟩
    rw[<-k]at fE T;have Dr:=Pq hq;have lM:∀(y:Nat) (cs:Array Value) (t:TypeId) (fr:Nat×Nat),A.heap[y]?=some (.cells cs t fr)->t≠41->U.heap[y]?=some (.cells cs t fr):=fun y cs t fr C ht=>d.get C fun P=>by
     obtain⟨rP,rQ,hc⟩:=yD u (b:=y) (by simpa using P);rw[hc]at C
     cases C
     exact ht rfl
    have z8:=lM _ _ _ _ z.ov (by decide);have c3:U.cell? ⟨w.heap.size+1+1+1,0,none⟩=some (.slice po f.length co):=y7 z8 rfl;have z3:U.frozen? ⟨w.heap.size+1+1+1,0,none⟩=false:=ax _ _ _ _ _ z8;obtain⟨H,W⟩:∃H,H=U.setCell ⟨w.heap.size+1+1+1,0,none⟩ (.slice (some ⟨g2,0,none⟩) L eH):=⟨_,rfl⟩
    have E:y6 [w.heap.size+1+1+1] U H:=by rw[W];exact(y6.refl _ _).setCell (Or.inl (by simp)) _
    have hg2:g2≠w.heap.size+1+1+1:=by
     intro e;obtain⟨rP,rQ,hc⟩:=yD T (b:=g2) rfl;rw[e,z8]at hc
     cases hc
    have eZ:=yb T E (by intro b hb;cases hb;simpa using hg2);have g:=qj u;have F3:ScV w l (.slice (some ⟨g2,0,none⟩) L eH) H:=⟨E.get (lM _ _ _ _ z.mb (by decide)) (by simp;omega),E.get (lM _ _ _ _ z.ro (by decide)) (by simp),E.get (lM _ _ _ _ z.re (by decide)) (by simp),by rw[W];exact yf (i:=0) _ z8,z.bl.trans ⟨(E.os.trans d.os),(E.tape.trans d.tape),(E.output.trans d.output),by have:=d.size;have:=E.size;omega,fun y C=>(E.block y (by have:=d.size;omega) (by simp;omega)).trans (d.block y (by omega) fun P=>by have:=g y P;omega)⟩⟩
    have hKF:KeepsFrom w1.heap.size A H:=by
     refine⟨av d.size E.size,fun y o C ho hc=> ?_⟩;have O:=(d.block y (yt ho) fun P=>by
      obtain⟨rP,rQ,wW⟩:=yD u (b:=y) (by simpa using P);rw[wW]at ho
      cases ho
      cases hc).trans ho
     exact(E.block y (yt O) (by simp;omega)).trans O
    have hKC:KC [w.heap.size+1+1+1] A H:=⟨E.os.trans d.os,E.tape.trans d.tape,E.output.trans d.output,av d.size E.size,fun y cs t fr C P ht=>E.get (lM y cs t fr C ht) (by simpa using P)⟩
    have j:Hid (RndP [w.heap.size+1+1+1] w1.heap.size (ScnI w l) (ScnX w l) (f++ [p]) A .normal {tmps:=#[],defers:= []} H):=⟨hKF,hKC,_,F3,by rw[<-k];exact eZ,by simp;omega⟩
    have HA3:Hid _:=W;clear k z u T eZ F3 hKF hKC lM W E hg2 g hq z8
    gi_wp2_with(first|(refine inV rfl (fun _=>trivial) (Oper.semAt_some _ _ _ (by intro c h;cases h)) _ _ (y9 41 (.tmp 11) rfl ⟨q,0,none⟩ rfl _ Dr) ?_)|(refine inV rfl (fun _=>trivial) (Oper.semAt_some _ _ _ (by intro c h;cases h)) _ _ (yv 28 1 (.tmp 29) rfl (.agg #[.string p.1,.string p.2]) rfl _ (QdF _ p)) ?_)|(refine inV rfl (fun _=>trivial) (Oper.semAt_some _ _ _ (by intro c h;cases h)) _ U (qc (.tmp 28) (.tmp 30) 28 28 rfl _ _ rfl rfl _ (fE _)) ?_))
    rw[<-HA3.out];exact j.out
  case done=>
   rintro D xs A hD rfl⟨R,z,u,hle⟩iK;have ez:flt lo hi (yH t)=Qu lo hi (mst mm) (yH t):=(aJ (by have:=HMO.out;omega)).symm;obtain⟨a3,a1,g1,A1,Dt,a2,g2,U,Du,iG,H,W,c1,c2,lG,oE⟩:=Tw w A l _ (flt lo hi (yH t)) D z u (by omega) iK;obtain⟨po,co,F⟩:=Rz u;have M:=qj u;have j:Hid (PL H 41 R (flt lo hi (yH t))/\(∀y,R.ownBlock=some y->w.heap.size<=y)/\y6 [] w H):=⟨lG,fun y C=>M y (by simp[C]),oE⟩
   rw[ez]at j;obtain⟨L,k⟩:∃L,L=(flt lo hi (yH t)).length:=⟨_,rfl⟩
   rw[<-k]at F;subst F;clear z u lG oE iK M k;subst Dt;subst Du;go_wp2;refine⟨by simp,.inl ⟨_,_,rfl,run_takeDeferred iG,?_⟩⟩;rw[<-W];refine⟨.tuple #[.slice po L co,.nilIface],?_,_,rfl,j.out⟩;simp[results,Tryz.f19,go_sem,c1,c2]
  case stop=>
   rintro D c f A hD hpre⟨X,y,R,rfl,rfl,z,u,heq⟩iK;have ez:X=Qu lo hi (mst mm) (yH t):=by
    have Y:X<+:flt lo hi (yH t):=(List.prefix_append X [y]).trans hpre;have O:=List.prefix_iff_eq_take.1 Y;rw[O];unfold Qu flt;congr 1;have:=HMO.out;omega
   obtain⟨a3,a1,g1,A1,Dt,a2,g2,U,Du,iG,H,W,c1,c2,lG,oE⟩:=Tw w A l _ X D z u (by omega) iK;obtain⟨po,co,F⟩:=Rz u;have M:=qj u;have j:Hid (PL H 41 R X/\(∀y,R.ownBlock=some y->w.heap.size<=y)/\y6 [] w H):=⟨lG,fun y C=>M y (by simp[C]),oE⟩
   rw[ez]at j;obtain⟨L,k⟩:∃L,L=X.length:=⟨_,rfl⟩
   rw[<-k]at F;subst F;clear z u lG oE iK M k;subst Dt;subst Du;go_wp2;refine⟨by simp,.inl ⟨_,_,rfl,run_takeDeferred iG,?_⟩⟩;rw[<-W];refine⟨.tuple #[.slice po L co,.nilIface],?_,_,rfl,j.out⟩;simp[results,Tryz.f19,go_sem,c1,c2]
end Go.Proofs.YtcklgafpgdhnaaaGreatDoor
namespace Go.Proofs.YtcklgafpgdhnaaaGreatDoor
theorem YG(l:List Pr)(h:∀p∈l,okp p):3*l.length<=(l.map psz).sum:=by
 induction l with
 |nil=>simp
 |cons p r ih=>
  have b:=ih fun q a=>h q (by simp[a]);have c:=(h p (by simp)).1;simp only[bn,bE,aB];have d:psz p=2+p.1.size+p.2.size:=rfl;omega
theorem WO:∀(h:Nat) (f:ByteArray) (n:Nd h),WFN h f n->qd h n->yq h n<=122->(yV h n).length<=41*j5 h n
 |0,f,l,e,_,u=>by
  have i:=YG l fun p s=>(e.2 p s).2;have y:(List.map psz l).sum<=122:=u;show List.length (α:=Pr) l<=41*1;omega
 |h+1,f,c,e,o,_=>by
  obtain⟨_,q⟩:=(yN h f c).1 e;have v:=(yO h c).1 o;have g:∀(l:List (Kid h)),(∀a∈l,WFN h a.1 a.2/\Rt h a.2/\qd h a.2)->(yJ h l).length<=41*(List.map (fun k:Kid h=>j5 h k.2) l).sum:=by
   intro l
   induction l with
   |nil=>intro _;simp[yJ]
   |cons a r ih=>
    intro j;have i:=ih fun b m=>j b (by simp[m]);obtain⟨d,t,w⟩:=j a (by simp);have x:=WO h a.1 a.2 d w t.2;rw[jP,ai];simp only[bn,bE];omega
  have i:=g c fun a d=>⟨q.all a d,v a d⟩
  show(yJ h c).length<=41*(1+(List.map (fun k:Kid h=>j5 h k.2) c).sum);omega
theorem QdM:∀(h:Nat) (n:Nd h),g9 h n=true->yV h n= []
 |0,l,e=>by
  have:List.isEmpty (α:=Pr) l=true:=e;exact List.isEmpty_iff.1 this
 |_+1,_,e=>by cases e
theorem Sf(t:Tr)(ht:TW t):(yH t).length<=41*gh t:=by
 unfold gh;split
 ·rename_i e;unfold yH;rw[QdM _ _ e];simp
 ·exact WO t.h yu t.n ht.wf ht.full ht.hi
end Go.Proofs.YtcklgafpgdhnaaaGreatDoor
namespace Go.Proofs.YtcklgafpgdhnaaaGreatDoor
open Go.RowKit
theorem OF(w:World)(x:Nat)(k:ByteArray):Bx2 w.heap.size (w.heap.size+1) x k ((((w.alloc (.cells #[.pointer (some ⟨x,0,none⟩)] 27)).alloc (.cells #[.string k] 9)).alloc (.cells #[.string ⟨#[]⟩] 9)).alloc (.cells #[.bool false] 4))/\VB (w.heap.size+1+1) (w.heap.size+1+1+1) ⟨#[]⟩ false ((((w.alloc (.cells #[.pointer (some ⟨x,0,none⟩)] 27)).alloc (.cells #[.string k] 9)).alloc (.cells #[.string ⟨#[]⟩] 9)).alloc (.cells #[.bool false] 4))/\y6 [] w ((((w.alloc (.cells #[.pointer (some ⟨x,0,none⟩)] 27)).alloc (.cells #[.string k] 9)).alloc (.cells #[.string ⟨#[]⟩] 9)).alloc (.cells #[.bool false] 4)):=by
 have d:=Mf w x k;have a:=fun(W:World) (o:Obj)=>(y6.refl [] W).alloc o;have b:=af ((w.alloc (.cells #[.pointer (some ⟨x,0,none⟩)] 27)).alloc (.cells #[.string k] 9)) (.cells #[.string ⟨#[]⟩] 9);have c:=af (((w.alloc (.cells #[.pointer (some ⟨x,0,none⟩)] 27)).alloc (.cells #[.string k] 9)).alloc (.cells #[.string ⟨#[]⟩] 9)) (.cells #[.bool false] 4);simp only[ak]at b c;exact⟨(d.k (a _ _)).k (a _ _),⟨(a _ _).get b (by simp),c⟩,((((y6.refl [] w).alloc _).alloc _).alloc _).alloc _⟩
theorem Wf{k v:ByteArray}:∀{l:List Pr},gA k l=some v->∃p∈l,p.2=v
 | [],h=>by simp[gA]at h
 |p::r,h=>by
  unfold gA at h;split at h
  ·cases h;exact⟨p,by simp,rfl⟩
  ·obtain⟨q,a,e⟩:=Wf h;exact⟨q,by simp[a],e⟩
theorem QgS(t:Tr)(ht:TW t)(k:ByteArray):((gA k (yH t)).getD ⟨#[]⟩).size<=1000:=by
 cases h:gA k (yH t)with
 |none=>show(⟨#[]⟩:ByteArray).size<=1000;decide
 |some v=>
  obtain⟨p,a,rfl⟩:=Wf h;have:=(ht.wf.keys p a).2.2.2;show p.2.size<=1000;omega
theorem QgT(x v a n:Nat)(c:Hd)(r:Value)(t:Tr)(k:ByteArray)(w:World)(h:Rec x v a n c r t w)(ht:TW t)(hk:gz k):
  Calls prog 20 #[.pointer (some ⟨x,0,none⟩),.string k] w fun e w'=>∃err,e=.returned (.tuple #[.string ((gA k (yH t)).getD ⟨#[]⟩),.bool (gA k (yH t)).isSome,err])/\err=.nilIface/\y6 [] w w':=by
 obtain⟨j,l,o⟩:=OF w x k;refine O5 x k _ _ (fun err _=>err=.nilIface) (fun _ _ _ h _=>h) (QgS t ht k) w fun b=> ?_;refine M9 b _ _ (fun _ _=>by kernel_rfl) [w.heap.size+1+1,w.heap.size+1+1+1] _ _ ?_ (fun W p T f g i=>f.err g i) fun W d=> ?_
 ·intro y m;simp at m;rw[ak,ak,ak,ak];omega
 ·exact Yx _ _ _ _ x v a n c r t k W (j.k d) (l.k d) (by omega) ((h.k o).k d) ht hk
theorem Xq(x:Nat)(k:ByteArray)(w:World)(h:Shut x w):
  Calls prog 20 #[.pointer (some ⟨x,0,none⟩),.string k] w fun e w'=>∃err,e=.returned (.tuple #[.string ⟨#[]⟩,.bool false,err])/\gU w' err 5/\y6 [] w w':=by
 obtain⟨g,i,j⟩:=OF w x k;refine O5 x k _ _ (fun err W=>gU W err 5) (fun _ _ _ h k=>h.k k) (by decide) w fun b=> ?_;refine(gX b _ _ (fun _ _=>by kernel_rfl) 5 (VB (w.heap.size+1+1) (w.heap.size+1+1+1) ⟨#[]⟩ false) _ (fun W l T a c d=>a.err c d) fun W f=> ?_).mono fun e w' ⟨err,a,c,d⟩=>⟨err,a,c,d.mono (by simp)⟩
 exact Qde _ _ _ _ x k W (g.k f) (i.k f) (f.get (j.get h (by simp)) (by simp))
theorem QgV(x v a n:Nat)(c:Hd)(r:Value)(t:Tr)(k:ByteArray)(w:World)(h:Rec x v a n c r t w)(hk:¬gz k):
  Calls prog 20 #[.pointer (some ⟨x,0,none⟩),.string k] w fun e w'=>∃err,e=.returned (.tuple #[.string ⟨#[]⟩,.bool false,err])/\gU w' err 1/\y6 [] w w':=by
 obtain⟨j,l,m⟩:=OF w x k;refine O5 x k _ _ (fun err W=>gU W err 1) (fun _ _ _ h k=>h.k k) (by decide) w fun b=> ?_;refine(gX b _ _ (fun _ _=>by kernel_rfl) 1 (VB (w.heap.size+1+1) (w.heap.size+1+1+1) ⟨#[]⟩ false) _ (fun W o T d f g=>d.err f g) fun W i=> ?_).mono fun e w' ⟨err,d,f,g⟩=>⟨err,d,f,g.mono (by simp)⟩
 exact XC _ _ _ _ x k W (j.k i) (l.k i) ((h.k m).k i) hk
end Go.Proofs.YtcklgafpgdhnaaaGreatDoor
