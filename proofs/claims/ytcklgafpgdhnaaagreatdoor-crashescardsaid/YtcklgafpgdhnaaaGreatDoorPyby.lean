import Derived.Test.YtcklgafpgdhnaaaGreatDoorPybx
set_option maxRecDepth 100000
set_option maxHeartbeats 4000000
set_option linter.unusedSimpArgs false
set_option linter.unusedVariables false
set_option linter.unusedSectionVars false
open Go.Proofs.Tryz
namespace Go.Proofs.YtcklgafpgdhnaaaGreatDoor
open Go.RowKit
def opc(K X A B:Int)(s t:ByteArray):Array Value:=#[.int .i64 K,.int .i64 X,.int .i64 A,.int .i64 B,.string s,.string t]
theorem PB(p K X A B:_)(s t:ByteArray)(w:World)(hK:K<5\/9<K):
  Calls prog 129 #[.pointer (some ⟨p,0,none⟩),.agg (opc K X A B s t)] w fun e w'=>e=.returned (.bool false)/\y6 [] w w':=by
 unfold opc
 by_cases a:K<5
 ·go_enter func129,ntmps129;go_wp2;go_ret;exact⟨rfl,(y6.refl _ _).alloc _⟩
 ·have b:9<K:=by omega
  have d5:decide (K<5)=false:=by simpa using a
  go_enter func129,ntmps129;go_wp2;go_ret;exact⟨rfl,(y6.refl _ _).alloc _⟩
theorem Qge(p:Nat)(K X A B:Int)(Lw:5<=K)(hK9:K<=9)(s t:ByteArray)(kv:Value)(pd:Option Addr)(cap:Nat)(w:World)(hw:WC w p kv (.slice pd 0 cap)):
  Calls prog 129 #[.pointer (some ⟨p,0,none⟩),.agg (opc K X A B s t)] w fun e w'=>e=.returned (.bool true)/\y6 [] w w':=by
 have d5:decide (K<5)=false:=by simp;omega
 have d9:decide (9<K)=false:=by simp;omega
 have c:¬K<5:=by omega
 have d:¬9<K:=by omega
 have a:w.cell? ⟨p,1,none⟩=some (.slice pd 0 cap):=y7 hw rfl;have b:=yt hw;unfold opc;go_enter func129,ntmps129;go_wp2;go_ret;exact⟨rfl,(y6.refl _ _).alloc _⟩
theorem QB(p K:_)(X A B:Int)(s t:ByteArray)(w:World)(b:Bool)(R:World->Prop)(hK:K<1\/4<K)
  (hR:∀W,y6 [] w W->Calls prog 129 #[.pointer (some ⟨p,0,none⟩),.agg (opc K X A B s t)] W fun e w'=>e=.returned (.bool b)/\R w'):
  Calls prog 96 #[.pointer (some ⟨p,0,none⟩),.agg (opc K X A B s t)] w fun e w'=>e=.returned (.bool b)/\R w':=by
 have a:Hid (∀W,y6 [] w W->Calls prog 129 #[.pointer (some ⟨p,0,none⟩),.agg (opc K X A B s t)] W fun e w'=>e=.returned (.bool b)/\R w'):=hR;clear hR;have c:¬K=1:=by omega
 have d:¬K=2:=by omega
 have f:¬K=3:=by omega
 have g:¬K=4:=by omega
 have i:(K==1)=false:=by simpa using c
 have j:(K==2)=false:=by simpa using d
 have k:(K==3)=false:=by simpa using f
 have l:(K==4)=false:=by simpa using g
 unfold opc at a⊢;go_enter func96,ntmps96;go_wp2_with(first|(go_at_call 129;refine(a.out _ ((y6.refl [] w).alloc _)).mono ?_;rintro e m⟨rfl,h⟩))
 go_ret;exact⟨rfl,h⟩
def Q0(I:yB)(B p:Nat)(N:Nat)(b:Bool)(w:World)(e:Ending)(w':World):Prop:=
 e=.returned (.bool b)/\∃uo j',WI I (N+1) B w' p uo j'/\uo.length<=N+1/\j'<=N+1/\Below B w w'
theorem ipd:(prog.info? 148).map (fun i=>(i.zero,i.size,i.bytes))=some (some (.pointer none),1,8):=by kernel_rfl
theorem spd:(prog.info? 26).map (·.size)=some 1:=by kernel_rfl
theorem iint:(prog.info? 3).map (fun i=>(i.zero,i.size,i.bytes))=some (some (.int .i64 0),1,8):=by kernel_rfl
theorem Qgf(I:yB)(p:Nat)(X A B:Int)(s t:ByteArray)(Bs j N:Nat)(ds:List Dk)(w:World)(h:WI I N Bs w p ds j)(hl:ds.length<=N):
  Calls prog 96 #[.pointer (some ⟨p,0,none⟩),.agg (opc 2 X A B s t)] w (Q0 I Bs p N true w):=by
 obtain⟨d,m,o,a,e,n,f⟩:=h.ex;have q:=yt a;have l:w.cell? ⟨p,0,none⟩=some d:=y7 a rfl;have f0:w.frozen? ⟨p,0,none⟩=false:=ax _ _ _ _ _ a;unfold opc;go_enter func96,ntmps96;go_wp2;go_ret;have k:y6 (p::d.ownBlock.toList) w (w.setCell ⟨p,0,none⟩ (.slice none 0 0)):=(y6.refl _ _).setCell (Or.inl (by simp)) _;obtain⟨b,g⟩:=h.keep a f e k (yf (i:=0) (.slice none 0 0) a) (aM _ _ _ _) (by simp);have c:=(y6.refl [] (w.setCell ⟨p,0,none⟩ (.slice none 0 0))).alloc (.cells #[.int .i64 2,.int .i64 X,.int .i64 A,.int .i64 B,.string s,.string t] 64);exact⟨rfl,ds,0,(b.kept c).mono (cG _),by omega,ay _,g.trans (c.belowB b.size (by simp))⟩
def newd(n:Nat):Obj:=.cells (#[.pointer none,.int .i64 n,.slice none 0 0,.bool false,.slice none 0 0,.bool false,.bool false,.pointer none]:Array Value) 154 (0,0)
theorem Qgg(I:yB)(p:Nat)(X A B:Int)(s t:ByteArray)(Bs j N:Nat)(ds:List Dk)(w:World)(h:WI I N Bs w p ds j)(hl:ds.length<=N)(hj:j<=N)(hN:N<=20000):
  Calls prog 96 #[.pointer (some ⟨p,0,none⟩),.agg (opc 3 X A B s t)] w (Q0 I Bs p N true w):=by
 obtain⟨kv,dv,xs,V,h2,h3,wi⟩:=h.ex;obtain⟨n,m,l,rfl⟩:=gJ wi;obtain⟨ie,eI,K,U,L⟩:=bu ipd;have xz:=yt V;have Z:=(y6.refl [] w).alloc (.cells (opc 3 X A B s t) 64);have k2:=(y6.refl [] (w.alloc (.cells (opc 3 X A B s t) 64))).alloc (newd (nb A));have O:=af (w.alloc (.cells (opc 3 X A B s t) 64)) (newd (nb A));rw[ak]at O;have DT:Hid (y6 [] w ((w.alloc (.cells (opc 3 X A B s t) 64)).alloc (newd (nb A)))):=Z.trans k2;have W:((w.alloc (.cells (opc 3 X A B s t) 64)).alloc (newd (nb A))).heap.size=w.heap.size+2:=by simp
 have T:Hid _:=W;generalize Y:(w.alloc (.cells (opc 3 X A B s t) 64)).alloc (newd (nb A))=w2 at*;have R:Hid _:=Y;unfold opc newd at R;unfold newd at O;clear Y Z k2 W;have S:=h.size;unfold opc;go_enter func96,ntmps96;go_wp2_with(first|(go_at_call 127;refine(RW _ _).mono ?_;rintro e w'⟨rfl,rfl⟩)|(go_at_call 32;rw[R.out];refine(SE A w2).mono ?_;rintro e F⟨a,bv,rfl,fF,Gh,⟨g,rfl,iJ⟩,r⟩;have q3:=r.get O (by simp);have d:=qR (P:=prog) (ty:=26) (j:=0) (v:=.pointer (some ⟨a,0,none⟩)) spd rfl q3 (by simp);have q4:=yf (i:=0) (.pointer (some ⟨a,0,none⟩)) q3;have C:y6 [] w (F.setCell ⟨w.heap.size+1,0,none⟩ (.pointer (some ⟨a,0,none⟩))):=(DT.out.trans r).setCell (Or.inr (by simp)) _;have Au:y6 [w.heap.size+1] F (F.setCell ⟨w.heap.size+1,0,none⟩ (.pointer (some ⟨a,0,none⟩))):=(y6.refl _ _).setCell (Or.inl (by simp)) _;have lY:=fF.k1 Au (by have:=T.out;simp[yk,Value.ownBlock];omega);generalize uV:F.setCell ⟨w.heap.size+1,0,none⟩ (.pointer (some ⟨a,0,none⟩))=k at*;clear uV;have D:WC k p kv (.slice n m l):=C.get V (by simp);have BW:k.cell? ⟨p,1,none⟩=some (.slice n m l):=y7 D rfl;have c:=yb wi C (by simp);have b4:Bs<=k.heap.size:=av S C.size)|(refine gB rfl 26 (.tmp 48) (.tmp 46) rfl ⟨w.heap.size+1,0,none⟩ rfl _ rfl _ d ?_)|(at_builtin;refine cK _ rfl (.tmp 65) (.tmp 67) 102 rfl Bs 148 ie _ 1 8 underlying102 eI K U L rfl (by decide) (.slice n m l) ds.length (ptrs ds) rfl (c.alloc _) ⟨k.heap.size,0,none⟩ 1 1 [.pointer (some ⟨w.heap.size+1,0,none⟩)] rfl rfl (cell_one_new _ _ _) (by simp[Value.oneCell']) (by unfold maxLen;omega) (by omega) (by simp;omega) ?_;intro v5 q G mM _;obtain⟨p5,l5,q5,rfl⟩:=gJ G;have k5:=yF mM (Value.slice n m l).ownBlock.toList (by intro x f;rw[f];simp);have u:=(y6.refl [] k).alloc (.cells #[.pointer (some ⟨w.heap.size+1,0,none⟩)] 148);have E:WC q p kv (.slice n m l):=k5.get (u.get D (by simp)) (by intro f;simp at f;exact Qn ⟨_,_,D⟩ (gY c f) (by decide) rfl);have tG:q.cell? ⟨p,1,none⟩=some (.slice n m l):=y7 E rfl;have f51:q.frozen? ⟨p,1,none⟩=false:=ax _ _ _ _ _ E;clear mM d))
 go_ret;have Q:y6 [] w (k.alloc (.cells #[.pointer (some ⟨w.heap.size+1,0,none⟩)] 148)):=C.trans u;have hI:=h.kept Q;have oO:DI I N (k.alloc (.cells #[.pointer (some ⟨w.heap.size+1,0,none⟩)] 148)) ⟨w.heap.size+1,a,.slice (some ⟨g,0,none⟩) (nb A) (nb A),.slice none 0 0,nb A,none⟩:=
  ⟨NO A,⟨nb A,.slice none 0 0,false,.slice none 0 0,false,false⟩,⟨[],false,[],false,false⟩,0,.new (List.replicate (nb A*128) 0),⟨u.get q4 (by simp),rfl,⟨ML.nil _,rfl,ML.nil _,rfl,rfl⟩,lY.k0 u,Ds.new (nb A) 0 (fun _=>rfl),by omega,by simp[Dv.new],by simp[Dv.new],by simp,by simp,by intro s o d;cases d⟩⟩
 have J:y6 (p::(Value.slice n m l).ownBlock.toList) (k.alloc (.cells #[.pointer (some ⟨w.heap.size+1,0,none⟩)] 148)) (q.setCell ⟨p,1,none⟩ (.slice p5 l5 q5)):=
  (k5.mono (by intro x f;exact aq _ f)).setCell (Or.inl (by simp)) _
 have M:y6 [p] q (q.setCell ⟨p,1,none⟩ (.slice p5 l5 q5)):=(y6.refl _ _).setCell (Or.inl (by simp)) _;have rJ:=yb G M (by intro b hb;simp;exact Qn (gY G hb) ⟨_,_,E⟩ (by decide));have U:=T.out;obtain⟨sE,H⟩:=hI.more (u.get D (by simp)) (c.alloc _) (yb h2 Q (by simp)) h3 J (yf (i:=1) _ E) ⟨w.heap.size+1,a,.slice (some ⟨g,0,none⟩) (nb A) (nb A),.slice none 0 0,nb A,none⟩ (by simpa[ptrs]using rJ) oO (by
  intro y z;simp[Dk.foot,Zr,yk,Value.ownBlock]at z;rcases z with rfl|rfl|rfl<;>omega) (by
  intro e he y z f;have:=((h.all e he).1.foot y z).lt;simp[Dk.foot,Zr,yk,Value.ownBlock]at f;rcases f with rfl|rfl|rfl<;>omega)
 exact⟨rfl,_,j,sE.mono (cG _),by simp;omega,by omega,(Q.belowB S (by simp)).trans H⟩
theorem Qgh:(prog.info? 24).map (·.size)=some 1:=by kernel_rfl
def KS(w:World)(p:Nat)(kv dv:Value)(cs:Array Value)(W:World):Prop:=WC W p kv dv/\W.heap[w.heap.size]?=some (.cells cs 64 (0,0))
theorem Qgi(I:yB)(p:Nat)(X A B:Int)(s t:ByteArray)(Bs j N:Nat)(ds:List Dk)(w:World)(h:WI I N Bs w p ds j)(hl:ds.length<=N)(hj:j<=N)(hN:N<=20000):
  Calls prog 96 #[.pointer (some ⟨p,0,none⟩),.agg (opc 1 X A B s t)] w (Q0 I Bs p N true w):=by
 obtain⟨d,o,xs,L,h2,h3,h4⟩:=h.ex;obtain⟨O,K,n,J,E⟩:=bu iint;have xz:=yt L;have Q:=(y6.refl [] w).alloc (.cells (opc 1 X A B s t) 64);have U:=af w (.cells (opc 1 X A B s t) 64);have e:KS w p d o (opc 1 X A B s t) (w.alloc (.cells (opc 1 X A B s t) 64)).drew:=⟨Q.get L (by simp),U⟩
 have k:y6 [] w (w.alloc (.cells (opc 1 X A B s t) 64)).drew:=Q.drew;have M:(w.alloc (.cells (opc 1 X A B s t) 64)).drew.heap.size=w.heap.size+1:=by simp[World.drew]
 have HZ:Hid _:=M;clear M U;go_enter func96,ntmps96;unfold opc at*;go_wp2;refine gu (KS w p d o #[.int .i64 1,.int .i64 X,.int .i64 A,.int .i64 B,.string s,.string t]) 11 (by kernel_rfl) ?_;generalize(w.alloc (.cells #[.int .i64 1,.int .i64 X,.int .i64 A,.int .i64 B,.string s,.string t] 64)).drew=w1 at*;have T:=yb h2 k (by simp);have b1:Bs<=w1.heap.size:=av h.size k.size;have V:=Ov (P:=prog) w1 24 3 (.int .i64 A) O (.int .i64 0) underlying24 K n rfl J rfl;have g:KS w p d o #[.int .i64 1,.int .i64 X,.int .i64 A,.int .i64 B,.string s,.string t] (w1.alloc (.cells #[.int .i64 A] 3)):=⟨((y6.refl [] w1).alloc _).get e.1 (by simp),((y6.refl [] w1).alloc _).get e.2 (by simp)⟩
 refine uk 0 (.pointer (some ⟨p,0,none⟩)) rfl (fun W f=>by rfl) e ?_;refine uk 1 (.pointer (some ⟨p,0,none⟩)) rfl (fun W f=>by rfl) e ?_;refine uk 2 (.pointer (some ⟨p,0,none⟩)) rfl (fun W f=>by rfl) e ?_;refine uk 3 (.pointer (some ⟨p,0,none⟩)) rfl (fun W f=>by rfl) e ?_;refine uk 4 d rfl (fun W f=>y9 24 (.tmp 17) rfl ⟨p,0,none⟩ rfl _ (yh underlying24 rfl (y7 f.1 rfl))) e ?_;refine uk 5 (.pointer (some ⟨w.heap.size,2,none⟩)) rfl (fun W f=>by rfl) e ?_;refine uk 6 (.int .i64 A) rfl (fun W f=>y9 3 (.tmp 19) rfl ⟨w.heap.size,2,none⟩ rfl _ (yh underlying3 rfl (y7 f.2 rfl))) e ?_;refine qI (i:=7) (by kernel_rfl) (yX rfl rfl _ _ (yv 24 1 (.tmp 20) rfl (.int .i64 A) rfl _ V) ⟨fun _=>g,?_⟩);simp only[zz];obtain⟨v8,l,Z,q,S,-⟩:=cY (P:=prog) (w1.alloc (.cells #[.int .i64 A] 3)) Bs 24 24 3 O _ 1 8 underlying24 K n J E rfl (by decide) d j xs (T.alloc _) ⟨w1.heap.size,0,none⟩ 1 1 [.int .i64 A] rfl (cell_one_new _ _ _) (by simp[Value.oneCell']) (by unfold maxLen;omega) (by omega) (by simp;omega);obtain⟨y,u,z,rfl⟩:=gJ q;have H:y6 [] w (w1.alloc (.cells #[.int .i64 A] 3)):=k.alloc _;have G:=T.alloc (.cells #[.int .i64 A] 3);have r:=yF S d.ownBlock.toList (by intro x c;rw[c];simp);have wP:p∉d.ownBlock.toList:=by intro c;simp at c;exact Qn ⟨_,_,g.1⟩ (gY G c) (by decide) rfl
 have D:w.heap.size∉d.ownBlock.toList:=by intro c;simp at c;exact Qn ⟨_,_,g.2⟩ (gY G c) (by decide) rfl
 have a:KS w p d o #[.int .i64 1,.int .i64 X,.int .i64 A,.int .i64 B,.string s,.string t] l:=⟨r.get g.1 wP,r.get g.2 D⟩
 refine qI (i:=8) (by kernel_rfl) (yX rfl rfl _ l (jl (.tmp 18) (.tmp 21) 24 rfl d (.slice (some ⟨w1.heap.size,0,none⟩) 1 1) rfl rfl _ Z) ⟨fun _=>a,?_⟩);simp only[zz];refine qI (i:=9) (by kernel_rfl) (yX rfl rfl (.pointer (some ⟨p,0,none⟩)) l rfl ⟨fun _=>a,?_⟩);simp only[zz];refine qI (i:=10) (by kernel_rfl) (yX rfl rfl (.pointer (some ⟨p,0,none⟩)) l rfl ⟨fun _=>a,?_⟩);simp only[zz];refine qI (i:=11) (by kernel_rfl) (qo rfl rfl _ (yK 24 (.tmp 24) (.tmp 22) rfl ⟨p,0,none⟩ rfl (.slice y u z) rfl (qR Qgh rfl a.1 (by simp))) ⟨fun C=>absurd rfl C,?_⟩);simp only[zz];refine gq (by kernel_rfl) ?_ _;have F:y6 [p] l (l.setCell ⟨p,0,none⟩ (.slice y u z)):=(y6.refl _ _).setCell (Or.inl (by simp)) _;have Y:=yf (i:=0) (.slice y u z) a.1;have R:=yb q F (by intro b hb;simp;exact Qn (gY q hb) ⟨_,_,a.1⟩ (by decide));have vV:y6 (p::d.ownBlock.toList) (w1.alloc (.cells #[.int .i64 A] 3)) (l.setCell ⟨p,0,none⟩ (.slice y u z)):=(r.mono (by intro x c;exact aq _ c)).trans (F.mono (by intro x c;simp at c;subst c;simp));obtain⟨hI,hB⟩:=(h.kept H).keep g.1 (yb h4 H (by simp)) G vV Y R (by intro v m;rcases ar.1 m with m|m;exact h3 v m;simp at m;subst m;exact⟨_,rfl⟩);clear Z S q a r F Y R vV g V e;go_wp2;go_ret;exact⟨rfl,ds,j+1,hI.mono (cG _),by omega,by omega,(H.belowB h.size (by simp)).trans hB⟩
theorem RI(args:Array Value)(w:World):(callFunc 97 args).run prog w=.ok (.enter 97 args) w:=qy func97 (by kernel_rfl) (by kernel_rfl) args w
theorem spl:(prog.info? 148).map (·.size)=some 1:=by kernel_rfl
def PS(ob p g0:Nat)(kv dv:Value)(ocs cur:Array Value)(W:World):Prop:=WC W p kv dv/\W.heap[ob]?=some (.cells ocs 64 (0,0))/\W.heap[g0]?=some (.cells cur 148 (0,0))
variable {p:Nat}{w w':World}
theorem PS.kept{ob g0:Nat}{kv dv:Value}{ocs cur:Array Value}(h:PS ob p g0 kv dv ocs cur w)(hk:y6 [] w w'):PS ob p g0 kv dv ocs cur w':=
 ⟨hk.get h.1 (by simp),hk.get h.2.1 (by simp),hk.get h.2.2 (by simp)⟩
theorem WI.slots{I:yB}{N B j:Nat}{ds:List Dk}(h:WI I N B w p ds j)(hlen:0<ds.length):∃kv g cap cur xs,WC w p kv (.slice (some ⟨g,0,none⟩) ds.length cap)/\w.heap[g]?=some (.cells cur 148 (0,0))/\
  (∀(i:Nat) (d:Dk),ds[i]?=some d->cur[i]?=some (.pointer (some ⟨d.q,0,none⟩)))/\w.ownsRow B 3 1 kv j xs/\(∀v∈xs,IsI v)/\w.ownsRow B 148 1 (.slice (some ⟨g,0,none⟩) ds.length cap) ds.length (ptrs ds):=by
 obtain⟨kv,o,xs,f,k,l,c⟩:=h.ex;have n:=c;obtain⟨_,⟨_,r⟩|⟨g,cap,cur,rfl,_,m,_,_,_,b⟩⟩:=n
 ·omega
 refine⟨kv,g,cap,cur,xs,f,m,?_,k,l,c⟩;intro i d e;have a:i<ds.length:=(ae.1 e).1;have:=congrArg (fun x=>x[i]?) b;simp only[aD,Nat.mul_one,a,if_true,ptrs,aA,e,b7]at this
 simpa using this
theorem Nr{base e size n:Nat}{v:Value}{xs:List Value}(h:w.ownsRow base e size v n xs):∃p c,v=.slice p n c:=by
 obtain⟨_,⟨rfl,rfl⟩|⟨g,a,b,rfl,_⟩⟩:=h
 ·exact⟨_,_,rfl⟩
 ·exact⟨_,_,rfl⟩
theorem Mw(I:yB)(p:Nat)(K X A B:Int)(s t:ByteArray)(Bs N:Nat)(w:World)(hB:Bs<=w.heap.size)
  (hR:∀W,y6 [] w W->Calls prog 96 #[.pointer (some ⟨p,0,none⟩),.agg (opc K X A B s t)] W (Q0 I Bs p N true W)):
  Calls prog 63 #[.pointer (some ⟨p,0,none⟩),.agg (opc K X A B s t)] w (Q0 I Bs p N true w):=by
 have a:=(y6.refl [] w).alloc (.cells (opc K X A B s t) 64);have b:Hid (Calls _ _ _ _ _):=hR _ a;clear hR;unfold opc at b a⊢;go_enter func63,ntmps63;go_wp2_with(first|(go_at_call 96;refine b.out.mono ?_;rintro e j⟨rfl,i,h,c,d,f,g⟩))
 go_ret;exact⟨rfl,i,h,c,d,f,(a.belowB hB (by simp)).trans g⟩
theorem Qgm(I:yB)(p:Nat)(K X A B:Int)(s t:ByteArray)(Bs j N:Nat)(ds:List Dk)(w:World)(h:WI I N Bs w p ds j)(hl:ds.length<=N)(hj:j<=N)(hK:K<1):
  Calls prog 63 #[.pointer (some ⟨p,0,none⟩),.agg (opc K X A B s t)] w (Q0 I Bs p N true w):=by
 obtain⟨G,L,M,u,C,D,v⟩:=h.ex;obtain⟨o,l,rfl⟩:=Nr v;have n:=(y6.refl [] w).alloc (.cells (opc K X A B s t) 64);have x:=af w (.cells (opc K X A B s t) 64);have i:Hid (Calls prog 96 #[.pointer (some ⟨p,0,none⟩),.agg (opc K X A B s t)] (w.alloc (.cells (opc K X A B s t) 64)) fun e c=>e=.returned (.bool false)/\y6 [] (w.alloc (.cells (opc K X A B s t) 64)) c):=
  QB p K X A B s t _ false _ (by omega) fun W E=>(PB p K X A B s t W (by omega)).mono fun e c h=>⟨h.1,E.trans h.2⟩
 have d17:¬17<K:=by omega
 have d10:K<10:=by omega
 have z:decide (17<K)=false:=by simpa using d17
 have q:Hid (∀c,y6 [] w c->Q0 I Bs p N true w (.returned (.bool true)) c):=fun c k=>⟨rfl,ds,j,(h.kept k).mono (cG _),by omega,by omega,k.belowB h.size (by simp)⟩
 have d:Hid (WC w p G (.slice o ds.length l)):=u;clear h u C D v;generalize y:ds.length=b at*;clear hl y;unfold opc at i n x⊢;rcases dM b with r|r
 ·subst r;go_enter func63,ntmps63;go_wp2_with(first|(go_at_call 96;refine i.out.mono ?_;rintro e g⟨rfl,a⟩;have f:=n.trans a;have H:g.cell? ⟨p,1,none⟩=some (.slice o 0 l):=y7 (f.get d.out (by simp)) rfl))
  go_ret;exact q.out _ f
 ·have m:¬(b:Int)=0:=by omega
  have F:((b:Int)==0)=false:=by simpa using m
  go_enter func63,ntmps63;go_wp2_with(first|(go_at_call 96;refine i.out.mono ?_;rintro e g⟨rfl,a⟩;have f:=n.trans a;have H:g.cell? ⟨p,1,none⟩=some (.slice o b l):=y7 (f.get d.out (by simp)) rfl;have J:g.cell? ⟨w.heap.size,0,none⟩=some (.int .i64 K):=y7 (a.get x (by simp)) rfl))
  go_ret;exact q.out _ f
theorem Ys(I:yB)(p:Nat)(K X A B:Int)(nM:10<=K)(iG:K<=17)(s t:ByteArray)(Bs j N:Nat)(ds:List Dk)(w:World)(h:WI I N Bs w p ds j)(hl:ds.length<=N)(hj:j<=N)(hlen:ds.length=0):
  Calls prog 63 #[.pointer (some ⟨p,0,none⟩),.agg (opc K X A B s t)] w (Q0 I Bs p N true w):=by
 obtain⟨v,z,D,b,q,r,i⟩:=h.ex;obtain⟨n,g,rfl⟩:=Nr i;have l:=(y6.refl [] w).alloc (.cells (opc K X A B s t) 64);have x:=af w (.cells (opc K X A B s t) 64);have f:Hid (Calls prog 96 #[.pointer (some ⟨p,0,none⟩),.agg (opc K X A B s t)] (w.alloc (.cells (opc K X A B s t) 64)) fun e a=>e=.returned (.bool false)/\y6 [] (w.alloc (.cells (opc K X A B s t) 64)) a):=
  QB p K X A B s t _ false _ (by omega) fun W u=>(PB p K X A B s t W (by omega)).mono fun e a h=>⟨h.1,u.trans h.2⟩
 have o:Hid (∀a,y6 [] w a->Q0 I Bs p N true w (.returned (.bool true)) a):=fun a k=>⟨rfl,ds,j,(h.kept k).mono (cG _),by omega,by omega,k.belowB h.size (by simp)⟩
 rw[hlen]at b;have c:Hid (WC w p v (.slice n 0 g)):=b;clear h b q r i hl hlen;unfold opc at f l x⊢;go_enter func63,ntmps63;go_wp2_with(first|(go_at_call 96;refine f.out.mono ?_;rintro e y⟨rfl,d⟩;have m:=l.trans d;have C:y.cell? ⟨p,1,none⟩=some (.slice n 0 g):=y7 (m.get c.out (by simp)) rfl))
 go_ret;exact o.out _ m
theorem Qgo(I:yB)(p:Nat)(K X A B:Int)(nM:10<=K)(iG:K<=17)(s t:ByteArray)(Bs j N:Nat)(ds:List Dk)(w:World)(DO:OY I)(h:WI I N Bs w p ds j)(hl:ds.length<=N)(hj:j<=N)(hN:N<=19000)(hlen:0<ds.length)(DV:-9223372036854775808<=X)(DW:X<=9223372036854775807):
  Calls prog 63 #[.pointer (some ⟨p,0,none⟩),.agg (opc K X A B s t)] w (Q0 I Bs p N true w):=by
 obtain⟨kv,G,E,cur,xs,h1,wu,mO,h2,h3,h4⟩:=h.slots hlen;obtain⟨d,hd⟩:∃d,ds[pk X ds.length]?=some d:=⟨_,aa (NR X ds.length hlen)⟩
 have dW:=mO _ d hd;have k1:=(y6.refl [] w).alloc (.cells (opc K X A B s t) 64);have n1:=af w (.cells (opc K X A B s t) 64);have hS:PS w.heap.size p G kv (.slice (some ⟨G,0,none⟩) ds.length E) (opc K X A B s t) cur (w.alloc (.cells (opc K X A B s t) 64)):=⟨k1.get h1 (by simp),n1,k1.get wu (by simp)⟩
 have HR:Hid (Calls prog 96 #[.pointer (some ⟨p,0,none⟩),.agg (opc K X A B s t)] (w.alloc (.cells (opc K X A B s t) 64)) fun e H=>e=.returned (.bool false)/\y6 [] (w.alloc (.cells (opc K X A B s t) 64)) H):=
  QB p K X A B s t _ false _ (by omega) fun W u=>(PB p K X A B s t W (by omega)).mono fun e H h=>⟨h.1,u.trans h.2⟩
 have hoc:(opc K X A B s t)[1]?=some (.int .i64 X):=rfl;have oQ:(opc K X A B s t)[0]?=some (.int .i64 K):=rfl;have hln:¬(ds.length:Int)=0:=by omega
 have hlb:((ds.length:Int)==0)=false:=by simpa using hln
 have M:Hid (∀W e H Z,y6 [] w W->DR I N d W e H->y6 [] H Z->Q0 I Bs p N true w e Z):=by
  rintro W e H Z k⟨rfl,d',eq,oO,hf,hK⟩k'';obtain⟨hI,hB⟩:=((h.kept k).mono (cG N)).disk _ d d' hd hK oO eq hf;exact⟨rfl,_,j,hI.kept k'',by simp;omega,by omega,((k.belowB h.size (by simp)).trans hB).trans (k''.belowB hI.size (by simp))⟩
 have HI:Hid (∀H,y6 [] w H->Q0 I Bs p N true w (.returned (.bool true)) H):=fun H k=>⟨rfl,ds,j,(h.kept k).mono (cG _),by omega,by omega,k.belowB h.size (by simp)⟩
 have HD:Hid (∀W,y6 [] w W->∃R r K D,DX I N W d R r K D/\d.n<1000/\qW W/\Tab W/\1∉yk d.a d.bv d.cv/\∀s o,d.st=some (s,o)->1∉s.fp):=by
  intro W k;obtain⟨⟨hl,R,r,K,D,hx⟩,bf⟩:=(h.kept k).all d (ah hd);have eV:=h.pos.1;refine⟨R,r,K,D,hx,hl,(h.kept k).glob,(h.kept k).tab,fun hm=> ?_,fun s o g hm=> ?_⟩
  ·have:=bf _ (QK hm);omega
  ·have:=bf _ (ZY (by rw[g];exact aq _ (aw _ (aw _ hm))));omega
 have HQ:Hid (∀W,y6 [] w W->W.cell? ⟨d.q,7,none⟩=some (.pointer (Mh d.st))):=by
  intro W k;obtain⟨R,r,K,D,hx,_⟩:=HD.out W k;exact y7 hx.ld rfl
 have P:(opc K X A B s t)[4]?=some (.string s):=rfl;have Av:(opc K X A B s t)[5]?=some (.string t):=rfl;have oR:(opc K X A B s t)[2]?=some (.int .i64 A):=rfl;have JL:¬17<K:=by omega
 have n10:¬K<10:=by omega
 have d17:decide (17<K)=false:=by simp;omega
 have d10:decide (K<10)=false:=by simp;omega
 clear n1 mO h1 h2 h3 h4 wu h;unfold opc at*;go_enter func63,ntmps63;go_wp2_with(first|(go_at_call 96;refine HR.out.mono ?_;rintro e w2⟨rfl,L⟩;have y:=(k1.trans L).drew;have m:=(hS.kept L).kept ((y6.refl [] w2).drew);have xo:w2.cell? ⟨p,1,none⟩=some (.slice (some ⟨G,0,none⟩) ds.length E):=y7 (hS.kept L).1 rfl;have DU:w2.cell? ⟨w.heap.size,0,none⟩=some (.int .i64 K):=y7 (hS.kept L).2.1 oQ))
 generalize w.heap.size=Y at*;generalize(#[.int .i64 K,.int .i64 X,.int .i64 A,.int .i64 B,.string s,.string t]:Array Value)=ocs at*;refine yo (PS Y p G kv (.slice (some ⟨G,0,none⟩) ds.length E) ocs cur) (by kernel_rfl) ?_;refine uh 0 (.pointer (some ⟨p,0,none⟩)) rfl (fun W u=>by rfl) m ?_;refine uh 1 (.pointer (some ⟨p,0,none⟩)) rfl (fun W u=>by rfl) m ?_;refine uh 2 (.pointer (some ⟨p,1,none⟩)) rfl (fun W u=>by rfl) m ?_;refine uh 3 (.slice (some ⟨G,0,none⟩) ds.length E) rfl (fun W u=>y9 102 (.tmp 31) rfl ⟨p,1,none⟩ rfl _ (yh underlying102 rfl (y7 u.1 rfl))) m ?_;refine uh 4 (.pointer (some ⟨Y,1,none⟩)) rfl (fun W u=>by rfl) m ?_;refine uh 5 (.int .i64 X) rfl (fun W u=>y9 3 (.tmp 33) rfl ⟨Y,1,none⟩ rfl _ (yh underlying3 rfl (y7 u.2.1 hoc))) m ?_;refine uh 6 (.pointer (some ⟨p,0,none⟩)) rfl (fun W u=>by rfl) m ?_;refine uh 7 (.pointer (some ⟨p,0,none⟩)) rfl (fun W u=>by rfl) m ?_;refine uh 8 (.pointer (some ⟨p,1,none⟩)) rfl (fun W u=>by rfl) m ?_;refine uh 9 (.slice (some ⟨G,0,none⟩) ds.length E) rfl (fun W u=>y9 102 (.tmp 37) rfl ⟨p,1,none⟩ rfl _ (yh underlying102 rfl (y7 u.1 rfl))) m ?_;refine uh 10 (.int .i64 ds.length) rfl (fun W u=>gF (.tmp 38) 102 148 rfl _ _ _ rfl underlying102) m ?_;refine yi (i:=11) (by kernel_rfl) (yp rfl (by rfl) 97 #[.int .i64 X,.int .i64 ds.length] (yn _ _ _ rfl _ (by simp[Act.eval]) (RI _ _)) _ (Rl X ds.length _ hlen (by omega) DV DW) ?_);rintro e W5⟨rfl,rfl⟩;refine⟨_,rfl,m,?_⟩;simp only[zz];refine uh 12 (.pointer (some ⟨G,pk X ds.length,none⟩)) rfl (fun W u=>yc 102 (.tmp 32) (.tmp 40) rfl G 0 ds.length E (pk X ds.length) 1 rfl rfl 148 underlying102 spl (NR X ds.length hlen) _ (by omega)) m ?_;refine uh 13 (.pointer (some ⟨d.q,0,none⟩)) rfl (fun W u=>y9 148 (.tmp 41) rfl ⟨G,pk X ds.length,none⟩ rfl _ (yh underlying148 rfl (y7 u.2.2 dW))) m ?_;refine uh 14 (.pointer (some ⟨d.q,0,none⟩)) rfl (fun W u=>by rfl) m ?_;refine aK (by kernel_rfl) ?_ _;generalize w2.drew=C at*;have JM:C.cell? ⟨Y,0,none⟩=some (.int .i64 K):=y7 m.2.1 oQ;have JN:C.cell? ⟨Y,4,none⟩=some (.string s):=y7 m.2.1 P;have JO:C.cell? ⟨Y,5,none⟩=some (.string t):=y7 m.2.1 Av;have JP:C.cell? ⟨Y,2,none⟩=some (.int .i64 A):=y7 m.2.1 oR;have J:=HQ.out C y;clear DU xo JL n10 d17 d10 m hS hoc oQ P Av oR HR;obtain⟨R,r,KK,D,hx,Q,S,mX,U,Gi⟩:=HD.out C y;have O:Hid (DX I N C d R r KK D):=hx;clear hx;have wk:K=10\/K=11\/K=12\/K=13\/K=14\/K=15\/K=16\/K=17:=by omega
 clear nM iG
 by_cases hK11:K<=11
 ·have wk:K=10\/K=11:=by omega
  rcases wk with rfl|rfl
  ·go_wp2_with(first|(go_at_call 98;refine(Qg6 (by omega) S mX U Q O.out).mono ?_;intro e v l;have z:=M.out _ _ _ _ y l (y6.refl _ _);obtain⟨rfl,r4⟩:=l))
   go_ret;exact z
  ·go_wp2_with(first|(go_at_call 99;refine(Qg4 DO (by omega) S mX U Q O.out).mono ?_;intro e v l;have z:=M.out _ _ _ _ y l (y6.refl _ _);obtain⟨rfl,r4⟩:=l))
   go_ret;exact z
 ·have wk:K=12\/K=13\/K=14\/K=15\/K=16\/K=17:=by omega
  clear hK11
  cases g:d.st with
  |none=>
   rw[g]at J;simp only[Mh]at J;rcases wk with rfl|rfl|rfl|rfl|rfl|rfl
   ·go_wp2;go_ret;exact HI.out _ y
   ·go_wp2;go_ret;exact HI.out _ y
   ·go_wp2;go_ret;exact HI.out _ y
   ·go_wp2;go_ret;exact HI.out _ y
   ·go_wp2;go_ret;exact HI.out _ y
   ·go_wp2;go_ret;exact HI.out _ y
  |some so=>
   obtain⟨so,oo⟩:=so;rw[g]at J;simp only[Mh]at J;have ig:=Gi so oo g;clear Gi;have HL:Hid (∀W' v,y6 [] C W'->DRS I N d W' (.returned (.bool true)) v->∃b,v.cell? ⟨d.q,7,none⟩=some (.pointer (some ⟨b,0,none⟩))/\Calls prog 105 #[.pointer (some ⟨b,0,none⟩)] v fun e T=>e=.returned (.bool true)/\y6 [] v T):=by
    rintro W' v k⟨_,d',s',V,ki,JQ,DY,_,_⟩;obtain⟨_,R',r',K',D',hx'⟩:=DY;obtain⟨_,ho',_,_,_,_,_,bx⟩:=hx'.st s' V ki;have q4:=hx'.ld;rw[ki,JQ]at q4;exact⟨V.b,y7 q4 rfl,(Q21 V.b (some ⟨s'.x,0,none⟩) V.vl s'.fl s'.cl s'.mo s'.ch V.lv V.wv V.xs _ ho'.r ho'.h (by omega)).mono fun e T h=>h⟩
   rcases wk with rfl|rfl|rfl|rfl|rfl|rfl
   ·go_wp2_with(first|(go_at_call 100;refine(XB S Q O.out g ig (by omega) s t).mono ?_;intro e v l;have z:=l.dr;obtain⟨rfl,c⟩:=l;obtain⟨b4,xg,f⟩:=HL.out C v (y6.refl _ _) ⟨rfl,c⟩;clear c)|(go_at_call 105;refine f.mono ?_;rintro e T⟨rfl,F⟩))
    go_ret;exact M.out _ _ _ _ y z F
   ·go_wp2_with(first|(go_at_call 100;refine(Qgb S Q O.out g ig (by omega) s t).mono ?_;intro e v l;have z:=l.dr;obtain⟨rfl,c⟩:=l;obtain⟨b4,xg,f⟩:=HL.out C v (y6.refl _ _) ⟨rfl,c⟩;clear c)|(go_at_call 105;refine f.mono ?_;rintro e T⟨rfl,F⟩))
    go_ret;exact M.out _ _ _ _ y z F
   ·go_wp2_with(first|(go_at_call 101;refine(Qg7 S Q O.out g ig (by omega) s).mono ?_;intro e v l;have z:=l.dr;obtain⟨rfl,c⟩:=l;obtain⟨b4,xg,f⟩:=HL.out C v (y6.refl _ _) ⟨rfl,c⟩;clear c)|(go_at_call 105;refine f.mono ?_;rintro e T⟨rfl,F⟩))
    go_ret;exact M.out _ _ _ _ y z F
   ·go_wp2_with(first|(go_at_call 102;refine(Qg8 S Q O.out g ig (by omega) s t A).mono ?_;intro e v l;have z:=l.dr;obtain⟨rfl,c⟩:=l;obtain⟨b4,xg,f⟩:=HL.out C v (y6.refl _ _) ⟨rfl,c⟩;clear c)|(go_at_call 105;refine f.mono ?_;rintro e T⟨rfl,F⟩))
    go_ret;exact M.out _ _ _ _ y z F
   ·go_wp2_with(first|(go_at_call 103;refine(Qgc S Q O.out g ig (by omega) mX U).mono ?_;intro e v l;have z:=l.dr;obtain⟨rfl,c⟩:=l;obtain⟨b4,xg,f⟩:=HL.out C v (y6.refl _ _) ⟨rfl,c⟩;clear c)|(go_at_call 105;refine f.mono ?_;rintro e T⟨rfl,F⟩))
    go_ret;exact M.out _ _ _ _ y z F
   ·go_wp2_with(first|(go_at_call 104;refine(Yg S Q O.out g ig).mono ?_;intro e v l;have z:=l.dr;obtain⟨rfl,c⟩:=l;obtain⟨b4,xg,f⟩:=HL.out C v (y6.refl _ _) ⟨rfl,c⟩;clear c)|(go_at_call 105;refine f.mono ?_;rintro e T⟨rfl,F⟩))
    go_ret;exact M.out _ _ _ _ y z F
theorem Qgp(n:Nat)(L:List UInt8)(w:World)(hn:n<1000)(hL:L.length=n*128):Calls prog 128 #[.int .i64 n,.string ⟨L.toArray⟩] w fun e w'=>∃a g,e=.returned (.pointer (some ⟨a,0,none⟩))/\DQ w' a (.slice (some ⟨g,0,none⟩) n n) n (.slice none 0 0) (.new L)/\w.heap.size<=a/\w.heap.size<=g/\y6 [] w w':=by
 have c:nb n=n:=by unfold nb;rw[if_neg (by omega)];omega
 refine(UN n ⟨L.toArray⟩ w).mono ?_;rintro e w'⟨a,m,f,h,i,⟨g,rfl,j⟩,k⟩;have d:LY n L=L:=Q14 n L hL;have l:DQ w' a (.slice (some ⟨g,0,none⟩) n n) n (.slice none 0 0) (.new L):=by
  have b:=h;simp only[c]at b;rw[d]at b;exact b
 exact⟨a,g,f,l,i,j,k⟩
theorem Qgq(w:World)(c:Option Addr)(R:Rc):
  (Instr.build 154 #[(0,.pointer c),(1,.agg R.cs)]).run prog w=.ok (.agg #[.pointer c,.int .i64 R.n,R.may,.bool R.em,R.were,.bool R.wild,.bool R.bit,.pointer none]) w:=by
 unfold Rc.cs yS;simp[Instr.build,go_sem]
theorem Qgr:(prog.info? 102).map (·.size)=some 1:=by kernel_rfl
def CS(p q a:Nat)(R:Rc)(kv dv s:Value)(W:World):Prop:=WC W p kv dv/\LD W q a R s
theorem CS.kept{q a:Nat}{R:Rc}{kv dv s:Value}(h:CS p q a R kv dv s w)(hk:y6 [] w w'):CS p q a R kv dv s w':=⟨hk.get h.1 (by simp),hk.get h.2 (by simp)⟩
def I64(x:Int):Prop:= -9223372036854775808<=x/\x<=9223372036854775807
def LQ(I:yB)(K:Int):Prop:=∀(p:Nat) (X A B:Int) (s t:ByteArray) (Bs j N:Nat) (ds:List Dk) (w:World),WI I N Bs w p ds j->ds.length<=N->j<=N->N<=19000->I64 X->I64 A->I64 B->
 Calls prog 63 #[.pointer (some ⟨p,0,none⟩),.agg (opc K X A B s t)] w (Q0 I Bs p N true w)
theorem Qgy(I:yB){K:Int}(hK:K<4):LQ I K:=by
 intro p X A B s t a j N b w h c d i l f g
 by_cases e:K<1
 ·exact Qgm I p K X A B s t a j N b w h c d e
 ·have:K=1\/K=2\/K=3:=by omega
  rcases this with rfl|rfl|rfl
  ·exact Mw I p 1 X A B s t a N w h.size fun W k=>Qgi I p X A B s t a j N b W (h.kept k) c d (by omega)
  ·exact Mw I p 2 X A B s t a N w h.size fun W k=>Qgf I p X A B s t a j N b W (h.kept k) c
  ·exact Mw I p 3 X A B s t a N w h.size fun W k=>Qgg I p X A B s t a j N b W (h.kept k) c d (by omega)
def OutK(I:yB)(K:Int):Prop:=∀(p:Nat) (X A B:Int) (s t:ByteArray) (Bs j N:Nat) (ds:List Dk) (w:World),WI I N Bs w p ds j->0<ds.length->ds.length<=N->j<=N->N<=19000->I64 X->I64 A->I64 B->
 Calls prog 129 #[.pointer (some ⟨p,0,none⟩),.agg (opc K X A B s t)] w (Q0 I Bs p N true w)
theorem ZC(I:yB){K:Int}(h5:5<=K)(h9:K<=9)(hO:OutK I K):LQ I K:=by
 intro p X A B s t f j N i w h F E z C x y;refine Mw I p K X A B s t f N w h.size fun W k=> ?_;have b:=h.kept k
 by_cases c:i.length=0
 ·obtain⟨H,M,Q,l,O,P,v⟩:=b.ex;obtain⟨J,u,rfl⟩:=Nr v;rw[c]at l;refine(QB p K X A B s t W true (fun a=>y6 [] W a) (by omega) fun g d=>(Qge p K X A B h5 h9 s t H J u g (d.get l (by simp))).mono fun e a h=>⟨h.1,d.trans h.2⟩).mono ?_;rintro e a⟨rfl,m⟩;exact⟨rfl,i,j,(b.kept m).mono (cG _),by omega,by omega,m.belowB b.size (by simp)⟩
 ·refine(QB p K X A B s t W true (fun a=>Q0 I f p N true W (.returned (.bool true)) a) (by omega) fun g d=>(hO p X A B s t f j N i g (b.kept d) (by omega) F E z C x y).mono ?_).mono ?_
  ·rintro e a⟨rfl,L,G,n,o,q,r⟩;exact⟨rfl,rfl,L,G,n,o,q,(d.belowB b.size (by simp)).trans r⟩
  ·rintro e a⟨rfl,D⟩;exact D
theorem MH(I:yB){K:Int}(h1:10<=K)(h2:K<=17):LQ I K:=by
 intro p X A B s t c j N b w h f e g d i k
 by_cases a:b.length=0
 ·exact Ys I p K X A B h1 h2 s t c j N b w h f e a
 ·exact Qgo I p K X A B h1 h2 s t c j N b w (Qgw I) h f e g (by omega) d.1 d.2
structure Op6 where
 K:Int
 X:Int
 A:Int
 B:Int
 s:ByteArray
 t:ByteArray
def Op6.cells(o:Op6):List Value:= [.int .i64 o.K,.int .i64 o.X,.int .i64 o.A,.int .i64 o.B,.string o.s,.string o.t]
theorem Op6.opc(o:Op6):o.cells.toArray=opc o.K o.X o.A o.B o.s o.t:=rfl
def Op6.ok(o:Op6):Prop:=I64 o.K/\I64 o.X/\I64 o.A/\I64 o.B
def Scr(w:World)(ad:Addr)(os:List Op6):Prop:=∀(i:Nat) (o:Op6),os[i]?=some o->∀(j:Nat) (v:Value),o.cells[j]?=some v->w.cell? ((ad.add (i*6)).add j)=some v
theorem Scr.below{ad:Addr}{os:List Op6}(h:Scr w ad os)(hk:y6 [] w w'):Scr w' ad os:=by
 intro i o a j v b;have:=h i o a j v b;rw[World.cell?_of_block (w:=w) (hk.block _ (block_lt_of_cell this) (by simp))];exact this
theorem sop:(prog.info? 64).map (·.size)=some 6:=by kernel_rfl
theorem Scr.load{ad:Addr}{os:List Op6}(h:Scr w ad os){i:Nat}{o:Op6}(hi:os[i]?=some o):(loadVar 64 (ad.add (i*6))).run prog w=.ok (.agg (opc o.K o.X o.A o.B o.s o.t)) w:=by
 have f:=run_loadCells_list (P:=prog) w (ad.add (i*6)) o.cells (h i o hi);have e:=sop
 cases c:prog.info? 64 with
 |none=>simp[c]at e
 |some g=>
  have d:g.size=6:=by simpa[c]using e
  have a:(isAgg 64).run prog w=.ok true w:=by
   unfold isAgg;rw[Sem.run_bind,aO underlying64 w];rfl
  have b:(loadCells (ad.add (i*6)) 6).run prog w=.ok o.cells.toArray w:=f;simp[loadVar,Sem.run_bind,a,sizeOf,typeInfo,c,d,b,Op6.opc]
theorem QC{P:Program}{o:Oper}{a:Act}(t:TypeId)(x ix:Operand)(ho:o.op=.indexAddr t x ix)(ad:Addr)(n cap i k:Nat)(hx:a.eval x=.slice (some ad) n cap)(th:a.eval ix=.int .i64 i)
  (e:TypeId)(hu:P.underlying t=some (.slice e))(hs:(P.info? e).map (·.size)=some k)(hi:i<n):
  (execOp a.eval o).run P w=.ok (.value (.pointer (some (ad.add (i*k))))) w:=by
 cases b:P.info? e with
 |none=>simp[b]at hs
 |some d=>
  have c:d.size=k:=by simpa[b]using hs
  simp[execOp,ho,hx,th,Instr.indexAt,asIntOf,aO hu,sizeOf,typeInfo,b,c,Result.andThen,hi]
theorem WI.init(I:yB)(w:World)(hG:qW w)(hT:Tab w):WI I 0 w.heap.size (w.alloc (.cells #[.slice none 0 0,.slice none 0 0] 104)) w.heap.size [] 0:=by
 have k:=(y6.refl [] w).alloc (.cells #[.slice none 0 0,.slice none 0 0] 104);exact⟨hG.kept k (by simp),hT.kept k (by simp),⟨hG.lt,hT.lt⟩,k.size,ag _,⟨_,_,[],af _ _,aM _ _ _ _,by simp,aM _ _ _ _⟩,by simp,by simp⟩
theorem QgA(I:yB)(ad:Addr)(cap:Nat)(os:List Op6)(w:World)(hG:qW w)(hT:Tab w)(h:Scr w ad os)(hlen:os.length<=16384)(hK:∀o∈os,LQ I o.K/\o.ok):
  Calls prog 38 #[.slice (some ad) os.length cap] w fun e w'=>e=.returned (.int .i64 (-1))/\y6 [] w w':=by
 have z:=WI.init I w hG hT;have M:=(y6.refl [] w).alloc (.cells #[.slice none 0 0,.slice none 0 0] 104);go_enter func38,ntmps38;go_wp2
 go_loopw [4] (fun i wr=>∃(k:Nat) (c:List Dk) (j:Nat),k<=os.length/\i=.int .i64 k/\WI I k w.heap.size wr w.heap.size c j/\c.length<=k/\j<=k/\y6 [] w wr) (fun i _=>os.length-(intOf i).toNat)
 case atStart=>exact⟨0,[],0,ay _,rfl,z,ag _,ag _,M⟩
 case round=>
  obtain⟨k,c,j,N,rfl,r,p,q,d⟩:=hrel
  by_cases a:k<os.length
  ·obtain⟨o,u⟩:∃o,os[k]?=some o:=⟨_,aa a⟩
   have b:=h.below d;have x:=b.load u;obtain⟨g,C,l,m,n⟩:=hK o (ah u);have y:Hid (Calls prog 63 #[.pointer (some ⟨w.heap.size,0,none⟩),.agg (opc o.K o.X o.A o.B o.s o.t)] wr (Q0 I w.heap.size w.heap.size k true wr)):=
    g w.heap.size o.X o.A o.B o.s o.t w.heap.size j k c wr r p q (by omega) l m n
   clear r p q b C l m n g;go_wp2_with(first|(refine ya rfl _ _ (QC 22 (.tmp 15) (.tmp 16) rfl ad os.length cap k 6 rfl rfl 64 underlying22 sop a) ?_)|(refine y8 rfl 64 (.tmp 17) rfl (ad.add (k*6)) rfl _ x ?_)|(go_at_call 63;refine y.out.mono ?_;rintro e J⟨rfl,H,E,G,L,F,v⟩;have f:y6 [] w J:=y6.of_below (d.below.trans v);clear v x))
   go_roundw
   case rel=>exact⟨k+1,H,E,by omega,by go_num,G,L,F,f⟩
   case measure=>simp[intOf];omega
  ·have D:¬(k:Int)<(os.length:Int):=by omega
   go_wp2;go_ret;exact⟨rfl,d⟩
theorem Ui(ao:Option Addr)(cap:Nat)(w:World):
  Calls prog 38 #[.slice ao 0 cap] w fun e w'=>e=.returned (.int .i64 (-1))/\y6 [] w w':=by
 go_enter func38,ntmps38;go_wp2;refine dU 1 ?_;rw[dh];go_wp2;go_ret;exact⟨rfl,(y6.refl [] w).alloc _⟩
def TL(n:Nat)(w:World)(e:Ending)(w':World):Prop:=∃b,e=.returned (.bool b)/\(b=true->n<=16384)/\y6 [] w w'
theorem QgD(ao:Option Addr)(cap:Nat)(w:World):Calls prog 37 #[.slice ao 0 cap] w (TL 0 w):=by
 go_enter func37,ntmps37;go_wp2;refine dU 1 ?_;rw[dh];go_wp2;go_ret;exact⟨_,rfl,fun _=>ay _,y6.refl [] w⟩
theorem Sy{P:Program}{o:Oper}{a:Act}(x:Operand)(t:TypeId)(ho:o.op=.call {callee:=.builtin .len,args:=#[x],argTypes:=#[t]})(b:ByteArray)(hx:a.eval x=.string b)(hu:P.underlying t=some .string):
  (execOp a.eval o).run P w=.ok (.value (.int .i64 b.size)) w:=by
 have c:(Builtin.len_ #[t] o.type #[.string b]).run P w=.ok (goInt b.size) w:=by
  simp[Builtin.len_,aO hu]
 simp[execOp,ho,resolve,invoke,builtin,hx,c,goInt]
theorem WG{o:Oper}{a:Act}(x y:Operand)(ho:o.op=.binOp .add 3 x y 3)(m n:Int)(hx:a.eval x=.int .i64 m)(hy:a.eval y=.int .i64 n):
  (execOp a.eval o).run prog w=.ok (.value (.int .i64 (IntKind.i64.wrap (m+n)))) w:=by
 have b:(binOp .add 3 (.int .i64 m) (.int .i64 n)).run prog w=.ok (.int .i64 (IntKind.i64.wrap (m+n))) w:=by
  simp[go_sem]
 have c:(eqGuard .add 3 x y (.int .i64 m) (.int .i64 n)).run prog w=.ok () w:=by simp[eqGuard]
 simp[execOp,ho,hx,hy,b,c]
theorem QgG(ad:Addr)(cap:Nat)(os:List Op6)(w:World)(h:Scr w ad os):
  Calls prog 37 #[.slice (some ad) os.length cap] w (TL os.length w):=by
 by_cases d:(16384:Int)<(os.length:Int)
 ·go_enter func37,ntmps37;go_wp2;go_ret;exact⟨false,rfl,(fun h=>by cases h),y6.refl [] w⟩
 have v:decide ((16384:Int)<(os.length:Int))=false:=by simpa using d
 go_enter func37,ntmps37;go_wp2
 go_loopw [3,4] (fun n i wr=>∃(k:Nat) (m:Int),k<=os.length/\i=.int .i64 k/\n=.int .i64 m/\y6 [] w wr) (fun _ i _=>os.length-(intOf i).toNat)
 case atStart=>exact⟨0,_,ay _,rfl,rfl,y6.refl [] w⟩
 case round=>
  obtain⟨k,m,x,rfl,rfl,f⟩:=hrel
  by_cases b:k<os.length
  ·obtain⟨o,j⟩:∃o,os[k]?=some o:=⟨_,aa b⟩
   have c:=h.below f.drew;have l:=c k o j 4 _ rfl;have p:=c k o j 5 _ rfl;go_wp2;refine yo (fun W=>W=wr.drew) (by kernel_rfl) ?_;refine uh 0 (.int .i64 m) rfl (fun W a=>by rfl) rfl ?_;refine uh 1 (.slice (some ad) os.length cap) rfl (fun W a=>by rfl) rfl ?_;refine uh 2 (.int .i64 k) rfl (fun W a=>by rfl) rfl ?_;refine uh 3 (.pointer (some (ad.add (k*6)))) rfl (fun W a=>QC 22 (.tmp 17) (.tmp 18) rfl ad os.length cap k 6 rfl rfl 64 underlying22 sop b) rfl ?_;refine uh 4 (.pointer (some ((ad.add (k*6)).add 4))) rfl (fun W a=>P1 64 (.tmp 19) 4 rfl (ad.add (k*6)) rfl 4 (by rfl)) rfl ?_;refine uh 5 (.string o.s) rfl (fun W a=>y9 9 (.tmp 20) rfl _ rfl _ (yh underlying9 rfl (by rw[a];exact l))) rfl ?_;refine uh 6 (.int .i64 o.s.size) rfl (fun W a=>Sy (.tmp 21) 9 rfl _ rfl underlying9) rfl ?_;refine uh 7 (.int .i64 (IntKind.i64.wrap (m+o.s.size))) rfl (fun W a=>WG (.tmp 16) (.tmp 22) rfl _ _ rfl rfl) rfl ?_;refine uh 8 (.slice (some ad) os.length cap) rfl (fun W a=>by rfl) rfl ?_;refine uh 9 (.int .i64 k) rfl (fun W a=>by rfl) rfl ?_;refine uh 10 (.pointer (some (ad.add (k*6)))) rfl (fun W a=>QC 22 (.tmp 24) (.tmp 25) rfl ad os.length cap k 6 rfl rfl 64 underlying22 sop b) rfl ?_;refine uh 11 (.pointer (some ((ad.add (k*6)).add 5))) rfl (fun W a=>P1 64 (.tmp 26) 5 rfl (ad.add (k*6)) rfl 5 (by rfl)) rfl ?_;refine uh 12 (.string o.t) rfl (fun W a=>y9 9 (.tmp 27) rfl _ rfl _ (yh underlying9 rfl (by rw[a];exact p))) rfl ?_;refine uh 13 (.int .i64 o.t.size) rfl (fun W a=>Sy (.tmp 28) 9 rfl _ rfl underlying9) rfl ?_;refine uh 14 (.int .i64 (IntKind.i64.wrap (IntKind.i64.wrap (m+o.s.size)+o.t.size))) rfl (fun W a=>WG (.tmp 23) (.tmp 29) rfl _ _ rfl rfl) rfl ?_;refine uh 15 (.int .i64 (IntKind.i64.wrap (IntKind.i64.wrap (m+o.s.size)+o.t.size))) rfl (fun W a=>by rfl) rfl ?_;refine aK (by kernel_rfl) ?_ _;have e:=f.drew;generalize IntKind.i64.wrap (IntKind.i64.wrap (m+o.s.size)+o.t.size)=g at*;clear l p c;generalize wr.drew=y at*
   by_cases r:16384<g
   ·go_wp2;go_ret;exact⟨false,rfl,(fun h=>by cases h),e⟩
   ·have u:decide (16384<g)=false:=by simpa using r
    go_wp2;go_roundw
    case rel=>exact⟨k+1,g,by omega,by go_num,rfl,e⟩
    case measure=>simp[intOf];omega
  ·have q:¬(k:Int)<(os.length:Int):=by omega
   go_wp2;go_ret;exact⟨true,rfl,fun _=>by omega,f⟩
theorem IsI.list:∀{xs:List Value},(∀v∈xs,IsI v)->∃ms,xs=ints ms
 | [],_=>⟨[],rfl⟩
 |v::xs,h=>by
  obtain⟨x,rfl⟩:=h v (by simp);obtain⟨ms,rfl⟩:=IsI.list fun u hu=>h u (aq _ hu);exact⟨x::ms,rfl⟩
theorem spop:(prog.info? 152).map (·.size)=some 1:=by kernel_rfl
def TS(q a ob:Nat)(R:Rc)(s:Value)(ocs:Array Value)(W:World):Prop:=LD W q a R s/\W.heap[ob]?=some (.cells ocs 64 (0,0))
section
variable {I:yB} {N Bs p j i:Nat} {w w1 w2:World} {ds:List Dk} {d:Dk} {R:Rc} {r:Rk} {K:Nat} {D E:Dv}
theorem DX.dev(h:DX I N w d R r K D)(hk:y6 [d.a] w w1)(hd:DQ w1 d.a d.bv d.n d.cv E)(e1:E.L=D.L)(e2:E.q=D.q)(e3:E.t=D.t):DX I N w1 d R r K E:=by
 have c:∀y∈ [d.a],y∈d.foot:=fun y b=>by simp at b;subst b;exact QK MW
 refine⟨hk.get h.ld (by simpa using ne_a h.off),h.rn,h.rk.kept hk (Wr.nom (h.wr c)),hd,h.ds.same e1 e2,h.bk,by rw[e3];exact h.t0,by rw[e3];exact h.t1,h.bm,h.bw,fun s o g=> ?_⟩;obtain⟨e,j,f,k,p,u,v,x⟩:=h.st s o g;have i:LT w d.a:=⟨_,_,_,h.dq.d,by decide⟩
 have l:=I.same (I.kept e hk (fun y b=>by simp at b;subst b;exact I.ne e i) (fun y b=>by simp at b;subst b;exact Or.inl i)) e1 e2;obtain⟨z,A,B⟩:=j.both I e (bv:=d.bv) (cv:=d.cv) (by rw[f,k];exact h.dq) (hk.mono (fun y b=>by simp at b;subst b;rw[f];exact az _ MW));exact⟨l,⟨z,A,B,j.m⟩,f,k,p,u,v,x⟩
theorem OutD(h:WI I N Bs w p ds j)(hi:ds[i]?=some d)(k1:y6 [] w w1)(hl:ds.length<=N)(hj:j<=N)(oS:d.n<1000)(hx:DX I N w2 d R r K E)(hk:y6 [d.a] w1 w2):Q0 I Bs p N true w (.returned (.bool true)) w2:=by
 obtain⟨e,c⟩:=(h.kept k1).disk i d d hi (hk.mono fun y b=>by simp at b;subst b;exact QK MW) ⟨oS,R,r,K,E,hx⟩ rfl (fun y b=>Or.inl b);exact⟨rfl,_,j,e.mono (cG _),by simp;omega,by omega,(k1.belowB h.size (by simp)).trans c⟩
theorem OutN{a1:Nat}{tq:Value}(h:WI I N Bs w p ds j)(hi:ds[i]?=some d)(k1:y6 [] w w1)(hl:ds.length<=N)(hj:j<=N)(oS:d.n<1000)(hk:y6 [d.q] w1 w2)(ha:w1.heap.size<=a1)(hb:∀y,tq.ownBlock=some y->w1.heap.size<=y)(hx:DX I (N+1) w2 ⟨d.q,a1,tq,.slice none 0 0,d.n,none⟩ R r K E):Q0 I Bs p N true w (.returned (.bool true)) w2:=by
 obtain⟨c,b⟩:=((h.kept k1).mono (cG N)).disk i d ⟨d.q,a1,tq,.slice none 0 0,d.n,none⟩ hi (hk.mono MK) ⟨oS,R,r,K,E,hx⟩ rfl (fun y a=>by
  rcases Qa a with rfl|a|a
  ·exact Or.inl (QJ d)
  ·rcases an.1 a with rfl|a
   ·exact Or.inr ha
   ·simp[Value.ownBlock]at a;exact Or.inr (hb y a)
  ·cases a)
 exact⟨rfl,_,j,c,by simp;omega,by omega,(k1.belowB h.size (by simp)).trans b⟩
end
theorem QgL(I:yB)(p:Nat)(K X A B:Int)(nM:5<=K)(iG:K<=9)(s t:ByteArray)(Bs j N:Nat)(ds:List Dk)(w:World)(h:WI I N Bs w p ds j)(hlen:0<ds.length)(hl:ds.length<=N)(hj:j<=N)(hN:N<=19000)(DV:-9223372036854775808<=X)(DW:X<=9223372036854775807)(Ly:-9223372036854775808<=A)(EK:A<=9223372036854775807)(hB1:-9223372036854775808<=B)(lq:B<=9223372036854775807):
  Calls prog 129 #[.pointer (some ⟨p,0,none⟩),.agg (opc K X A B s t)] w (Q0 I Bs p N true w):=by
 obtain⟨kv,G,v,cur,xs,h1,wu,mO,h2,h3,h4⟩:=h.slots hlen;obtain⟨d,hd⟩:∃d,ds[pk X ds.length]?=some d:=⟨_,aa (NR X ds.length hlen)⟩
 have dW:=mO _ d hd;have xz:=yt h1;have k1:=(y6.refl [] w).alloc (.cells (opc K X A B s t) 64);have n1:=af w (.cells (opc K X A B s t) 64);have H:PS w.heap.size p G kv (.slice (some ⟨G,0,none⟩) ds.length v) (opc K X A B s t) cur (w.alloc (.cells (opc K X A B s t) 64)).drew:=⟨k1.get h1 (by simp),n1,k1.get wu (by simp)⟩
 have Q:y6 [] w (w.alloc (.cells (opc K X A B s t) 64)).drew:=k1.drew;have xo:w.cell? ⟨p,1,none⟩=some (.slice (some ⟨G,0,none⟩) ds.length v):=y7 h1 rfl;have oO:=(h.kept Q).all d (ah hd);have hln:¬(ds.length:Int)=0:=by omega
 have hlb:((ds.length:Int)==0)=false:=by simpa using hln
 have hoc:(opc K X A B s t)[1]?=some (.int .i64 X):=rfl;have oQ:(opc K X A B s t)[0]?=some (.int .i64 K):=rfl;have oR:(opc K X A B s t)[2]?=some (.int .i64 A):=rfl;have AA:(opc K X A B s t)[3]?=some (.int .i64 B):=rfl;have n5:¬K<5:=by omega
 have n9:¬9<K:=by omega
 have d5:decide (K<5)=false:=by simp;omega
 have d9:decide (9<K)=false:=by simp;omega
 clear n1 mO;generalize AE:w.heap.size=ob at*;have Lz:Hid _:=AE;go_enter func129,ntmps129;unfold opc at*;go_wp2
 clear AE hln hlb;generalize JY:(#[.int .i64 K,.int .i64 X,.int .i64 A,.int .i64 B,.string s,.string t]:Array Value)=ocs at*;refine yo (PS ob p G kv (.slice (some ⟨G,0,none⟩) ds.length v) ocs cur) (by kernel_rfl) ?_;refine uh 0 (.pointer (some ⟨p,0,none⟩)) rfl (fun W f=>by rfl) H ?_;refine uh 1 (.pointer (some ⟨p,0,none⟩)) rfl (fun W f=>by rfl) H ?_;refine uh 2 (.pointer (some ⟨p,1,none⟩)) rfl (fun W f=>by rfl) H ?_;refine uh 3 (.slice (some ⟨G,0,none⟩) ds.length v) rfl (fun W f=>y9 102 (.tmp 26) rfl ⟨p,1,none⟩ rfl _ (yh underlying102 rfl (y7 f.1 rfl))) H ?_;refine uh 4 (.pointer (some ⟨ob,1,none⟩)) rfl (fun W f=>by rfl) H ?_;refine uh 5 (.int .i64 X) rfl (fun W f=>y9 3 (.tmp 28) rfl ⟨ob,1,none⟩ rfl _ (yh underlying3 rfl (y7 f.2.1 hoc))) H ?_;refine uh 6 (.pointer (some ⟨p,0,none⟩)) rfl (fun W f=>by rfl) H ?_;refine uh 7 (.pointer (some ⟨p,0,none⟩)) rfl (fun W f=>by rfl) H ?_;refine uh 8 (.pointer (some ⟨p,1,none⟩)) rfl (fun W f=>by rfl) H ?_;refine uh 9 (.slice (some ⟨G,0,none⟩) ds.length v) rfl (fun W f=>y9 102 (.tmp 32) rfl ⟨p,1,none⟩ rfl _ (yh underlying102 rfl (y7 f.1 rfl))) H ?_;refine uh 10 (.int .i64 ds.length) rfl (fun W f=>gF (.tmp 33) 102 148 rfl _ _ _ rfl underlying102) H ?_;refine yi (i:=11) (by kernel_rfl) (yp rfl (by rfl) 97 #[.int .i64 X,.int .i64 ds.length] (yn _ _ _ rfl _ (by simp[Act.eval]) (RI _ _)) _ (Rl X ds.length _ hlen (by omega) DV DW) ?_);rintro e W5⟨rfl,rfl⟩;refine⟨_,rfl,H,?_⟩;simp only[zz];refine uh 12 (.pointer (some ⟨G,pk X ds.length,none⟩)) rfl (fun W f=>yc 102 (.tmp 27) (.tmp 35) rfl G 0 ds.length v (pk X ds.length) 1 rfl rfl 148 underlying102 spl (NR X ds.length hlen) _ (by omega)) H ?_;refine uh 13 (.pointer (some ⟨d.q,0,none⟩)) rfl (fun W f=>y9 148 (.tmp 36) rfl ⟨G,pk X ds.length,none⟩ rfl _ (yh underlying148 rfl (y7 f.2.2 dW))) H ?_;refine uh 14 (.pointer (some ⟨d.q,0,none⟩)) rfl (fun W f=>by rfl) H ?_;refine aK (by kernel_rfl) ?_ _;generalize(w.alloc (.cells ocs 64)).drew=w1 at*;obtain⟨⟨oS,R,r,KK,D,u⟩,bf⟩:=oO;have q1:=u.ld;have xq:=u.dq;have HX:Hid (DX I N w1 d R r KK D):=u;have oF:=u.rn;clear u;generalize JZ:Mh d.st=V at q1;clear JZ;have DU:w1.cell? ⟨ob,0,none⟩=some (.int .i64 K):=y7 H.2.1 oQ;have LA:w1.cell? ⟨ob,2,none⟩=some (.int .i64 A):=y7 H.2.1 oR;have JM:w1.cell? ⟨ob,3,none⟩=some (.int .i64 B):=y7 H.2.1 AA;have LB:w1.cell? ⟨d.q,0,none⟩=some (.pointer (some ⟨d.a,0,none⟩)):=y7 q1 rfl;have HO2:Hid _:=oR;clear xo oQ oR AA hoc dW n5 n9 d5 d9;have By:Hid (R.n=d.n):=oF;clear oF;have wk:K=5\/K=6\/K=7\/K=8\/K=9:=by omega
 clear nM iG;rcases wk with rfl|rfl|rfl|rfl|rfl
 ·go_wp2_with(first|(go_at_call 160;refine(MJ _ _ (by assumption) (by assumption)).mono ?_;rintro e F⟨rfl,rfl⟩)|(go_at_call 29;refine(Q0Z d.a d.bv d.n d.cv D _ xq oS).mono ?_;rintro e w2⟨rfl,E⟩;have q2:LD w2 d.q d.a R (.pointer V):=E.get q1 (by simp);have LC:w2.cell? ⟨d.q,1,none⟩=some (.int .i64 d.n):=(by rw[<-By.out];exact y7 q2 rfl))|(go_at_call 128;refine(Qgp d.n D.L _ oS xq.l).mono ?_;rintro e w3⟨a,g,rfl,fF,Gh,iJ,hk3⟩))
  have c:CS p d.q d.a R kv (.slice (some ⟨G,0,none⟩) ds.length v) (.pointer V) w3.drew:=⟨hk3.get (E.get H.1 (by simp)) (by simp),hk3.get q2 (by simp)⟩
  have k03:y6 [] w w3.drew:=((Q.trans E).trans hk3).drew;have Ea:DQ w3.drew a (.slice (some ⟨g,0,none⟩) d.n d.n) d.n (.slice none 0 0) (.new D.L):=fF.k0 ((y6.refl [] w3).drew);have DA:=hk3.size;have Au:y6 [] w3 w3.drew:=(y6.refl [] w3).drew;have mi:=Q.size;have lP:=E.size;refine gu (CS p d.q d.a R kv (.slice (some ⟨G,0,none⟩) ds.length v) (.pointer V)) 16 (by kernel_rfl) ?_;have hz3:w3.drew.heap.size=w3.heap.size:=rfl;generalize w3.drew=J at*;refine uk 0 (.pointer (some ⟨p,0,none⟩)) rfl (fun W f=>by rfl) c ?_;refine uk 1 (.pointer (some ⟨p,0,none⟩)) rfl (fun W f=>by rfl) c ?_;refine uk 2 (.pointer (some ⟨p,0,none⟩)) rfl (fun W f=>by rfl) c ?_;refine uk 3 (.pointer (some ⟨p,1,none⟩)) rfl (fun W f=>by rfl) c ?_;refine uk 4 (.slice (some ⟨G,0,none⟩) ds.length v) rfl (fun W f=>y9 102 (.tmp 63) rfl ⟨p,1,none⟩ rfl _ (yh underlying102 rfl (y7 f.1 rfl))) c ?_;refine uk 5 (.pointer (some ⟨a,0,none⟩)) rfl (fun W f=>by rfl) c ?_;refine uk 6 (.pointer (some ⟨d.q,0,none⟩)) rfl (fun W f=>by rfl) c ?_;refine uk 7 (.pointer (some ⟨d.q,0,none⟩)) rfl (fun W f=>by rfl) c ?_;refine uk 8 (.pointer (some ⟨d.q,1,none⟩)) rfl (fun W f=>by rfl) c ?_;refine uk 9 (.agg R.cs) rfl (fun W f=>y9 151 (.tmp 68) rfl ⟨d.q,1,none⟩ rfl _ f.2.load) c ?_;refine uk 10 (.agg (#[.pointer (some ⟨a,0,none⟩),.int .i64 R.n,R.may,.bool R.em,R.were,.bool R.wild,.bool R.bit,.pointer none]:Array Value)) rfl (fun W f=>QU 154 (.tmp 65) (.tmp 69) 0 1 rfl _ _ _ rfl rfl (Qgq _ _ _)) c ?_;have z:=c.kept ((y6.refl [] J).alloc (.cells (#[.pointer (some ⟨a,0,none⟩),.int .i64 R.n,R.may,.bool R.em,R.were,.bool R.wild,.bool R.bit,.pointer none]:Array Value) 154));refine qI (i:=11) (by kernel_rfl) (yX rfl rfl _ _ (j8 154 (.tmp 70) rfl (#[.pointer (some ⟨a,0,none⟩),.int .i64 R.n,R.may,.bool R.em,R.were,.bool R.wild,.bool R.bit,.pointer none]:Array Value) rfl) ⟨fun _=>z,?_⟩);simp only[zz];have q5:=af J (.cells (#[.pointer (some ⟨a,0,none⟩),.int .i64 R.n,R.may,.bool R.em,R.were,.bool R.wild,.bool R.bit,.pointer none]:Array Value) 154);have iC:=(y6.refl [] J).alloc (.cells (#[.pointer (some ⟨a,0,none⟩),.int .i64 R.n,R.may,.bool R.em,R.were,.bool R.wild,.bool R.bit,.pointer none]:Array Value) 154);have E3:(J.alloc (.cells (#[.pointer (some ⟨a,0,none⟩),.int .i64 R.n,R.may,.bool R.em,R.were,.bool R.wild,.bool R.bit,.pointer none]:Array Value) 154)).heap.size=J.heap.size+1:=by simp
  generalize hw5:J.alloc (.cells (#[.pointer (some ⟨a,0,none⟩),.int .i64 R.n,R.may,.bool R.em,R.were,.bool R.wild,.bool R.bit,.pointer none]:Array Value) 154)=C at*;clear hw5;obtain⟨ie,eI,hz1,eE,hz3⟩:=bu ipd;have nK:=Ov (P:=prog) C 102 148 (.pointer (some ⟨J.heap.size,0,none⟩)) ie (.pointer none) underlying102 eI hz1 rfl eE rfl;have k56:=(y6.refl [] C).alloc (.cells #[.pointer (some ⟨J.heap.size,0,none⟩)] 148);have S:=z.kept k56;refine qI (i:=12) (by kernel_rfl) (yX rfl rfl _ _ (yv 102 1 (.tmp 71) rfl (.pointer (some ⟨J.heap.size,0,none⟩)) rfl _ nK) ⟨fun _=>S,?_⟩);simp only[zz];have xe:y6 [] w (C.alloc (.cells #[.pointer (some ⟨J.heap.size,0,none⟩)] 148)):=(k03.trans iC).trans k56;have oh:=yb h4 xe (by simp);have J0:=iC.size;have AY:=h.size;obtain⟨v8,w8,rN,fu,mh,-⟩:=cY (P:=prog) (C.alloc (.cells #[.pointer (some ⟨J.heap.size,0,none⟩)] 148)) Bs 102 102 148 ie _ 1 8 underlying102 eI hz1 eE hz3 rfl (by decide) (.slice (some ⟨G,0,none⟩) ds.length v) ds.length (ptrs ds) oh ⟨C.heap.size,0,none⟩ 1 1 [.pointer (some ⟨J.heap.size,0,none⟩)] rfl (cell_one_new _ _ _) (by simp[Value.oneCell']) (by unfold maxLen;omega) (by omega) (by simp;omega);obtain⟨p8,l8,q8,rfl⟩:=gJ fu;have k8:=yF mh (Value.slice (some ⟨G,0,none⟩) ds.length v).ownBlock.toList (by intro x u;rw[u];simp);have wP:∀{x:Nat} {t:TypeId},(∃cs fr,(C.alloc (.cells #[.pointer (some ⟨J.heap.size,0,none⟩)] 148)).heap[x]?=some (.cells cs t fr))->t≠148->x∉(Value.slice (some ⟨G,0,none⟩) ds.length v).ownBlock.toList:=by
   intro x t u ht hm;simp at hm;exact Qn u (gY oh hm) ht rfl
  have T:CS p d.q d.a R kv (.slice (some ⟨G,0,none⟩) ds.length v) (.pointer V) w8:=⟨k8.get S.1 (wP ⟨_,_,S.1⟩ (by decide)),k8.get S.2 (wP ⟨_,_,S.2⟩ (by decide))⟩
  refine qI (i:=13) (by kernel_rfl) (yX rfl rfl _ w8 (jl (.tmp 64) (.tmp 72) 102 rfl (.slice (some ⟨G,0,none⟩) ds.length v) (.slice (some ⟨C.heap.size,0,none⟩) 1 1) rfl rfl _ rN) ⟨fun _=>T,?_⟩);simp only[zz];refine qI (i:=14) (by kernel_rfl) (yX rfl rfl (.pointer (some ⟨p,0,none⟩)) w8 rfl ⟨fun _=>T,?_⟩);simp only[zz];refine qI (i:=15) (by kernel_rfl) (yX rfl rfl (.pointer (some ⟨p,1,none⟩)) w8 rfl ⟨fun _=>T,?_⟩);simp only[zz];refine qI (i:=16) (by kernel_rfl) (qo rfl rfl _ (yK 102 (.tmp 75) (.tmp 73) rfl ⟨p,1,none⟩ rfl (.slice p8 l8 q8) rfl (qR Qgr rfl T.1 (by simp))) ⟨fun hne=>absurd rfl hne,?_⟩);simp only[zz];refine gq (by kernel_rfl) ?_ _;have k9:y6 [p] w8 (w8.setCell ⟨p,1,none⟩ (.slice p8 l8 q8)):=(y6.refl _ _).setCell (Or.inl (by simp)) _;have rK:=yf (i:=1) (.slice p8 l8 q8) T.1;have mN:=yb fu k9 (by intro b hb;simp;exact Qn (gY fu hb) ⟨_,_,T.1⟩ (by decide));have vV:y6 (p::(Value.slice (some ⟨G,0,none⟩) ds.length v).ownBlock.toList) (C.alloc (.cells #[.pointer (some ⟨J.heap.size,0,none⟩)] 148)) (w8.setCell ⟨p,1,none⟩ (.slice p8 l8 q8)):=(k8.mono (by intro x u;exact aq _ u)).trans (k9.mono (by intro x u;simp at u;subst u;simp));have xp:y6 [] F (C.alloc (.cells #[.pointer (some ⟨J.heap.size,0,none⟩)] 148)):=(((E.trans hk3).trans Au).trans iC).trans k56;have u:=HX.out;have oO:DI I N (C.alloc (.cells #[.pointer (some ⟨J.heap.size,0,none⟩)] 148)) ⟨J.heap.size,a,.slice (some ⟨g,0,none⟩) d.n d.n,.slice none 0 0,d.n,none⟩:=
   ⟨oS,R,r,KK,.new D.L,⟨k56.get q5 (by simp),By.out,u.rk.kept xp (NoM.nil _),(Ea.k0 iC).k0 k56,u.ds.pick (by have:=u.bk;omega) (Sr.none _ _),u.bk,by simp[Dv.new],by simp[Dv.new],u.bm,u.bw,by intro s o O;cases O⟩⟩
  obtain⟨hI,hB⟩:=(h.kept xe).more S.1 oh (yb h2 xe (by simp)) h3 vV rK ⟨J.heap.size,a,.slice (some ⟨g,0,none⟩) d.n d.n,.slice none 0 0,d.n,none⟩ (by simpa[ptrs]using mN) oO (by
   intro y Y;simp[Dk.foot,Zr,yk,Value.ownBlock]at Y;rcases Y with rfl|rfl|rfl<;>omega) (by
   intro e he y Y u;have:=((h.all e he).1.foot y Y).lt;simp[Dk.foot,Zr,yk,Value.ownBlock]at u;rcases u with rfl|rfl|rfl<;>omega)
  clear rN mh fu T k8 k9 rK mN vV nK S z c oO q5;go_wp2;go_ret;exact⟨rfl,_,j,hI.mono (cG _),by simp;omega,by omega,(xe.belowB h.size (by simp)).trans hB⟩
 ·go_wp2_with(first|(go_at_call 160;refine(MJ _ _ (by assumption) (by assumption)).mono ?_;rintro e F⟨rfl,rfl⟩)|(go_at_call 27;refine(Qea d.a d.bv d.n d.cv D _ _ xq).mono ?_;rintro e w2⟨rfl,Eb,E⟩))
  go_ret;exact OutD h hd Q hl hj oS (HX.out.dev E Eb rfl rfl rfl) E
 ·go_wp2_with(first|(go_at_call 160;refine(MJ _ _ (by assumption) (by assumption)).mono ?_;rintro e F⟨rfl,rfl⟩)|(go_at_call 161;refine(Qe9 d.a d.bv d.n d.cv D _ _ _ xq).mono ?_;rintro e w2⟨rfl,Eb,E⟩))
  go_ret;exact OutD h hd Q hl hj oS (HX.out.dev E Eb rfl rfl rfl) E
 ·go_wp2_with(first|(go_at_call 160;refine(MJ _ _ (by assumption) (by assumption)).mono ?_;rintro e F⟨rfl,rfl⟩))
  have U:y6 [] F F.drew:=(y6.refl [] F).drew;have c:CS p d.q d.a R kv (.slice (some ⟨G,0,none⟩) ds.length v) (.pointer V) F.drew:=⟨U.get H.1 (by simp),U.get q1 (by simp)⟩
  have Ec:=xq.k0 U;obtain⟨ms,rfl⟩:=IsI.list h3;have hml:ms.length=j:=by have:=h2.1;simpa[ints]using this
  have own4:F.drew.ownsRow 0 3 1 kv ms.length (ints ms):=by rw[hml];exact gT (yb h2 (Q.trans U) (by simp)) (ay _)
  have hql:D.q.length<=9223372036854775807:=by have:=HX.out.ds.ql;have:=HX.out.bk;omega
  refine gu (CS p d.q d.a R kv (.slice (some ⟨G,0,none⟩) ds.length v) (.pointer V)) 12 (by kernel_rfl) ?_;generalize F.drew=J at*;refine uk 0 (.pointer (some ⟨d.q,0,none⟩)) rfl (fun W f=>by rfl) c ?_;refine uk 1 (.pointer (some ⟨d.q,0,none⟩)) rfl (fun W f=>by rfl) c ?_;refine uk 2 (.pointer (some ⟨d.q,0,none⟩)) rfl (fun W f=>by rfl) c ?_;refine uk 3 (.pointer (some ⟨d.q,0,none⟩)) rfl (fun W f=>by rfl) c ?_;refine uk 4 (.pointer (some ⟨d.a,0,none⟩)) rfl (fun W f=>y9 26 (.tmp 98) rfl ⟨d.q,0,none⟩ rfl _ (yh underlying26 rfl (y7 f.2 rfl))) c ?_;refine uk 5 (.pointer (some ⟨p,0,none⟩)) rfl (fun W f=>by rfl) c ?_;refine uk 6 (.pointer (some ⟨p,0,none⟩)) rfl (fun W f=>by rfl) c ?_;refine uk 7 (.pointer (some ⟨p,0,none⟩)) rfl (fun W f=>by rfl) c ?_;refine uk 8 kv rfl (fun W f=>y9 24 (.tmp 102) rfl ⟨p,0,none⟩ rfl _ (yh underlying24 rfl (y7 f.1 rfl))) c ?_;refine qI (i:=9) (by kernel_rfl) (yp rfl (by rfl) 24 #[.pointer (some ⟨d.a,0,none⟩),kv] (yn _ _ _ rfl _ (by simp[Act.eval]) (qy func24 (by kernel_rfl) (by kernel_rfl) _ _)) _ (RF d.a d.bv d.n d.cv D kv ms _ Ec oS hql own4) ?_);rintro e C⟨L1,M,tq,rfl,oV,Z⟩;have z:=c.kept Z.k;refine⟨_,rfl,fun _=>z,?_⟩;simp only[zz];refine qI (i:=10) (by kernel_rfl) (yX rfl rfl (.pointer (some ⟨d.q,0,none⟩)) C rfl ⟨fun _=>z,?_⟩);simp only[zz];refine qI (i:=11) (by kernel_rfl) (yX rfl rfl (.pointer (some ⟨d.q,0,none⟩)) C rfl ⟨fun _=>z,?_⟩);simp only[zz];refine qI (i:=12) (by kernel_rfl) (qo rfl rfl _ (yK 26 (.tmp 106) (.tmp 104) rfl ⟨d.q,0,none⟩ rfl (.pointer (some ⟨M,0,none⟩)) rfl (qR spd rfl z.2 (by simp[ldl]))) ⟨fun hne=>absurd rfl hne,?_⟩);simp only[zz];refine gq (by kernel_rfl) ?_ _;have q5:=z.2;have q6:LD (C.setCell ⟨d.q,0,none⟩ (.pointer (some ⟨M,0,none⟩))) d.q M R (.pointer V):=yf (i:=0) _ q5;have k6:y6 [d.q] C (C.setCell ⟨d.q,0,none⟩ (.pointer (some ⟨M,0,none⟩))):=(y6.refl _ _).setCell (Or.inl (by simp)) _;generalize C.setCell ⟨d.q,0,none⟩ (.pointer (some ⟨M,0,none⟩))=w6 at*;clear c z;go_wp2_with(first|(refine yC rfl 152 (.tmp 109) (.const (.pointer none)) rfl d.q 7 rfl (.pointer none) rfl 154 _ q6 spop rfl (by simp[ldl]) ?_;intro w7 m7 k7;have q7:LD w7 d.q M R (.pointer none):=m7;clear m7))
  go_ret;have u:=HX.out;have hC:y6 [d.q] C w7:=k6.trans k7;have k5:y6 [] F C:=U.trans Z.k;have kF:y6 [d.q] F w7:=(k5.mono (by simp)).trans hC;have J1:=Z.d.kept hC (fun y Y hm=>by simp at hm;subst hm;exact q5.off Z.d Y);have h1:=u.mono (cG N);exact OutN h hd Q hl hj oS kF (av U.size Z.a) (fun y Y=>av U.size (Z.b y Y)) ⟨q7,By.out,u.rk.kept kF (Wr.nom (u.wr MK)),J1,u.ds.pick (by have:=u.bk;omega) oV,h1.bk,by simp[Dv.new],by simp[Dv.new];omega,h1.bm,h1.bw,by intro s o O;cases O⟩
 ·go_wp2_with(first|(go_at_call 160;refine(MJ _ _ (by assumption) (by assumption)).mono ?_;rintro e F⟨rfl,rfl⟩))
  have U:y6 [] F F.drew:=(y6.refl [] F).drew;have c:TS d.q d.a ob R (.pointer V) ocs F.drew:=⟨U.get q1 (by simp),U.get H.2.1 (by simp)⟩
  have Ec:=xq.k0 U;have hql:D.q.length<=1000000:=by have:=HX.out.ds.ql;have:=HX.out.bk;omega
  refine gu (TS d.q d.a ob R (.pointer V) ocs) 10 (by kernel_rfl) ?_;generalize F.drew=J at*;refine uk 0 (.pointer (some ⟨d.q,0,none⟩)) rfl (fun W f=>by rfl) c ?_;refine uk 1 (.pointer (some ⟨d.q,0,none⟩)) rfl (fun W f=>by rfl) c ?_;refine uk 2 (.pointer (some ⟨d.q,0,none⟩)) rfl (fun W f=>by rfl) c ?_;refine uk 3 (.pointer (some ⟨d.q,0,none⟩)) rfl (fun W f=>by rfl) c ?_;refine uk 4 (.pointer (some ⟨d.a,0,none⟩)) rfl (fun W f=>y9 26 (.tmp 115) rfl ⟨d.q,0,none⟩ rfl _ (yh underlying26 rfl (y7 f.1 rfl))) c ?_;refine uk 5 (.pointer (some ⟨ob,2,none⟩)) rfl (fun W f=>by rfl) c ?_;refine uk 6 (.int .i64 A) rfl (fun W f=>y9 3 (.tmp 117) rfl ⟨ob,2,none⟩ rfl _ (yh underlying3 rfl (y7 f.2 HO2.out))) c ?_;refine qI (i:=7) (by kernel_rfl) (yp rfl (by rfl) 162 #[.pointer (some ⟨d.a,0,none⟩),.int .i64 A] (yn _ _ _ rfl _ (by simp[Act.eval]) (qy func162 (by kernel_rfl) (by kernel_rfl) _ _)) _ (Q1h d.a d.bv d.n d.cv D A _ Ec oS hql (by assumption) (by assumption)) ?_);rintro e C⟨L1,L2,M,tq,rfl,oV,iB,Z⟩;have z:TS d.q d.a ob R (.pointer V) ocs C:=⟨Z.k.get c.1 (by simp),Z.k.get c.2 (by simp)⟩
  refine⟨_,rfl,fun _=>z,?_⟩;simp only[zz];refine qI (i:=8) (by kernel_rfl) (yX rfl rfl (.pointer (some ⟨d.q,0,none⟩)) C rfl ⟨fun _=>z,?_⟩);simp only[zz];refine qI (i:=9) (by kernel_rfl) (yX rfl rfl (.pointer (some ⟨d.q,0,none⟩)) C rfl ⟨fun _=>z,?_⟩);simp only[zz];refine qI (i:=10) (by kernel_rfl) (qo rfl rfl _ (yK 26 (.tmp 121) (.tmp 119) rfl ⟨d.q,0,none⟩ rfl (.pointer (some ⟨M,0,none⟩)) rfl (qR spd rfl z.1 (by simp[ldl]))) ⟨fun hne=>absurd rfl hne,?_⟩);simp only[zz];refine gq (by kernel_rfl) ?_ _;have q5:=z.1;have q6:LD (C.setCell ⟨d.q,0,none⟩ (.pointer (some ⟨M,0,none⟩))) d.q M R (.pointer V):=yf (i:=0) _ q5;have k6:y6 [d.q] C (C.setCell ⟨d.q,0,none⟩ (.pointer (some ⟨M,0,none⟩))):=(y6.refl _ _).setCell (Or.inl (by simp)) _;generalize C.setCell ⟨d.q,0,none⟩ (.pointer (some ⟨M,0,none⟩))=w6 at*;clear c z;have u:=HX.out;have k5:y6 [] F C:=U.trans Z.k;have J2:y6 [d.q] F w6:=(k5.mono (by simp)).trans k6;have J3:=u.rk.kept J2 (Wr.nom (u.wr MK));obtain⟨⟨vs,mv,mf⟩,em,⟨us,uv,uf⟩,wd,bt⟩:=J3;obtain⟨pw,lw,qw,ewr⟩:=gJ uv;have om:=ML.one mf;have ou:=ML.one uf;have bm:=u.bm;have bw:=u.bw;have Gt:vs.length<=1000000000:=by rw[mf.1];have:=Ng bm (by omega);omega
  have bw':us.length<=1000000000:=by rw[uf.1];omega
  have HMF:Hid (F2 _ vs r.may):=mf;have Gu:Hid (F2 _ us r.were):=uf;have J4:Hid _:=uv;have Br:Hid (R.wild=r.wild/\R.bit=r.bit):=⟨wd,bt⟩
  have HHX:Hid (DX I N F d R r KK D):=u;have J5:Hid _:=iB;have Bz:Hid (Aft L2 d.n M tq J C):=Z;have Gv:Hid (R.were=.slice pw lw qw):=ewr;have J6:Hid _:=oV;have K5:Hid (y6 [] F C):=k5;have Ed:Hid (Calls _ _ _ _ _):=QfA R.n R.may R.were vs us R.em R.wild R.bit w6 mv uv om ou Gt bw';clear mf uf uv mv om ou em wd bt u iB Z oV k5 bm bw Gt bw' ewr;go_wp2_with(first|(refine y8 rfl 151 (.tmp 125) rfl ⟨d.q,1,none⟩ rfl _ q6.load ?_)|(go_at_call 163;refine Ed.out.mono ?_;rintro e w7⟨v1,rfl,m7,k7⟩;obtain⟨p1,l1,ur,rfl⟩:=gJ m7;have q7:LD w7 d.q M R (.pointer V):=k7.get q6 (by simp);have O:=q7.store R.n true (R.wild||R.bit) true p1 pw l1 ur lw qw;have q8:=q7.stored ⟨R.n,.slice p1 l1 ur,true,.slice pw lw qw,R.wild||R.bit,true⟩;have k8:y6 [d.q] w7 (w7.setRow d.q (ldl M ⟨R.n,.slice p1 l1 ur,true,.slice pw lw qw,R.wild||R.bit,true⟩ (.pointer V)).toArray):=(y6.refl _ _).setRow (Or.inl (by simp)) _;generalize sq:w7.setRow d.q (ldl M ⟨R.n,.slice p1 l1 ur,true,.slice pw lw qw,R.wild||R.bit,true⟩ (.pointer V)).toArray=w8 at*;clear sq;rw[<-Gv.out]at O)|(refine gB rfl 151 (.tmp 129) (.tmp 127) rfl ⟨d.q,1,none⟩ rfl _ rfl _ O ?_)|(refine yC rfl 152 (.tmp 132) (.const (.pointer none)) rfl d.q 7 rfl (.pointer none) rfl 154 _ q8 spop rfl (by simp[ldl]) ?_;intro w9 m9 k9;have q9:LD w9 d.q M ⟨R.n,.slice p1 l1 ur,true,.slice pw lw qw,R.wild||R.bit,true⟩ (.pointer none):=m9;clear m9))
  go_ret;have u:=HHX.out;have Aq:y6 [d.q] w7 w9:=k8.trans k9;have Gw:y6 [d.q] C w9:=(k6.trans (k7.mono (by simp))).trans Aq;have kF:y6 [d.q] F w9:=(K5.out.mono (by simp)).trans Gw;have Gx:NoM w7 [d.q]:=Q9 q7 (by decide) (by decide);have J7:=Bz.out.d.kept Gw (fun y Y hm=>by simp at hm;subst hm;exact q5.off Bz.out.d Y);have h1:=u.mono (cG N);have hmm:∀m∈r.may,m∈r.may++r.were:=fun m hm=>aw _ hm;have kD:Ds d.n ⟨r.may++r.were,true,r.were,r.wild||r.bit,true⟩ KK (.new L2):=by
   have hp:=u.ds.pick (by have:=u.bk;omega) J6.out;rcases J5.out with e|e
   ·rw[e];exact hp.more hmm (fun _ _=>Or.inl rfl) (fun h=>by cases h) (fun h=>by simp at h;exact h.1)
   ·exact hp.flip (by have:=u.bk;omega) e hmm rfl rfl (fun h=>by simpa using h)
  have LG:=HMF.out;have hml:ML w9 (.slice p1 l1 ur) (r.may++r.were):=by
   have h7:ML w7 (.slice p1 l1 ur) (r.may++r.were):=⟨vs++us,m7,F2.append (F2.mono HMF.out fun a _ b h=>⟨h.1.kept k7 (by simp),h.2⟩) (F2.mono Gu.out fun a _ b h=>⟨h.1.kept k7 (by simp),h.2⟩)⟩
   exact h7.kept Aq Gx
  have hwl:ML w9 (.slice pw lw qw) r.were:=by
   rw[<-Gv.out];exact(ML.kept ⟨us,J4.out,Gu.out⟩ k7 (NoM.nil _)).kept Aq Gx
  refine OutN (R:=⟨R.n,.slice p1 l1 ur,true,.slice pw lw qw,R.wild||R.bit,true⟩) (r:=⟨r.may++r.were,true,r.were,r.wild||r.bit,true⟩) (K:=KK) h hd Q hl hj oS kF (av U.size Bz.out.a) (fun y Y=>av U.size (Bz.out.b y Y)) ⟨q9,By.out,⟨hml,rfl,hwl,by rw[Br.out.1,Br.out.2],rfl⟩,J7,kD,h1.bk,by simp[Dv.new],by simp[Dv.new];omega,?_,h1.bw,by intro s o O;cases O⟩;have b1:=u.bm;have b2:=u.bw;rw[ai,bT];omega
theorem outs(I:yB){K:Int}(h5:5<=K)(h9:K<=9):OutK I K:=fun p X A B s t d j N e w h f k i g c a b=>
 QgL I p K X A B h5 h9 s t d j N e w h f k i g c.1 c.2 a.1 a.2 b.1 b.2
theorem QgM(I:yB)(p:Nat)(X A B:Int)(s t:ByteArray)(Bs j N:Nat)(ds:List Dk)(w:World)(h:WI I N Bs w p ds j)(hl:ds.length<=N)(hj:j<=N)(hN:N<=20000):
  Calls prog 96 #[.pointer (some ⟨p,0,none⟩),.agg (opc 4 X A B s t)] w (Q0 I Bs p N true w):=by
 obtain⟨kv,dv,xs,h1,h2,h3,wi⟩:=h.ex;obtain⟨q,n,m,rfl⟩:=gJ wi;obtain⟨ie,eI,R,eE,S⟩:=bu ipd;have xz:=yt h1;have k1:=(y6.refl [] w).alloc (.cells (opc 4 X A B s t) 64);have k2:=(y6.refl [] (w.alloc (.cells (opc 4 X A B s t) 64))).alloc (newd (nb A));have U:=af (w.alloc (.cells (opc 4 X A B s t) 64)) (newd (nb A));rw[ak]at U;have DT:Hid (y6 [] w ((w.alloc (.cells (opc 4 X A B s t) 64)).alloc (newd (nb A)))):=k1.trans k2;have hz:((w.alloc (.cells (opc 4 X A B s t) 64)).alloc (newd (nb A))).heap.size=w.heap.size+2:=by simp
 have L:Hid _:=hz;generalize iD:(w.alloc (.cells (opc 4 X A B s t) 64)).alloc (newd (nb A))=w2 at*;have W:Hid _:=iD;unfold opc newd at W;unfold newd at U;clear iD k1 k2 hz;have Y:=h.size;unfold opc;go_enter func96,ntmps96;go_wp2_with(first|(go_at_call 127;refine(RW _ _).mono ?_;rintro e w'⟨rfl,rfl⟩)|(go_at_call 128;rw[W.out];refine(UN A s w2).mono ?_;rintro e K⟨a,bv,rfl,fF,Gh,⟨g,rfl,iJ⟩,z⟩;have q3:=z.get U (by simp);have f:=qR (P:=prog) (ty:=26) (j:=0) (v:=.pointer (some ⟨a,0,none⟩)) spd rfl q3 (by simp);have F:=yf (i:=0) (.pointer (some ⟨a,0,none⟩)) q3;have r:y6 [] w (K.setCell ⟨w.heap.size+1,0,none⟩ (.pointer (some ⟨a,0,none⟩))):=(DT.out.trans z).setCell (Or.inr (by simp)) _;have Au:y6 [w.heap.size+1] K (K.setCell ⟨w.heap.size+1,0,none⟩ (.pointer (some ⟨a,0,none⟩))):=(y6.refl _ _).setCell (Or.inl (by simp)) _;have E:=fF.k1 Au (by have:=L.out;simp[yk,Value.ownBlock];omega);generalize uV:K.setCell ⟨w.heap.size+1,0,none⟩ (.pointer (some ⟨a,0,none⟩))=w3b at*;clear uV)|(refine gB rfl 26 (.tmp 56) (.tmp 54) rfl ⟨w.heap.size+1,0,none⟩ rfl _ rfl _ f ?_)|(refine yC rfl 4 (.tmp 60) (.const (.bool true)) rfl (w.heap.size+1) 5 rfl (.bool true) rfl 154 _ F Zq rfl (by simp) ?_;intro k G Z;replace r:y6 [] w k:=r.trans2 Z (by intro x c;simp at c;subst c;right;omega);replace E:=E.k1 Z (by have:=L.out;simp[yk,Value.ownBlock];omega);clear F;have F:=G;have H:WC k p kv (.slice q n m):=r.get h1 (by simp);have BW:k.cell? ⟨p,1,none⟩=some (.slice q n m):=y7 H rfl;have d:=yb wi r (by simp);have b4:Bs<=k.heap.size:=av Y r.size)|(at_builtin;refine cK _ rfl (.tmp 65) (.tmp 67) 102 rfl Bs 148 ie _ 1 8 underlying102 eI R eE S rfl (by decide) (.slice q n m) ds.length (ptrs ds) rfl (d.alloc _) ⟨k.heap.size,0,none⟩ 1 1 [.pointer (some ⟨w.heap.size+1,0,none⟩)] rfl rfl (cell_one_new _ _ _) (by simp[Value.oneCell']) (by unfold maxLen;omega) (by omega) (by simp;omega) ?_;intro v5 u M mM _;obtain⟨p5,l5,G,rfl⟩:=gJ M;have k5:=yF mM (Value.slice q n m).ownBlock.toList (by intro x c;rw[c];simp);have C:=(y6.refl [] k).alloc (.cells #[.pointer (some ⟨w.heap.size+1,0,none⟩)] 148);have J:WC u p kv (.slice q n m):=k5.get (C.get H (by simp)) (by intro c;simp at c;exact Qn ⟨_,_,H⟩ (gY d c) (by decide) rfl);have tG:u.cell? ⟨p,1,none⟩=some (.slice q n m):=y7 J rfl;have f51:u.frozen? ⟨p,1,none⟩=false:=ax _ _ _ _ _ J;clear mM f))
 go_ret;have V:y6 [] w (k.alloc (.cells #[.pointer (some ⟨w.heap.size+1,0,none⟩)] 148)):=r.trans C;have hI:=h.kept V;have oO:DI I N (k.alloc (.cells #[.pointer (some ⟨w.heap.size+1,0,none⟩)] 148)) ⟨w.heap.size+1,a,.slice (some ⟨g,0,none⟩) (nb A) (nb A),.slice none 0 0,nb A,none⟩:=
  ⟨NO A,⟨nb A,.slice none 0 0,false,.slice none 0 0,true,false⟩,⟨[],false,[],true,false⟩,0,.new (LY (nb A) s.data.toList),⟨C.get F (by simp),rfl,⟨ML.nil _,rfl,ML.nil _,rfl,rfl⟩,E.k0 C,⟨E.l,(fun x c=>by cases c),ay _,fun h=>by cases h⟩,by omega,by simp[Dv.new],by simp[Dv.new],by simp,by simp,by intro s o f;cases f⟩⟩
 have Q:y6 (p::(Value.slice q n m).ownBlock.toList) (k.alloc (.cells #[.pointer (some ⟨w.heap.size+1,0,none⟩)] 148)) (u.setCell ⟨p,1,none⟩ (.slice p5 l5 G)):=
  (k5.mono (by intro x c;exact aq _ c)).setCell (Or.inl (by simp)) _
 have T:y6 [p] u (u.setCell ⟨p,1,none⟩ (.slice p5 l5 G)):=(y6.refl _ _).setCell (Or.inl (by simp)) _;have rJ:=yb M T (by intro b hb;simp;exact Qn (gY M hb) ⟨_,_,J⟩ (by decide));have eE:=L.out;obtain⟨sE,O⟩:=hI.more (C.get H (by simp)) (d.alloc _) (yb h2 V (by simp)) h3 Q (yf (i:=1) _ J) ⟨w.heap.size+1,a,.slice (some ⟨g,0,none⟩) (nb A) (nb A),.slice none 0 0,nb A,none⟩ (by simpa[ptrs]using rJ) oO (by
  intro y D;simp[Dk.foot,Zr,yk,Value.ownBlock]at D;rcases D with rfl|rfl|rfl<;>omega) (by
  intro e he y D c;have:=((h.all e he).1.foot y D).lt;simp[Dk.foot,Zr,yk,Value.ownBlock]at c;rcases c with rfl|rfl|rfl<;>omega)
 exact⟨rfl,_,j,sE.mono (cG _),by simp;omega,by omega,(V.belowB Y (by simp)).trans O⟩
theorem Tk(I:yB):LQ I 4:=by
 intro p X A B s t a j N b w h d c g i e f;exact Mw I p 4 X A B s t a N w h.size fun W k=>QgM I p X A B s t a j N b W (h.kept k) d c (by omega)
end Go.Proofs.YtcklgafpgdhnaaaGreatDoor
