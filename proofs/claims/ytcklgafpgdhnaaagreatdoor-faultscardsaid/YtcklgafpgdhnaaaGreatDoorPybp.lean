import Derived.Test.YtcklgafpgdhnaaaGreatDoorPybn
import Derived.Test.YtcklgafpgdhnaaaGreatDoorPybi
import Derived.Test.YtcklgafpgdhnaaaGreatDoorPybm
set_option maxRecDepth 100000
set_option maxHeartbeats 4000000
set_option linter.unusedSimpArgs false
set_option linter.unusedVariables false
set_option linter.unusedSectionVars false
open Go.Proofs.Tryz
namespace Go.Proofs.YtcklgafpgdhnaaaGreatDoor
open Go.RowKit
def ML(w:World)(v:Value)(ms:List (List Pr)):Prop:=∃vs,MV w v vs/\F2 (fun u m=>PL w 224 u m/\m.length<=20000) vs ms
variable {w:World}
theorem ML.one{vs:List Value}{ms:List (List Pr)}(h:F2 (fun u m=>PL w 224 u m/\m.length<=20000) vs ms):∀u∈vs,u.oneCell'=true:=by
 intro u hu;obtain⟨i,a⟩:=aU.1 hu;have b:i<ms.length:=by rw[<-h.1];exact(ae.1 a).1
 obtain⟨p,c,e⟩:=(h.2 i u _ a (aa b)).1.shape;rw[e];rfl
theorem ML.nil(w:World):ML w (.slice none 0 0) []:=⟨[],aM _ _ _ _,rfl,fun i a b h=>by simp at h⟩
def HasI(w:World)(k:Nat)(ms:List (List Pr))(l:List Pr)(cs:Array Value)(i:Value)(wr:World):Prop:=∃(j:Nat),j<=k/\i=.int .i64 j/\l∉ms.take j/\y6 [] w wr/\wr.heap[w.heap.size]?=some (.cells cs 151 (0,0))
def HasR(ms:List (List Pr))(l:List Pr)(w:World)(ev:Ending)(w':World):Prop:=∃r,ev=.returned (.bool r)/\(l∈ms->r=true)/\y6 [] w w'
theorem SP(n:Int)(may were vl:Value)(e wd b:Bool)(ms:List (List Pr))(l:List Pr)(w:World)(hm:ML w may ms)(hl:PL w 224 vl l)(bm:ms.length<=1000000000):
  Calls prog 165 #[.agg (yS n may e were wd b),vl] w (HasR ms l w):=by
 obtain⟨a,A,z⟩:=hm;have HL:Hid (a.length=ms.length):=z.1;have bv:a.length<=1000000000:=by rw[HL.out];exact bm
 clear bm;obtain⟨B,p,I⟩:=yZ A;have M:may=.slice B a.length p:=I;have X:=(y6.refl [] w).alloc (.cells (yS n may e were wd b) 151);have K:=af w (.cells (yS n may e were wd b) 151);have Q:Hid (MV w may a):=A;have P:Hid (F2 _ a ms):=z;have E:Hid _:=K;have J:∀wr,y6 [] w wr->wr.heap[w.heap.size]?=some (.cells (yS n may e were wd b) 151 (0,0))->wr.cell? ⟨w.heap.size,1,none⟩=some (.slice B a.length p):=fun wr _ h=>by rw[<-M];exact y7 h rfl
 have F:Hid _:=J;clear J A z I K;subst M;unfold yS at E F⊢;go_enter func165,ntmps165;go_wp2
 go_loopw [5] (fun i wr=>HasI w a.length ms l #[.int .i64 n,.slice B a.length p,.bool e,were,.bool wd,.bool b] i wr) (fun i _=>a.length-(intOf i).toNat)
 case atStart=>exact⟨0,ay _,rfl,(fun h=>by simp at h),X,E.out⟩
 case round=>
  obtain⟨j,hj,rfl,k,f,D⟩:=hrel;have c1:=F.out wr f D
  by_cases t:j<a.length
  ·obtain⟨g,R,S,T,V,H⟩:=P5 (yb Q.out f (by simp)) (by omega)
   cases T
   obtain⟨u,hu⟩:∃u,a[j]?=some u:=⟨_,aa t⟩
   obtain⟨m,hm⟩:∃m,ms[j]?=some m:=⟨_,aa (by have:=HL.out;omega)⟩
   have o:=P.out.2 j u m hu hm;have v:=o.1.kept f (by simp);have x:=hl.kept f (by simp);have cu:wr.cell? ⟨g,j,none⟩=some u:=y7 V (H j u hu);have th:(Instr.indexAt 149 (.slice (some ⟨g,0,none⟩) a.length p) (.int .i64 j)).run prog wr=.ok (.pointer (some ⟨g,j,none⟩)) wr:=jV 149 g 0 a.length p j 1 189 underlying149 smap t _ (by omega);have N:Hid _:=D;obtain⟨L,G,U⟩:=v.shape;subst U;clear D H;have Y:(j:Int)<(a.length:Int):=by omega
   by_cases s:m=l
   ·have q:decide (m=l)=true:=by simp[s]
    clear s;have y:Hid (∀W,y6 [] wr W->Calls prog 145 #[.slice L m.length G,vl] W fun e C=>e=.returned (.bool true)/\y6 [] W C):=fun W r=>by have:=Pb _ _ _ _ W (v.kept r (by simp)) (x.kept r (by simp)) (by have:=o.2;omega);rw[q]at this;exact this
    clear q v x o hl;go_wp2_with(first|(go_at_call 145;refine(y.out _ (y6.refl _ _)).mono ?_;rintro e Z⟨rfl,c⟩))
    go_ret;exact⟨true,rfl,fun _=>rfl,f.trans c⟩
   ·have q:decide (m=l)=false:=by simp[s]
    have O:Hid (¬m=l):=s;clear s;have y:Hid (∀W,y6 [] wr W->Calls prog 145 #[.slice L m.length G,vl] W fun e C=>e=.returned (.bool false)/\y6 [] W C):=fun W r=>by have:=Pb _ _ _ _ W (v.kept r (by simp)) (x.kept r (by simp)) (by have:=o.2;omega);rw[q]at this;exact this
    clear q v x o hl;go_wp2_with(first|(go_at_call 145;refine(y.out _ (y6.refl _ _)).mono ?_;rintro e Z⟨rfl,c⟩))
    go_roundw
    case rel=>
     refine⟨j+1,by omega,by go_num,?_,f.trans c,c.get N.out (by simp)⟩;rw[qe ms j m hm];intro d;rcases ar.1 d with d|d
     ·exact k d
     ·simp at d;exact O.out d.symm
    case measure=>simp[intOf];omega
  ·have ge:¬(j:Int)<(a.length:Int):=by omega
   go_wp2;go_ret;refine⟨false,rfl,fun d=> ?_,f⟩;rw[aJ (by have:=HL.out;omega)]at k;exact absurd d k
def TrR(n:Nat)(lk:Nat->List UInt8)(I:List Nat->World->Prop)(J:Bool->Ending->World->Prop)(us:List Nat)(root:Nat)(W:World)(e:Ending)(W':World):Prop:=
 ((∃u e8 x' h,rdU n lk n root us=some (u,e8)/\gc n yu yu u=some h/\e=.returned (.agg #[.string ⟨#[]⟩,.int .i64 (root:Nat),x'])/\UND W' (fun y=>W.heap.size<=y) n u x'/\I e8 W')\/∃b,J b e W'/\(b=true->∀u e8,rdU n lk n root us=some (u,e8)->gc n yu yu u=none))/\KA Tru W W'
theorem zTr(w:World):(Instr.alloc 82 true (.tuple #[])).run prog w=.ok (.pointer (some ⟨w.heap.size,0,none⟩)) (w.alloc (.cells #[.string ⟨#[]⟩,.int .i64 0,.nilIface] 82)):=by kernel_rfl
variable {n:Nat}{lk:Nat->List UInt8}
theorem QcT{fid:FuncId}{c1 c2:Value}{I:List Nat->World->Prop}{J:Bool->Ending->World->Prop}{B:Nat}(hL:Rdr fid c1 c2 n lk I J B)(hn:n<=1000)(us:List Nat)(root:Nat)(w:World)(hI:I us w)(hr0:root≠0)(hr:root<65536)(hB:B<=w.heap.size)
  (hfr:∀(us:List Nat) (W W':World) (S:List Nat),I us W->y6 S W W'->(∀y∈S,B<=y/\Tg W y 82)->I us W'):
  Calls prog 122 #[.int .i64 (root:Nat),lfv fid c1 c2] w (TrR n lk I J us root w):=by
 have z:Hid (∀W,y6 [] w W->Calls prog 155 #[.agg #[.string ⟨#[]⟩,.int .i64 (root:Nat),.nilIface],lfv fid c1 c2] W (KrR n lk I J n us (⟨#[]⟩,root) W)):=fun W K=>Sg hL n us (⟨#[]⟩,root) W (hL.fresh _ _ _ [] hI K (by simp)) (by omega) hr (av hB K.size);have F:∀W:World,(Instr.build 80 #[(1,.int .i64 (root:Nat))]).run prog W=.ok (.agg #[.string ⟨#[]⟩,.int .i64 (root:Nat),.nilIface]) W:=fun W=>by kernel_rfl
 have hz:((root:Int)==0)=false:=by simp;omega
 have X:¬((root:Int)=0):=by omega
 have k:=R4 n hn;clear hI;go_enter func122,ntmps122;go_wp2_with(first|(refine yj rfl 4 rfl 82 rfl _ (zTr _) ?_;intro w1 Z s q))
 refine(z.out _ s).mono ?_;rintro e d⟨⟨u,m,P,hu,rfl,f,O⟩|⟨b,i,F⟩,o⟩;rotate_left
 ·obtain⟨T,rfl⟩:=hL.jp _ _ _ i;exact⟨rfl,Or.inr ⟨b,i,fun Y u m h=>by rw[F Y]at h;cases h⟩,(KA.k0 s).trans o⟩
 have n2:=o.row _ _ _ _ trivial (by decide) Z;have G:=NI hu;obtain⟨V,l,⟨t,U,hm,he⟩,D⟩:=k _ u P yu yu d f G;have x:Hid (UND _ _ n u P/\I m d):=⟨f,O⟩
 have A:Hid (rdU n lk n root us=some (u,m)):=hu;have R:Hid (∀W,y6 [] d W->Calls prog V #[l,.string yu,.string yu] W (SdR (gc n yu yu u) W)):=D;have eS:=o.size;have M:KA Tru w d:=(KA.k0 s).trans o;clear f O hu D k z G;subst U;go_wp2_with(first|(refine yj rfl 5 rfl 80 rfl _ (zkid _) ?_;intro w3 n3 q3 fV)|(refine ye rfl 80 (.tmp 5) (.tmp 12) rfl d.heap.size #[.string ⟨#[]⟩,.int .i64 (root:Nat),.iface t l] rfl rfl 80 _ n3 stk rfl (qf (jb _ _ rfl)) ?_;intro v N q4;have C:y6 [] d v:=q3.trans2 q4 (by intro y c;simp at c;subst c;exact Or.inr (ag _));have c4:v.cell? ⟨d.heap.size,2,none⟩=some (.iface t l):=y7 N rfl))
 refine(R.out v C).mono ?_;rintro e w5⟨a,H⟩;have g:y6 [] d w5:=C.trans H
 cases j:gc n yu yu u with
 |none=>
  rw[j]at a;have i:=hL.jt _ _ _ _ x.out.2 a g;obtain⟨T,rfl⟩:=hL.jp _ _ _ i;refine⟨rfl,Or.inr ⟨true,i,fun _ u1 Fu E=> ?_⟩,M.trans (KA.k0 g)⟩;rw[A.out]at E
  cases E
  exact j
 |some h=>
  rw[j]at a;have a:e=.returned (.int .i64 (h:Nat)):=a;subst a;have n5:=H.get N (by simp);have L:=g.get n2 (by simp);have Q:Hid (gc n yu yu u=some h):=j;clear j;go_wp2_with(first|(refine aW rfl 80 (.tmp 5) rfl d.heap.size rfl 80 #[.string ⟨#[]⟩,.int .i64 (root:Nat),.iface t l] (0,0) _ n5 underlying80 rfl stk ?_)|(refine ye rfl 82 (.tmp 4) (.tmp 17) rfl w.heap.size #[.string ⟨#[]⟩,.int .i64 (root:Nat),.iface t l] rfl rfl 82 _ L stT rfl (qf (jb _ _ rfl)) ?_;intro w6 n6 r))
  refine aR (aI rfl _ w6 w.heap.size 82 _ (0,0) _ rfl n6 underlying82 rfl stT) rfl ?_;have p:=hL.fresh _ _ _ [] x.out.2 g (by simp);refine⟨Or.inl ⟨u,m,_,h,A.out,Q.out,rfl,?_,hfr _ _ _ [w.heap.size] p r (by intro y c;simp at c;subst c;exact⟨hB,_,_,L⟩)⟩,(M.trans (KA.k0 g)).new r (by intro y c;simp at c;subst c;exact ag _)⟩;refine UND.amono (fun y c=>by omega) (UND.ka (KA.of r ?_) (UND.ka (KA.k0 g) x.out.1));intro y c;simp at c;subst c;have:=q;omega
def RisI(w:World)(k:Nat)(i:Value)(wr:World):Prop:=∃(j:Nat),j<=k/\i=.int .i64 j/\y6 [] w wr
def RisR(w:World)(ev:Ending)(w':World):Prop:=ev=.returned (.bool true)/\y6 [] w w'
theorem MN{o:Oper}{a:Act}(op:BinOp)(t:TypeId)(x y:Operand)(ho:o.op=.binOp op t x y t)(u v r:Value)(hx:a.eval x=u)(hy:a.eval y=v)(hg:(eqGuard op t x y u v).run prog w=.ok () w)(hr:(binOp op t u v).run prog w=.ok r w):
  (execOp a.eval o).run prog w=.ok (.value r) w:=by
 subst hx hy;simp[execOp,ho,hr,hg]
theorem Qgt{o:Oper}{a:Act}(x:Operand)(t:TypeId)(ho:o.op=.call {callee:=.builtin .len,args:=#[x],argTypes:=#[t]})(b:ByteArray)(hx:a.eval x=.string b)(hu:prog.underlying t=some .string):
  (execOp a.eval o).run prog w=.ok (.value (.int .i64 b.size)) w:=by
 have c:(Builtin.len_ #[t] o.type #[.string b]).run prog w=.ok (goInt b.size) w:=by
  simp[Builtin.len_,aO hu]
 simp[execOp,ho,resolve,invoke,builtin,hx,c,goInt]
def RS(g j i:Nat)(p q:Pr)(W:World):Prop:=W.cell? ⟨g,j*2,none⟩=some (.string p.1)/\W.cell? ⟨g,j*2+1,none⟩=some (.string p.2)/\W.cell? ⟨g,i*2,none⟩=some (.string q.1)
theorem Qgu(vl:Value)(l:List Pr)(w:World)(h:PL w 224 vl l)(hs:Srt l)(ho:∀p∈l,okp p)(hl:l.length<=50000):Calls prog 166 #[vl] w (RisR w):=by
 obtain⟨O,f,rfl⟩:=h.shape;have F:Hid (PL w 224 (.slice O l.length f) l):=h;have G:Hid (Srt l):=hs;have E:Hid (∀p∈l,okp p):=ho;clear h hs ho;go_enter func166,ntmps166;go_wp2
 go_loopw [3] (fun i wr=>RisI w l.length i wr) (fun i _=>l.length-(intOf i).toNat)
 case atStart=>exact⟨0,ay _,rfl,y6.refl _ _⟩
 case round=>
  obtain⟨j,T,rfl,u⟩:=hrel
  by_cases c:j<l.length
  ·obtain⟨g,J,K,e,s,r⟩:=(F.out.kept u (by simp)).at_ (by omega)
   cases e
   obtain⟨p,m⟩:∃p,l[j]?=some p:=⟨_,aa c⟩
   obtain⟨i,q,L,n,C⟩:∃(i:Nat) (q:Pr),i<l.length/\(0<j->i+1=j/\bl q.1 p.1=true)/\l[i]?=some q:=by
    cases j with
    |zero=>exact⟨0,p,c,fun h=>absurd h (by omega),m⟩
    |succ i=>
     have d:i<l.length:=by omega
     refine⟨i,l[i],d,fun _=>⟨rfl,?_⟩,aa d⟩;have:=bP.1 G.out i (i+1) d c (by omega);rw[(ae.1 m).2]at this;exact this
   have z:=y7 (j:=j*2) s (r j p m).1;have A:=y7 (j:=j*2+1) s (r j p m).2;have B:=y7 (j:=i*2) s (r i q C).1;have k:=E.out p (ah m);have P:(Instr.indexAt 187 (.slice (some ⟨g,0,none⟩) l.length f) (.int .i64 j)).run prog wr=.ok (.pointer (some ⟨g,j*2,none⟩)) wr:=jV 187 g 0 l.length f j 2 224 underlying187 srp c _ (by omega);have y:Hid (∀W,Calls prog 141 #[.string p.1] W fun e Q=>e=.returned (.bool true)/\Q=W):=fun W=>by
    have:=Q1 p.1 W;rw[show decide (1<=p.1.size/\p.1.size<=8)=true from bM ⟨k.1,k.2.1⟩]at this;exact this
   have H:Hid (decide ((p.2.size:Int)>12)=false):=ct (by have:=k.2.2;omega);have N:(j:Int)<(l.length:Int):=by omega
   have a:RS g j i p q wr.drew:=⟨z,A,B⟩
   have HL:Hid (l.length<=50000):=hl;clear r k s m C hl A B;go_wp2_with(first|(go_at_call 141;refine(y.out _).mono ?_;rintro e U⟨rfl,M⟩;subst M))
   clear z P y;refine yo (RS g j i p q) (by kernel_rfl) ?_;refine uh 0 (.bool true) rfl (fun W b=>by rfl) a ?_;refine uh 1 (.bool false) rfl (fun W b=>by rfl) a ?_;refine uh 2 (.bool false) rfl (fun W b=>by rfl) a ?_;refine uh 3 (.slice (some ⟨g,0,none⟩) l.length f) rfl (fun W b=>by rfl) a ?_;refine uh 4 (.int .i64 j) rfl (fun W b=>by rfl) a ?_;refine uh 5 (.pointer (some ⟨g,j*2,none⟩)) rfl (fun W b=>yc 187 (.tmp 20) (.tmp 21) rfl g 0 l.length f j 2 rfl rfl 224 underlying187 srp c _ (by omega)) a ?_;refine uh 6 (.pointer (some ⟨g,j*2+1,none⟩)) rfl (fun W b=>by rfl) a ?_;refine uh 7 (.string p.2) rfl (fun W b=>y9 9 (.tmp 23) rfl ⟨g,j*2+1,none⟩ rfl _ (yh underlying9 rfl b.2.1)) a ?_;refine uh 8 (.int .i64 p.2.size) rfl (fun W b=>Qgt (.tmp 24) 9 rfl _ rfl underlying9) a ?_;refine uh 9 (.bool false) rfl (fun W b=>MN .gtr 3 (.tmp 25) _ rfl _ _ _ rfl rfl (by simp[eqGuard]) (by rw[<-H.out];rfl)) a ?_;refine uh 10 (.bool false) rfl (fun W b=>by rfl) a ?_;refine uh 11 (.bool false) rfl (fun W b=>by rfl) a ?_;refine uh 12 (.int .i64 j) rfl (fun W b=>by rfl) a ?_
   by_cases o:0<j
   focus
    have t:Hid (decide ((j:Int)>0)=true):=bM (by omega);have I:Hid (∀W,(binOp .sub 3 (.int .i64 j) (.int .i64 1)).run prog W=.ok (.int .i64 i) W):=fun W=>by
     have x:(binOp .sub 3 (.int .i64 j) (.int .i64 1)).run prog W=.ok (.int .i64 (IntKind.i64.wrap ((j:Int)-1))) W:=rfl;have R:=(n o).1;have S:=HL.out;rw[x,show IntKind.i64.wrap ((j:Int)-1)=(i:Int)by rw[IntKind.wrap_i64];omega]
    have D:Hid (∀W,(binOp .geq 9 (.string q.1) (.string p.1)).run prog W=.ok (.bool false) W):=fun W=>by
     have x:(binOp .geq 9 (.string q.1) (.string p.1)).run prog W=.ok (.bool (!(bl q.1 p.1))) W:=by rfl
     rw[x,(n o).2];rfl
    refine uh 13 (.bool true) rfl (fun W b=>MN .gtr 3 (.tmp 29) _ rfl _ _ _ rfl rfl (by simp[eqGuard]) (by rw[<-t.out];rfl)) a ?_;refine uh 14 (.bool true) rfl (fun W b=>by rfl) a ?_;refine uh 15 (.slice (some ⟨g,0,none⟩) l.length f) rfl (fun W b=>by rfl) a ?_;refine uh 16 (.int .i64 j) rfl (fun W b=>by rfl) a ?_;refine uh 17 (.int .i64 i) rfl (fun W b=>MN .sub 3 (.tmp 33) _ rfl (.int .i64 j) (.int .i64 1) _ rfl rfl (by simp[eqGuard]) (I.out W)) a ?_;refine uh 18 (.pointer (some ⟨g,i*2,none⟩)) rfl (fun W b=>yc 187 (.tmp 32) (.tmp 34) rfl g 0 l.length f i 2 rfl rfl 224 underlying187 srp L _ (by omega)) a ?_;refine uh 19 (.pointer (some ⟨g,i*2,none⟩)) rfl (fun W b=>by rfl) a ?_;refine uh 20 (.string q.1) rfl (fun W b=>y9 9 (.tmp 36) rfl ⟨g,i*2,none⟩ rfl _ (yh underlying9 rfl b.2.2)) a ?_;refine uh 21 (.slice (some ⟨g,0,none⟩) l.length f) rfl (fun W b=>by rfl) a ?_;refine uh 22 (.int .i64 j) rfl (fun W b=>by rfl) a ?_;refine uh 23 (.pointer (some ⟨g,j*2,none⟩)) rfl (fun W b=>yc 187 (.tmp 38) (.tmp 39) rfl g 0 l.length f j 2 rfl rfl 224 underlying187 srp c _ (by omega)) a ?_;refine uh 24 (.pointer (some ⟨g,j*2,none⟩)) rfl (fun W b=>by rfl) a ?_;refine uh 25 (.string p.1) rfl (fun W b=>y9 9 (.tmp 41) rfl ⟨g,j*2,none⟩ rfl _ (yh underlying9 rfl b.1)) a ?_;refine hu 26 (.bool false) rfl (fun W b=>MN .geq 9 (.tmp 37) (.tmp 42) rfl (.string q.1) (.string p.1) _ rfl rfl (by simp[eqGuard]) (D.out W)) a ?_
   rotate_left
   focus
    have t:Hid (decide ((j:Int)>0)=false):=ct (by omega);refine uh 13 (.bool false) rfl (fun W b=>MN .gtr 3 (.tmp 29) _ rfl _ _ _ rfl rfl (by simp[eqGuard]) (by rw[<-t.out];rfl)) a ?_;refine uh 14 (.bool false) rfl (fun W b=>by rfl) a ?_;refine bU (i:=15) (v:=undef) rfl (by kernel_rfl) (by kernel_rfl) (by kernel_rfl) (fun _ _ _ h=>h) (Or.inr ⟨by rfl,rfl⟩) a ?_;simp only[zz];refine bU (i:=16) (v:=undef) rfl (by kernel_rfl) (by kernel_rfl) (by kernel_rfl) (fun _ _ _ h=>h) (Or.inr ⟨by rfl,rfl⟩) a ?_;simp only[zz];refine bU (i:=17) (v:=undef) rfl (by kernel_rfl) (by kernel_rfl) (by kernel_rfl) (fun _ _ _ h=>h) (Or.inr ⟨by rfl,rfl⟩) a ?_;simp only[zz];refine bU (i:=18) (v:=undef) rfl (by kernel_rfl) (by kernel_rfl) (by kernel_rfl) (fun _ _ _ h=>h) (Or.inr ⟨by rfl,rfl⟩) a ?_;simp only[zz];refine bU (i:=19) (v:=undef) rfl (by kernel_rfl) (by kernel_rfl) (by kernel_rfl) (fun _ _ _ h=>h) (Or.inr ⟨by rfl,rfl⟩) a ?_;simp only[zz];refine bU (i:=20) (v:=undef) rfl (by kernel_rfl) (by kernel_rfl) (by kernel_rfl) (fun _ _ _ h=>h) (Or.inr ⟨by rfl,rfl⟩) a ?_;simp only[zz];refine bU (i:=21) (v:=undef) rfl (by kernel_rfl) (by kernel_rfl) (by kernel_rfl) (fun _ _ _ h=>h) (Or.inr ⟨by rfl,rfl⟩) a ?_;simp only[zz];refine bU (i:=22) (v:=undef) rfl (by kernel_rfl) (by kernel_rfl) (by kernel_rfl) (fun _ _ _ h=>h) (Or.inr ⟨by rfl,rfl⟩) a ?_;simp only[zz];refine bU (i:=23) (v:=undef) rfl (by kernel_rfl) (by kernel_rfl) (by kernel_rfl) (fun _ _ _ h=>h) (Or.inr ⟨by rfl,rfl⟩) a ?_;simp only[zz];refine bU (i:=24) (v:=undef) rfl (by kernel_rfl) (by kernel_rfl) (by kernel_rfl) (fun _ _ _ h=>h) (Or.inr ⟨by rfl,rfl⟩) a ?_;simp only[zz];refine bU (i:=25) (v:=undef) rfl (by kernel_rfl) (by kernel_rfl) (by kernel_rfl) (fun _ _ _ h=>h) (Or.inr ⟨by rfl,rfl⟩) a ?_;simp only[zz];refine bU (i:=26) (v:=undef) rfl (by kernel_rfl) (by kernel_rfl) (by kernel_rfl) (fun _ _ _ h=>h) (Or.inr ⟨by rfl,rfl⟩) a ?_
   rotate_left
   all_goals
    simp only[zz];refine uh 27 (.bool false) rfl (fun W b=>by rfl) a ?_;refine uh 28 (.bool false) rfl (fun W b=>by rfl) a ?_;refine aK (by kernel_rfl) ?_ _;have hl:=HL.out;go_wp2;go_roundw
    case rel=>exact⟨j+1,by omega,by go_num,u.drew⟩
    case measure=>simp[intOf];omega
  ·have ge:¬(j:Int)<(l.length:Int):=by omega
   go_wp2;go_ret;exact⟨rfl,u⟩
def toN:(d:Nat)->UNd d->(h:Nat)->Nd h
 |0,_,0=>([]:List Pr)
 |0,_,h+1=>([]:List (Kid h))
 |_+1,.inl l,0=>l
 |_+1,.inl _,h+1=>([]:List (Kid h))
 |_+1,.inr _,0=>([]:List Pr)
 |d+1,.inr ks,h+1=>ks.map fun k=>(⟨k.1,toN d k.2 h,k.3⟩:Kid h)
theorem QcU{α β:Type}{R:α->β->Prop}{f:α->β}:∀{l:List α} {m:List β},F2 R l m->(∀a∈l,∀b,R a b->b=f a)->m=l.map f:=by
 intro l m h e;refine cJ fun i=> ?_;rw[aA]
 cases c:l[i]? with
 |none=>
  simp only[Option.map_none];rw[dO]at c⊢;rw[<-h.1];exact c
 |some a=>
  simp only[b7];have d:i<m.length:=by rw[<-h.1];exact(ae.1 c).1
  rw[aa d];rw[e a (ah c) _ (h.2 i a _ c (aa d))]
theorem Rep.toE:∀{d:Nat} {u:UNd d} {h:Nat} {n:Nd h},Rep d u h n->n=toN d u h
 |0,_,_,_,a=>a.elim
 |_+1,.inl l,0,n,a=>a
 |_+1,.inl _,_+1,_,a=>a.elim
 |_+1,.inr _,0,_,a=>a.elim
 |d+1,.inr i,h+1,j,a=>QcU (show F2 _ i j from a) fun k _ g f=>by
  obtain⟨⟨b,c⟩,e⟩:=f;have:=Rep.toE e;obtain⟨m,o,p⟩:=g;simp only at b c this;rw[b,c,this]
def rdT(n:Nat)(lk:Nat->List UInt8)(root:Nat):Option Tr:=
 if root=0 then some ⟨0,([]:List Pr),0⟩else match rdU n lk n root [1,0]with
  |none=>none
  |some (u,_)=>match gc n yu yu u with
   |none=>none
   |some x=>some ⟨x-1,toN n u (x-1),root⟩
theorem T1(n:Nat)(lk:Nat->List UInt8):rdT n lk 0=some ⟨0,([]:List Pr),0⟩:=rfl
theorem S6{root:Nat}{e8:List Nat}{u:UNd n}{x:Nat}(h0:root≠0)(h1:rdU n lk n root [1,0]=some (u,e8))(h2:gc n yu yu u=some x):rdT n lk root=some ⟨x-1,toN n u (x-1),root⟩:=by
 simp only[rdT,if_neg h0,h1,h2]
theorem QcX{root:Nat}(h0:root≠0)(h:∀u e8,rdU n lk n root [1,0]=some (u,e8)->gc n yu yu u=none):rdT n lk root=none:=by
 simp only[rdT,if_neg h0]
 cases a:rdU n lk n root [1,0]with
 |none=>rfl
 |some p=>
  obtain⟨u,e8⟩:=p;simp only[h u e8 a]
theorem RyI.fresh{a:Nat}{bv:Value}{cv:Value}{b:Nat}{D:Dv}{w0:World}{us:List Nat}{W W':World}{S:List Nat}(hI:RyI a bv n cv b D w0 us W)(hk:y6 S W W')(hS:∀y∈S,w0.heap.size<=y/\∃t,Tg W y t/\t∉ [91,92,94]):RyI a bv n cv b D w0 us W':=by
 obtain⟨g,f,j⟩:=hI.dq;refine⟨hI.sp.kept hk fun d=> ?_,hI.ul,hI.nd,⟨g,f.kept hk fun y e d=> ?_,j⟩,hI.kp.trans2 hk fun y e=>Or.inr (hS y e).1⟩
 ·obtain⟨_,t,⟨h,i,c⟩,_⟩:=hS _ d;exact hI.sp.ne c rfl
 ·obtain⟨_,t,⟨h,i,c⟩,ht⟩:=hS _ d;exact f.no c ht e
theorem QcY(n:Int)(b:Nat):(#[.int .i64 n,.map (some b)]:Array Value).all (·.oneCell')=true:=qf (l:= [.int .i64 n,.map (some b)]) (by intro u hu;simp at hu;rcases hu with rfl|rfl<;>rfl)
theorem VI{m b a:Nat}(h:m<=b):∀y∈ [b,a],y∈ [a]\/m<=y:=by
 intro y c;simp at c;rcases c with rfl|rfl
 ·exact Or.inr h
 ·exact Or.inl (by simp)
theorem Qd0(v a n root:Nat)(bv cv:Value)(D:Dv)(w:World)(hv:Vol w v a n)(hd:DQ w a bv n cv D)(fM:8<=n)(hn:n<=1000)(hq:D.q.length<=1000000)(hT:Tab w)(hr0:root≠0)(hr:root<65536):
  Calls prog 90 #[.pointer (some ⟨v,0,none⟩),.int .i64 (root:Nat)] w (TrdR a bv n cv D (rdT n D.view root) w):=by
 have iN:=j2;have HS:Hid (∀W,y6 [] w W->Calls prog 76 #[.pointer (some ⟨v,0,none⟩)] W _):=fun W kW=>Nm v a n W (kW.get hv (by simp));have C:Hid (DQ w a bv n cv D/\Tab w/\Vol w v a n):=⟨hd,hT,hv⟩
 have J:∀W:World,(Instr.alloc 131 true (.tuple #[])).run prog W=.ok (.pointer (some ⟨W.heap.size,0,none⟩)) (W.alloc (.cells #[.int .i64 0,.map none] 131)):=fun W=>by kernel_rfl
 clear hd hT hv;go_enter func90,ntmps90;go_wp2_with(first|(refine yw rfl _ _ (jZ 73 (.tmp 0) rfl (.pointer (some ⟨v,0,none⟩)) rfl rfl) ?_;intro w1 n1 R I)|(refine yj rfl 4 rfl 82 rfl _ (zTr _) ?_;intro w2 O t eS;rw[I]at O eS;have N:=t.get n1 (by simp))|(refine y8 rfl 73 (.tmp 2) rfl ⟨w.heap.size,0,none⟩ rfl (.pointer (some ⟨v,0,none⟩)) (yh underlying73 rfl (y7 N rfl)) ?_)|(go_at_call 76;refine(HS.out w2 (R.trans t)).mono ?_;rintro e w3⟨rfl,d⟩)|(go_at_call 75;refine(OA n _ fM).mono ?_;rintro e w4⟨b,rfl,K,hb,s⟩)|(refine yj rfl 5 rfl 131 rfl _ (J _) ?_;intro w5 n5 z ui)|(refine ye rfl 131 (.tmp 5) (.tmp 8) rfl w4.heap.size #[.int .i64 (n:Int),.map (some b)] rfl rfl 131 _ n5 Zl rfl (QcY _ _) ?_;intro g n6 A))
 have fV:=d.size;have hs4:=s.size;have i:y6 [] w g:=((((R.trans t).trans d).trans s).trans z).trans2 A (by intro y c;simp at c;subst c;right;omega);have M:y6 [] w2 g:=((d.trans s).trans z).trans2 A (by intro y c;simp at c;subst c;right;omega);have m6:=M.get N (by simp);have t6:=M.get O (by simp);have d6:=C.out.1.k0 i;have v6:Vol g v a n:=i.get C.out.2.2 (by simp);have Z:=C.out.2.1.k i;have U:SpM g b [1,0]:=(K.kept z (by simp)).kept A (by have:=K.lt;simp;omega);have hL:=Qcx v a n w4.heap.size w.heap.size b bv cv D g n6 m6 v6 d6 [1,0] U Z hn hq;have HT:Hid (Calls _ _ _ _ _):=QcT hL hn [1,0] root g ⟨U,by simp;omega,by decide,⟨D,d6,Qt.refl D⟩,y6.refl _ _⟩ hr0 hr (ag _) (fun us W W' S hI hk hS=>hI.fresh hk fun y c=>⟨(hS y c).1,_,(hS y c).2,by decide⟩);have j:w.heap.size<=b:=by omega
 clear K d s z n5 A n6 m6 N v6 Z U hL n1 O R t;go_wp2_with fail;refine HT.out.mono ?_;rintro e B⟨⟨u,e8,x',h,hu,H,rfl,X,T⟩|⟨x,⟨p,m,ff,hc⟩,hx⟩,ny⟩;rotate_left
 ·have r:y6 [a] w B:=(i.mono (by simp)).trans2 ff (VI j);rcases hc with⟨rfl,Q,fN⟩|⟨rfl,Cr,fN⟩
  ·obtain⟨f,o,rfl,hf⟩:=fN.ex;exact⟨rfl,p,m,r,Or.inr (Or.inl ⟨Q,QcX hr0 (hx rfl),fN⟩)⟩
  ·obtain⟨f,o,rfl,hf⟩:=fN.ex;exact⟨rfl,p,m,r,Or.inr (Or.inr ⟨Cr,fN⟩)⟩
 ·obtain⟨l,P,Y,V,_,_,_,_,_,G⟩:=NH n u yu yu h H (NI hu);have t7:=ny.row _ _ _ _ trivial (by decide) t6;obtain⟨ty,vy,ey⟩:=X.iface;have r:y6 [a] w B:=(i.mono (by simp)).trans2 T.kp (VI j);have HN:Hid (ND B (fun y=>g.heap.size<=y) l P x'):=UND.nd V X;have HR:Hid (rdT n D.view root=some ⟨l,P,root⟩):=by
   have:=S6 hr0 hu H;rw[this];have e:=V.toE;subst Y;show some (⟨l,toN n u l,root⟩:Tr)=_;rw[<-e]
  have E:Hid (RyI a bv n cv b D g e8 B):=T;clear X T hu H V Y t6;subst ey;go_wp2_with(first|(refine ye rfl 82 (.tmp 4) (.tmp 11) rfl (w.heap.size+1) #[.string ⟨#[]⟩,.int .i64 (root:Nat),.iface ty vy] rfl rfl 82 _ t7 stT rfl (qf (jb _ _ rfl)) ?_;intro w8 n8 L))
  refine aR (aI rfl _ w8 (w.heap.size+1) 82 _ (0,0) _ rfl n8 underlying82 rfl stT) rfl ?_;obtain⟨p,m,Q⟩:=E.out.dq;refine⟨p,m.kept L ?_,r.trans2 L (by intro y c;simp at c;subst c;right;omega),Or.inl ⟨Q,⟨l,P,root⟩,_,HR.out,rfl,Or.inr ⟨ND.kept L ?_ (fun _ _=>trivial) HN.out,G⟩⟩⟩
  ·intro y c F;simp at F;subst F;exact m.no t7 (by decide) c
  ·intro y c F;simp at c;subst c;have:=M.size;omega
theorem Qd1(v a n root:Nat)(bv cv:Value)(D:Dv)(w:World)(hv:Vol w v a n)(hd:DQ w a bv n cv D)(fM:8<=n)(hn:n<=1000)(hq:D.q.length<=1000000)(hT:Tab w)(hr:root<65536):
  Calls prog 90 #[.pointer (some ⟨v,0,none⟩),.int .i64 (root:Nat)] w (TrdR a bv n cv D (rdT n D.view root) w):=by
 by_cases b:root=0
 ·subst b;refine(QcS v a n w hv fM).mono ?_;rintro e c⟨rfl,k⟩;exact⟨D,hd.k0 k,k.mono (by simp),Or.inl ⟨Qt.refl D,_,_,rfl,rfl,Or.inl ⟨rfl,rfl⟩⟩⟩
 ·exact Qd0 v a n root bv cv D w hv hd fM hn hq hT b hr
def FitA:(h:Nat)->Nd h->Prop
 |0,l=>Qx (.leaf l)
 |h+1,ks=>Qx (nbN (h+1) ks)/\∀k:Kid h,List.Mem k ks->FitA h k.2
theorem FitA.fits:∀{h:Nat} {n:Nd h},FitA h n->Qx (nbN h n)
 |0,_,h=>h
 |_+1,_,h=>h.1
theorem Uj{N:Nat}{lk:Nat->List UInt8}:∀(h:Nat) (n:Nd h) (d i:Nat) (us:List Nat),h<d->lk i=gS (nbN h n)->jd lk h n->FitA h n->(i::j0 h n).Nodup->(∀b∈i::j0 h n,b∉us/\b<N)->∃u e8,rdU N lk d i us=some (u,e8)/\Rep d u h n/\∀b,b∈e8↔b∈us\/b∈i::j0 h n
 |0,l,d,i,us,H,w,_,o,_,hu=>by
  obtain⟨d,rfl⟩:∃t,d=t+1:=⟨d-1,by omega⟩
  have a:=hu i (by simp);refine⟨.inl l,i::us,RV ⟨a.2,a.1⟩ (by rw[w];exact NS o.fits),rfl,fun b=> ?_⟩;simp[j0];exact Or.comm
 |h+1,(K:List (Kid h)),d,i,us,H,w,I,o,M,hu=>by
  obtain⟨d,rfl⟩:∃t,d=t+1:=⟨d-1,by omega⟩
  have a:=hu i (by simp);have y:∀(L:List (Kid h)) (s:List Nat),(∀k∈L,(lk k.3=gS (nbN h k.2)/\jd lk h k.2)/\FitA h k.2)->(L.flatMap (gD h)).Nodup->(∀b∈L.flatMap (gD h),b∉s/\b<N)->
    ∃j q,jk (rdK N lk d) (L.map fun k:Kid h=>(k.1,k.3)) s=some (j,q)/\F2 (fun(k:qG (UNd d)) (m:Kid h)=>(m.1=k.1/\m.3=k.3)/\Rep d k.2 h m.2) j L/\∀b,b∈q↔b∈s\/b∈L.flatMap (gD h):=by
   intro L
   induction L with
   |nil=>
    intro s _ _ _;exact⟨[],s,rfl,F2.nil,fun b=>by simp⟩
   |cons k r ih=>
    intro s f B p;rw[bF]at B p;have z:=cL.1 B;obtain⟨u,D,v,G,C⟩:=Uj h k.2 d k.3 s (by omega) (f k (by simp)).1.1 (f k (by simp)).1.2 (f k (by simp)).2 z.1 (fun b c=>p b (aw _ c));obtain⟨j,O,E,F,P⟩:=ih D (fun m x=>f m (by simp[x])) z.2.1 (fun b c=>⟨fun g=>by
     rcases(C b).1 g with a|a
     ·exact(p b (az _ c)).1 a
     ·exact z.2.2 b a b c rfl,(p b (az _ c)).2⟩)
    refine⟨⟨k.1,u,k.3⟩::j,O,?_,F2.append (F2.one ⟨⟨rfl,rfl⟩,G⟩) F,fun b=> ?_⟩
    ·simp only[bn,jk];have:rdK N lk d (k.1,k.3) s=some (⟨k.1,u,k.3⟩,D):=by unfold rdK;simp only;rw[v]
     rw[this];simp only[E]
    ·rw[P,C,bF,ar];unfold gD;exact or_assoc
  have A:=dj.1 M;obtain⟨j,q,v,J,g⟩:=y K (i::us) (fun k f=>⟨gQ.1 I k f,o.2 k f⟩) A.2 (fun b c=>⟨fun g=>by
   rcases an.1 g with e|g
   ·subst e;exact A.1 c
   ·exact(hu b (aq _ c)).1 g,(hu b (aq _ c)).2⟩)
  refine⟨.inr j,q,?_,J,fun b=> ?_⟩
  ·rw[P6 ⟨a.2,a.1⟩ (by rw[w];exact NS o.fits),v]
  ·rw[g,Pa,an,an];constructor
   ·rintro((h|h)|h)
    ·exact Or.inr (Or.inl h)
    ·exact Or.inl h
    ·exact Or.inr (Or.inr h)
   ·rintro(h|h|h)
    ·exact Or.inl (Or.inr h)
    ·exact Or.inl (Or.inl h)
    ·exact Or.inr h
theorem Ri:∀{h:Nat} {n:Nd h},40<=yq h n->g9 h n=false
 |0,l,c=>by
  cases b:g9 0 l with
  |false=>rfl
  |true=>
   have a:List.isEmpty (α:=Pr) l=true:=b;have:l=([]:List Pr):=List.isEmpty_iff.1 a;subst this;exact absurd c (by decide)
 |_+1,_,_=>rfl
theorem T8:∀{h:Nat} {f:ByteArray} {n:Nd h},WFN h f n->qd h n->g9 h n=false->(0<h->22<=yq h n)->∃p,p∈yV h n
 |0,_,l,_,_,i,_=>by
  cases l with
  |nil=>cases i
  |cons p r=>exact⟨p,aZ ..⟩
 |h+1,f,(c:List (Kid h)),k,d,_,_=>by
  obtain⟨⟨n,x,r,e⟩,g⟩:=(yN h f c).1 k;have b:(⟨f,n,x⟩:Kid h)∈c:=by rw[e];simp
  have a:=(yO h c).1 d _ b;obtain⟨p,j⟩:=T8 (g.all _ b) a.2 (Ri a.1.1) (fun _=>by have:=a.1.1;omega);exact⟨p,qb.2 ⟨_,b,j⟩⟩
theorem Td{a b c:ByteArray}(h1:ge b a)(h2:bl b c=true):bl a c=true:=by
 rcases QX a b with h|h|h
 ·exact gV h h2
 ·rw[h];exact h2
 ·rw[show bl b a=false from h1]at h;cases h
theorem Sz:∀(h:Nat) (n:Nd h) (d:Nat) (u:UNd d) (f t:ByteArray),Rep d u h n->WFN h f n->qd h n->g9 h n=false->(0<h->22<=yq h n)->(t=yu\/(bl f t=true/\∀p∈yV h n,bl p.1 t=true))->gc d f t u=some (h+1)
 |_,_,0,_,_,_,a,_,_,_,_,_=>a.elim
 |0,(l:List Pr),d+1,.inl Z,f,t,a,G,_,X,_,ht=>by
  have e:l=Z:=a;subst e;have V:sndL f t l=true:=by
   have A:ZM (l.map fun p:Pr=>p.1):=by
    unfold ZM;rw[db];exact G.1
   have I:=Rb (b:=false) (f:=f) (t:=t) A (fun k w=>by
    obtain⟨p,g,rfl⟩:=bg.1 w;exact⟨(G.2 p g).1,fun h=>by cases h⟩) (ht.imp id fun h=>⟨h.1,fun k w=>by
    obtain⟨p,g,rfl⟩:=bg.1 w;exact h.2 p g⟩)
   cases l with
   |nil=>cases X
   |cons p r=>
    have g:be p.1 yu=false:=(MY _ _).2 fun e=>by
     have:=(G.2 p (aZ ..)).2.1;rw[e]at this;exact absurd this (by decide)
    simp only[sndL,g,Bool.not_false,Bool.true_and];exact I
  simp only[gc,V,if_true]
 |0,_,_+1,.inr _,_,_,a,_,_,_,_,_=>a.elim
 |_+1,_,_+1,.inl _,_,_,a,_,_,_,_,_=>a.elim
 |h+1,(j:List (Kid h)),d+1,.inr B,f,t,a,G,W,_,R,ht=>by
  have a:F2 (fun(k:qG (UNd d)) (N:Kid h)=>(N.1=k.1/\N.3=k.3)/\Rep d k.2 h N.2) B j:=a;obtain⟨⟨n0,x0,r0,L⟩,w⟩:=(yN h f j).1 G;have P:=(yO h j).1 W;have o:2<=j.length:=by have:22<=11*j.length:=R (by omega);omega
  have E:B.map (fun k=>k.1)=j.map fun k=>k.1:=by
   refine cJ fun i=> ?_;rw[aA,aA]
   cases m:B[i]? with
   |none=>
    have:j[i]?=none:=by rw[dO]at m⊢;rw[<-a.1];exact m
    rw[this];rfl
   |some k=>
    have C:i<j.length:=by rw[<-a.1];exact(ae.1 m).1
    rw[aa C];simp only[b7];rw[(a.2 i k _ m (aa C)).1.1]
  have x:∀k∈j,∀p∈yV h k.2,p∈yV (h+1) j:=fun k c p g=>qb.2 ⟨k,c,g⟩;have hex:∀k∈j,∃p,p∈yV h k.2/\ge p.1 k.1:=by
   intro k c;have s:=P k c;obtain⟨p,g⟩:=T8 (w.all k c) s.2 (Ri s.1.1) (fun _=>by have:=s.1.1;omega);exact⟨p,g,(WFN.keys (w.all k c) p g).1⟩
  have T:sndB f t B=true:=by
   have A:ZM (j.map fun k:Kid h=>k.1):=by
    unfold ZM;rw[db];exact w.ord.imp fun K=>K.1
   have I:=Rb (b:=false) (f:=f) (t:=t) A (fun k c=>by
    obtain⟨q,v,rfl⟩:=bg.1 c;refine⟨?_,fun h=>by cases h⟩;rw[L]at v;rcases an.1 v with e|v
    ·subst e;exact Ns f
    ·have:=w.ord;rw[L]at this;exact Zt ((aP.1 this).1 q v).1) (ht.imp id fun s=>⟨s.1,fun k c=>by
    obtain⟨q,v,rfl⟩:=bg.1 c;obtain⟨p,g,y⟩:=hex q v;exact Td y (s.2 p (x q v p g))⟩)
   rw[<-E]at I
   cases B with
   |nil=>rw[<-a.1]at o;simp at o
   |cons k r=>
    have s:=(a.2 0 k ⟨f,n0,x0⟩ rfl (by rw[L];rfl)).1.1;have J:be k.1 f=true:=(QD _ _).2 s.symm;have S:decide (1<(k::r).length)=true:=bM (by rw[a.1];omega);simp only[sndB,J,S,Bool.true_and];exact I
  have U:j3 (gc d) (szU d) t none B=some (h+1):=by
   refine Sw (Or.inl rfl) (fun e=>by rw[e]at a;rw[<-a.1]at o;simp at o) fun i k m=> ?_;have C:i<j.length:=by rw[<-a.1];exact(ae.1 m).1
   obtain⟨q,v⟩:∃q,j[i]?=some q:=⟨_,aa C⟩
   have z:=a.2 i k q m v;have H:=ah v;have s:=P q H;have M:szU d k.2=yq h q.2:=Ss z.2;refine⟨?_,by rw[M];exact s.1.1⟩;rw[<-z.1.1];refine Sz h q.2 d k.2 q.1 _ z.2 (w.all q H) s.2 (Ri s.1.1) (fun _=>by have:=s.1.1;omega) ?_
   cases F:B[i+1]? with
   |none=>
    simp only[Option.map_none,Option.getD_none];refine ht.imp id fun J=>⟨?_,fun p g=>J.2 p (x q H p g)⟩
    obtain⟨p,g,y⟩:=hex q H;exact Td y (J.2 p (x q H p g))
   |some Y=>
    simp only[b7,cV];have D:i+1<j.length:=by rw[<-a.1];exact(ae.1 F).1
    obtain⟨Q,O⟩:∃q,j[i+1]?=some q:=⟨_,aa D⟩
    have K:Bef h q Q:=by
     have:=bP.1 w.ord i (i+1) C D (by omega);rw[(ae.1 v).2,(ae.1 O).2]at this;exact this
    rw[<-(a.2 (i+1) Y Q F O).1.1];exact Or.inr ⟨K.1,fun p g=>K.2 p g⟩
  simp only[gc,T,if_true,U,b7]
theorem PC:∀{h:Nat} {f:ByteArray} {n:Nd h},WFN h f n->qd h n->yq h n<=122->FmS h n->(∀b∈j0 h n,b<65536)->FitA h n
 |0,_,_,d,_,j,_,_=>⟨fun p m=>⟨(d.2 p m).2.2.1,(d.2 p m).2.2.2⟩,j⟩
 |h+1,f,(e:List (Kid h)),d,r,j,t,g=>by
  have s:=((yN h f e).1 d).2;have o:=(yO h e).1 r;have l:=NP.1 t;have g:∀b∈e.flatMap (gD h),b<65536:=g;have c:∀k∈e,∀b∈gD h k,b<65536:=fun k a b c=>g b (cU.2 ⟨k,a,c⟩);refine⟨⟨fun q u=> ?_,?_⟩,fun k a=>PC (s.all k a) (o k a).2 (o k a).1.2 (l k a).2 fun b i=>c k a b (aq _ i)⟩
  ·obtain⟨k,a,rfl⟩:=bg.1 u;exact⟨(l k a).1,c k a k.3 (aZ ..)⟩
  ·rw[aj];exact j
theorem SC:∀{h:Nat} {f:ByteArray} {n:Nd h},WFN h f n->h+1<=j5 h n
 |0,_,_,_=>ag _
 |h+1,f,(b:List (Kid h)),d=>by
  obtain⟨⟨n,x,r,e⟩,c⟩:=(yN h f b).1 d;have a:=SC (c.all ⟨f,n,x⟩ (by rw[e];simp));show h+1+1<=1+(b.map fun k:Kid h=>j5 h k.2).sum;rw[e];simp only[bn,bE];have a:h+1<=j5 h n:=a;omega
theorem Whl.read{t:Tr}(h:Whl n lk t)(hn:n<=65536):rdT n lk t.pl=some t:=by
 have m:t.pl≠0:=by have:=h.off t.pl (by simp);omega
 have c:FitA t.h t.n:=PC h.tw.wf h.tw.full h.tw.hi h.frs fun b a=>by have:=(h.off b (aq _ a)).2;omega
 have hc:=jg n _ h.nd fun b a=>(h.off b a).2;have j:=Mj t.h t.n;have k:=SC h.tw.wf;simp only[aB]at hc;obtain⟨u,o,e,d,_⟩:=Uj (N:=n) t.h t.n n t.pl [1,0] (by omega) h.at_ h.lies c h.nd (fun b a=>⟨fun l=>by
  have:=(h.off b a).1;simp at l;omega,(h.off b a).2⟩)
 have f:=Sz t.h t.n n u yu yu d h.tw.wf h.tw.full h.nil h.tw.two (Or.inl rfl);have g:=S6 m e f;rw[g];have i:=d.toE;show some (⟨t.h,toN n u t.h,t.pl⟩:Tr)=some t;rw[<-i]
theorem StK.whl{lt t:Tr}(h:StK n lk lt t)(hn:g9 lt.h lt.n=false):Whl n lk lt:=by
 have d:qZ lt=lt.pl::j0 lt.h lt.n:=by unfold qZ;rw[hn];rfl
 rcases h.lies with a|a
 ·rw[hn]at a;cases a
 ·refine⟨h.ltw,hn,a.1,a.2,?_,fun b c=> ?_,h.fm⟩
  ·have:=(cL.1 h.us).1;rw[d]at this;exact((List.reverse_perm _).nodup_iff).1 this
  ·rw[<-d]at c;exact⟨ZX h.us c,h.ub b c⟩
theorem StK.read{n:Nat}{lk:Nat->List UInt8}{lt t:Tr}(h:StK n lk lt t)(hn:n<=65536):rdT n lk lt.pl=some lt:=by
 cases a:g9 lt.h lt.n with
 |true=>
  rw[Sb a h.ltw];exact T1 n lk
 |false=>exact(h.whl a).read hn
end Go.Proofs.YtcklgafpgdhnaaaGreatDoor
