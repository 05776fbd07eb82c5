import Derived.Test.YtcklgafpgdhnaaaGreatDoorPyag
import Derived.Laws.AppendOwnNone
import Derived.Laws.ResultCell
set_option maxRecDepth 100000
set_option maxHeartbeats 4000000
set_option linter.unusedSimpArgs false
set_option linter.unusedVariables false
set_option linter.unusedSectionVars false
open Go.Proofs.Tryz
open List renaming setIfInBounds_toArray → zD
namespace Go.Proofs.YtcklgafpgdhnaaaGreatDoor
open Go.RowKit
theorem gT{w:World}{base tp e size n:Nat}{v:Value}{xs:List Value}(h:w.ownsRow base e size v n xs)(hb:tp<=base):w.ownsRow tp e size v n xs:=by
 obtain⟨d,c⟩:=h;refine⟨d,?_⟩;rcases c with c|⟨g,a,b,rfl,f,r⟩
 ·exact Or.inl c
 ·exact Or.inr ⟨g,a,b,rfl,by omega,r⟩
theorem qK{P:Program}{w:World}{ops:Array Oper}{rest:List Oper}{o:Oper}{a:Act}{Q:Exit->Act->World->Prop}(hgd:o.guard=none)(s x:Operand)(t:TypeId)
  (ho:o.op=.call {callee:=.builtin .append,args:=#[s,x],argTypes:=#[t,t]})
  (base:Nat)(e:TypeId)(i:TypeInfo)(z:Value)(size bytes:Nat)(ht:P.underlying t=some (.slice e))(hi:P.info? e=some i)(hz:i.zero=some z)
  (hsize:i.size=size)(BJ:i.bytes=bytes)(pO:z.cells.size=size)(hsz:0<size)
  (v:Value)(n:Nat)(xs:List Value)(hs:a.eval s=v)(dZ:w.ownsRow base e size v n xs)
  (y:Value)(xA m:Nat)(ys:List Value)(hx:a.eval x=y)(hH:w.ownsRow xA e size y m ys)(h1:∀u∈ys,u.oneCell'=true)
  (xy:n+m<=maxLen)(kG:(n+m)*bytes<=140737488355328)(xB:base<=w.heap.size)
  (h:∀v' w',w'.ownsRow base e size v' (n+m) (xs++ys)->w.grownBy w' v.ownBlock->wpList P ops Q rest (a.put o.dst v') w'):wpList P ops Q (o::rest) a w:=by
 obtain⟨k,⟨rfl,rfl⟩|⟨g,c,l,rfl,D,q,A,B,C,p⟩⟩:=hH
 ·refine wpList_append_own_none hgd s x t ho base e i size ht hi v n xs hs dZ hx ?_;have:ys= []:=bQ (by simpa using k);subst this;exact h v w (by simpa using dZ) (World.grownBy.refl _ _)
 ·refine cK w hgd s x t ho base e i z size bytes ht hi hz hsize BJ pO hsz v n xs hs dZ ⟨g,0,none⟩ m c ys hx k ?_ h1 xy kG xB (fun v' w' f r _=>h v' w' f r);intro j u d;rw[add_lit,bL,aY _ _ _ _ _ _ q];rw[<-p,aD]at d
  by_cases b:j<m*size
  ·simpa[b]using d
  ·simp[b]at d
def put1(L:List UInt8)(x:Wt)(s:Nat):List UInt8:=splice L (x.1*128+s*32) ((x.2.drop (s*32)).take 32)
def svN(c:Nat->Bool)(L:List UInt8)(x:Wt):Nat->List UInt8
 |0=>L
 |s+1=>if c s then put1 (svN c L x s) x s else svN c L x s
inductive Sr(L:List UInt8):List Wt->List UInt8->Prop
 |nil:Sr L [] L
 |snoc {q:List Wt} {L1:List UInt8} (h:Sr L q L1) (x:Wt) (c:Nat->Bool):Sr L (q++ [x]) (svN c L1 x 4)
theorem So{c c':Nat->Bool}{L:List UInt8}{x:Wt}:∀s,(∀k,k<s->c k=c' k)->svN c L x s=svN c' L x s
 |0,_=>rfl
 |s+1,h=>by rw[svN,svN,So s fun k a=>h k (by omega),h s (by omega)]
theorem Tx(L:List UInt8)(x:Wt):∀s,svN (fun _=>false) L x s=L
 |0=>rfl
 |s+1=>by rw[svN,Tx L x s];rfl
variable {L L1:List UInt8}
theorem Sr.rest{q:List Wt}(h:Sr L q L1):∀r,Sr L (q++r) L1:=by
 intro r
 induction r generalizing q with
 |nil=>simpa using h
 |cons x r ih=>
  have:=h.snoc x fun _=>false;rw[Tx]at this
  simpa using ih this
theorem Sr.none(L:List UInt8)(q:List Wt):Sr L q L:=by simpa using(Sr.nil (L:=L)).rest q
theorem Qg{c:Nat->Bool}{L:List UInt8}{x:Wt}{n:Nat}(hL:L.length=n*128)(hx:x.1<n)(h2:x.2.length=128):∀s,s<=4->(svN c L x s).length=n*128
 |0,_=>hL
 |s+1,a=>by
  have ih:=Qg (c:=c) hL hx h2 s (by omega);rw[svN];split
  ·rw[put1,aN _ _ _ (by rw[au,aC];omega),ih]
  ·exact ih
theorem Sr.len{q:List Wt}{n:Nat}(h:Sr L q L1)(hL:L.length=n*128)(hq:Fit n q):L1.length=n*128:=by
 induction h with
 |nil=>exact hL
 |snoc h x c ih=>exact Qg (ih fun y a=>hq y (by simp[a])) (hq x (by simp)).1 (hq x (by simp)).2 4 (by omega)
def Mm(c:Nat->Bool)(s:Nat)(b:Bool):Nat->Bool:=fun k=>if k=s then b else c k
theorem SR(c:Nat->Bool)(s:Nat)(b:Bool)(L:List UInt8)(x:Wt):svN (Mm c s b) L x (s+1)=if b then put1 (svN c L x s) x s else svN c L x s:=by
 rw[svN,So (c:=Mm c s b) (c':=c) s fun k a=>by simp[Mm];omega];simp[Mm]
theorem Q1a(x:Wt)(s:Nat):∀k u,(u8s ((x.2.drop (s*32)).take 32))[k]?=some u->(wc x)[1+s*32+k]?=some u:=by
 intro k u hu;rw[Qo,aD]at hu;split at hu
 ·rw[aV]at hu;rw[show 1+s*32+k=s*32+k+1 by omega,wc,qV,bI,Qo];exact hu
 ·cases hu
def ints(ms:List Int):List Value:=ms.map (.int .i64)
structure Aft(L:List UInt8)(n a:Nat)(bv:Value)(w w':World):Prop where
 d:DQ w' a bv n (.slice none 0 0) (.new L)
 a:w.heap.size<=a
 b:∀y,bv.ownBlock=some y->w.heap.size<=y
 k:y6 [] w w'
def AfI(D:Dv)(n a:Nat)(bv:Value)(w:World)(ix:Value)(wr:World):Prop:=
 ∃(j:Nat) (L1:List UInt8),j<=D.q.length/\ix=.int .i64 j/\Sr D.L (D.q.take j) L1/\Aft L1 n a bv w wr
def AgI(L1:List UInt8)(x:Wt)(n a:Nat)(bv:Value)(w:World)(lb:Nat)(sv:Value)(wr:World):Prop:=
 ∃(s:Nat) (c:Nat->Bool),s<=4/\sv=.int .i64 s/\Aft (svN c L1 x s) n a bv w wr/\wr.heap[lb]?=some (.cells (wc x).toArray 94 (0,0))
def Q1b(D:Dv)(n:Nat)(w:World)(e:Ending)(w':World):Prop:=∃L1 a bv,e=.returned (.pointer (some ⟨a,0,none⟩))/\Sr D.L D.q L1/\Aft L1 n a bv w w'
theorem sint:(prog.info? 3).map (·.size)=some 1:=by kernel_rfl
theorem RF(a:Nat)(bv:Value)(n:Nat)(cv:Value)(D:Dv)(kv:Value)(ms:List Int)(w:World)(h:DQ w a bv n cv D)(hn:n<1000)(hq:D.q.length<=9223372036854775807)(En:w.ownsRow 0 3 1 kv ms.length (ints ms)):
  Calls prog 24 #[.pointer (some ⟨a,0,none⟩),kv] w (Q1b D n w):=by
 obtain⟨bp,bc,rfl⟩:=yZ h.b;obtain⟨p,I,rfl⟩:=yZ h.o;have c0:w.cell? ⟨a,0,none⟩=some (.slice bp n bc):=y7 h.d rfl;have c1:w.cell? ⟨a,1,none⟩=some (.slice p D.q.length I):=y7 h.d rfl;obtain⟨kp,kc,rfl⟩:=yZ En;obtain⟨ie,eI,hz1,eE,hz3⟩:=bu iblk;go_enter func24,ntmps24;go_wp2_with(first|(at_builtin;refine qK rfl _ (.tmp 12) 88 rfl w.heap.size 92 ie _ 128 128 underlying88 eI hz1 eE hz3 (by simp[Value.cells,zl]) (by omega) (.slice none 0 0) 0 [] rfl (aM _ _ _ _) (.slice bp n bc) 0 n (u8s D.L) rfl h.b (qP _) (by unfold maxLen;omega) (by omega) (ag _) ?_;intro tq v fw iV;rw[bL,aX]at fw;have k1:=yF iV [] (by simp[Value.ownBlock]);obtain⟨Q,A,rfl⟩:=yZ fw)|(refine yw rfl _ _ (j8 91 (.tmp 14) rfl (Rh (.slice Q n A) (.slice none 0 0) (.new D.L)) rfl) ?_;intro w2 Y k2 _;have GD:w2.cell? ⟨a,1,none⟩=some (.slice p D.q.length I):=y7 ((k1.trans k2).get h.d (by simp)) rfl))
 have A0:Aft D.L n v.heap.size (.slice Q n A) w w2:=⟨⟨Y,gT (yb fw k2 (by simp)) (ay _),aM _ _ _ _,by simp[Fit,Dv.new],fun _=>rfl⟩,k1.size,fun y M=>(fw.lt y M).1,k1.trans k2⟩
 clear c0 c1 GD Y
 go_loopw [6,7,8,21] (fun _ _ _ ix wr=>AfI D n v.heap.size (.slice Q n A) w ix wr) (fun _ _ _ ix _=>D.q.length-(intOf ix).toNat)
 case atStart=>exact⟨0,D.L,ay _,rfl,Sr.nil,A0⟩
 case round=>
  obtain⟨j,F,hj,rfl,oV,G⟩:=hrel;clear A0
  by_cases X:j<D.q.length
  ·have hlt':(j:Int)<(D.q.length:Int):=by omega
   obtain⟨x,hx⟩:∃x,D.q[j]?=some x:=⟨_,aa X⟩
   obtain⟨x1,x2⟩:=h.q x (ah hx);obtain⟨b,fh,cur,e,rM,dW⟩:=(h.k0 G.k).at_ hx
   cases e
   have K:(wc x).length=129:=by simp[wc,qV,yd,x2]
   have eK:=yQ (P:=prog) wr b (j*129) 94 94 cur (wc x) (0,0) _ rM underlying94 rfl (by rw[Qe,K]) dW
   by_cases S:j<ms.length
   focus
    have T:¬(ms.length:Int)<=(j:Int):=by omega
   rotate_left
   focus
    have T:(ms.length:Int)<=(j:Int):=by omega
   rotate_left
   all_goals
    go_wp2_with(first|(refine ya rfl _ _ (yc 89 (.tmp 19) (.tmp 21) rfl b 0 D.q.length I j 129 rfl rfl 94 underlying89 Qe X (j*129) (by omega)) ?_)|(refine y8 rfl 94 (.tmp 24) rfl ⟨b,j*129,none⟩ rfl (.agg (wc x).toArray) eK ?_)|(refine qn rfl 94 rfl _ (MP _) ?_;intro w5 Z eD _)|(refine ye rfl 94 (.tmp 7) (.tmp 25) rfl wr.heap.size (wc x).toArray rfl rfl 94 _ Z (by rw[Qe];simp[K]) (by simp[K,qV,zl]) (qf (MQ x)) ?_;intro w6 hn6 U))
    have K6:y6 [] wr w6:=eD.trans2 U (by intro y M;simp at M;subst M;exact Or.inr (ag _))
   ·have A6:Aft F n v.heap.size (.slice Q n A) w w6:=⟨G.d.k0 K6,G.a,G.b,G.k.trans K6⟩
    obtain⟨kb,Kg,kcur,ek,wB,_,hk1,hk2,hk3,dX⟩:=jf En (by omega)
    cases ek
    clear eK dW rM Z eD U;generalize hlb:wr.heap.size=u at*
    go_loopw [8] (fun sv GE=>AgI F x n v.heap.size (.slice Q n A) w u sv GE) (fun sv _=>4-(intOf sv).toNat)
    case atStart=>exact⟨0,fun _=>false,by omega,rfl,A6,hn6⟩
    case round=>
     obtain⟨s,c,hs,rfl,C,O⟩:=hrel
     by_cases hs4:s<4
     ·have BK:(s:Int)<4:=by omega
      have sb:=C.k.get wB (by simp);obtain⟨m,hm⟩:∃m,ms[j]?=some m:=⟨_,aa S⟩
      have hcm:kcur[j]?=some (.int .i64 m):=QT dX (by simp[ints,hm]);have cm:=y7 sb (j:=j) (by simpa using hcm);go_wp2_with(first|(refine ya rfl _ _ (yc 24 (.tmp 34) (.tmp 35) rfl kb 0 ms.length kc j 1 rfl rfl 3 underlying24 sint S j (by omega)) ?_))
      ·obtain⟨r,BG,t,e1,lX,_,hb1,hb2,R,iO⟩:=jf C.d.b (by omega)
       cases e1
       have hL:=C.d.l;simp only[Dv.new]at hL;have B:(u8s ((x.2.drop (s*32)).take 32)).length=32:=by rw[yd,au,aC,x2];omega
       have g:(fun W:World=>DC W v.heap.size (.slice (some ⟨r,0,none⟩) n A) (.slice none 0 0) (.new (svN c F x s))/\W.heap[u]?=some (.cells (wc x).toArray 94 (0,0))) wr.drew:=⟨C.d.d,O⟩
       have J:∀ty,(Builtin.copy_ #[60,60] ty #[.slice (some ⟨r,x.1*128+s*32,none⟩) 32 (128-s*32),.slice (some ⟨u,1+s*32,none⟩) 32 (128-s*32)]).run prog wr.drew=.ok (goInt 32) (wr.drew.setRow r (splice t (x.1*128+s*32) (u8s ((x.2.drop (s*32)).take 32))).toArray):=fun ty=>by
        rw[run_copy_row (P:=prog) wr.drew 60 60 ty 5 r (x.1*128+s*32) 32 (128-s*32) ⟨u,1+s*32,none⟩ 32 (128-s*32) t.toArray 92 (u8s ((x.2.drop (s*32)).take 32)) underlying60 su8 lX B (jS O (Q1a x s)) (by rw[B];simp;omega) (qP _),B];simp[splice,B]
       have N:y6 [r] wr (wr.drew.setRow r (splice t (x.1*128+s*32) (u8s ((x.2.drop (s*32)).take 32))).toArray):=(y6.refl _ _).drew.setRow (Or.inl (by simp)) _;have r7:=Mx (w:=wr.drew.setRow r (splice t (x.1*128+s*32) (u8s ((x.2.drop (s*32)).take 32))).toArray) (base:=0) (size:=128) (xs:=u8s (put1 (svN c F x s) x s)) (by rw[yd,put1,aN _ _ _ (by rw[<-yd,B];omega),hL]) (bH wr.drew r _ _ 92 _ lX) (ay _) hb1 hb2 (by rw[aN _ _ _ (by rw[B];omega),R]) (by rw[PH iO (by rw[B];omega) (by rw[R];omega),Qf];rfl);have V:u≠r:=yP O lX (by decide);have B7:∀z:Int,z=(s:Int)+1->AgI F x n v.heap.size (.slice (some ⟨r,0,none⟩) n A) w u (.int .i64 z) (wr.drew.setRow r (splice t (x.1*128+s*32) (u8s ((x.2.drop (s*32)).take 32))).toArray):=by
        rintro z rfl;refine⟨s+1,Mm c s true,by omega,by simp,?_,N.get O (by simpa using V)⟩;rw[SR];exact⟨⟨N.get C.d.d (by simpa using(C.d.nb r rfl).symm),r7,aM _ _ _ _,by simp[Fit,Dv.new],fun _=>rfl⟩,C.a,C.b,C.k.trans2 N (by intro y M;simp at M;subst M;exact Or.inr (C.b _ rfl))⟩
       have E:Hid (∀z:Int,_->AgI _ _ _ _ _ _ _ _ _):=B7;have iA:Hid (DC (wr.drew.setRow r (splice t (x.1*128+s*32) (u8s ((x.2.drop (s*32)).take 32))).toArray) v.heap.size (.slice (some ⟨r,0,none⟩) n A) (.slice none 0 0) (.new (svN c F x s))/\_):=⟨N.get C.d.d (by simpa using(C.d.nb r rfl).symm),N.get O (by simpa using V)⟩
       clear B7 r7 N;generalize wr.drew.setRow r (splice t (x.1*128+s*32) (u8s ((x.2.drop (s*32)).take 32))).toArray=w7 at*;refine yo (fun W:World=>DC W v.heap.size (.slice (some ⟨r,0,none⟩) n A) (.slice none 0 0) (.new (svN c F x s))/\W.heap[u]?=some (.cells (wc x).toArray 94 (0,0))) (by kernel_rfl) ?_;obtain rfl|rfl|rfl|rfl:s=0\/s=1\/s=2\/s=3:=by omega
       rotate_left;rotate_left
       ·skip
        refine hu 0 (.pointer (some ⟨v.heap.size,0,none⟩)) rfl (fun W f=>by kernel_rfl) g ?_;refine hu 1 (.pointer (some ⟨v.heap.size,0,none⟩)) rfl (fun W f=>by kernel_rfl) g ?_;refine hu 2 (.pointer (some ⟨v.heap.size,0,none⟩)) rfl (fun W f=>by kernel_rfl) g ?_;refine hu 3 (.slice (some ⟨r,0,none⟩) n A) rfl (fun W f=>y9 88 (.tmp 44) rfl ⟨v.heap.size,0,none⟩ (by kernel_rfl) _ (yh underlying88 rfl (y7 f.1 rfl))) g ?_;refine hu 4 (.pointer (some ⟨u,0,none⟩)) rfl (fun W f=>by kernel_rfl) g ?_;refine hu 5 (.int .i64 x.1) rfl (fun W f=>y9 3 (.tmp 46) rfl ⟨u,0,none⟩ (by kernel_rfl) _ (yh underlying3 rfl (y7 f.2 rfl))) g ?_;refine hu 6 (.pointer (some ⟨r,x.1*128,none⟩)) rfl (fun W f=>yc 88 (.tmp 45) (.tmp 47) rfl r 0 n A x.1 128 (by kernel_rfl) (by kernel_rfl) 92 underlying88 QM x1 _ (by simp)) g ?_;refine hu 7 (.int .i64 ((2:Nat):Int)) rfl (fun W f=>by kernel_rfl) g ?_;refine hu 8 (.int .i64 (2*32)) rfl (fun W f=>by kernel_rfl) g ?_;refine hu 9 (.int .i64 ((2:Nat):Int)) rfl (fun W f=>by kernel_rfl) g ?_;refine hu 10 (.int .i64 (2+1)) rfl (fun W f=>by kernel_rfl) g ?_;refine hu 11 (.int .i64 ((2+1)*32)) rfl (fun W f=>by kernel_rfl) g ?_;refine hu 12 (.slice (some ⟨r,x.1*128+2*32,none⟩) 32 (128-2*32)) rfl (fun W f=>by kernel_rfl) g ?_;refine hu 13 (.pointer (some ⟨u,1,none⟩)) rfl (fun W f=>by kernel_rfl) g ?_;refine hu 14 (.int .i64 ((2:Nat):Int)) rfl (fun W f=>by kernel_rfl) g ?_;refine hu 15 (.int .i64 (2*32)) rfl (fun W f=>by kernel_rfl) g ?_;refine hu 16 (.int .i64 ((2:Nat):Int)) rfl (fun W f=>by kernel_rfl) g ?_;refine hu 17 (.int .i64 (2+1)) rfl (fun W f=>by kernel_rfl) g ?_;refine hu 18 (.int .i64 ((2+1)*32)) rfl (fun W f=>by kernel_rfl) g ?_;refine hu 19 (.slice (some ⟨u,1+2*32,none⟩) 32 (128-2*32)) rfl (fun W f=>by kernel_rfl) g ?_;refine yi (i:=20) (by kernel_rfl) (yX rfl rfl _ _ (qJ (.tmp 54) (.tmp 61) 60 60 rfl _ _ (by kernel_rfl) (by kernel_rfl) _ (J _)) ⟨iA.out,?_⟩);refine aK (by kernel_rfl) ?_ _;simp only[zz];go_wp2;go_roundw
        case rel=>exact E.out _ (by decide)
        case measure=>simp[intOf]
       ·skip
        refine hu 0 (.pointer (some ⟨v.heap.size,0,none⟩)) rfl (fun W f=>by kernel_rfl) g ?_;refine hu 1 (.pointer (some ⟨v.heap.size,0,none⟩)) rfl (fun W f=>by kernel_rfl) g ?_;refine hu 2 (.pointer (some ⟨v.heap.size,0,none⟩)) rfl (fun W f=>by kernel_rfl) g ?_;refine hu 3 (.slice (some ⟨r,0,none⟩) n A) rfl (fun W f=>y9 88 (.tmp 44) rfl ⟨v.heap.size,0,none⟩ (by kernel_rfl) _ (yh underlying88 rfl (y7 f.1 rfl))) g ?_;refine hu 4 (.pointer (some ⟨u,0,none⟩)) rfl (fun W f=>by kernel_rfl) g ?_;refine hu 5 (.int .i64 x.1) rfl (fun W f=>y9 3 (.tmp 46) rfl ⟨u,0,none⟩ (by kernel_rfl) _ (yh underlying3 rfl (y7 f.2 rfl))) g ?_;refine hu 6 (.pointer (some ⟨r,x.1*128,none⟩)) rfl (fun W f=>yc 88 (.tmp 45) (.tmp 47) rfl r 0 n A x.1 128 (by kernel_rfl) (by kernel_rfl) 92 underlying88 QM x1 _ (by simp)) g ?_;refine hu 7 (.int .i64 ((3:Nat):Int)) rfl (fun W f=>by kernel_rfl) g ?_;refine hu 8 (.int .i64 (3*32)) rfl (fun W f=>by kernel_rfl) g ?_;refine hu 9 (.int .i64 ((3:Nat):Int)) rfl (fun W f=>by kernel_rfl) g ?_;refine hu 10 (.int .i64 (3+1)) rfl (fun W f=>by kernel_rfl) g ?_;refine hu 11 (.int .i64 ((3+1)*32)) rfl (fun W f=>by kernel_rfl) g ?_;refine hu 12 (.slice (some ⟨r,x.1*128+3*32,none⟩) 32 (128-3*32)) rfl (fun W f=>by kernel_rfl) g ?_;refine hu 13 (.pointer (some ⟨u,1,none⟩)) rfl (fun W f=>by kernel_rfl) g ?_;refine hu 14 (.int .i64 ((3:Nat):Int)) rfl (fun W f=>by kernel_rfl) g ?_;refine hu 15 (.int .i64 (3*32)) rfl (fun W f=>by kernel_rfl) g ?_;refine hu 16 (.int .i64 ((3:Nat):Int)) rfl (fun W f=>by kernel_rfl) g ?_;refine hu 17 (.int .i64 (3+1)) rfl (fun W f=>by kernel_rfl) g ?_;refine hu 18 (.int .i64 ((3+1)*32)) rfl (fun W f=>by kernel_rfl) g ?_;refine hu 19 (.slice (some ⟨u,1+3*32,none⟩) 32 (128-3*32)) rfl (fun W f=>by kernel_rfl) g ?_;refine yi (i:=20) (by kernel_rfl) (yX rfl rfl _ _ (qJ (.tmp 54) (.tmp 61) 60 60 rfl _ _ (by kernel_rfl) (by kernel_rfl) _ (J _)) ⟨iA.out,?_⟩);refine aK (by kernel_rfl) ?_ _;simp only[zz];go_wp2;go_roundw
        case rel=>exact E.out _ (by decide)
        case measure=>simp[intOf]
       all_goals
        skip
        refine hu 0 (.pointer (some ⟨v.heap.size,0,none⟩)) rfl (fun W f=>by kernel_rfl) g ?_;refine hu 1 (.pointer (some ⟨v.heap.size,0,none⟩)) rfl (fun W f=>by kernel_rfl) g ?_;refine hu 2 (.pointer (some ⟨v.heap.size,0,none⟩)) rfl (fun W f=>by kernel_rfl) g ?_;refine hu 3 (.slice (some ⟨r,0,none⟩) n A) rfl (fun W f=>y9 88 (.tmp 44) rfl ⟨v.heap.size,0,none⟩ (by kernel_rfl) _ (yh underlying88 rfl (y7 f.1 rfl))) g ?_;refine hu 4 (.pointer (some ⟨u,0,none⟩)) rfl (fun W f=>by kernel_rfl) g ?_;refine hu 5 (.int .i64 x.1) rfl (fun W f=>y9 3 (.tmp 46) rfl ⟨u,0,none⟩ (by kernel_rfl) _ (yh underlying3 rfl (y7 f.2 rfl))) g ?_;refine hu 6 (.pointer (some ⟨r,x.1*128,none⟩)) rfl (fun W f=>yc 88 (.tmp 45) (.tmp 47) rfl r 0 n A x.1 128 (by kernel_rfl) (by kernel_rfl) 92 underlying88 QM x1 _ (by simp)) g ?_
       focus
        refine hu 7 (.int .i64 ((0:Nat):Int)) rfl (fun W f=>by kernel_rfl) g ?_;refine hu 8 (.int .i64 (0*32)) rfl (fun W f=>by kernel_rfl) g ?_;refine hu 9 (.int .i64 ((0:Nat):Int)) rfl (fun W f=>by kernel_rfl) g ?_;refine hu 10 (.int .i64 (0+1)) rfl (fun W f=>by kernel_rfl) g ?_;refine hu 11 (.int .i64 ((0+1)*32)) rfl (fun W f=>by kernel_rfl) g ?_;refine hu 12 (.slice (some ⟨r,x.1*128+0*32,none⟩) 32 (128-0*32)) rfl (fun W f=>by kernel_rfl) g ?_;refine hu 13 (.pointer (some ⟨u,1,none⟩)) rfl (fun W f=>by kernel_rfl) g ?_;refine hu 14 (.int .i64 ((0:Nat):Int)) rfl (fun W f=>by kernel_rfl) g ?_;refine hu 15 (.int .i64 (0*32)) rfl (fun W f=>by kernel_rfl) g ?_;refine hu 16 (.int .i64 ((0:Nat):Int)) rfl (fun W f=>by kernel_rfl) g ?_;refine hu 17 (.int .i64 (0+1)) rfl (fun W f=>by kernel_rfl) g ?_;refine hu 18 (.int .i64 ((0+1)*32)) rfl (fun W f=>by kernel_rfl) g ?_;refine hu 19 (.slice (some ⟨u,1+0*32,none⟩) 32 (128-0*32)) rfl (fun W f=>by kernel_rfl) g ?_
       rotate_left
       focus
        refine hu 7 (.int .i64 ((1:Nat):Int)) rfl (fun W f=>by kernel_rfl) g ?_;refine hu 8 (.int .i64 (1*32)) rfl (fun W f=>by kernel_rfl) g ?_;refine hu 9 (.int .i64 ((1:Nat):Int)) rfl (fun W f=>by kernel_rfl) g ?_;refine hu 10 (.int .i64 (1+1)) rfl (fun W f=>by kernel_rfl) g ?_;refine hu 11 (.int .i64 ((1+1)*32)) rfl (fun W f=>by kernel_rfl) g ?_;refine hu 12 (.slice (some ⟨r,x.1*128+1*32,none⟩) 32 (128-1*32)) rfl (fun W f=>by kernel_rfl) g ?_;refine hu 13 (.pointer (some ⟨u,1,none⟩)) rfl (fun W f=>by kernel_rfl) g ?_;refine hu 14 (.int .i64 ((1:Nat):Int)) rfl (fun W f=>by kernel_rfl) g ?_;refine hu 15 (.int .i64 (1*32)) rfl (fun W f=>by kernel_rfl) g ?_;refine hu 16 (.int .i64 ((1:Nat):Int)) rfl (fun W f=>by kernel_rfl) g ?_;refine hu 17 (.int .i64 (1+1)) rfl (fun W f=>by kernel_rfl) g ?_;refine hu 18 (.int .i64 ((1+1)*32)) rfl (fun W f=>by kernel_rfl) g ?_;refine hu 19 (.slice (some ⟨u,1+1*32,none⟩) 32 (128-1*32)) rfl (fun W f=>by kernel_rfl) g ?_
       rotate_left
       all_goals
        refine yi (i:=20) (by kernel_rfl) (yX rfl rfl _ _ (qJ (.tmp 54) (.tmp 61) 60 60 rfl _ _ (by kernel_rfl) (by kernel_rfl) _ (J _)) ⟨iA.out,?_⟩);refine aK (by kernel_rfl) ?_ _;simp only[zz];go_wp2;go_roundw
        case rel=>exact E.out _ (by decide)
        case measure=>simp[intOf]
      ·have E:AgI F x n v.heap.size (.slice Q n A) w u (.int .i64 ((s:Int)+1)) wr:=by
        refine⟨s+1,Mm c s false,by omega,by simp,?_,O⟩;rw[SR];exact C
       exact⟨E,by simp[intOf];omega⟩
     ·have BK:¬(s:Int)<4:=by omega
      have es:s=4:=by omega
      subst es;go_wp2;go_roundw
      case rel=>
       refine⟨j+1,_,by omega,by go_num,?_,C⟩;rw[qe D.q j x hx];exact oV.snoc x c
      case measure=>simp[intOf];omega
   ·have H:=oV.rest (D.q.drop j);rw[aS]at H;go_ret;exact⟨F,_,_,rfl,H,G.d.k0 K6,G.a,G.b,G.k.trans K6⟩
  ·have hge:¬(j:Int)<(D.q.length:Int):=by omega
   have ej:j=D.q.length:=by omega
   subst ej;rw[bV]at oV;go_wp2;go_ret;exact⟨F,_,_,rfl,oV,G⟩
def Ni(L L':List UInt8):Prop:=∃(i:Nat) (b:UInt8),i<L.length/\L[i]?≠some b/\L'=L.set i b
theorem Q1e(x y:Int):bits .xor .u8 x y=((BitVec.ofInt 8 x^^^BitVec.ofInt 8 y).toNat:Int):=by
 have:=(BitVec.ofInt 8 x^^^BitVec.ofInt 8 y).isLt;unfold bits;simp only[IntKind.wrap_u8];show(((BitVec.ofInt 8 x^^^BitVec.ofInt 8 y).toNat:Nat):Int)%256=_;omega
theorem Q1f(b m:Nat)(hb:b<256)(hm:m<8):∃b':UInt8,bits .xor .u8 (b:Int) (2^m%256)=(b'.toNat:Int)/\b'.toNat≠b:=by
 refine⟨⟨BitVec.ofInt 8 b^^^BitVec.ofInt 8 (2^m%256)⟩,Q1e _ _,?_⟩;intro d;have a:BitVec.ofInt 8 (b:Int)^^^BitVec.ofInt 8 (2^m%256)=BitVec.ofInt 8 (b:Int):=by
  apply BitVec.eq_of_toNat_eq;have:(BitVec.ofInt 8 (b:Int)).toNat=b:=by simp;omega
  rw[this];exact d
 have c:BitVec.ofInt 8 (2^m%256)=0#8:=by
  have:=congrArg (fun z=>BitVec.ofInt 8 (b:Int)^^^z) a
  simpa[<-BitVec.xor_assoc]using this
 obtain rfl|rfl|rfl|rfl|rfl|rfl|rfl|rfl:m=0\/m=1\/m=2\/m=3\/m=4\/m=5\/m=6\/m=7:=by omega
 all_goals revert c;decide
def Q1g(D:Dv)(n:Nat)(w:World)(e:Ending)(w':World):Prop:=
 ∃L1 L2 a bv,e=.returned (.pointer (some ⟨a,0,none⟩))/\Sr D.L D.q L1/\(L2=L1\/Ni L1 L2)/\Aft L2 n a bv w w'
theorem Q1h(a:Nat)(bv:Value)(n:Nat)(cv:Value)(D:Dv)(x:Int)(w:World)(h:DQ w a bv n cv D)(hn:n<1000)(hq:D.q.length<=1000000)(_:-9223372036854775808<=x)(_:x<=9223372036854775807):
  Calls prog 162 #[.pointer (some ⟨a,0,none⟩),.int .i64 x] w (Q1g D n w):=by
 go_enter func162,ntmps162;go_wp2_with fail;refine(RF a bv n cv D (.slice none 0 0) [] w h hn (by omega) (aM _ _ _ _)).mono ?_;rintro e o⟨f,I,tq,rfl,H,c⟩;obtain⟨M,L,rfl⟩:=yZ c.d.b;have c0:o.cell? ⟨I,0,none⟩=some (.slice M n L):=y7 c.d.d rfl
 by_cases P:n=0
 ·subst P;go_wp2;go_ret;exact⟨f,f,_,_,rfl,H,Or.inl rfl,c⟩
 ·have eV:(0:Int)<(n:Int)*128*8:=by omega
  obtain⟨N,R⟩:∃N:Int,N=(n:Int)*128*8:=⟨_,rfl⟩
  have X:¬(n:Int)*128*8=0:=by omega
  have J:=Int.tmod_lt_of_pos x (show 0<N by omega);have K:-N<x.tmod N:=by have:=Int.lt_tmod_of_pos x (show 0<N by omega);omega
  obtain⟨k,B⟩:∃k:Nat,(x.tmod N+N).tmod N=k:=⟨((x.tmod N+N).tmod N).toNat,by rw[Int.tmod_eq_emod_of_nonneg (by omega)];have:=Int.emod_nonneg (x.tmod N+N) (show N≠0 by omega);omega⟩
  have W:(k:Int)<N:=by rw[<-B,Int.tmod_eq_emod_of_nonneg (by omega)];exact Int.emod_lt_of_pos _ (by omega)
  rw[R]at B J K;obtain⟨g,BG,r,O,z,_,t,u,v,F⟩:=jf c.d.b (by omega)
  cases O
  have V:k/8/128<n:=by omega
  have s:=c.d.l;simp only[Dv.new]at s;have m:k/8<f.length:=by omega
  have C:o.cell? ⟨g,k/8/128*128+k/8%128,none⟩=some (.int .u8 ((f[k/8]).toNat:Int)):=by
   refine y7 z ?_;have:(u8s f)[k/8]?=some (.int .u8 ((f[k/8]).toNat:Int)):=by rw[Qo,aa m];rfl
   have:=QT F this;rw[show k/8/128*128+k/8%128=k/8 by omega]
   simpa using this
  have U:o.frozen? ⟨g,k/8/128*128+k/8%128,none⟩=false:=ax _ _ _ _ _ z;obtain⟨j,S,Z⟩:=Q1f f[k/8].toNat (k%8) (UInt8.toNat_lt _) (by omega);go_wp2
  go_region
  go_wp2;rw[show k/8/128*128+k/8%128=k/8 by omega];have G:y6 [g] o (o.setCell ⟨g,k/8,none⟩ (.int .u8 j.toNat)).drew:=((y6.refl [g] o).setCell (p:=⟨g,k/8,none⟩) (Or.inl (by simp)) _).drew;have A:=yf (i:=k/8) (.int .u8 j.toNat) z;rw[zD]at A;have Q:(r.set (k/8) (.int .u8 j.toNat)).take (n*128)=u8s (f.set (k/8) j):=by
   rw[dx,F,Dv.new];simp[u8s,List.map_set]
  have Y:=Mx (w:=(o.setCell ⟨g,k/8,none⟩ (.int .u8 j.toNat)).drew) (base:=0) (size:=128) (n:=n) (by rw[yd,bJ];exact s) A (ay _) t u (by rw[bJ];exact v) Q;go_ret;refine⟨f,f.set (k/8) j,_,_,rfl,H,Or.inr ⟨k/8,j,m,?_,rfl⟩,⟨⟨G.get c.d.d (by simpa using(c.d.nb g rfl).symm),Y,aM _ _ _ _,by simp[Fit,Dv.new],fun _=>rfl⟩,c.a,c.b,c.k.trans2 G (by intro y E;simp at E;subst E;exact Or.inr (c.b _ rfl))⟩⟩;rw[aa m];intro T;exact Z (by rw[aH T])
def yS(n:Int)(may:Value)(e:Bool)(were:Value)(wd b:Bool):Array Value:=#[.int .i64 n,may,.bool e,were,.bool wd,.bool b]
def Y0(k:Nat):List Value:=List.replicate k (.slice none 0 0)
theorem imap:(prog.info? 189).map (fun i=>(i.zero,i.size,i.bytes))=some (some (.agg #[.slice none 0 0]),1,24):=by kernel_rfl
def Maps(w:World)(v:Value)(k:Nat):Prop:=w.ownsRow 0 189 1 v k (Y0 k)
theorem Qs(n:Nat)(may:Value)(e:Bool)(were:Value)(wd b:Bool)(w:World):
  Calls prog 132 #[.agg (yS n may e were wd b)] w fun ev w'=>ev=.returned (.bool (decide (8<=n/\n<=400)))/\y6 [] w w':=by
 unfold yS
 by_cases f:8<=n
 ·by_cases d:n<=400
  ·have a:(8:Int)<=n:=by omega
   have c:(n:Int)<=400:=by omega
   go_enter func132,ntmps132;go_wp2;go_ret;exact⟨by simp[f,d],(y6.refl _ _).alloc _⟩
  ·have a:(8:Int)<=n:=by omega
   have c:¬(n:Int)<=400:=by omega
   have d4:decide ((n:Int)<=400)=false:=by simpa using c
   go_enter func132,ntmps132;go_wp2;go_ret;exact⟨by simp,(y6.refl _ _).alloc _⟩
 ·have a:¬(8:Int)<=n:=by omega
  have d8:decide ((8:Int)<=n)=false:=by simpa using a
  go_enter func132,ntmps132;go_wp2;go_ret;exact⟨by simp,(y6.refl _ _).alloc _⟩
end Go.Proofs.YtcklgafpgdhnaaaGreatDoor
