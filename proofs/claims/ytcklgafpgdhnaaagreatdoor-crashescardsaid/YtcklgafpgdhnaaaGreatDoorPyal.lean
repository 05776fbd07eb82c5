import Derived.Test.YtcklgafpgdhnaaaGreatDoorPyak
set_option maxRecDepth 100000
set_option maxHeartbeats 4000000
set_option linter.unusedSimpArgs false
set_option linter.unusedVariables false
set_option linter.unusedSectionVars false
open Go.Proofs.Tryz
namespace Go.Proofs.YtcklgafpgdhnaaaGreatDoor
theorem OZ(k v:ByteArray)(hk:gz k)(hv:v.size<=12):Zw (yy k v) k where
 mid A l B hA hB:=by rw[Zd k v A _ hA,Qy k v l B hB]
 srt l h:=Q3V k v l h
 mem l p c:=by
  rcases VP c with rfl|h
  ·exact Or.inr ⟨rfl,hk.1,hk.2,hv⟩
  ·exact Or.inl h
 size l hs ho:=by
  have c:psz (k,v)<=22:=LX ⟨hk.1,hk.2,hv⟩
  induction l with
  |nil=>simp[yy,gK];exact c
  |cons p r ih=>
   have j:Srt r:=(aP.1 hs).2;have f:=(aP.1 hs).1;have m:psz p<=22:=LX (ho p (by simp));rcases QX p.1 k with b|g|b
   ·have e:yy k v (p::r)=p::yy k v r:=Zd k v [p] r (by simp[b]);have:=ih j fun q a=>ho q (by simp[a]);rw[e];simp;omega
   ·have e:yy k v (p::r)=(k,v)::r:=by
     have d:ym k r=r:=Qj k r fun q a=>by rw[<-g];exact f q a
     unfold yy;rw[qX,g,jU,Qq];simp[jY,d]
    rw[e];simp;omega
   ·have i:∀q∈p::r,bl k q.1=true:=by
     intro q a;rcases an.1 a with rfl|a
     ·exact b
     ·exact gV b (f q a)
    have e:yy k v (p::r)=(k,v)::p::r:=by
     have:=Qy k v [] (p::r) i
     simpa[yy,gK]using this
    rw[e];simp;omega
theorem Rj(k:ByteArray):Zw (ym k) k where
 mid A l B hA hB:=by rw[P2,P2,Vx k A hA,Qj k B hB]
 srt l h:=Q3U h
 mem l p hp:=Or.inl (Xx hp)
 size l hs ho:=by
  induction l with
  |nil=>simp[ym]
  |cons p r ih=>
   have i:Srt r:=(aP.1 hs).2;have d:=(aP.1 hs).1;have j:psz p<=22:=LX (ho p (by simp));have:=ih i fun q b=>ho q (by simp[b])
   cases a:be p.1 k with
   |true=>
    have g:=(QD _ _).1 a;have c:ym k r=r:=Qj k r fun q b=>by rw[<-g];exact d q b
    have e:ym k (p::r)=r:=by
     have f:ym k (p::r)=ym k r:=by simp[ym,a]
     rw[f,c]
    rw[e];simp;omega
   |false=>
    have e:ym k (p::r)=p::ym k r:=by simp[ym,a]
    rw[e];simp;omega
structure Tr where
 h:Nat
 n:Nd h
 pl:Nat
def yH(t:Tr):List Pr:=yV t.h t.n
def g9:(h:Nat)->Nd h->Bool
 |0,l=>List.isEmpty (α:=Pr) l
 |_+1,_=>false
def gh(t:Tr):Nat:=if g9 t.h t.n then 0 else j5 t.h t.n
theorem Q4q(t:Tr):gh t<=j5 t.h t.n:=by unfold gh;split<;>omega
def yu:ByteArray:=⟨#[]⟩
theorem jQ(k:ByteArray):ge k yu:=by
 unfold ge;rw[L7];simp[yu]
structure TW(t:Tr):Prop where
 wf:WFN t.h yu t.n
 full:qd t.h t.n
 hi:yq t.h t.n<=122
 two:0<t.h->22<=yq t.h t.n
 nil:g9 t.h t.n=true->t.pl=0
def lowT:(h:Nat)->Nd h->Tr
 |0,l=>⟨0,l,0⟩
 |h+1,ks=>match(show List (Kid h)from ks)with
  | [a]=>⟨h,a.2,a.3⟩
  |ks'=>⟨h+1,ks',0⟩
def RL(h:Nat)(M:List (Kid h)):Tr:=match M with
 | [a]=>lowT h a.2
 |M'=>⟨h+1,M',0⟩
theorem Ou:∀(h:Nat) (n:Nd h),g9 h n=true->yq h n=0
 |0,l,e=>by
  have:l=([]:List Pr):=List.isEmpty_iff.1 e;subst this;rfl
def gZ(F:List Pr->List Pr)(k:ByteArray)(t:Tr):Tr:=RL t.h (qN t.h yu (yL F k t.h t.n))
theorem Q4t(h:Nat)(n:Nd h)(hw:WFN h yu n)(hf:qd h n)(hi:yq h n<=122):TW (lowT h n)/\yH (lowT h n)=yV h n:=by
 cases h with
 |zero=>exact⟨⟨hw,hf,hi,(by intro h;cases h),fun _=>rfl⟩,rfl⟩
 |succ h=>
  obtain⟨⟨a,c,k,g⟩,j⟩:=(yN h yu n).1 hw;have i:=(yO h n).1 hf;subst g
  cases k with
  |nil=>
   have f:⟨yu,a,c⟩∈ [(⟨yu,a,c⟩:Kid h)]:=by simp
   have d:=i ⟨yu,a,c⟩ f;refine⟨⟨j.all _ f,d.2,d.1.2,fun _=>by have:=d.1.1;show 22<=yq h a;simp at this;omega,fun e=>by have:=d.1.1;have l:=Ou h a e;simp at this;omega⟩,?_⟩;show yV h a=yJ h [⟨yu,a,c⟩];simp[yJ]
  |cons b r=>
   refine⟨⟨hw,hf,hi,fun _=> ?_,fun _=>rfl⟩,rfl⟩;show 22<=11*(⟨yu,a,c⟩::b::r).length;simp;omega
theorem Oh{F:List Pr->List Pr}{k:ByteArray}(hF:Zw F k)(t:Tr)(ht:TW t):TW (gZ F k t)/\yH (gZ F k t)=F (yH t):=by
 have hc:=Zn hF t.h yu t.n ht.wf ht.full (jQ k) ht.two;have g:=hc.hi;have i:=ht.hi;unfold gZ
 by_cases d:yq t.h (yL F k t.h t.n)<=122
 ·have e:qN t.h yu (yL F k t.h t.n)= [⟨yu,yL F k t.h t.n,0⟩]:=by unfold qN;rw[if_pos d]
  rw[e];obtain⟨a,b⟩:=Q4t t.h _ hc.wf hc.full d;exact⟨a,b.trans hc.flat⟩
 ·have c:=Pe t.h yu _ hc.wf hc.full (by omega) (by omega);have e:qN t.h yu (yL F k t.h t.n)= [⟨yu,(yW t.h (yL F k t.h t.n)).1,0⟩,⟨jG t.h (yW t.h (yL F k t.h t.n)).2,(yW t.h (yL F k t.h t.n)).2,0⟩]:=by unfold qN;rw[if_neg d]
  rw[e]at c⊢;refine⟨⟨(yN t.h yu _).2 ⟨⟨_,_,_,rfl⟩,c.kw⟩,fun a f=>c.full a f,by show 11*2<=122;omega,fun _=>by show 22<=11*2;omega,fun _=>rfl⟩,?_⟩;exact c.flat.trans hc.flat
theorem Q4v(l:List Pr)(h:∀p∈l,okp p):(l.map psz).sum<=22*l.length:=by
 induction l with
 |nil=>simp
 |cons p r ih=>
  have:=LX (h p (by simp));have:=ih fun q a=>h q (by simp[a]);simp;omega
theorem RD{h:Nat}(IH:∀(f:ByteArray) (n:Nd h),WFN h f n->qd h n->40<=yq h n->3*j5 h n+1<=2*(yV h n).length)(ks:List (Kid h))(hk:KW h ks)(hf:∀a∈ks,Rt h a.2/\qd h a.2):
  3*(ks.map fun k=>j5 h k.2).sum+ks.length<=2*(yJ h ks).length:=by
 induction ks with
 |nil=>simp[yJ]
 |cons a r ih=>
  have e:KW h r:=⟨(aP.1 hk.ord).2,fun b c=>hk.all b (by simp[c])⟩
  have g:=ih e fun b c=>hf b (by simp[c]);have d:=hf a (by simp);have i:=IH a.1 a.2 (hk.all a (by simp)) d.2 d.1.1;rw[jP,ai];simp;omega
theorem Tv:∀(h:Nat) (f:ByteArray) (n:Nd h),WFN h f n->qd h n->40<=yq h n->3*j5 h n+1<=2*(yV h n).length
 |0,f,l,c,_,b=>by
  have d:=Q4v l fun p i=>(c.2 p i).2;have j:40<=(List.map psz l).sum:=b;show 3*1+1<=2*List.length (α:=Pr) l;omega
 |h+1,f,a,c,e,b=>by
  obtain⟨_,g⟩:=(yN h f a).1 c;have d:=RD (fun f n=>Tv h f n) a g ((yO h a).1 e);have j:40<=11*List.length (α:=Kid h) a:=b;show 3*(1+(List.map (fun k:Kid h=>j5 h k.2) a).sum)+1<=2*(yJ h a).length;omega
theorem Od(t:Tr)(ht:TW t):gh t<=1\/3*gh t<=2*(yH t).length+1:=by
 have hc:=Q4q t;obtain⟨h,n,d⟩:=t
 cases h with
 |zero=>exact Or.inl hc
 |succ h=>
  right;refine av (dD 3 hc) ?_;obtain⟨_,a⟩:=(yN h yu n).1 ht.wf;have b:=RD (fun f n=>Tv h f n) n a ((yO h n).1 ht.full);have c:22<=11*List.length (α:=Kid h) n:=ht.two (by simp);show 3*(1+(List.map (fun k:Kid h=>j5 h k.2) n).sum)<=2*(yJ h n).length+1;omega
theorem Q4z(t:Tr)(ht:TW t)(n mo:Nat)(hn:8<=n)(h:(n-2)/2<gh t):¬LK n mo (yH t).length:=by
 unfold LK;have:=Od t ht;omega
end Go.Proofs.YtcklgafpgdhnaaaGreatDoor
namespace Go.Proofs.YtcklgafpgdhnaaaGreatDoor
open Go.RowKit
def SL(w:World)(t:TypeId)(d:Nat)(v:Value)(es:List El):Prop:=
 (v=.slice none 0 0/\es= [])\/∃g off cap cur,v=.slice (some ⟨g,off,none⟩) es.length cap/\w.heap[g]?=some (.cells cur t (0,0))/\es.length<=cap/\cap<=maxLen/\off+cap*d<=cur.size/\
  ∀(i:Nat) (e:El),es[i]?=some e->e.length=d/\∀(j:Nat) (u:Value),e[j]?=some u->cur[off+i*d+j]?=some u
variable {w:World}{es:List El}
theorem SL.kept{w':World}{t:TypeId}{d:Nat}{v:Value}(h:SL w t d v es)(k:y6 [] w w'):SL w' t d v es:=by
 rcases h with h|⟨g,c,a,b,e,f,r⟩
 ·exact Or.inl h
 ·exact Or.inr ⟨g,c,a,b,e,k.get f (by simp),r⟩
theorem SL.shape{t:TypeId}{d:Nat}{v:Value}(h:SL w t d v es):∃p cap,v=.slice p es.length cap:=by
 rcases h with⟨rfl,rfl⟩|⟨g,off,cap,cur,rfl,_⟩
 ·exact⟨_,_,rfl⟩
 ·exact⟨_,_,rfl⟩
theorem SL.at_{t:TypeId}{d:Nat}{v:Value}(h:SL w t d v es)(hl:0<es.length):∃g off cap cur,v=.slice (some ⟨g,off,none⟩) es.length cap/\w.heap[g]?=some (.cells cur t (0,0))/\es.length<=cap/\cap<=maxLen/\off+cap*d<=cur.size/\
  ∀(i:Nat) (e:El),es[i]?=some e->e.length=d/\∀(j:Nat) (u:Value),e[j]?=some u->cur[off+i*d+j]?=some u:=by
 rcases h with⟨_,rfl⟩|h
 ·simp at hl
 ·exact h
theorem SL.wd{t:TypeId}{d:Nat}{v:Value}(h:SL w t d v es):∀e∈es,e.length=d:=by
 intro e f;obtain⟨i,a⟩:=aU.1 f;obtain⟨g,j,b,c,_,_,_,_,_,hc⟩:=h.at_ (by have:=(ae.1 a).1;omega);exact(hc i e a).1
theorem jC{t ty:TypeId}{g o d:Nat}{cur:Array Value}{e:El}(fs:_){P:Program}(hg:w.heap[g]?=some (.cells cur t (0,0)))(hc:e.length=d/\∀(j:Nat) (u:Value),e[j]?=some u->cur[o+j]?=some u)
  (hu:P.underlying ty=some (.struct fs))(hi:(P.info? ty).map (·.size)=some d):(loadVar ty ⟨g,o,none⟩).run P w=.ok (.agg e.toArray) w:=
 yQ (P:=P) w g o t ty cur.toList e (0,0) _ (by simpa using hg) hu rfl (by rw[hi,hc.1]) (by intro j v a;simpa using hc.2 j v a)
def pe(p:Pr):El:= [.string p.1,.string p.2]
def LF(w:World)(v:Value)(l:List Pr):Prop:=SL w 122 2 v (l.map pe)
theorem LF.kept{w w':World}{v:Value}{l:List Pr}(h:LF w v l)(k:y6 [] w w'):LF w' v l:=SL.kept h k
theorem stp:(prog.info? 122).map (·.size)=some 2:=by kernel_rfl
theorem Wq(k v:Value)(s:ByteArray)(hk:k=.string s)(w:World):Calls prog 246 #[.agg #[k,v]] w fun e w'=>e=.returned (.string s)/\y6 [] w w':=by
 subst hk;go_enter func246,ntmps246;go_wp2;go_ret;exact⟨rfl,(y6.refl _ _).alloc _⟩
theorem Su(a b:ByteArray)(w:World):Calls prog 109 #[.string a,.string b] w fun e w'=>e=.returned (.int .i64 (Lib.compareBytes a.data.toList b.data.toList))/\w'=w:=by
 have d:=fun W=>Lib.run_compareString (P:=prog) a b W;have c:= @run_callFunc_extern prog 170 _ Extern.BytealgCompare.compare func170 (by kernel_rfl) (by kernel_rfl) (by kernel_rfl) (by kernel_rfl);go_enter func109,ntmps109;go_wp2;go_ret;exact⟨rfl,rfl⟩
theorem Vt:∀(a b:List UInt8),(Lib.compareBytes a b<0)=(a<b)
 | [],[]=>by simp[Lib.compareBytes]
 | [],_::_=>by simp[Lib.compareBytes]
 |_::_,[]=>by simp[Lib.compareBytes]
 |x::a,y::b=>by
  have ih:=Vt a b;unfold Lib.compareBytes
  by_cases c:x<y
  ·simp[c,List.cons_lt_cons_iff]
  ·by_cases d:y<x
   ·have:x≠y:=fun e=>by subst e;exact c d
    simp[c,d,List.cons_lt_cons_iff,this]
   ·have e:x=y:=UInt8.le_antisymm (UInt8.not_lt.1 d) (UInt8.not_lt.1 c);subst e;simp[c,ih]
theorem Tt:∀(a b:List UInt8),(Lib.compareBytes a b=0)=(a=b)
 | [],[]=>by simp[Lib.compareBytes]
 | [],_::_=>by simp[Lib.compareBytes]
 |_::_,[]=>by simp[Lib.compareBytes]
 |x::a,y::b=>by
  have ih:=Tt a b;unfold Lib.compareBytes
  by_cases c:x<y
  ·have:x≠y:=fun e=>by subst e;exact absurd c (UInt8.lt_irrefl x)
   simp[c,this]
  ·by_cases d:y<x
   ·have:x≠y:=fun e=>by subst e;exact c d
    simp[c,d,this]
   ·have e:x=y:=UInt8.le_antisymm (UInt8.not_lt.1 d) (UInt8.not_lt.1 c);subst e;simp[c,ih]
def cmpB(a b:ByteArray):Int:=Lib.compareBytes a.data.toList b.data.toList
theorem NB(a b:ByteArray):decide (cmpB a b<0)=bl a b:=by rw[L7];unfold cmpB;simp only[Vt]
theorem Uo(a b:ByteArray):(cmpB a b==0)=be a b:=by
 have h:(cmpB a b=0)=(a.data.toList=b.data.toList):=Tt _ _;have d:be a b=decide (a.data.toList=b.data.toList):=by unfold be;rw[jT,jT];exact Bool.eq_iff_iff.2 (by rw[beq_iff_eq,cE])
 rw[d]
 by_cases e:a.data.toList=b.data.toList
 ·rw[<-h]at e;simp[e,h▸e]
 ·have c:¬cmpB a b=0:=by rw[h];exact e
  simp[e,c]
def Pos(keys:List ByteArray)(k:ByteArray)(i:Nat):Prop:=i<=keys.length/\∀(x:Nat) (q:ByteArray),keys[x]?=some q->(x<i↔bl q k=true)
def ZM(keys:List ByteArray):Prop:=keys.Pairwise fun a b=>bl a b=true
def MB(keys:List ByteArray)(k:ByteArray)(w:World)(e:Ending)(w':World):Prop:=
 ∃(i:Nat) (b:Bool),e=.returned (.tuple #[.int .i64 i,.bool b])/\Pos keys k i/\(b=true↔keys[i]?=some k)/\y6 [] w w'
theorem V5(k v:Value)(w:World):(Go.method 433 122 (.agg #[k,v]) "store/tree.key").run prog w=.ok (246,.agg #[k,v]) w:=by kernel_rfl
theorem UB(s k:ByteArray)(v:Value)(w:World):Calls prog 108 #[.agg #[.string s,v],.string k] w fun e w'=>e=.returned (.int .i64 (cmpB s k))/\y6 [] w w':=by
 have d:=V5;go_enter func108,ntmps108;go_wp2_with(first|(go_at_call 246;refine(Wq _ _ _ rfl _).mono ?_;rintro e f⟨rfl,a⟩)|(go_at_call 109;refine(Su _ _ _).mono ?_;rintro e c⟨rfl,b⟩;rw[b];clear b c))
 go_ret;exact⟨rfl,((y6.refl _ _).alloc _).trans a⟩
def BsI(keys:List ByteArray)(k:ByteArray)(w:World)(i j:Value)(wr:World):Prop:=
 ∃a b:Nat,i=.int .i64 a/\j=.int .i64 b/\a<=b/\b<=keys.length/\(∀(x:Nat) (q:ByteArray),keys[x]?=some q->x<a->bl q k=true)/\(∀(x:Nat) (q:ByteArray),keys[x]?=some q->b<=x->bl q k=false)/\y6 [] w wr
theorem Nq{keys:List ByteArray}(h:ZM keys){x y:Nat}{p q:ByteArray}(hx:keys[x]?=some p)(hy:keys[y]?=some q)(BY:x<y):bl p q=true:=by
 obtain⟨c,a⟩:=ae.1 hx;obtain⟨d,b⟩:=ae.1 hy;have:=bP.1 h x y c d BY
 rwa[a,b]at this
theorem YL(vl:Value)(es:List El)(keys:List ByteArray)(k:ByteArray)(w:World)(h:SL w 122 2 vl es)(sf:es.map List.head?=keys.map fun q=>some (Value.string q))(hr:ZM keys)(hl:es.length<=50000):
  Calls prog 107 #[vl,.string k,.func (.func 108) #[] #[]] w (MB keys k w):=by
 obtain⟨pv,M,rfl⟩:=h.shape;have K:keys.length=es.length:=by have:=congrArg List.length sf;simpa using this.symm
 have s:∀(x:Nat) (q:ByteArray),keys[x]?=some q->∃B,es[x]?=some [.string q,B]:=by
  intro x q n;have d:x<es.length:=by rw[<-K];exact(ae.1 n).1
  have Q:=congrArg (fun l=>l[x]?) sf;simp only[aA,n,b7,aa d]at Q;have C:=aH Q;have T:=h.wd es[x] (List.getElem_mem d);rw[aa d]
  match hes:es[x],C,T with
  | [a,B],C,_=>simp at C;subst C;exact⟨B,rfl⟩
 go_enter func107,ntmps107;go_wp2
 go_loopw [9,10] (fun i j wr=>BsI keys k w i j wr) (fun i j _=>(intOf j).toNat-(intOf i).toNat)
 case atStart=>exact⟨0,es.length,rfl,rfl,ay _,by omega,by intro x q _ d;omega,by intro x q d G;have:=(ae.1 d).1;omega,y6.refl _ _⟩
 case round=>
  obtain⟨a,b,rfl,rfl,tB,G,A,z,u⟩:=hrel
  by_cases V:a<b
  ·have R:(a:Int)<(b:Int):=by omega
   obtain⟨m,W⟩:∃m:Nat,m=(a+b)/2:=⟨_,rfl⟩
   obtain⟨q,n⟩:∃q,keys[m]?=some q:=⟨_,aa (by omega)⟩
   obtain⟨B,v⟩:=s m q n;obtain⟨g,f,D,E,e,y,H,I,J,t⟩:=(h.kept u).at_ (by omega)
   cases e
   have N:=jC (P:=prog) (ty:=122) _ y (t m _ v) underlying122 stp;have Hc:((a:Int)+(b:Int))/2=(m:Int):=by omega
   have L:m<es.length:=by omega
   have X:a<=m/\m<b:=by omega
   clear t W
   cases c:bl q k
   focus
    have hc:¬cmpB q k<0:=by rw[<-NB]at c;simpa using c
   rotate_left
   focus
    have hc:cmpB q k<0:=by rw[<-NB]at c;simpa using c
   rotate_left
   all_goals
    go_wp2_with(first|(refine ya rfl _ _ (yc 115 (.tmp 25) (.tmp 26) rfl g f es.length M m 2 rfl rfl 122 underlying115 stp L (f+m*2) (by omega)) ?_)|(refine y8 rfl 122 (.tmp 27) rfl ⟨g,f+m*2,none⟩ rfl _ N ?_)|(go_at_call 108;refine(UB _ _ _ _).mono ?_;rintro e w2⟨rfl,r⟩))
   ·go_roundw
    case rel=>
     refine⟨a,m,rfl,rfl,by omega,by omega,A,?_,u.trans r⟩;intro x p d S;rcases bG m x with o|o
     ·exact jn (Zt (Nq hr n d o)) c
     ·have e:x=m:=by omega
      subst e;rw[n]at d;cases d;exact c
    case measure=>simp[intOf];omega
   ·go_roundw
    case rel=>
     refine⟨m+1,b,by go_num,rfl,by omega,G,?_,z,u.trans r⟩;intro x p d S;rcases bG x m with o|o
     ·exact gV (Nq hr d n o) c
     ·have e:x=m:=by omega
      subst e;rw[n]at d;cases d;exact c
    case measure=>simp[intOf];omega
  ·have U:¬(a:Int)<(b:Int):=by omega
   have F:a=b:=by omega
   subst F;have O:Pos keys k a:=by
    refine⟨G,fun x q d=>⟨fun Z=>A x q d Z,fun c=> ?_⟩⟩;rcases bG x a with o|o
    ·exact o
    ·have:=z x q d o;rw[this]at c;cases c
   by_cases Y:a<es.length
   ·have uH:(a:Int)<(es.length:Int):=by omega
    obtain⟨q,n⟩:∃q,keys[a]?=some q:=⟨_,aa (by omega)⟩
    obtain⟨B,v⟩:=s a q n;obtain⟨g,f,D,E,e,y,H,I,J,t⟩:=(h.kept u).at_ (by omega)
    cases e
    have N:=jC (P:=prog) (ty:=122) _ y (t a _ v) underlying122 stp;have c0:wr.cell? ⟨g,f+a*2,none⟩=some (.string q):=y7 y ((t a _ v).2 0 _ rfl);have c1:=y7 y ((t a _ v).2 1 _ rfl);have th:=jV (P:=prog) (w:=wr) 115 g f es.length M a 2 122 underlying115 stp Y (f+a*2) rfl;clear t;go_wp2_with(first|(go_at_call 108;refine(UB _ _ _ _).mono ?_;rintro e w2⟨rfl,r⟩))
    go_ret2
    refine⟨a,cmpB q k==0,rfl,O,?_,u.trans r⟩;rw[Uo,QD,n];simp
   ·have uH:¬(a:Int)<(es.length:Int):=by omega
    go_wp2
    go_ret2
    refine⟨a,false,rfl,O,?_,u⟩;have:keys[a]?=none:=by rw[dO];omega
    simp[this]
theorem NL(vl:Value)(es:List El)(keys:List ByteArray)(k:ByteArray)(w:World)(h:SL w 122 2 vl es)(sf:es.map List.head?=keys.map fun q=>some (Value.string q))(hr:ZM keys)(hl:es.length<=50000):
  Calls prog 70 #[vl,.string k] w (MB keys k w):=by
 have a:Hid (Calls _ _ _ _ _):=YL vl es keys k w h sf hr hl;go_enter func70,ntmps70;go_wp2_with(first|(go_at_call 107;refine a.out.mono ?_;rintro e g⟨i,b,rfl,c,d,f⟩))
 go_ret2
 exact⟨i,b,rfl,c,d,f⟩
abbrev KE:=qG Value
theorem stk:(prog.info? 80).map (·.size)=some 3:=by kernel_rfl
theorem Tj(k v u:Value)(s:ByteArray)(hk:k=.string s)(w:World):Calls prog 226 #[.agg #[k,v,u]] w fun e w'=>e=.returned (.string s)/\y6 [] w w':=by
 subst hk;go_enter func226,ntmps226;go_wp2;go_ret;exact⟨rfl,(y6.refl _ _).alloc _⟩
theorem WX(k v u:Value)(w:World):(Go.method 433 80 (.agg #[k,v,u]) "store/tree.key").run prog w=.ok (226,.agg #[k,v,u]) w:=by kernel_rfl
theorem Vs(s k:ByteArray)(v u:Value)(w:World):Calls prog 273 #[.agg #[.string s,v,u],.string k] w fun e w'=>e=.returned (.int .i64 (cmpB s k))/\y6 [] w w':=by
 have d:=WX;go_enter func273,ntmps273;go_wp2_with(first|(go_at_call 226;refine(Tj _ _ _ _ rfl _).mono ?_;rintro e f⟨rfl,a⟩)|(go_at_call 109;refine(Su _ _ _).mono ?_;rintro e c⟨rfl,b⟩;rw[b];clear b c))
 go_ret;exact⟨rfl,((y6.refl _ _).alloc _).trans a⟩
theorem Q4P(vl:Value)(es:List El)(keys:List ByteArray)(k:ByteArray)(w:World)(h:SL w 80 3 vl es)(sf:es.map List.head?=keys.map fun q=>some (Value.string q))(hr:ZM keys)(hl:es.length<=50000):
  Calls prog 272 #[vl,.string k,.func (.func 273) #[] #[]] w (MB keys k w):=by
 obtain⟨pv,N,rfl⟩:=h.shape;have L:keys.length=es.length:=by have:=congrArg List.length sf;simpa using this.symm
 have t:∀(x:Nat) (q:ByteArray),keys[x]?=some q->∃B C,es[x]?=some [.string q,B,C]:=by
  intro x q n;have d:x<es.length:=by rw[<-L];exact(ae.1 n).1
  have R:=congrArg (fun l=>l[x]?) sf;simp only[aA,n,b7,aa d]at R;have D:=aH R;have U:=h.wd es[x] (List.getElem_mem d);rw[aa d]
  match hes:es[x],D,U with
  | [a,B,C],D,_=>simp at D;subst D;exact⟨B,C,rfl⟩
 go_enter func272,ntmps272;go_wp2
 go_loopw [9,10] (fun i j wr=>BsI keys k w i j wr) (fun i j _=>(intOf j).toNat-(intOf i).toNat)
 case atStart=>exact⟨0,es.length,rfl,rfl,ay _,by omega,by intro x q _ d;omega,by intro x q d H;have:=(ae.1 d).1;omega,y6.refl _ _⟩
 case round=>
  obtain⟨a,b,rfl,rfl,tB,H,A,z,u⟩:=hrel
  by_cases W:a<b
  ·have S:(a:Int)<(b:Int):=by omega
   obtain⟨m,X⟩:∃m:Nat,m=(a+b)/2:=⟨_,rfl⟩
   obtain⟨q,n⟩:∃q,keys[m]?=some q:=⟨_,aa (by omega)⟩
   obtain⟨B,C,v⟩:=t m q n;obtain⟨g,f,E,F,e,y,I,J,K,s⟩:=(h.kept u).at_ (by omega)
   cases e
   have O:=jC (P:=prog) (ty:=80) _ y (s m _ v) underlying80 stk;have Hc:((a:Int)+(b:Int))/2=(m:Int):=by omega
   have M:m<es.length:=by omega
   have Y:a<=m/\m<b:=by omega
   clear s X
   cases c:bl q k
   focus
    have hc:¬cmpB q k<0:=by rw[<-NB]at c;simpa using c
   rotate_left
   focus
    have hc:cmpB q k<0:=by rw[<-NB]at c;simpa using c
   rotate_left
   all_goals
    go_wp2_with(first|(refine ya rfl _ _ (yc 165 (.tmp 25) (.tmp 26) rfl g f es.length N m 3 rfl rfl 80 underlying165 stk M (f+m*3) (by omega)) ?_)|(refine y8 rfl 80 (.tmp 27) rfl ⟨g,f+m*3,none⟩ rfl _ O ?_)|(go_at_call 273;refine(Vs _ _ _ _ _).mono ?_;rintro e w2⟨rfl,r⟩))
   ·go_roundw
    case rel=>
     refine⟨a,m,rfl,rfl,by omega,by omega,A,?_,u.trans r⟩;intro x p d T;rcases bG m x with o|o
     ·exact jn (Zt (Nq hr n d o)) c
     ·have e:x=m:=by omega
      subst e;rw[n]at d;cases d;exact c
    case measure=>simp[intOf];omega
   ·go_roundw
    case rel=>
     refine⟨m+1,b,by go_num,rfl,by omega,H,?_,z,u.trans r⟩;intro x p d T;rcases bG x m with o|o
     ·exact gV (Nq hr d n o) c
     ·have e:x=m:=by omega
      subst e;rw[n]at d;cases d;exact c
    case measure=>simp[intOf];omega
  ·have V:¬(a:Int)<(b:Int):=by omega
   have G:a=b:=by omega
   subst G;have Q:Pos keys k a:=by
    refine⟨H,fun x q d=>⟨fun sc=>A x q d sc,fun c=> ?_⟩⟩;rcases bG x a with o|o
    ·exact o
    ·have:=z x q d o;rw[this]at c;cases c
   by_cases Z:a<es.length
   ·have uH:(a:Int)<(es.length:Int):=by omega
    obtain⟨q,n⟩:∃q,keys[a]?=some q:=⟨_,aa (by omega)⟩
    obtain⟨B,C,v⟩:=t a q n;obtain⟨g,f,E,F,e,y,I,J,K,s⟩:=(h.kept u).at_ (by omega)
    cases e
    have O:=jC (P:=prog) (ty:=80) _ y (s a _ v) underlying80 stk;have c0:wr.cell? ⟨g,f+a*3,none⟩=some (.string q):=y7 y ((s a _ v).2 0 _ rfl);have c1:=y7 y ((s a _ v).2 1 _ rfl);have c2:=y7 y ((s a _ v).2 2 _ rfl);have th:=jV (P:=prog) (w:=wr) 165 g f es.length N a 3 80 underlying165 stk Z (f+a*3) rfl;clear s;go_wp2_with(first|(go_at_call 273;refine(Vs _ _ _ _ _).mono ?_;rintro e w2⟨rfl,r⟩))
    go_ret2
    refine⟨a,cmpB q k==0,rfl,Q,?_,u.trans r⟩;rw[Uo,QD,n];simp
   ·have uH:¬(a:Int)<(es.length:Int):=by omega
    go_wp2
    go_ret2
    refine⟨a,false,rfl,Q,?_,u⟩;have:keys[a]?=none:=by rw[dO];omega
    simp[this]
theorem Q4Q(vl:Value)(es:List El)(keys:List ByteArray)(k:ByteArray)(w:World)(h:SL w 80 3 vl es)(sf:es.map List.head?=keys.map fun q=>some (Value.string q))(hr:ZM keys)(hl:es.length<=50000):
  Calls prog 268 #[vl,.string k] w (MB keys k w):=by
 have a:Hid (Calls _ _ _ _ _):=Q4P vl es keys k w h sf hr hl;go_enter func268,ntmps268;go_wp2_with(first|(go_at_call 272;refine a.out.mono ?_;rintro e g⟨i,b,rfl,c,d,f⟩))
 go_ret2
 exact⟨i,b,rfl,c,d,f⟩
theorem WU(k v:Value)(w:World):(Go.method 433 122 (.agg #[k,v]) "store/tree.size").run prog w=.ok (248,.agg #[k,v]) w:=by kernel_rfl
theorem WK(p:Pr)(w:World)(h1:p.1.size<=100000:=by omega)(h2:p.2.size<=100000:=by omega):Calls prog 248 #[.agg #[.string p.1,.string p.2]] w fun e w'=>e=.returned (.int .i64 (psz p:Nat))/\y6 [] w w':=by
 go_enter func248,ntmps248;go_wp2;go_ret;exact⟨by unfold psz;simp,(y6.refl _ _).alloc _⟩
def MePI(l:List Pr)(w:World)(s i:Value)(wr:World):Prop:=∃j:Nat,j<=l.length/\i=.int .i64 j/\s=.int .i64 (((l.take j).map psz).sum:Nat)/\y6 [] w wr
theorem Pj(vl:Value)(l:List Pr)(w:World)(h:SL w 122 2 vl (l.map pe))(hl:l.length<=50000)(hs:∀x∈l,psz x<=22):
  Calls prog 244 #[vl] w fun e w'=>e=.returned (.int .i64 ((l.map psz).sum:Nat))/\y6 [] w w':=by
 obtain⟨R,B,q⟩:=h.shape;rw[aj]at q;subst q;have Q:=WU;have k:∀j,((l.take j).map psz).sum<=22*l.length:=by
  intro j;have:∀(L:List Pr),(∀x∈L,psz x<=22)->(L.map psz).sum<=22*L.length:=by
   intro L t
   induction L with
   |nil=>simp
   |cons a r ih=>
    have D:=t a (by simp);have E:=ih fun x c=>t x (by simp[c]);simp only[bn,bE,aB];omega
  have D:=this (l.take j) fun x c=>hs x (cM c);have E:(l.take j).length<=l.length:=by rw[au];exact Nat.min_le_right _ _
  omega
 go_enter func244,ntmps244;go_wp2
 go_loopw [3,8] (fun s i wr=>MePI l w s i wr) (fun _ i _=>l.length-(intOf i).toNat)
 case atStart=>exact⟨0,ay _,rfl,by simp,y6.refl _ _⟩
 case round=>
  obtain⟨j,O,rfl,rfl,m⟩:=hrel
  by_cases f:j<l.length
  ·have u:(j:Int)<(l.length:Int):=by omega
   obtain⟨x,c⟩:∃x,l[j]?=some x:=⟨_,aa f⟩
   have v:=hs x (ah c);have M:x.1.size<=22:=by unfold psz at v;omega
   have N:x.2.size<=22:=by unfold psz at v;omega
   have T:=k j;have b:((l.take (j+1)).map psz).sum=((l.take j).map psz).sum+psz x:=by
    rw[qe l j x c];simp
   obtain⟨g,d,z,A,e,J,G,H,I,o⟩:=(h.kept m).at_ (by simp;omega);rw[aj]at e
   cases e
   have p:=jC (P:=prog) (ty:=122) _ J (o j _ (by rw[aA,c];rfl)) underlying122 stp;simp only[pe]at p;generalize F:((l.take j).map psz).sum=S at*;have y:Hid _:=b;clear o b F;go_wp2_with(first|(refine ya rfl _ _ (yc 115 (.tmp 6) (.tmp 8) rfl g d l.length B j 2 rfl rfl 122 underlying115 stp f (d+j*2) rfl) ?_)|(refine y8 rfl 122 (.tmp 10) rfl ⟨g,d+j*2,none⟩ rfl _ p ?_)|(go_at_call 248;refine(WK _ _).mono ?_;rintro e U⟨rfl,n⟩))
   go_roundw
   case rel=>exact⟨j+1,by omega,by go_num,by rw[y.out];simp,((m.alloc _).trans n)⟩
   case measure=>simp[intOf];omega
  ·have K:¬(j:Int)<(l.length:Int):=by omega
   have C:j=l.length:=by omega
   subst C;go_wp2;go_ret;exact⟨rfl,m⟩
def ke(x:KE):El:= [.string x.1,.int .i64 x.3,x.2]
def ksz(_:KE):Nat:=11
theorem WE(k v u:Value)(w:World):(Go.method 433 80 (.agg #[k,v,u]) "store/tree.size").run prog w=.ok (227,.agg #[k,v,u]) w:=by kernel_rfl
theorem Tq(x:KE)(w:World):Calls prog 227 #[.agg #[.string x.1,.int .i64 x.3,x.2]] w fun e w'=>e=.returned (.int .i64 (ksz x:Nat))/\y6 [] w w':=by
 go_enter func227,ntmps227;go_wp2;go_ret;exact⟨rfl,(y6.refl _ _).alloc _⟩
def MeKI(l:List KE)(w:World)(s i:Value)(wr:World):Prop:=∃j:Nat,j<=l.length/\i=.int .i64 j/\s=.int .i64 (((l.take j).map ksz).sum:Nat)/\y6 [] w wr
theorem Tc(vl:Value)(l:List KE)(w:World)(h:SL w 80 3 vl (l.map ke))(hl:l.length<=50000)(hs:∀x∈l,ksz x<=22)(ho:∀x∈l,∃t v,x.2=.iface t v):
  Calls prog 266 #[vl] w fun e w'=>e=.returned (.int .i64 ((l.map ksz).sum:Nat))/\y6 [] w w':=by
 obtain⟨V,C,q⟩:=h.shape;rw[aj]at q;subst q;have T:=WE;have k:∀j,((l.take j).map ksz).sum<=22*l.length:=by
  intro j;have:∀(L:List KE),(∀x∈L,ksz x<=22)->(L.map ksz).sum<=22*L.length:=by
   intro L u
   induction L with
   |nil=>simp
   |cons a r ih=>
    have F:=u a (by simp);have G:=ih fun x c=>u x (by simp[c]);simp only[bn,bE,aB];omega
  have F:=this (l.take j) fun x c=>hs x (cM c);have G:(l.take j).length<=l.length:=by rw[au];exact Nat.min_le_right _ _
  omega
 go_enter func266,ntmps266;go_wp2
 go_loopw [3,8] (fun s i wr=>MeKI l w s i wr) (fun _ i _=>l.length-(intOf i).toNat)
 case atStart=>exact⟨0,ay _,rfl,by simp,y6.refl _ _⟩
 case round=>
  obtain⟨j,R,rfl,rfl,m⟩:=hrel
  by_cases f:j<l.length
  ·have y:(j:Int)<(l.length:Int):=by omega
   obtain⟨x,c⟩:∃x,l[j]?=some x:=⟨_,aa f⟩
   have U:=hs x (ah c);obtain⟨O,Q,D⟩:=ho x (ah c);have W:=k j;have b:((l.take (j+1)).map ksz).sum=((l.take j).map ksz).sum+ksz x:=by
    rw[qe l j x c];simp
   obtain⟨g,d,A,B,e,M,I,J,K,o⟩:=(h.kept m).at_ (by simp;omega);rw[aj]at e
   cases e
   have p:=jC (P:=prog) (ty:=80) _ M (o j _ (by rw[aA,c];rfl)) underlying80 stk;simp only[ke,D]at p;generalize H:((l.take j).map ksz).sum=S at*;have z:Hid _:=b;clear o b H;go_wp2_with(first|(refine ya rfl _ _ (yc 165 (.tmp 6) (.tmp 8) rfl g d l.length C j 3 rfl rfl 80 underlying165 stk f (d+j*3) rfl) ?_)|(refine y8 rfl 80 (.tmp 10) rfl ⟨g,d+j*3,none⟩ rfl _ p ?_)|(go_at_call 227;refine(Tq ⟨x.1,.iface O Q,x.3⟩ _).mono ?_;rintro e X⟨rfl,n⟩))
   go_roundw
   case rel=>exact⟨j+1,by omega,by go_num,by rw[z.out];simp only[ksz];rw[Value.int.injEq];refine⟨rfl,?_⟩;rw[w64 _ (by omega)];omega,((m.alloc _).trans n)⟩
   case measure=>simp[intOf];omega
  ·have N:¬(j:Int)<(l.length:Int):=by omega
   have E:j=l.length:=by omega
   subst E;go_wp2;go_ret;exact⟨rfl,m⟩
end Go.Proofs.YtcklgafpgdhnaaaGreatDoor
