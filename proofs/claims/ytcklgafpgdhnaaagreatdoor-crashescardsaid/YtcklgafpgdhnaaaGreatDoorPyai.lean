import Derived.Test.YtcklgafpgdhnaaaGreatDoorPyah
import Derived.Lib.Bytealg
import Derived.BigQuiet
import Derived.Deep.QuietTactic
set_option maxRecDepth 100000
set_option maxHeartbeats 4000000
set_option linter.unusedSimpArgs false
set_option linter.unusedVariables false
set_option linter.unusedSectionVars false
open Go.Proofs.Tryz
namespace Go.Proofs.YtcklgafpgdhnaaaGreatDoor
open Go.RowKit
variable {w:World}{base size:Nat}{xs:List Value}
theorem gJ{e n:Nat}{v:Value}(h:w.ownsRow base e size v n xs):∃p l q,v=.slice p l q:=by
 obtain⟨p,q,e⟩:=yZ h;exact⟨p,_,q,e⟩
theorem srd:(prog.info? 151).map (·.size)=some 6:=by kernel_rfl
theorem QV(n:Int)(p1 p2:Option Addr)(l1 q1 l2 q2:Nat)(e wd b:Bool):(yS n (.slice p1 l1 q1) e (.slice p2 l2 q2) wd b).all (·.oneCell')=true:=by
 have a:∀p l q,(Value.slice p l q).oneCell'=true:=fun _ _ _=>rfl;have c:∀x,(Value.bool x).oneCell'=true:=fun _=>rfl;have d:∀k x,(Value.int k x).oneCell'=true:=fun _ _=>rfl;simp[yS,a,c,d]
theorem qv(x:Int)(w:World):Calls prog 133 #[.int .i64 x] w fun e w'=>e=.returned (.int .i64 x)/\w'=w:=by
 go_enter func133,ntmps133;go_wp2;go_ret;exact⟨rfl,rfl⟩
abbrev Pr:=ByteArray×ByteArray
def gH(p:Pr):List Value:= [.string p.1,.string p.2]
def yU(l:List Pr):List Value:=l.flatMap gH
theorem qU(p:Pr):(gH p).length=2:=rfl
theorem gk(l:List Pr):(yU l).length=l.length*2:=by
 induction l with
 |nil=>rfl
 |cons o r ih=>
  have:yU (o::r)=gH o++yU r:=rfl;rw[this,ai,ih,qU,aB];omega
theorem Vi(l:List Pr):∀(i:Nat) (p:Pr),l[i]?=some p->∀(j:Nat) (v:Value),(gH p)[j]?=some v->(yU l)[i*2+j]?=some v:=by
 induction l with
 |nil=>intro i o h;simp at h
 |cons x r ih=>
  intro i o h j v a;have b:j<2:=by have:=(ae.1 a).1;rwa[qU]at this
  have e:yU (x::r)=gH x++yU r:=rfl;rw[e]
  cases i with
  |zero=>
   simp at h;subst h;rw[bq (by rw[qU];omega)]
   simpa using a
  |succ i=>
   rw[bh (by rw[qU];omega),qU];have:=ih i o (by simpa using h) j v a;rw[show(i+1)*2+j-2=i*2+j by omega];exact this
theorem Ph(l:List Pr)(p:Pr):yU l++gH p=yU (l++ [p]):=by simp[yU]
theorem QW(p:Pr):∀v∈gH p,v.oneCell'=true:=by
 intro v a;simp only[gH,an,bW,or_false]at a;rcases a with rfl|rfl<;>rfl
def PL(w:World)(t:TypeId)(v:Value)(l:List Pr):Prop:=w.ownsRow 0 t 2 v l.length (yU l)
theorem PL.nil(w:World)(t:TypeId):PL w t (.slice none 0 0) []:=aM _ _ _ _
theorem PL.shape{t:TypeId}{v:Value}{l:List Pr}(h:PL w t v l):∃p cap,v=.slice p l.length cap:=by
 obtain⟨_,⟨rfl,b⟩|⟨g,cap,a,rfl,_⟩⟩:=h
 ·exact⟨none,0,by rw[b]⟩
 ·exact⟨_,_,rfl⟩
theorem PL.at_{t:TypeId}{v:Value}{l:List Pr}(h:PL w t v l)(hl:0<l.length):∃g cap cur,v=.slice (some ⟨g,0,none⟩) l.length cap/\w.heap[g]?=some (.cells cur t (0,0))/\
  (∀(i:Nat) (p:Pr),l[i]?=some p->cur[i*2]?=some (.string p.1)/\cur[i*2+1]?=some (.string p.2)):=by
 obtain⟨_,⟨_,a⟩|⟨g,cap,cur,e,_,f,_,_,_,c⟩⟩:=h
 ·omega
 refine⟨g,cap,cur,e,f,?_⟩;intro i p b;have j:i<l.length:=(ae.1 b).1;have a:=Vi l i p b 0 _ rfl;have d:=Vi l i p b 1 _ rfl;rw[<-c,aD,if_pos (by omega)]at a d;exact⟨by simpa using a,by simpa using d⟩
theorem PL.load{t ty:TypeId}{g i:Nat}{cur:Array Value}{p:Pr}(fs:_){P:Program}(hg:w.heap[g]?=some (.cells cur t (0,0)))(hc:cur[i*2]?=some (.string p.1)/\cur[i*2+1]?=some (.string p.2))
  (hu:P.underlying ty=some (.struct fs))(hi:(P.info? ty).map (·.size)=some 2):
  (loadVar ty ⟨g,i*2,none⟩).run P w=.ok (.agg #[.string p.1,.string p.2]) w:=by
 refine yQ (P:=P) w g (i*2) t ty cur.toList [.string p.1,.string p.2] (0,0) _ (by simpa using hg) hu rfl hi ?_;intro j v a;rcases j with _|_|j
 ·simp at a;subst a;simpa using hc.1
 ·simp at a;subst a;simpa using hc.2
 ·simp at a
theorem PL.kept{S:List Nat}{w':World}{t:TypeId}{v:Value}{l:List Pr}(h:PL w t v l)(k:y6 S w w')(hS:∀b,v.ownBlock=some b->b∉S):PL w' t v l:=yb h k hS
theorem irp:(prog.info? 224).map (fun i=>(i.zero,i.size,i.bytes))=some (some (.agg #[.string ⟨#[]⟩,.string ⟨#[]⟩]),2,32):=by kernel_rfl
theorem srp:(prog.info? 224).map (·.size)=some 2:=by kernel_rfl
theorem iap:(prog.info? 41).map (fun i=>(i.zero,i.size,i.bytes))=some (some (.agg #[.string ⟨#[]⟩,.string ⟨#[]⟩]),2,32):=by kernel_rfl
theorem sap:(prog.info? 41).map (·.size)=some 2:=by kernel_rfl
theorem smap:(prog.info? 189).map (·.size)=some 1:=by kernel_rfl
def bl(a b:ByteArray):Bool:=Op.bytesLess a.toList b.toList
def be(a b:ByteArray):Bool:=a.toList==b.toList
theorem jT(s:ByteArray):s.toList=s.data.toList:=ByteArray.toList_eq s
theorem WZ:∀(x y:List UInt8),Op.bytesLess x y=decide (x<y)
 | [],[]=>by simp[Op.bytesLess]
 |_::_,[]=>by simp[Op.bytesLess]
 | [],_::_=>by simp[Op.bytesLess]
 |a::x,b::y=>by
  have ih:=WZ x y;unfold Op.bytesLess;rw[ih]
  by_cases c:a<b<;>by_cases d:a=b<;>by_cases e:x<y<;>simp[List.cons_lt_cons_iff,c,d,e]
theorem L7(a b:ByteArray):bl a b=decide (a.data.toList<b.data.toList):=by rw[bl,WZ,jT,jT]
theorem QD(a b:ByteArray):be a b=true↔a=b:=by
 rw[be,jT,jT,beq_iff_eq];constructor
 ·intro h
  cases a;cases b
  simp only[ByteArray.mk.injEq];exact Array.toList_inj.1 h
 ·rintro rfl;rfl
theorem MY(a b:ByteArray):be a b=false↔a≠b:=by
 have:=QD a b
 cases h:be a b<;>simp_all
theorem Qq(a:ByteArray):be a a=true:=(QD a a).2 rfl
theorem jU(a:ByteArray):bl a a=false:=by rw[L7];simp[List.lt_irrefl]
theorem gV{a b c:ByteArray}(h1:bl a b=true)(h2:bl b c=true):bl a c=true:=by
 rw[L7,cE]at*;exact List.lt_trans h1 h2
theorem QX(a b:ByteArray):bl a b=true\/a=b\/bl b a=true:=by
 simp only[L7,cE];rcases Decidable.em (a.data.toList<b.data.toList)with h|h
 ·exact Or.inl h
 rcases Decidable.em (b.data.toList<a.data.toList)with h'|h'
 ·exact Or.inr (Or.inr h')
 right;left;have:=List.le_antisymm (List.not_lt.1 h') (List.not_lt.1 h)
 cases a;cases b
 simp only[ByteArray.mk.injEq];exact Array.toList_inj.1 this
def gK(k v:ByteArray):Bool->List Pr->List Pr
 |b,[]=>if b then []else [(k,v)]
 |b,p::r=>(if !b&& !bl p.1 k then [(k,v)]else [])++(if be p.1 k then []else [p])++gK k v (b|| !bl p.1 k) r
def yy(k v:ByteArray)(l:List Pr):List Pr:=gK k v false l
def ym(k:ByteArray)(l:List Pr):List Pr:=l.filter fun p=> !be p.1 k
def gA(k:ByteArray):List Pr->Option ByteArray
 | []=>none
 |p::r=>if be p.1 k then some p.2 else gA k r
def inR(lo hi:ByteArray)(p:Pr):Bool:= !bl p.1 lo&&bl p.1 hi
def Qu(lo hi:ByteArray)(m:Nat)(l:List Pr):List Pr:=(l.filter (inR lo hi)).take m
theorem jw(w:World)(p:Pr):(Instr.buildSlice 187 1 #[(0,.agg #[.string p.1,.string p.2])]).run prog w=.ok (.slice (some ⟨w.heap.size,0,none⟩) 1 1) (w.alloc (.cells (gH p).toArray 224)):=by
 obtain⟨d,c,a,b,_⟩:=bu irp;exact Qd (P:=prog) w 187 224 #[.string p.1,.string p.2] d _ underlying187 c a (by rw[b];rfl) (by simp) (by simp)
theorem j1{ops:Array Oper}{rest:List Oper}{o:Oper}{a:Act}{Q:Exit->Act->World->Prop}(hgd:o.guard=none)(s x:Operand)(ho:o.op=.call {callee:=.builtin .append,args:=#[s,x],argTypes:=#[187,187]})
  (base:Nat)(v:Value)(l:List Pr)(hs:a.eval s=v)(dZ:w.ownsRow base 224 2 v l.length (yU l))(p:Pr)(nb:Nat)(hx:a.eval x=.slice (some ⟨nb,0,none⟩) 1 1)(hn:w.heap[nb]?=some (.cells (gH p).toArray 224 (0,0)))
  (hl:l.length<=100000)(hb:base<=w.heap.size)
  (h:∀v' w',w'.ownsRow base 224 2 v' (l++ [p]).length (yU (l++ [p]))->y6 v.ownBlock.toList w w'->wpList prog ops Q rest (a.put o.dst v') w'):wpList prog ops Q (o::rest) a w:=by
 obtain⟨j,f,c,e,d⟩:=bu irp;refine cK _ hgd s x 187 ho base 224 j _ 2 32 underlying187 f c e d rfl (by decide) v l.length (yU l) hs dZ ⟨nb,0,none⟩ 1 1 (gH p) hx rfl (ju hn) (QW p) (by unfold maxLen;omega) (by omega) hb ?_;intro v' w' b i _;exact h v' w' (by rw[<-Ph];simpa using b) (yF i _ (by intro y g;rw[g];simp))
theorem qj{e n:Nat}{v:Value}(h:w.ownsRow base e size v n xs):∀y∈v.ownBlock.toList,base<=y:=by
 intro y a;simp at a;exact(h.lt y a).1
theorem LW{e n:Nat}{v:Value}(h:w.ownsRow base e size v n xs):∀y∈v.ownBlock.toList,y<w.heap.size:=by
 intro y a;simp at a;exact(h.lt y a).2
theorem ZF(k v:ByteArray)(b:Bool):gK k v b []=if b then []else [(k,v)]:=rfl
theorem qX(k v:ByteArray)(b:Bool)(p:Pr)(r:List Pr):gK k v b (p::r)=(if !b&& !bl p.1 k then [(k,v)]else [])++(if be p.1 k then []else [p])++gK k v (b|| !bl p.1 k) r:=rfl
theorem jx{e n:Nat}{v:Value}(h:w.ownsRow base e size v n xs):∃p c,v=.slice p n c:=by
 obtain⟨_,⟨rfl,rfl⟩|⟨g,a,b,rfl,_⟩⟩:=h
 ·exact⟨_,_,rfl⟩
 ·exact⟨_,_,rfl⟩
def WR(w:World)(vl:Value)(l:List Pr)(k v:ByteArray)(out put i:Value)(wr:World):Prop:=
 ∃(j:Nat) (b:Bool) (o:List Pr),j<=l.length/\i=.int .i64 j/\put=.bool b/\wr.ownsRow (w.heap.size+2) 224 2 out o.length (yU o)/\o.length<=j+b.toNat/\o++gK k v b (l.drop j)=yy k v l/\
  wr.heap[w.heap.size]?=some (.cells #[vl] 189 (0,0))/\wr.heap[w.heap.size+1]?=some (.cells #[.slice none 0 0] 189 (0,0))/\y6 [] w wr
def MapR(l:List Pr)(w:World)(e:Ending)(w':World):Prop:=∃v,e=.returned (.agg #[v])/\PL w' 224 v l/\(∀b,v.ownBlock=some b->w.heap.size<=b)/\y6 [] w w'
theorem RA(vl:Value)(l:List Pr)(k v:ByteArray)(w:World)(h:PL w 224 vl l)(hl:l.length<=50000):
  Calls prog 138 #[.agg #[vl],.string k,.string v] w (MapR (yy k v l) w):=by
 obtain⟨H,q,rfl⟩:=h.shape;have k0:=(y6.refl [] w).alloc (.cells #[.slice H l.length q] 189);have n0:=af w (.cells #[.slice H l.length q] 189);have k1:=(y6.refl [] (w.alloc (.cells #[.slice H l.length q] 189))).alloc (.cells #[.slice none 0 0] 189);have n1:=af (w.alloc (.cells #[.slice H l.length q] 189)) (.cells #[.slice none 0 0] 189);have z1:(w.alloc (.cells #[.slice H l.length q] 189)).heap.size=w.heap.size+1:=by simp
 rw[z1]at n1;have xF:WR w (.slice H l.length q) l k v (.slice none 0 0) (.bool false) (.int .i64 0) ((w.alloc (.cells #[.slice H l.length q] 189)).alloc (.cells #[.slice none 0 0] 189)):=
  ⟨0,false,[],ay _,rfl,rfl,aM _ _ _ _,by simp,rfl,k1.get n0 (by simp),n1,k0.trans k1⟩
 clear z1 n0 n1 k1;go_enter func138,ntmps138;go_wp2
 go_loopw [7,8,9] (fun out put i wr=>WR w (.slice H l.length q) l k v out put i wr) (fun _ _ i _=>l.length-(intOf i).toNat)
 case atStart=>exact xF
 case round=>
  obtain⟨j,b,o,hj,rfl,rfl,f,K,m,b0,J,X⟩:=hrel;have c0:wr.cell? ⟨w.heap.size,0,none⟩=some (.slice H l.length q):=y7 b0 rfl
  by_cases r:j<l.length
  ·have lG:=h.kept X (by simp);obtain⟨g,cap,cur,e,hg,dW⟩:=lG.at_ (by omega)
   cases e
   obtain⟨p,hp⟩:∃p,l[j]?=some p:=⟨_,aa r⟩
   have R:=PL.load (P:=prog) (ty:=224) _ hg (dW j p hp) underlying224 srp;have hdr:l.drop j=p::l.drop (j+1):=by
    rw[aL r];congr 1;exact(ae.1 hp).2
   rw[hdr,qX]at m;have hb:w.heap.size+2<=wr.heap.size:=by have:=yt J;omega
   clear lG dW;have T:∀(kI:Value) (M:List Pr) (O:Bool) (Z:World),Z.ownsRow (w.heap.size+2) 224 2 kI M.length (yU M)->M.length<=j+1+O.toNat->M++gK k v O (l.drop (j+1))=yy k v l->(∃S,y6 S wr Z/\∀y∈S,w.heap.size+2<=y)->WR w (.slice (some ⟨g,0,none⟩) l.length q) l k v kI (.bool O) (.int .i64 ((j:Int)+1)) Z:=by
    rintro kI M O Z h1 h2 h3⟨S,h4,h5⟩;refine⟨j+1,O,M,by omega,by simp,rfl,h1,h2,h3,h4.get b0 ?_,h4.get J ?_,X.trans2 h4 ?_⟩
    ·intro d;have:=h5 _ d;omega
    ·intro d;have:=h5 _ d;omega
    ·intro x d;right;have:=h5 _ d;omega
   have D:Hid _:=T;have t:=(y6.refl [] wr).alloc (.cells #[.string p.1,.string p.2] 224);have nA:=af wr (.cells #[.string p.1,.string p.2] 224);have N:Hid _:=m;clear T m
   cases b with
   |true=>
    simp only[Bool.toNat_true]at K
    cases z:be p.1 k with
    |true=>
     have F:=D.out u7 o true _ (yb f t (by simp)) (by simp;omega) (by have:=N.out;simpa[z]using this) ⟨[],t,by simp⟩;unfold be at z;go_wp2_with(first|(refine ya rfl _ _ (yc 187 (.tmp 19) (.tmp 20) rfl g 0 l.length q j 2 rfl rfl 224 underlying187 srp r (j*2) (by omega)) ?_)|(refine y8 rfl 224 (.tmp 21) rfl ⟨g,j*2,none⟩ rfl _ R ?_))
     go_roundw
     case rel=>exact F
     case measure=>simp[intOf];omega
    |false=>
     have E:=N.out;simp only[Bool.not_true,Bool.false_and,bj,cQ,z,aX,Bool.true_or]at E;unfold be at z;go_wp2_with(first|(refine ya rfl _ _ (yc 187 (.tmp 19) (.tmp 20) rfl g 0 l.length q j 2 rfl rfl 224 underlying187 srp r (j*2) (by omega)) ?_)|(refine y8 rfl 224 (.tmp 21) rfl ⟨g,j*2,none⟩ rfl _ R ?_)|(refine yw rfl _ _ (yv 187 1 (.tmp 42) rfl (.agg #[.string p.1,.string p.2]) rfl _ (jw _ p)) ?_;intro w3 B c _;have u:=yb f (t.trans c) (by simp);have G:=(t.trans c).size)|(at_builtin;refine j1 rfl (.tmp 41) (.tmp 43) rfl (w.heap.size+2) u7 o rfl u p _ rfl B (by omega) (by omega) ?_;intro I C a s;have F:=D.out I (o++ [p]) true C a (by simp;try omega) (by simpa using E) ⟨_,((t.trans c).mono (by simp)).trans s,qj f⟩;clear a u B c s))
     go_roundw
     case rel=>exact F
     case measure=>simp[intOf];omega
   |false=>
    simp only[Bool.toNat_false,dG]at K
    cases n:bl p.1 k with
    |true=>
     cases z:be p.1 k with
     |true=>
      rw[(QD _ _).1 z,jU]at n
      cases n
     |false=>
      have E:=N.out;simp only[Bool.not_true,Bool.and_false,bj,cQ,z,n,aX,Bool.or_self]at E;unfold be at z;unfold bl at n;go_wp2_with(first|(refine ya rfl _ _ (yc 187 (.tmp 19) (.tmp 20) rfl g 0 l.length q j 2 rfl rfl 224 underlying187 srp r (j*2) (by omega)) ?_)|(refine y8 rfl 224 (.tmp 21) rfl ⟨g,j*2,none⟩ rfl _ R ?_)|(refine yw rfl _ _ (yv 187 1 (.tmp 42) rfl (.agg #[.string p.1,.string p.2]) rfl _ (jw _ p)) ?_;intro w3 B c _;have u:=yb f (t.trans c) (by simp);have G:=(t.trans c).size)|(at_builtin;refine j1 rfl (.tmp 41) (.tmp 43) rfl (w.heap.size+2) u7 o rfl u p _ rfl B (by omega) (by omega) ?_;intro I C a s;have F:=D.out I (o++ [p]) false C a (by simp;try omega) (by simpa using E) ⟨_,((t.trans c).mono (by simp)).trans s,qj f⟩;clear a u B c s))
      go_roundw
      case rel=>exact F
      case measure=>simp[intOf];omega
    |false=>
     cases z:be p.1 k with
     |true=>
      have E:=N.out;simp only[Bool.not_false,Bool.and_self,if_true,z,n,bo,Bool.or_true]at E;unfold be at z;unfold bl at n;go_wp2_with(first|(refine ya rfl _ _ (yc 187 (.tmp 19) (.tmp 20) rfl g 0 l.length q j 2 rfl rfl 224 underlying187 srp r (j*2) (by omega)) ?_)|(refine y8 rfl 224 (.tmp 21) rfl ⟨g,j*2,none⟩ rfl _ R ?_)|(refine yw rfl _ _ (yv 187 1 (.tmp 34) rfl (.agg #[.string k,.string v]) rfl _ (jw _ (k,v))) ?_;intro w3 B c _;have u:=yb f (t.trans c) (by simp);have G:=(t.trans c).size;have BN:=c.get nA (by simp))|(at_builtin;refine j1 rfl (.tmp 31) (.tmp 35) rfl (w.heap.size+2) u7 o rfl u (k,v) _ rfl B (by omega) (by omega) ?_;intro I C a s;have W:=s.get BN (fun d=>by have:=LW f _ d;omega);have GK:C.cell? ⟨wr.heap.size,0,none⟩=some (.string p.1):=y7 W rfl;have L:=((t.trans c).mono (S':=u7.ownBlock.toList) (by simp)).trans s;have F:=D.out I (o++ [(k,v)]) true C a (by simp;try omega) (by simpa using E) ⟨_,L,qj f⟩;clear a u B c s))
      go_roundw
      case rel=>exact F
      case measure=>simp[intOf];omega
     |false=>
      have E:=N.out;simp only[Bool.not_false,Bool.and_self,if_true,bj,cQ,z,n,Bool.or_true]at E;unfold be at z;unfold bl at n;go_wp2_with(first|(refine ya rfl _ _ (yc 187 (.tmp 19) (.tmp 20) rfl g 0 l.length q j 2 rfl rfl 224 underlying187 srp r (j*2) (by omega)) ?_)|(refine y8 rfl 224 (.tmp 21) rfl ⟨g,j*2,none⟩ rfl _ R ?_)|(refine yw rfl _ _ (yv 187 1 (.tmp 34) rfl (.agg #[.string k,.string v]) rfl _ (jw _ (k,v))) ?_;intro w3 B c _;have u:=yb f (t.trans c) (by simp);have G:=(t.trans c).size;have BN:=c.get nA (by simp))|(at_builtin;refine j1 rfl (.tmp 31) (.tmp 35) rfl (w.heap.size+2) u7 o rfl u (k,v) _ rfl B (by omega) (by omega) ?_;intro I C a s;have W:=s.get BN (fun d=>by have:=LW f _ d;omega);have GK:C.cell? ⟨wr.heap.size,0,none⟩=some (.string p.1):=y7 W rfl;have L:=((t.trans c).mono (S':=u7.ownBlock.toList) (by simp)).trans s;have iO:=L.size;clear u B c)|(refine aW rfl 224 (.tmp 10) rfl wr.heap.size rfl 224 _ (0,0) _ W underlying224 rfl srp ?_)|(refine yw rfl _ _ (yv 187 1 (.tmp 42) rfl (.agg #[.string p.1,.string p.2]) rfl _ (jw _ p)) ?_;intro w5 n5 Y _;have xG:=yb a Y (by simp);have pQ:=Y.size)|(at_builtin;refine j1 rfl (.tmp 41) (.tmp 43) rfl (w.heap.size+2) I (o++ [(k,v)]) rfl xG p _ rfl n5 (by simp;omega) (by omega) ?_;intro v6 w6 oh k6;have F:=D.out v6 (o++ [(k,v)]++ [p]) true w6 oh (by simp;try omega) (by simpa using E) ⟨u7.ownBlock.toList++I.ownBlock.toList,((L.mono (by intro x d;simp;exact Or.inl (by simpa using d))).trans (Y.mono (by simp))).trans (k6.mono (by intro x d;simp;exact Or.inr (by simpa using d))),by intro y A;rcases ar.1 A with A|A;exact qj f y A;exact qj a y A⟩;clear oh xG a n5 Y k6))
      go_roundw
      case rel=>exact F
      case measure=>simp[intOf];omega
  ·have hge:¬(j:Int)<(l.length:Int):=by omega
   have ej:j=l.length:=by omega
   subst ej;rw[dV,ZF]at m;have f1:wr.frozen? ⟨w.heap.size+1,0,none⟩=false:=ax _ _ _ _ _ J
   cases b with
   |true=>
    simp only[if_true,bo]at m;subst m;obtain⟨V,Q,rfl⟩:=jx f;have c1:wr.cell? ⟨w.heap.size+1,0,none⟩=some (.slice none 0 0):=y7 J rfl;go_wp2;have b2:=yf (i:=0) (.slice V (yy k v l).length Q) J;have U:y6 [w.heap.size+1] wr (wr.setCell ⟨w.heap.size+1,0,none⟩ (.slice V (yy k v l).length Q)):=(y6.refl _ _).setCell (Or.inl (by simp)) _;refine aR (aI rfl _ _ (w.heap.size+1) 189 _ (0,0) _ rfl b2 underlying189 rfl smap) rfl ?_;refine⟨_,rfl,gT (yb f U ?_) (ay _),?_,X.trans2 U (by intro x d;simp at d;omega)⟩
    ·intro y A;have:=(f.lt y A).1;simp;omega
    ·intro y A;have:=(f.lt y A).1;omega
   |false=>
    simp only[bj,cQ]at m;simp only[Bool.toNat_false,dG]at K;have hb:w.heap.size+2<=wr.heap.size:=by have:=yt J;omega
    go_wp2_with(first|(refine yw rfl _ _ (yv 187 1 (.tmp 50) rfl (.agg #[.string k,.string v]) rfl _ (jw _ (k,v))) ?_;intro w3 B c _;have u:=yb f c (by simp);have G:=c.size)|(at_builtin;refine j1 rfl (.tmp 47) (.tmp 51) rfl (w.heap.size+2) u7 o rfl u (k,v) _ rfl B (by omega) (by omega) ?_;intro I C a s;rw[m]at a;obtain⟨V,Q,rfl⟩:=jx a;have L:=(c.mono (S':=u7.ownBlock.toList) (by simp)).trans s;have n4:=L.get J (by intro d;have:=qj f _ d;omega);have f4:C.frozen? ⟨w.heap.size+1,0,none⟩=false:=ax _ _ _ _ _ n4;have c4:C.cell? ⟨w.heap.size+1,0,none⟩=some (.slice none 0 0):=y7 n4 rfl))
    have b2:=yf (i:=0) (.slice V (yy k v l).length Q) n4;have U:y6 [w.heap.size+1] C (C.setCell ⟨w.heap.size+1,0,none⟩ (.slice V (yy k v l).length Q)):=(y6.refl _ _).setCell (Or.inl (by simp)) _;refine aR (aI rfl _ _ (w.heap.size+1) 189 _ (0,0) _ rfl b2 underlying189 rfl smap) rfl ?_;refine⟨_,rfl,gT (yb a U ?_) (ay _),?_,(X.trans2 L (by intro x d;right;have:=qj f x d;omega)).trans2 U (by intro x d;simp at d;omega)⟩
    ·intro y A;have:=(a.lt y A).1;simp;omega
    ·intro y A;have:=(a.lt y A).1;omega
def WoR(w:World)(vl:Value)(l:List Pr)(k:ByteArray)(out i:Value)(wr:World):Prop:=
 ∃(j:Nat) (o:List Pr),j<=l.length/\i=.int .i64 j/\wr.ownsRow (w.heap.size+2) 224 2 out o.length (yU o)/\o.length<=j/\o=ym k (l.take j)/\
  wr.heap[w.heap.size]?=some (.cells #[vl] 189 (0,0))/\wr.heap[w.heap.size+1]?=some (.cells #[.slice none 0 0] 189 (0,0))/\y6 [] w wr
theorem Y4(vl:Value)(l:List Pr)(k:ByteArray)(w:World)(h:PL w 224 vl l)(hl:l.length<=50000):
  Calls prog 139 #[.agg #[vl],.string k] w (MapR (ym k l) w):=by
 obtain⟨d,a,rfl⟩:=h.shape;have k0:=(y6.refl [] w).alloc (.cells #[.slice d l.length a] 189);have V:=af w (.cells #[.slice d l.length a] 189);have H:=(y6.refl [] (w.alloc (.cells #[.slice d l.length a] 189))).alloc (.cells #[.slice none 0 0] 189);have J:=af (w.alloc (.cells #[.slice d l.length a] 189)) (.cells #[.slice none 0 0] 189);have Y:(w.alloc (.cells #[.slice d l.length a] 189)).heap.size=w.heap.size+1:=by simp
 rw[Y]at J;have xF:WoR w (.slice d l.length a) l k (.slice none 0 0) (.int .i64 0) ((w.alloc (.cells #[.slice d l.length a] 189)).alloc (.cells #[.slice none 0 0] 189)):=
  ⟨0,[],ay _,rfl,aM _ _ _ _,by simp,rfl,H.get V (by simp),J,k0.trans H⟩
 clear Y V J H;go_enter func139,ntmps139;go_wp2
 go_loopw [5,6] (fun K i wr=>WoR w (.slice d l.length a) l k K i wr) (fun _ i _=>l.length-(intOf i).toNat)
 case atStart=>exact xF
 case round=>
  obtain⟨j,o,hj,rfl,m,hol,b,M,t,B⟩:=hrel;have c0:wr.cell? ⟨w.heap.size,0,none⟩=some (.slice d l.length a):=y7 M rfl
  by_cases c:j<l.length
  ·have U:=h.kept B (by simp);obtain⟨g,cap,cur,e,R,A⟩:=U.at_ (by omega)
   cases e
   obtain⟨p,F⟩:∃p,l[j]?=some p:=⟨_,aa c⟩
   have eK:=PL.load (P:=prog) (ty:=224) _ R (A j p F) underlying224 srp;have hc0:wr.cell? ⟨g,j*2,none⟩=some (.string p.1):=y7 R (A j p F).1;have hb:w.heap.size+2<=wr.heap.size:=by have:=yt t;omega
   clear U A;have u:∀(I:Value) (r:List Pr) (z:World),z.ownsRow (w.heap.size+2) 224 2 I r.length (yU r)->r.length<=j+1->r=ym k (l.take (j+1))->y6 u5.ownBlock.toList wr z->WoR w (.slice (some ⟨g,0,none⟩) l.length a) l k I (.int .i64 ((j:Int)+1)) z:=by
    rintro I r z h1 h2 h3 C;have D:=qj m;refine⟨j+1,r,by omega,by simp,h1,h2,h3,C.get M ?_,C.get t ?_,B.trans2 C ?_⟩
    ·intro n;have:=D _ n;omega
    ·intro n;have:=D _ n;omega
    ·intro x n;right;have:=D _ n;omega
   have s:Hid _:=u;have L:Hid (ym k (l.take (j+1))=o++if be p.1 k then []else [p]):=by
    show _=_;rw[qe l j p F,b];simp only[ym,List.filter_append]
    cases q:be p.1 k<;>simp[q]
   clear u b
   cases q:be p.1 k with
   |true=>
    have E:=s.out u5 o wr m (by omega) (by have:=L.out;simpa[q]using this.symm) (y6.refl _ _);unfold be at q;go_wp2_with(first|(refine ya rfl _ _ (yc 187 (.tmp 15) (.tmp 16) rfl g 0 l.length a j 2 rfl rfl 224 underlying187 srp c (j*2) (by omega)) ?_))
    go_roundw
    case rel=>exact E
    case measure=>simp[intOf];omega
   |false=>
    have Q:=L.out;simp only[q,bj,cQ]at Q;unfold be at q;go_wp2_with(first|(refine ya rfl _ _ (yc 187 (.tmp 15) (.tmp 16) rfl g 0 l.length a j 2 rfl rfl 224 underlying187 srp c (j*2) (by omega)) ?_)|(refine ya rfl _ _ (yc 187 (.tmp 24) (.tmp 25) rfl g 0 l.length a j 2 rfl rfl 224 underlying187 srp c (j*2) (by omega)) ?_)|(refine y8 rfl 224 (.tmp 26) rfl ⟨g,j*2,none⟩ rfl _ eK ?_)|(refine yw rfl _ _ (yv 187 1 (.tmp 27) rfl (.agg #[.string p.1,.string p.2]) rfl _ (jw _ p)) ?_;intro w3 W v _;have O:=yb m v (by simp);have hb3:=v.size)|(at_builtin;refine j1 rfl (.tmp 22) (.tmp 28) rfl (w.heap.size+2) u5 o rfl O p _ rfl W (by omega) (by omega) ?_;intro v4 w4 f T;have E:=s.out v4 (o++ [p]) w4 f (by simp;omega) Q.symm ((v.mono (by simp)).trans T);clear f O W v T))
    go_roundw
    case rel=>exact E
    case measure=>simp[intOf];omega
  ·have hge:¬(j:Int)<(l.length:Int):=by omega
   have ej:j=l.length:=by omega
   subst ej;rw[bV]at b;subst b;have f1:wr.frozen? ⟨w.heap.size+1,0,none⟩=false:=ax _ _ _ _ _ t;obtain⟨X,N,rfl⟩:=jx m;have c1:wr.cell? ⟨w.heap.size+1,0,none⟩=some (.slice none 0 0):=y7 t rfl;go_wp2;have Z:=yf (i:=0) (.slice X (ym k l).length N) t;have S:y6 [w.heap.size+1] wr (wr.setCell ⟨w.heap.size+1,0,none⟩ (.slice X (ym k l).length N)):=(y6.refl _ _).setCell (Or.inl (by simp)) _;refine aR (aI rfl _ _ (w.heap.size+1) 189 _ (0,0) _ rfl Z underlying189 rfl smap) rfl ?_;refine⟨_,rfl,gT (yb m S ?_) (ay _),?_,B.trans2 S (by intro x n;simp at n;omega)⟩
   ·intro y G;have:=(m.lt y G).1;simp;omega
   ·intro y G;have:=(m.lt y G).1;omega
theorem Q1R(k:ByteArray)(l:List Pr)(j:Nat)(p:Pr)(h:l[j]?=some p):gA k (l.drop j)=if be p.1 k then some p.2 else gA k (l.drop (j+1)):=by
 have a:j<l.length:=(ae.1 h).1;rw[aL a,(ae.1 h).2];rfl
def GetR(l:List Pr)(k:ByteArray)(w:World)(e:Ending)(w':World):Prop:=
 e=.returned (.tuple #[.string ((gA k l).getD ⟨#[]⟩),.bool (gA k l).isSome])/\y6 [] w w'
def GetI(w:World)(l:List Pr)(pv:Option Addr)(cv:Nat)(k:ByteArray)(s b i:Value)(wr:World):Prop:=∃(j:Nat),j<=l.length/\s=.string ⟨#[]⟩/\b=.bool false/\i=.int .i64 j/\gA k (l.drop j)=gA k l/\wr=w.alloc (.cells #[.slice pv l.length cv] 189)
theorem Re(vl:Value)(l:List Pr)(k:ByteArray)(w:World)(h:PL w 224 vl l)(hl:l.length<=50000):
  Calls prog 142 #[.agg #[vl],.string k] w (GetR l k w):=by
 obtain⟨m,d,rfl⟩:=h.shape;have r:=(y6.refl [] w).alloc (.cells #[.slice m l.length d] 189);have D:=af w (.cells #[.slice m l.length d] 189);go_enter func142,ntmps142;go_wp2
 go_loopw [4,5,6] (fun s b i wr=>GetI w l m d k s b i wr) (fun _ _ i _=>l.length-(intOf i).toNat)
 case atStart=>exact⟨0,ay _,rfl,rfl,rfl,rfl,rfl⟩
 case round=>
  obtain⟨j,F,rfl,rfl,rfl,a,rfl⟩:=hrel;have E:(w.alloc (.cells #[.slice m l.length d] 189)).cell? ⟨w.heap.size,0,none⟩=some (.slice m l.length d):=y7 D rfl
  by_cases c:j<l.length
  ·have v:=h.kept r (by simp);obtain⟨g,x,y,e,u,o⟩:=v.at_ (by omega)
   cases e
   obtain⟨p,q⟩:∃p,l[j]?=some p:=⟨_,aa c⟩
   have A:=y7 (j:=j*2) u (o j p q).1;have B:=y7 (j:=j*2+1) u (o j p q).2;rw[Q1R k l j p q]at a;have t:Hid _:=a;clear v o a
   cases n:be p.1 k with
   |true=>
    have f:=t.out;simp only[n,if_true]at f;unfold be at n;go_wp2_with(first|(refine ya rfl _ _ (yc 187 (.tmp 15) (.tmp 16) rfl g 0 l.length d j 2 rfl rfl 224 underlying187 srp c (j*2) (by omega)) ?_)|(refine ya rfl _ _ (yc 187 (.tmp 23) (.tmp 24) rfl g 0 l.length d j 2 rfl rfl 224 underlying187 srp c (j*2) (by omega)) ?_))
    go_ret2
    exact⟨by rw[<-f];rfl,r⟩
   |false=>
    have f:=t.out;simp only[n,bj,cQ]at f;unfold be at n;go_wp2_with(first|(refine ya rfl _ _ (yc 187 (.tmp 15) (.tmp 16) rfl g 0 l.length d j 2 rfl rfl 224 underlying187 srp c (j*2) (by omega)) ?_))
    go_roundw
    case rel=>exact⟨j+1,by omega,rfl,rfl,by go_num,f,rfl⟩
    case measure=>simp[intOf];omega
  ·have C:¬(j:Int)<(l.length:Int):=by omega
   have z:j=l.length:=by omega
   subst z;rw[dV]at a;have f:gA k l=none:=a.symm;clear a;go_wp2
   go_ret2
   exact⟨by rw[f];rfl,r⟩
def mst(m:Int):Nat:=m.toNat
def PO(t:TypeId)(l:List Pr)(w:World)(e:Ending)(w':World):Prop:=∃v,e=.returned v/\PL w' t v l/\(∀b,v.ownBlock=some b->w.heap.size<=b)/\y6 [] w w'
theorem y6.drewN{S:List Nat}{a b:World}(h:y6 S a b)(n:Nat):y6 S a (b.drewN n):=⟨h.os,h.tape,h.output,h.size,h.block⟩
theorem w64(n:Int)(h:-9223372036854775808<=n/\n<=9223372036854775807):wrap64 n=n:=by unfold wrap64;omega
theorem Q1(k:ByteArray)(w:World):Calls prog 141 #[.string k] w fun e w'=>e=.returned (.bool (decide (1<=k.size/\k.size<=8)))/\w'=w:=by
 by_cases c:1<=k.size
 ·by_cases d:k.size<=8
  ·have a:(1:Int)<=k.size:=by omega
   have b:(k.size:Int)<=8:=by omega
   go_enter func141,ntmps141;go_wp2;go_ret;exact⟨by simp[c,d],rfl⟩
  ·have a:(1:Int)<=k.size:=by omega
   have b:¬(k.size:Int)<=8:=by omega
   go_enter func141,ntmps141;go_wp2;go_ret;exact⟨by simp,rfl⟩
 ·have a:¬(1:Int)<=k.size:=by omega
  have d1:decide ((1:Int)<=k.size)=false:=by simpa using a
  go_enter func141,ntmps141;go_wp2;go_ret;exact⟨by simp,rfl⟩
def ZG(vl:Value)(f c:Bool)(mo ch:Int):Array Value:=#[vl,.bool f,.bool c,.int .i64 mo,.int .i64 ch]
theorem RY(vl:Value)(f c:Bool)(mo ch n k:Int)(w:World)(iW:0<=mo/\mo<=100000)(hk:0<=k/\k<=100000):
  Calls prog 140 #[.agg (ZG vl f c mo ch),.int .i64 n,.int .i64 k] w fun e w'=>e=.returned (.bool (decide (3*max mo k+12<=n)))/\y6 [] w w':=by
 unfold ZG
 by_cases h:k<mo
 ·have e:max mo k=mo:=by omega
  rw[e];have a:wrap64 (3*mo)=3*mo:=w64 _ (by omega);have b:wrap64 (3*mo+12)=3*mo+12:=w64 _ (by omega);go_enter func140,ntmps140;go_wp2;go_ret;exact⟨by simp,(y6.refl _ _).alloc _⟩
 ·have e:max mo k=k:=by omega
  rw[e];have a:wrap64 (3*k)=3*k:=w64 _ (by omega);have b:wrap64 (3*k+12)=3*k+12:=w64 _ (by omega);go_enter func140,ntmps140;go_wp2;go_ret;exact⟨by simp,(y6.refl _ _).alloc _⟩
def chg(cl f:Bool)(k v:ByteArray):Int:=if cl then 5 else if f then 4 else if¬(1<=k.size/\k.size<=8)then 1 else if 12<v.size then 2 else 0
theorem Q2(vl:Value)(f c:Bool)(mo ch:Int)(k v:ByteArray)(w:World):
  Calls prog 137 #[.agg (ZG vl f c mo ch),.string k,.string v] w fun e w'=>e=.returned (.int .i64 (chg c f k v))/\y6 [] w w':=by
 unfold ZG
 cases c with
 |true=>
  go_enter func137,ntmps137;go_wp2_with(go_at_call 141;refine(Q1 _ _).mono ?_;rintro e w'⟨rfl,rfl⟩)
  go_ret;exact⟨rfl,(y6.refl _ _).alloc _⟩
 |false=>
  cases f with
  |true=>
   go_enter func137,ntmps137;go_wp2_with(go_at_call 141;refine(Q1 _ _).mono ?_;rintro e w'⟨rfl,rfl⟩)
   go_ret;exact⟨rfl,(y6.refl _ _).alloc _⟩
  |false=>
   by_cases a:1<=k.size/\k.size<=8
   ·have b:decide (1<=k.size/\k.size<=8)=true:=by simpa using a
    by_cases d:12<v.size
    ·have g:(12:Int)<v.size:=by omega
     go_enter func137,ntmps137;go_wp2_with(go_at_call 141;refine(Q1 _ _).mono ?_;rintro e w'⟨rfl,rfl⟩;rw[b])
     go_ret;exact⟨by simp[chg,a,d],(y6.refl _ _).alloc _⟩
    ·have g:¬(12:Int)<v.size:=by omega
     go_enter func137,ntmps137;go_wp2_with(go_at_call 141;refine(Q1 _ _).mono ?_;rintro e w'⟨rfl,rfl⟩;rw[b])
     go_ret;exact⟨by simp[chg,a,d],(y6.refl _ _).alloc _⟩
   ·have b:decide (1<=k.size/\k.size<=8)=false:=by simpa using a
    go_enter func137,ntmps137;go_wp2_with(go_at_call 141;refine(Q1 _ _).mono ?_;rintro e w'⟨rfl,rfl⟩;rw[b])
    go_ret;exact⟨by rw[chg,if_neg (by simp),if_neg (by simp),if_pos a];rfl,(y6.refl _ _).alloc _⟩
theorem jV{P:Program}(t:TypeId)(g off n cap i k:Nat)(e:TypeId)(hu:P.underlying t=some (.slice e))(hs:(P.info? e).map (·.size)=some k)(hi:i<n)(p:Nat)(hp:p=off+i*k):
  (Instr.indexAt t (.slice (some ⟨g,off,none⟩) n cap) (.int .i64 i)).run P w=.ok (.pointer (some ⟨g,p,none⟩)) w:=by
 cases a:P.info? e with
 |none=>simp[a]at hs
 |some c=>
  have b:c.size=k:=by simpa[a]using hs
  subst hp;rw[<-add_lit];simp[Instr.indexAt,asIntOf,aO hu,sizeOf,typeInfo,a,b,Result.andThen,hi]
def Xh(w:World)(la lb:List Pr)(i:Value)(wr:World):Prop:=∃(j:Nat),j<=la.length/\i=.int .i64 j/\la.take j=lb.take j/\y6 [] w wr
theorem Pb(va vb:Value)(la lb:List Pr)(w:World)(ha:PL w 224 va la)(hb:PL w 224 vb lb)(hl:la.length<=50000):
  Calls prog 145 #[va,vb] w fun e w'=>e=.returned (.bool (decide (la=lb)))/\y6 [] w w':=by
 obtain⟨O,u,rfl⟩:=ha.shape;obtain⟨P,v,rfl⟩:=hb.shape
 by_cases c:la.length=lb.length
 ·have I:((la.length:Int)==(lb.length:Int))=true:=by rw[c];simp
  go_enter func145,ntmps145;go_wp2
  go_loopw [5] (fun i wr=>Xh w la lb i wr) (fun i _=>la.length-(intOf i).toNat)
  case atStart=>exact⟨0,ay _,rfl,rfl,y6.refl _ _⟩
  case round=>
   obtain⟨j,N,rfl,a,f⟩:=hrel;have t:Hid _:=a;clear a
   by_cases h:j<la.length
   ·have B:=ha.kept f (by simp);have C:=hb.kept f (by simp);obtain⟨m,_,x,e,E,o⟩:=B.at_ (by omega)
    cases e
    obtain⟨n,_,y,e,F,r⟩:=C.at_ (by omega)
    cases e
    obtain⟨p,k⟩:∃p,la[j]?=some p:=⟨_,aa h⟩
    obtain⟨q,d⟩:∃q,lb[j]?=some q:=⟨_,aa (by omega)⟩
    have L:=y7 (j:=j*2) E (o j p k).1;have M:=y7 (j:=j*2+1) E (o j p k).2;have Q:=y7 (j:=j*2) F (r j q d).1;have R:=y7 (j:=j*2+1) F (r j q d).2;clear B C o r;have G:j<lb.length:=by omega
    have D:(Instr.indexAt 187 (.slice (some ⟨m,0,none⟩) la.length u) (.int .i64 j)).run prog wr=.ok (.pointer (some ⟨m,j*2,none⟩)) wr:=jV 187 m 0 la.length u j 2 224 underlying187 srp h _ (by omega);have K:(Instr.indexAt 187 (.slice (some ⟨n,0,none⟩) lb.length v) (.int .i64 j)).run prog wr=.ok (.pointer (some ⟨n,j*2,none⟩)) wr:=jV 187 n 0 lb.length v j 2 224 underlying187 srp G _ (by omega)
    cases g:be p.1 q.1 with
    |false=>
     have b:¬la=lb:=by
      intro e;subst e;rw[k]at d;cases d;rw[Qq]at g;cases g
     unfold be at g;go_wp2
     go_quiet (fail)
     go_wp2;go_ret;exact⟨by simp[b],f.drewN _⟩
    |true=>
     have z:=(QD _ _).1 g
     cases l:be p.2 q.2 with
     |false=>
      have b:¬la=lb:=by
       intro e;subst e;rw[k]at d;cases d;rw[Qq]at l;cases l
      unfold be at g l;go_wp2
      go_quiet (fail)
      go_wp2;go_ret;exact⟨by simp[b],f.drewN _⟩
     |true=>
      have A:=(QD _ _).1 l;have s:p=q:=Prod.ext z A;have H:Hid (la.take (j+1)=lb.take (j+1)):=by
       have a:=t.out;show _=_;rw[qe la j p k,qe lb j q d,a,s]
      clear s z A;unfold be at g l;go_wp2
      go_quiet (fail)
      go_wp2;go_roundw
      case rel=>exact⟨j+1,by omega,by go_num,H.out,f.drewN _⟩
      case measure=>simp[intOf];omega
   ·have J:¬(j:Int)<(la.length:Int):=by omega
    have a:=t.out;have S:la=lb:=by
     rw[aJ (by omega),aJ (by omega)]at a;exact a
    clear a;go_wp2;go_ret;exact⟨by simp,f⟩
 ·have I:((la.length:Int)==(lb.length:Int))=false:=by rw[beq_eq_false_iff_ne];omega
  have b:¬la=lb:=fun e=>c (by rw[e]);go_enter func145,ntmps145;go_wp2;go_ret;exact⟨by simp[b],y6.refl _ _⟩
end Go.Proofs.YtcklgafpgdhnaaaGreatDoor
