import Derived.Test.YtcklgafpgdhnaaaGreatDoorPyaq
import Derived.Lib.AppendStr
import Derived.Test.YtcklgafpgdhnaaaGreatDoorPyas
import Derived.LoopN
import Derived.Maps.OwnSet
import Derived.Test.YtcklgafpgdhnaaaGreatDoorPyan
set_option maxRecDepth 100000
set_option maxHeartbeats 4000000
set_option linter.unusedSimpArgs false
set_option linter.unusedVariables false
set_option linter.unusedSectionVars false
open Go.Proofs.Tryz
namespace Go.Proofs.YtcklgafpgdhnaaaGreatDoor
open Go.RowKit
def tx(s:ByteArray):List UInt8:=UInt8.ofNat s.size::s.data.toList
def pkP(p:Pr):List UInt8:=tx p.1++tx p.2
def pkK(k:ByteArray×Nat):List UInt8:=tx k.1++(List.replicate (8-k.1.size) 0++yz k.2 2)
def LV(B:List UInt8):List UInt8:=B++yz (crc B) 4
def LL(k:Nat)(l:List UInt8):List UInt8:=l++List.replicate (k-l.length) 0
def Zm(kind:UInt8)(n:Nat)(items:List UInt8):List UInt8:=LV (LL 124 (kind::UInt8.ofNat n::items))
def encL(l:List Pr):List UInt8:=Zm 76 l.length (l.flatMap pkP)
def encB(ks:List (ByteArray×Nat)):List UInt8:=Zm 66 ks.length (ks.flatMap pkK)
def Q3(m:Nat):List UInt8->Option (ByteArray×List UInt8)
 | []=>none
 |c::r=>if c.toNat<=m/\c.toNat<=r.length then some (⟨(r.take c.toNat).toArray⟩,r.drop c.toNat)else none
def jh(r:List UInt8):Option (Pr×List UInt8):=match Q3 8 r with
 |none=>none
 |some (k,r1)=>match Q3 12 r1 with
  |none=>none
  |some (v,r2)=>some ((k,v),r2)
def Qw(r:List UInt8):Option ((ByteArray×Nat)×List UInt8):=match Q3 8 r with
 |none=>none
 |some (k,r1)=>if 8-k.size+2<=r1.length then some ((k,qt ((r1.drop (8-k.size)).take 2)),r1.drop (8-k.size+2))else none
def gd{α:Type}(t:List UInt8->Option (α×List UInt8)):Nat->List UInt8->Option (List α×List UInt8)
 |0,r=>some ([],r)
 |n+1,r=>match t r with
  |none=>none
  |some (a,r1)=>match gd t n r1 with
   |none=>none
   |some (l,r2)=>some (a::l,r2)
theorem PF(s:ByteArray):s.data.toList.length=s.size:=bZ
theorem P0(n:Nat)(h:n<256):(UInt8.ofNat n).toNat=n:=by
 rw[UInt8.toNat_ofNat'];exact dI h
theorem Qi(s:ByteArray):(tx s).length=1+s.size:=by simp[tx];omega
theorem Pu(p:Pr):(pkP p).length=2+p.1.size+p.2.size:=by simp[pkP,Qi];omega
theorem j9(n k:Nat):(yz n k).length=k:=by simp[yz]
theorem Vm(k:ByteArray×Nat)(h:k.1.size<=8):(pkK k).length=11:=by simp[pkK,Qi,j9];omega
theorem PT(m:Nat)(s:ByteArray)(r:List UInt8)(h:s.size<=m)(hm:m<256):Q3 m (tx s++r)=some (s,r):=by
 have e:(UInt8.ofNat s.size).toNat=s.size:=P0 _ (by omega);simp only[tx,bD,Q3,e];have a:s.size=s.data.toList.length:=(PF s).symm;rw[if_pos ⟨h,by rw[ai,PF];omega⟩];rw[a,List.take_left' rfl,List.drop_left' rfl]
variable {r':List UInt8}
theorem ZI{m:Nat}{r:List UInt8}{s:ByteArray}(h:Q3 m r=some (s,r')):r=tx s++r'/\s.size<=m:=by
 cases r with
 |nil=>simp[Q3]at h
 |cons c r=>
  simp only[Q3]at h;split at h
  ·rename_i hc;simp only[ba,cO]at h;obtain⟨rfl,rfl⟩:=h;have b:(r.take c.toNat).length=c.toNat:=by rw[au];omega
   have a:(ByteArray.mk (r.take c.toNat).toArray).size=c.toNat:=by rw[<-PF];simpa using b
   refine⟨?_,by rw[a];exact hc.1⟩;rw[tx,a];have:UInt8.ofNat c.toNat=c:=by simp
   rw[this];simp
  ·cases h
theorem X4(p:Pr)(r:List UInt8)(h1:p.1.size<=8)(h2:p.2.size<=12):jh (pkP p++r)=some (p,r):=by
 simp only[jh,pkP,aG,PT 8 p.1 _ h1 (by omega),PT 12 p.2 _ h2 (by omega)]
theorem Wc{r:List UInt8}{p:Pr}(h:jh r=some (p,r')):r=pkP p++r'/\p.1.size<=8/\p.2.size<=12:=by
 unfold jh at h;split at h
 ·cases h
 ·rename_i k g e;split at h
  ·cases h
  ·rename_i v i f;simp only[ba,cO]at h;obtain⟨rfl,rfl⟩:=h;obtain⟨a,b⟩:=ZI e;obtain⟨c,d⟩:=ZI f;exact⟨by rw[a,c,pkP,aG],b,d⟩
theorem Q3B(n:Nat)(h:n<65536):qt (yz n 2)=n:=by
 rw[jI];exact dI h
theorem Q3C(k:ByteArray×Nat)(r:List UInt8)(h1:k.1.size<=8)(h2:k.2<65536):Qw (pkK k++r)=some (k,r):=by
 have d:(List.replicate (8-k.1.size) (0:UInt8)).length=8-k.1.size:=by simp
 simp only[Qw,pkK,aG,PT 8 k.1 _ h1 (by omega)];rw[if_pos (by simp[j9])];have a:(List.replicate (8-k.1.size) (0:UInt8)++(yz k.2 2++r)).drop (8-k.1.size)=yz k.2 2++r:=List.drop_left' d;have b:(yz k.2 2++r).take 2=yz k.2 2:=List.take_left' (j9 _ _);have c:(List.replicate (8-k.1.size) (0:UInt8)++(yz k.2 2++r)).drop (8-k.1.size+2)=r:=by
  rw[<-dL,a];exact List.drop_left' (j9 _ _)
 rw[a,b,c,Q3B _ h2]
theorem VL{r:List UInt8}{k:ByteArray×Nat}(h:Qw r=some (k,r')):k.1.size<=8/\k.2<65536/\r.length=11+r'.length:=by
 unfold Qw at h;split at h
 ·cases h
 ·rename_i f b e;split at h
  ·rename_i g;simp only[ba,cO]at h;obtain⟨rfl,rfl⟩:=h;obtain⟨c,d⟩:=ZI e;refine⟨d,?_,?_⟩
   ·have:=QY ((b.drop (8-f.size)).take 2);have a:((b.drop (8-f.size)).take 2).length=2:=by rw[au,aC];omega
    rw[a]at this;exact this
   ·rw[c,ai,Qi,aC];omega
  ·cases h
theorem Wp{α:Type}(t:List UInt8->Option (α×List UInt8))(pk:α->List UInt8)(l:List α)(r:List UInt8)(h:∀a∈l,∀r,t (pk a++r)=some (a,r)):gd t l.length (l.flatMap pk++r)=some (l,r):=by
 induction l with
 |nil=>rfl
 |cons a l ih=>
  simp only[aB,gd,bF,aG,h a (by simp)];rw[ih fun b c=>h b (by simp[c])]
theorem R6{α:Type}{t:List UInt8->Option (α×List UInt8)}{n:Nat}{r:List UInt8}{l:List α}(h:gd t n r=some (l,r')):l.length=n:=by
 induction n generalizing r l with
 |zero=>simp only[gd,ba,cO]at h;rw[<-h.1];rfl
 |succ n ih=>
  simp only[gd]at h;split at h
  ·cases h
  ·rename_i a e c;split at h
   ·cases h
   ·rename_i d f b;simp only[ba,cO]at h;obtain⟨rfl,rfl⟩:=h;simp[ih b]
theorem NW{α:Type}{t:List UInt8->Option (α×List UInt8)}{G:α->Prop}{sz:α->Nat}(ht:∀r a r',t r=some (a,r')->G a/\r.length=sz a+r'.length){n:Nat}{r:List UInt8}{l:List α}(h:gd t n r=some (l,r')):
  (∀a∈l,G a)/\r.length=(l.map sz).sum+r'.length:=by
 induction n generalizing r l with
 |zero=>
  simp only[gd,ba,cO]at h;obtain⟨rfl,rfl⟩:=h;simp
 |succ n ih=>
  simp only[gd]at h;split at h
  ·cases h
  ·rename_i a m d;split at h
   ·cases h
   ·rename_i k o e;simp only[ba,cO]at h;obtain⟨rfl,rfl⟩:=h;obtain⟨f,g⟩:=ht _ _ _ d;obtain⟨i,j⟩:=ih e;refine⟨?_,?_⟩
    ·intro b c;rcases an.1 c with rfl|c
     ·exact f
     ·exact i b c
    ·rw[g,j];simp;omega
inductive Nb where
 |leaf (l:List Pr)
 |branch (ks:List (ByteArray×Nat))
def gS:Nb->List UInt8
 | .leaf l=>encL l
 | .branch ks=>encB ks
def decN(b:List UInt8):Option Nb:=
 if b[0]?=some 76 then match gd jh ((b[1]?).getD 0).toNat ((b.drop 2).take 122)with
  |none=>none
  |some (l,_)=>if encL l=b then some (.leaf l)else none
 else if b[0]?=some 66 then match gd Qw ((b[1]?).getD 0).toNat ((b.drop 2).take 122)with
  |none=>none
  |some (ks,_)=>if encB ks=b then some (.branch ks)else none
 else none
def Qx:Nb->Prop
 | .leaf l=>(∀p∈l,p.1.size<=8/\p.2.size<=12)/\(l.map fun p=>2+p.1.size+p.2.size).sum<=122
 | .branch ks=>(∀k∈ks,k.1.size<=8/\k.2<65536)/\11*ks.length<=122
theorem MD{b:List UInt8}{n:Nb}(h:decN b=some n):gS n=b/\Qx n:=by
 have q:((b.drop 2).take 122).length<=122:=by rw[au];omega
 unfold decN at h;split at h
 ·split at h
  ·cases h
  ·rename_i l r e;split at h
   ·rename_i d;simp only[ba]at h;subst h;obtain⟨c,i⟩:=NW (G:=fun p:Pr=>p.1.size<=8/\p.2.size<=12) (sz:=fun p:Pr=>2+p.1.size+p.2.size) (fun r a m h=>by obtain⟨f,g⟩:=Wc h;exact⟨g,by rw[f,ai,Pu]⟩) e;exact⟨d,c,by omega⟩
   ·cases h
 ·split at h
  ·split at h
   ·cases h
   ·rename_i l r e;split at h
    ·rename_i d;simp only[ba]at h;subst h;obtain⟨c,i⟩:=NW (G:=fun k:ByteArray×Nat=>k.1.size<=8/\k.2<65536) (sz:=fun _=>11) (fun r a m h=>by obtain⟨f,g,j⟩:=VL h;exact⟨⟨f,g⟩,j⟩) e;have o:(l.map fun _=>11).sum=11*l.length:=by
      clear e c i d
      induction l with
      |nil=>rfl
      |cons a l ih=>simp[ih];omega
     exact⟨d,c,by omega⟩
    ·cases h
  ·cases h
theorem ZJ(l:List Pr):(l.flatMap pkP).length=(l.map fun p=>2+p.1.size+p.2.size).sum:=by
 induction l with
 |nil=>rfl
 |cons p l ih=>simp only[bF,ai,Pu,ih,bn,bE]
theorem ZK(ks:List (ByteArray×Nat))(h:∀k∈ks,k.1.size<=8):(ks.flatMap pkK).length=11*ks.length:=by
 induction ks with
 |nil=>rfl
 |cons p l ih=>
  rw[bF,ai,Vm p (h p (by simp)),ih fun k a=>h k (by simp[a]),aB];omega
theorem Q3I(k:Nat)(l:List UInt8)(h:l.length<=k):(LL k l).length=k:=by simp[LL];omega
theorem Q3J(B:List UInt8):(LV B).length=B.length+4:=by simp[LV,j9]
theorem jX(c:UInt8)(n:Nat)(i:List UInt8)(h:i.length<=122):(Zm c n i).length=128:=by
 rw[Zm,Q3J,Q3I _ _ (by simp;omega)]
theorem Sk(c:UInt8)(n:Nat)(i:List UInt8)(h:i.length<=122):(Zm c n i)[0]?=some c/\(Zm c n i)[1]?=some (UInt8.ofNat n)/\∃z,((Zm c n i).drop 2).take 122=i++z:=by
 refine⟨by simp[Zm,LV,LL],by simp[Zm,LV,LL],List.replicate (122-i.length) 0,?_⟩;have e:Zm c n i=c::UInt8.ofNat n::((i++List.replicate (122-i.length) 0)++yz (crc (LL 124 (c::UInt8.ofNat n::i))) 4):=by
  simp[Zm,LV,LL]
 rw[e,cI,cI,da];exact List.take_left' (by simp;omega)
theorem Uz(l:List Pr):2*l.length<=(l.map fun p=>2+p.1.size+p.2.size).sum:=by
 induction l with
 |nil=>simp
 |cons p l ih=>simp only[aB,bn,bE];omega
theorem NS{n:Nb}(h:Qx n):decN (gS n)=some n:=by
 cases n with
 |leaf l=>
  obtain⟨a,i⟩:=h;have j:=ZJ l;obtain⟨d,e,z,f⟩:=Sk 76 l.length (l.flatMap pkP) (by omega);have hc:(UInt8.ofNat l.length).toNat=l.length:=P0 _ (by have:=Uz l;omega);simp only[decN,gS,encL,d,e,f,if_true,cV,hc];rw[Wp jh pkP l z fun p g r=>X4 p r (a p g).1 (a p g).2];simp
 |branch b=>
  obtain⟨a,i⟩:=h;have j:=ZK b fun k c=>(a k c).1;obtain⟨d,e,z,f⟩:=Sk 66 b.length (b.flatMap pkK) (by omega);have hc:(UInt8.ofNat b.length).toNat=b.length:=P0 _ (by omega);simp only[decN,gS,encB,d,e,f,if_true,cV,hc];rw[if_neg (by decide),Wp Qw pkK b z fun k c r=>Q3C k r (a k c).1 (a k c).2];simp
theorem OH{n:Nb}(h:Qx n):(gS n).length=128:=by
 cases n with
 |leaf l=>exact jX _ _ _ (by rw[ZJ];exact h.2)
 |branch b=>exact jX _ _ _ (by rw[ZK _ fun k a=>(h.1 k a).1];exact h.2)
def Bf(base:Nat)(w:World)(v:Value)(L:List UInt8):Prop:=w.ownsRow base 5 1 v L.length (u8s L)
theorem VA{v:Value}{x:Nat}(h:x∈v.ownBlock.toList):v.ownBlock=some x:=by
 cases hu:v.ownBlock with
 |none=>rw[hu]at h;cases h
 |some y=>rw[hu]at h;simp at h;rw[h]
variable {base:Nat}{w w':World}{L:List UInt8}
theorem Bf.keep{v:Value}(h:Bf base w v L)(k:y6 [] w w'):Bf base w' v L:=yb h k (by simp)
variable {cs:Array Value}
theorem Bf.off{v:Value}(h:Bf base w v L){y:Nat}{t:TypeId}{fr:Nat×Nat}(hy:w.heap[y]?=some (.cells cs t fr))(ht:t≠5):y∉v.ownBlock.toList:=by
 intro a;obtain⟨_,⟨rfl,_⟩|⟨g,b,c,rfl,_,d,_⟩⟩:=h
 ·simp[Value.ownBlock]at a
 ·have e:=VA a;simp[Value.ownBlock]at e;subst e;rw[d]at hy
  cases hy
  exact ht rfl
structure Kt(base:Nat)(w w':World):Prop where
 bl:Below base w w'
 row:∀(y:Nat) (cs:Array Value) (t:TypeId) (fr:Nat×Nat),t≠5->w.heap[y]?=some (.cells cs t fr)->w'.heap[y]?=some (.cells cs t fr)
theorem Kt.trans{base:Nat}{a b c:World}(h:Kt base a b)(g:Kt base b c):Kt base a c:=⟨h.bl.trans g.bl,fun y d t e ht f=>g.row y d t e ht (h.row y d t e ht f)⟩
theorem Kt.of(k:y6 [] w w')(hb:base<=w.heap.size):Kt base w w':=⟨⟨k.os,k.tape,k.output,k.size,fun i d=>k.block i (by omega) (by simp)⟩,fun y b t c _ a=>k.get a (by simp)⟩
theorem Bf.kt{v:Value}(h:Bf base w v L)(k:y6 v.ownBlock.toList w w')(hb:base<=w.heap.size):Kt base w w':=
 ⟨⟨k.os,k.tape,k.output,k.size,fun i e=>k.block i (by omega) (fun b=>by have:=(h.lt i (VA b)).1;omega)⟩,fun y c t d ht a=>k.get a (h.off a ht)⟩
def BfR(base:Nat)(L:List UInt8)(w:World)(e:Ending)(w':World):Prop:=∃v',e=.returned v'/\Bf base w' v' L/\Kt base w w'
theorem iu8':(prog.info? 5).map (fun i=>(i.zero,i.size,i.bytes))=some (some (.int .u8 0),1,1):=by kernel_rfl
theorem Q7I(w:World)(x:Int):(Instr.buildSlice 60 1 #[(0,.int .u8 x)]).run prog w=.ok (.slice (some ⟨w.heap.size,0,none⟩) 1 1) (w.alloc (.cells #[.int .u8 x] 5)):=by kernel_rfl
theorem OQ(n:Nat):(n:Int)%256=((UInt8.ofNat n).toNat:Int):=by
 rw[UInt8.toNat_ofNat'];omega
theorem Rq(base:Nat)(v:Value)(L:List UInt8)(s:ByteArray)(w:World)(h:Bf base w v L)(hb:base<=w.heap.size)(hl:L.length<=10000)(hs:s.size<=255):Calls prog 249 #[v,.string s] w (BfR base (L++tx s) w):=by
 obtain⟨y,r,c,q,d⟩:=bu iu8';have t:(s.size:Int)=((UInt8.ofNat s.size).toNat:Int):=by have:=OQ s.size;omega
 have z:=(y6.refl [] w).alloc (.cells #[.int .u8 (s.size:Int)] 5);have A:=af w (.cells #[.int .u8 (s.size:Int)] 5);have i:Bf base (w.alloc (.cells #[.int .u8 (s.size:Int)] 5)) v L:=h.keep z;have F:=ak w (.cells #[.int .u8 (s.size:Int)] 5);obtain⟨f,D,E,e,b,-⟩:=cY (P:=prog) (w.alloc (.cells #[.int .u8 (s.size:Int)] 5)) base 60 60 5 y (.int .u8 0) 1 1 underlying60 r c q d rfl (by decide) v L.length (u8s L) i ⟨w.heap.size,0,none⟩ 1 1 [.int .u8 (s.size:Int)] rfl (by
  intro j u l
  cases j with
  |zero=>simp at l;subst l;exact y7 A rfl
  |succ j=>simp at l) (by intro u hu;simp at hu;subst hu;rfl) (by unfold maxLen;omega) (by omega) (by omega)
 have t2:=i.kt (yF b v.ownBlock.toList (by intro k m;rw[m];simp)) (by omega);have o:u8s L++ [Value.int .u8 (s.size:Int)]=u8s (L++ [UInt8.ofNat s.size]):=by rw[t];simp[u8s]
 rw[o]at e;have B:Bf base D f (L++ [UInt8.ofNat s.size]):=by unfold Bf;rw[ai];exact e
 have H:=t2.bl.size;obtain⟨C,G,n,a,x,-⟩:=Lib.run_append_own_string (P:=prog) D base 60 9 60 5 y underlying60 underlying9 r c q d f (L.length+1) (u8s (L++ [UInt8.ofNat s.size])) e s (by unfold maxLen;omega) (by omega) (by omega);have t3:=B.kt (yF x f.ownBlock.toList (by intro k m;rw[m];simp)) (by omega);have p:u8s (L++ [UInt8.ofNat s.size])++Lib.strCells s=u8s (L++tx s):=by simp[u8s,tx,Lib.strCells]
 rw[p]at a;have el:L.length+1+s.size=(L++tx s).length:=by rw[ai,Qi];omega
 rw[el]at a;have g:Hid (BfR base (L++tx s) w (.returned C) G):=⟨C,rfl,a,((Kt.of z hb).trans t2).trans t3⟩
 clear a e B t2 t3 b x o p i A t;go_enter func249,ntmps249;go_wp2_with(first|(refine ya rfl _ _ (yv 60 1 (.tmp 8) rfl (.int .u8 (s.size:Int)) (by rfl) _ (Q7I _ _)) ?_)|(at_builtin;refine ya rfl _ _ (jl (.tmp 5) (.tmp 9) 60 rfl v (.slice (some ⟨w.heap.size,0,none⟩) 1 1) (by rfl) (by rfl) _ E) ?_)|(at_builtin;refine ya rfl _ _ (qc (.tmp 10) (.tmp 11) 60 9 rfl f (.string s) (by rfl) (by rfl) _ n) ?_))
 go_ret;exact g.out
theorem Z3(args:Array Value)(w:World):(callFunc 249 args).run prog w=.ok (.enter 249 args) w:=qy func249 (by kernel_rfl) (by kernel_rfl) args w
def RwS(g:Nat)(cs:Array Value)(t:TypeId)(W:World):Prop:=W.heap[g]?=some (.cells cs t (0,0))
theorem Q7L(base:Nat)(v:Value)(L:List UInt8)(p:Pr)(w:World)(h:Bf base w v L)(hb:base<=w.heap.size)(hl:L.length<=9000)(h1:p.1.size<=255)(h2:p.2.size<=255):Calls prog 247 #[.agg #[.string p.1,.string p.2],v] w (BfR base (L++pkP p) w):=by
 have j:=(y6.refl [] w).alloc (.cells #[.string p.1,.string p.2] 122);have r:=af w (.cells #[.string p.1,.string p.2] 122);have b:RwS w.heap.size #[.string p.1,.string p.2] 122 (w.alloc (.cells #[.string p.1,.string p.2] 122)).drew:=r;have c:Bf base (w.alloc (.cells #[.string p.1,.string p.2] 122)).drew v L:=h.keep j.drew;have o:Kt base w (w.alloc (.cells #[.string p.1,.string p.2] 122)).drew:=Kt.of j.drew hb;have m:base<=(w.alloc (.cells #[.string p.1,.string p.2] 122)).drew.heap.size:=by have:=j.drew.size;omega
 generalize a:(w.alloc (.cells #[.string p.1,.string p.2] 122)).drew=A at*;have y:Hid _:=a;clear a r j h;go_enter func247,ntmps247;go_wp2_with fail;refine yo (RwS w.heap.size #[.string p.1,.string p.2] 122) (by kernel_rfl) ?_;rw[y.out];refine uh 0 v rfl (fun W a=>by rfl) b ?_;refine uh 1 (.pointer (some ⟨w.heap.size,0+0,none⟩)) rfl (fun W a=>yx 122 (.tmp 2) 0 rfl w.heap.size 0 rfl 0 (by rfl)) b ?_;refine uh 2 (.pointer (some ⟨w.heap.size,0+0+0,none⟩)) rfl (fun W a=>yx 41 (.tmp 6) 0 rfl w.heap.size (0+0) rfl 0 (by rfl)) b ?_;refine uh 3 (.string p.1) rfl (fun W a=>y9 9 (.tmp 7) rfl ⟨w.heap.size,0+0+0,none⟩ rfl _ (yh underlying9 rfl (y7 a rfl))) b ?_;refine uh 5 (.pointer (some ⟨w.heap.size,0+0,none⟩)) rfl (fun W a=>yx 122 (.tmp 2) 0 rfl w.heap.size 0 rfl 0 (by rfl)) b ?_;refine uh 6 (.pointer (some ⟨w.heap.size,0+0+1,none⟩)) rfl (fun W a=>yx 41 (.tmp 10) 1 rfl w.heap.size (0+0) rfl 1 (by rfl)) b ?_;refine uh 7 (.string p.2) rfl (fun W a=>y9 9 (.tmp 11) rfl ⟨w.heap.size,0+0+1,none⟩ rfl _ (yh underlying9 rfl (y7 a rfl))) b ?_;refine yi (i:=4) (by kernel_rfl) (yp rfl (by rfl) 249 #[v,.string p.1] (yn _ _ _ rfl _ (by simp[Act.eval]) (Z3 _ _)) _ (Rq base v L p.1 A c m (by omega) h1) ?_);rintro e u⟨t,rfl,q,d⟩;have g:=d.row _ _ _ _ (by decide) b;refine⟨_,rfl,g,?_⟩;simp only[zz];have z:base<=u.heap.size:=by have:=d.bl.size;omega
 have l:(L++tx p.1).length<=10000:=by rw[ai,Qi];omega
 refine yi (i:=8) (by kernel_rfl) (yp rfl (by rfl) 249 #[t,.string p.2] (yn _ _ _ rfl _ (by simp[Act.eval]) (Z3 _ _)) _ (Rq base t (L++tx p.1) p.2 u q z l h2) ?_);rintro e x⟨n,rfl,s,f⟩;refine⟨_,rfl,f.row _ _ _ _ (by decide) g,?_⟩;simp only[zz];refine yi (i:=9) (by kernel_rfl) (yM rfl (by rfl) n x (by rfl) ⟨f.row _ _ _ _ (by decide) g,?_⟩);simp only[zz];refine aK (by kernel_rfl) ?_ _;have k:Hid (BfR base (L++pkP p) w (.returned n) x):=⟨n,rfl,by rw[pkP,<-aG];exact s,(o.trans d).trans f⟩
 clear s q c b g o d f;go_wp2;go_ret;exact k.out
theorem Q7M{P:Program}{o:Oper}{a:Act}(x:Operand)(t:TypeId)(ho:o.op=.call {callee:=.builtin .len,args:=#[x],argTypes:=#[t]})(s:ByteArray)(hx:a.eval x=.string s)(hu:P.underlying t=some .string):
  (execOp a.eval o).run P w=.ok (.value (.int .i64 s.size)) w:=by
 have b:(Builtin.len_ #[t] o.type #[.string s]).run P w=.ok (goInt s.size) w:=by
  simp[Builtin.len_,aO hu]
 simp[execOp,ho,resolve,invoke,builtin,hx,b,goInt]
theorem z10(w:World):(Instr.alloc 322 true (.tuple #[])).run prog w=.ok (.pointer (some ⟨w.heap.size,0,none⟩)) (w.alloc (.cells (u8s (List.replicate 10 0)).toArray 322)):=by kernel_rfl
theorem Q7N(W:World)(g:Nat):∀l:Nat,l<=8->(Instr.sliceAt 322 (.pointer (some ⟨g,0,none⟩)) (some (.int .i64 (l:Int))) none none).run prog W=.ok (.slice (some ⟨g,l,none⟩) (10-l) (10-l)) W
 |0,_=>by kernel_rfl
 |1,_=>by kernel_rfl
 |2,_=>by kernel_rfl
 |3,_=>by kernel_rfl
 |4,_=>by kernel_rfl
 |5,_=>by kernel_rfl
 |6,_=>by kernel_rfl
 |7,_=>by kernel_rfl
 |8,_=>by kernel_rfl
 |n+9,h=>by omega
theorem Q7O(f:ByteArray)(p:Nat)(h:f.size<=8):(splice (List.replicate 10 (0:UInt8)) 8 (yz p 2)).drop f.size=List.replicate (8-f.size) 0++yz p 2:=by
 have e:splice (List.replicate 10 (0:UInt8)) 8 (yz p 2)=List.replicate 8 0++yz p 2:=by
  simp[splice,yE]
 rw[e,List.drop_append_of_le_length (by simp;exact h),List.drop_replicate]
theorem Ud(base:Nat)(v:Value)(L:List UInt8)(f:ByteArray)(p:Nat)(x:Value)(w:World)(h:Bf base w v L)(hb:base<=w.heap.size)(hl:L.length<=9000)(h1:f.size<=8)(h2:p<65536):Calls prog 296 #[.agg #[.string f,.int .i64 p,x],v] w (BfR base (L++pkK (f,p)) w):=by
 obtain⟨ie,eI,B,Z,C⟩:=bu iu8';have M:=(y6.refl [] w).alloc (.cells #[.string f,.int .i64 p,x] 80);have O:=af w (.cells #[.string f,.int .i64 p,x] 80);have lP:=ak w (.cells #[.string f,.int .i64 p,x] 80);have V:Hid (IntKind.u64.wrap (p:Int)=p):=by show _=_;rw[IntKind.wrap_u64];omega
 go_enter func296,ntmps296;go_wp2_with(refine qn rfl 322 rfl _ (z10 _) ?_;intro T F D mi)
 have o:=D.get O (by simp);have X:T.cell? ⟨w.heap.size,1,none⟩=some (.int .i64 p):=y7 o rfl;have K:=M.trans D;clear M D O;rw[lP]at F mi
 go_region_with (go_at_call 151;rw[V.out];refine(Oc (w.heap.size+1) 8 2 2 (List.replicate 10 0) p 322 _ (by exact F) (by omega) (by simp) (by omega)).mono ?_;rintro e g⟨rfl,Q,E⟩)
 have I:=E.get (w:=T.drew) o (by simp);have N:y6 [] w g:=K.drew.trans2 E (by intro y J;simp at J;subst J;exact Or.inr (by omega));clear F o X K E;have a:RwS w.heap.size #[.string f,.int .i64 p,x] 80 g.drew:=I;have S:Bf base g.drew v L:=h.keep N.drew;have s:Kt base w g.drew:=Kt.of N.drew hb;have fV:base<=g.drew.heap.size:=by have:=s.bl.size;omega
 go_wp2_with fail;refine yo (RwS w.heap.size #[.string f,.int .i64 p,x] 80) (by kernel_rfl) ?_;refine uh 0 v rfl (fun W b=>by rfl) a ?_;refine uh 1 (.pointer (some ⟨w.heap.size,0+0,none⟩)) rfl (fun W b=>yx 80 (.tmp 2) 0 rfl w.heap.size 0 rfl 0 (by rfl)) a ?_;refine uh 2 (.string f) rfl (fun W b=>y9 9 (.tmp 12) rfl ⟨w.heap.size,0+0,none⟩ rfl _ (yh underlying9 rfl (y7 b rfl))) a ?_;refine uh 4 (.pointer (some ⟨w.heap.size,0+0,none⟩)) rfl (fun W b=>yx 80 (.tmp 2) 0 rfl w.heap.size 0 rfl 0 (by rfl)) a ?_;refine uh 5 (.string f) rfl (fun W b=>y9 9 (.tmp 15) rfl ⟨w.heap.size,0+0,none⟩ rfl _ (yh underlying9 rfl (y7 b rfl))) a ?_;refine uh 6 (.int .i64 f.size) rfl (fun W b=>Q7M (.tmp 16) 9 rfl f rfl underlying9) a ?_;refine uh 7 (.slice (some ⟨w.heap.size+1,f.size,none⟩) (10-f.size) (10-f.size)) rfl (fun W b=>yY 322 (.tmp 5) (some (.tmp 17)) none none rfl _ (some (.int .i64 (f.size:Int))) none none (by rfl) (by rfl) rfl rfl _ (Q7N W _ _ h1)) a ?_;refine yi (i:=3) (by kernel_rfl) (yp rfl (by rfl) 249 #[v,.string f] (yn _ _ _ rfl _ (by simp[Act.eval]) (Z3 _ _)) _ (Rq base v L f g.drew S fV (by omega) (by omega)) ?_);rintro e U⟨G,rfl,q,l⟩;have c:=l.row _ _ _ _ (by decide) a;refine⟨_,rfl,c,?_⟩;simp only[zz];have m:base<=U.heap.size:=by have:=l.bl.size;omega
 have R:=l.row _ _ _ _ (by decide) (show g.drew.heap[w.heap.size+1]?=_ from Q);have mV:(L++tx f).length<=9300:=by rw[ai,Qi];omega
 have A:(List.replicate (8-f.size) (0:UInt8)++yz p 2).length=10-f.size:=by rw[ai,bR,yE];omega
 obtain⟨n,H,nN,z,od,-⟩:=cY (P:=prog) U base 60 60 5 ie (.int .u8 0) 1 1 underlying60 eI B Z C rfl (by decide) G (L++tx f).length (u8s (L++tx f)) q ⟨w.heap.size+1,f.size,none⟩ (10-f.size) (10-f.size) (u8s (List.replicate (8-f.size) 0++yz p 2)) (by rw[yd,A,Nat.mul_one]) (jS R (by
  intro j u hu;rw[<-Q7O f p h1,Qo,aV]at hu;rw[Qo];exact hu)) (qP _) (by unfold maxLen;omega) (by omega) m
 have t:=q.kt (yF od G.ownBlock.toList (by intro k hk;rw[hk];simp)) m;have Y:u8s (L++tx f)++u8s (List.replicate (8-f.size) 0++yz p 2)=u8s (L++pkK (f,p)):=by simp[u8s,pkK]
 have el:(L++tx f).length+(10-f.size)=(L++pkK (f,p)).length:=by rw[ai,ai,Vm (f,p) h1,Qi];omega
 rw[Y,el]at z;have r:Hid (BfR base (L++pkK (f,p)) w (.returned n) H):=⟨n,rfl,z,(s.trans l).trans t⟩
 have d:=t.row _ _ _ _ (by decide) c;refine yi (i:=8) (by kernel_rfl) (yM rfl (by rfl) n H (jl (.tmp 14) (.tmp 18) 60 rfl G _ (by rfl) (by rfl) _ nN) ⟨d,?_⟩);simp only[zz];refine yi (i:=9) (by kernel_rfl) (yM rfl (by rfl) n H (by rfl) ⟨d,?_⟩);simp only[zz];refine aK (by kernel_rfl) ?_ _;clear S q a c d s l t z Q R I;go_wp2;go_ret;exact r.out
def WEnd(o:Option Int)(e:Ending)(W:World):Prop:=match o with
 |none=>e=.returned (.tuple #[])
 |some x=>Thr x e W
def CEnd(o:Option Int)(err:Value)(W:World):Prop:=match o with
 |none=>err=.nilIface
 |some x=>gU W err x
def L0(S:List Nat)(R:Option Int->World->Prop)(W:World)(e:Ending)(W':World):Prop:=∃o,WEnd o e W'/\R o W'/\y6 S W W'
def QZ(S:List Nat)(R:Option Int->World->Prop)(w:World)(e:Ending)(w':World):Prop:=∃o err,e=.returned err/\CEnd o err w'/\R o w'/\y6 S w w'
theorem Zs(b:ByteArray)(fid:FuncId)(caps:Array Value)(he:∀(args:Array Value) (W:World),(callFunc fid args).run prog W=.ok (.enter fid args) W)(S:List Nat)(R:Option Int->World->Prop)(w:World)(hS:∀x∈S,x<w.heap.size)
  (hR:∀o W W' T,R o W->y6 T W W'->(∀x∈T,w.heap.size<=x/\x<w.heap.size+2/\∃cs fr,W.heap[x]?=some (.cells cs 35 fr))->R o W')
  (hw:∀W,y6 [] w W->W.heap.size=w.heap.size+2->Calls prog fid caps W (L0 S R W)):
  Calls prog 42 #[.string b,.func (.func fid) #[] caps] w (QZ S R w):=by
 have K:=j2;have l:=((y6.refl [] w).alloc (.cells #[.string b] 9)).alloc (.cells #[.nilIface] 35);have v:((w.alloc (.cells #[.string b] 9)).alloc (.cells #[.nilIface] 35)).heap[w.heap.size+1]?=some (.cells #[.nilIface] 35 (0,0)):=by
  have:=af (w.alloc (.cells #[.string b] 9)) (.cells #[.nilIface] 35)
  rwa[ak]at this
 have H:=((y6.refl [] (w.alloc (.cells #[.string b] 9))).alloc (.cells #[.nilIface] 35)).get (af w (.cells #[.string b] 9)) (by simp);have h:=hw _ l (by simp);have z:Hid (Calls _ _ _ _ _):=h;have r:Hid (∀o W W' T,R o W->y6 T W W'->(∀x∈T,w.heap.size<=x/\x<w.heap.size+2/\∃cs fr,W.heap[x]?=some (.cells cs 35 fr))->R o W'):=hR;have s:Hid (∀x∈S,x<w.heap.size):=hS;clear hw h hR hS
 go_enter_defers func42,ntmps42
 go_wp2_with fail;refine z.out.mono ?_;rintro e W⟨o,p,q,m⟩;have c:=m.get v (fun a=>by have:=s.out _ a;omega);have I:=m.get H (fun a=>by have:=s.out _ a;omega)
 cases o with
 |none=>
  have n:e=.returned (.tuple #[]):=p;subst n;have F:Hid (R none W):=q;have J:W.cell? ⟨w.heap.size+1,0,none⟩=some .nilIface:=y7 c rfl;have f2:W.frozen? ⟨w.heap.size+1,0,none⟩=false:=ax _ _ _ _ _ c;have u:y6 [w.heap.size+1] W (W.setCell ⟨w.heap.size+1,0,none⟩ .nilIface):=(y6.refl _ _).setCell (Or.inl (by simp)) _;have D:y6 S w (W.setCell ⟨w.heap.size+1,0,none⟩ .nilIface):=((l.mono (by simp)).trans m).trans2 u (by intro x a;simp at a;subst a;exact Or.inr (by omega));have g:R none (W.setCell ⟨w.heap.size+1,0,none⟩ .nilIface):=r.out _ _ _ _ F.out u (by intro x a;simp at a;subst a;exact⟨by omega,by omega,_,_,c⟩);have G:Hid (R none (W.setCell ⟨w.heap.size+1,0,none⟩ .nilIface)):=g;have A:(W.setCell ⟨w.heap.size+1,0,none⟩ .nilIface).cell? ⟨w.heap.size+1,0,none⟩=some .nilIface:=y7 (yf (i:=0) .nilIface c) rfl;clear q g v c l p;go_wp2;refine leaves_cons (f:=67) (args:=#[.pointer (some ⟨w.heap.size,0,none⟩),.pointer (some ⟨w.heap.size+1,0,none⟩)]) (by simp) (by simp[go_sem]) ?_;refine(OE ⟨w.heap.size,0,none⟩ ⟨w.heap.size+1,0,none⟩ _).mono ?_;rintro e E k⟨rfl,rfl,rfl⟩;simp[Leaves,settle,results,Tryz.results42,go_sem,A];exact⟨none,_,rfl,rfl,G.out,D⟩
 |some x=>
  obtain⟨f,o,rfl,C⟩:=Thr.ex p;refine leaves_cons (f:=67) (args:=#[.pointer (some ⟨w.heap.size,0,none⟩),.pointer (some ⟨w.heap.size+1,0,none⟩)]) (by simp) (by simp[go_sem]) ?_;refine(Zk w.heap.size (w.heap.size+1) f o _ _ x W I ⟨b,rfl⟩ c C).mono ?_;rintro e E k⟨rfl,rfl,d,he,hc,t⟩;have B:k.cell? ⟨w.heap.size+1,0,none⟩=some d:=y7 he rfl;simp[Leaves,settle,results,Tryz.results42,go_sem,B];exact⟨some x,d,rfl,hc,r.out _ _ _ _ q t (by intro y j;simp at j;subst j;exact⟨by omega,by omega,_,_,c⟩),((l.mono (by simp)).trans m).trans2 t (by intro y j;simp at j;subst j;exact Or.inr (by omega))⟩
variable {cv:Value}
theorem UA{a:Nat}{bv zi:Value}{B:Nat}(hf:∀y,zi.ownBlock=some y->cv.ownBlock=some y\/B<=y):∀y∈yk a bv zi,y∈yk a bv cv\/B<=y:=by
 intro y b;rcases an.1 b with rfl|b
 ·exact Or.inl aZ
 rcases ar.1 b with b|b
 ·exact Or.inl (aq _ (aw _ b))
 ·rcases hf y (by simpa using b)with e|e
  ·exact Or.inl (aq _ (az _ (by simpa using e)))
  ·exact Or.inr e
theorem VM{zi l9:Value}{B C:Nat}(hf:∀y,zi.ownBlock=some y->cv.ownBlock=some y\/B<=y)(hg:∀y,l9.ownBlock=some y->zi.ownBlock=some y\/C<=y)(h:B<=C):∀y,l9.ownBlock=some y->cv.ownBlock=some y\/B<=y:=by
 intro y a;rcases hg y a with e|e
 ·exact hf y e
 ·exact Or.inr (av h e)
def yg(D:Dv):(Nat×Nat)×Bool:=nwst (rdH 0 (D.view 0)) (rdH 1 (D.view 1))
theorem O2(t:Nat):(nxt t:Int)<18446744073709551616:=by unfold nxt;omega
def Lh(D:Dv)(t r:Nat)(D':Dv):Prop:=∃D1,Wn D (t%2) (blk t r) D1/\Fl D1 D'
def Lf(D:Dv)(t r:Nat)(D':Dv):Prop:=Er D D'\/∃D1,Wn D (t%2) (blk t r) D1/\Er D1 D'
theorem Qt.lh{D E F:Dv}{t r:Nat}(h:Qt D E)(g:Lh E t r F):Lh D t r F:=by
 obtain⟨a,b,c⟩:=g;exact⟨a,h.wn b,c⟩
theorem Qt.lf{D E F:Dv}{t r:Nat}(h:Qt D E)(g:Lf E t r F):Lf D t r F:=by
 rcases g with g|⟨a,b,c⟩
 ·exact Or.inl (h.er g)
 ·exact Or.inr ⟨a,h.wn b,c⟩
theorem Lh.good{D D':Dv}{t r:Nat}(h:Lh D t r D'):qM D'↔qM D:=by
 obtain⟨c,a,b⟩:=h;exact b.good.trans a.good
theorem Lh.q{D D':Dv}{t r:Nat}(h:Lh D t r D'):D'.q= []:=by
 obtain⟨b,_,a⟩:=h;exact a.q
def FmtP(D D':Dv)(o:Option Int):Prop:=
 (o=none/\∃D1,Lh D (nxt (yg D).1.1) 0 D1/\Lh D1 (nxt (nxt (yg D).1.1)) 0 D')\/
 (o=some 6/\(Lf D (nxt (yg D).1.1) 0 D'\/∃D1,Lh D (nxt (yg D).1.1) 0 D1/\Lf D1 (nxt (nxt (yg D).1.1)) 0 D'))
def DEnd(a:Nat)(bv:Value)(n:Nat)(cv:Value)(B:Nat)(P:Dv->Option Int->Prop)(o:Option Int)(W:World):Prop:=
 ∃cv' D',DQ W a bv n cv' D'/\(∀y,cv'.ownBlock=some y->cv.ownBlock=some y\/B<=y)/\P D' o
theorem DEnd.err{a:Nat}{bv:Value}{n:Nat}{B:Nat}{P:Dv->Option Int->Prop}{o:Option Int}{W W':World}{T:List Nat}(h:DEnd a bv n cv B P o W)(k:y6 T W W')(hT:∀x∈T,∃cs fr,W.heap[x]?=some (.cells cs 35 fr)):DEnd a bv n cv B P o W':=by
 obtain⟨b,d,c,e,f⟩:=h;refine⟨b,d,c.kept k ?_,e,f⟩;intro y j i;obtain⟨cs,fr,g⟩:=hT y i;exact c.no g (by decide) j
theorem Q8t(p a:Nat)(bv:Value)(n:Nat)(cv:Value)(D:Dv)(B:Nat)(w:World)(hB:B<=w.heap.size)(hp:w.heap[p]?=some (.cells #[.iface 26 (.pointer (some ⟨a,0,none⟩))] 126 (0,0)))(h:DQ w a bv n cv D)(fM:8<=n)(hn:n<=400)(hq:D.q.length<1000000)(hT:qM D\/Tab w):
  Calls prog 86 #[.pointer (some ⟨p,0,none⟩)] w (L0 (yk a bv cv) (DEnd a bv n cv B (FmtP D)) w):=by
 have c0:w.cell? ⟨p,0,none⟩=some (.iface 26 (.pointer (some ⟨a,0,none⟩))):=y7 hp rfl;obtain⟨l,j,rfl⟩:=yZ h.b;have HX:Hid (yg D=yg D):=rfl;have HN:Hid (∀v W,Vol W v a n->DQ W a (.slice l n j) n cv D->(qM D\/Tab W)->Calls prog 88 #[.pointer (some ⟨v,0,none⟩)] W (RdR a (.slice l n j) n cv D (fun e _=>e=.returned (nwV (yg D))) W)):=fun v W hV hD hT=>WL v a _ n cv D W hV hD fM (by omega) (by omega) hT;have N:Hid (∀T o,FmtP D T o↔(o=none/\∃E,Lh D (nxt (yg D).1.1) 0 E/\Lh E (nxt (nxt (yg D).1.1)) 0 T)\/(o=some 6/\(Lf D (nxt (yg D).1.1) 0 T\/∃E,Lh D (nxt (yg D).1.1) 0 E/\Lf E (nxt (nxt (yg D).1.1)) 0 T))):=fun _ _=>Iff.rfl;obtain⟨⟨⟨t0,I⟩,b0⟩,A⟩:∃x,x=yg D:=⟨_,rfl⟩
 rw[<-A]at HN N;clear A HX;have l1:=O2 t0;have l2:=O2 (nxt t0);have X1:Hid (∀W,Calls prog 84 #[.agg #[.int .u64 t0,.int .i64 I],.int .i64 0] W fun e w'=>e=.returned (.agg #[.int .u64 (nxt t0),.int .i64 0])/\y6 [] W w'):=fun W=>PI t0 I 0 W;have X2:Hid (∀W,Calls prog 84 #[.agg #[.int .u64 (nxt t0),.int .i64 0],.int .i64 0] W fun e w'=>e=.returned (.agg #[.int .u64 (nxt (nxt t0)),.int .i64 0])/\y6 [] W w'):=fun W=>PI (nxt t0) 0 0 W;generalize nxt (nxt t0)=t2 at*;generalize nxt t0=t1 at*;go_enter func86,ntmps86;go_wp2_with fail;refine(Tn a n j l cv D w h.d fM hn).mono ?_;rintro e w1⟨v,rfl,G,AB,m⟩;have U:=h.k0 m;have lC:qM D\/Tab w1:=hT.imp id fun hT=>hT.k m;have nv:v∉yk a (.slice l n j) cv:=U.no G (by decide);go_wp2_with fail;refine(HN.out v w1 G U lC).mono ?_;rintro e c⟨M,fA,z,⟨O,rfl⟩|⟨rR,tA⟩⟩;rotate_left
 ·obtain⟨f,o,rfl,hf⟩:=tA.ex;exact⟨rfl,some 6,tA,⟨cv,M,fA,fun y g=>Or.inl g,(N.out _ _).2 (Or.inr ⟨rfl,Or.inl (Or.inl rR)⟩)⟩,(m.mono (by simp)).trans (z.mono (by intro y g;simp at g;subst g;simp[yk]))⟩
 have C:∀y∈ [a],y∈yk a (.slice l n j) cv:=by intro y g;simp at g;subst g;simp[yk]
 have Q:Vol c v a n:=z.get G (fun hm=>nv (C _ hm));have lB:qM M\/Tab c:=lC.imp O.good.2 fun hT=>hT.kept z (hT.dqa U);have oA:y6 (yk a (.slice l n j) cv) w c:=(m.mono (by simp)).trans (z.mono C);have V:=(y6.refl [] c).alloc (.cells #[.int .u64 (t0:Int),.int .i64 (I:Int)] 76);have n3:=af c (.cells #[.int .u64 (t0:Int),.int .i64 (I:Int)] 76);have fF:=fA.k0 V;have ic:Vol (c.alloc (.cells #[.int .u64 (t0:Int),.int .i64 (I:Int)] 76)) v a n:=V.get Q (by simp);have nu:=oA.trans2 V (by simp);have Ij:=yt Q;have eE:=oA.size;have EZ:=fA.ge (ag _);have mX:qM M\/Tab (c.alloc (.cells #[.int .u64 (t0:Int),.int .i64 (I:Int)] 76)):=lB.imp id fun hT=>hT.k V;clear U m lC;simp only[nwV];go_wp2_with fail;refine dU 3 ?_;rw[dh];go_wp2_with fail;refine(X1.out _).mono ?_;rintro e s⟨rfl,J⟩;have H:=J.get n3 (by simp);have BU:s.cell? ⟨c.heap.size,0,none⟩=some (.int .u64 t0):=y7 H rfl;have BW:s.cell? ⟨c.heap.size,1,none⟩=some (.int .i64 I):=y7 H rfl;have f40:s.frozen? ⟨c.heap.size,0,none⟩=false:=ax _ _ _ _ _ H;have f41:s.frozen? ⟨c.heap.size,1,none⟩=false:=ax _ _ _ _ _ H;have R:y6 [c.heap.size] s ((s.setCell ⟨c.heap.size,0,none⟩ (.int .u64 t1)).setCell ⟨c.heap.size,1,none⟩ (.int .i64 0)):=((y6.refl [c.heap.size] s).setCell (p:=⟨c.heap.size,0,none⟩) (Or.inl (by simp)) _).setCell (p:=⟨c.heap.size,1,none⟩) (Or.inl (by simp)) _;have Z:=yf (i:=1) (.int .i64 0) (yf (i:=0) (.int .u64 (t1:Int)) H);have pS:=(fF.k0 J).k1 R EZ;have wL:Vol ((s.setCell ⟨c.heap.size,0,none⟩ (.int .u64 t1)).setCell ⟨c.heap.size,1,none⟩ (.int .i64 0)) v a n:=R.get (J.get ic (by simp)) (by simp;omega);have Y:y6 (yk a (.slice l n j) cv) w ((s.setCell ⟨c.heap.size,0,none⟩ (.int .u64 t1)).setCell ⟨c.heap.size,1,none⟩ (.int .i64 0)):=(nu.trans2 J (by simp)).trans2 R (by intro x A;simp at A;subst A;exact Or.inr (by omega));have Cs:qM M\/Tab ((s.setCell ⟨c.heap.size,0,none⟩ (.int .u64 t1)).setCell ⟨c.heap.size,1,none⟩ (.int .i64 0)):=mX.imp id fun hT=>(hT.k J).kept R (by have:=(hT.k J).ne H (by decide);simpa using this);generalize E0:(s.setCell ⟨c.heap.size,0,none⟩ (.int .u64 t1)).setCell ⟨c.heap.size,1,none⟩ (.int .i64 0)=w5 at*;have Ik:Hid _:=E0;clear E0;have wD:w5.cell? ⟨c.heap.size,0,none⟩=some (.int .u64 t1):=y7 Z rfl;have tG:w5.cell? ⟨c.heap.size,1,none⟩=some (.int .i64 0):=y7 Z rfl;go_wp2_with fail;rw[Ik.out];go_wp2_with fail;refine(PJ v a (.slice l n j) n cv M t1 0 w5 wL pS fM (by omega) (by rw[O.q];omega) l1 (by omega) Cs).mono ?_;rintro e w6⟨S,F,tP,r,E2,⟨E,sr,hl6,rfl⟩|⟨tQ,Il⟩⟩;rotate_left
 ·obtain⟨f,o,rfl,hf⟩:=tQ.ex;exact⟨rfl,some 6,tQ,⟨S,F,tP,fun y g=>(E2 y g).imp id fun h=>by have:=Y.size;omega,(N.out _ _).2 (Or.inr ⟨rfl,Or.inl (O.lf Il)⟩)⟩,Y.trans r⟩
 have u:Lh D t1 0 F:=O.lh ⟨E,sr,hl6⟩;have E3:=Y.size;have ss:∀y,S.ownBlock=some y->cv.ownBlock=some y\/w.heap.size<=y:=fun y g=>(E2 y g).imp id fun h=>by omega
 have n6:=r.get Z EZ;have Im:Vol w6 v a n:=r.get wL nv;have kU:=Y.trans r;have zj:qM F\/Tab w6:=Cs.imp (fun hg=>u.good.2 (O.good.1 hg)) fun hT=>hT.kept r (hT.dq pS);have c60:w6.cell? ⟨c.heap.size,0,none⟩=some (.int .u64 t1):=y7 n6 rfl;have KM:w6.cell? ⟨c.heap.size,1,none⟩=some (.int .i64 0):=y7 n6 rfl;clear Z pS Cs wD tG wL R H n3;go_wp2_with fail;rw[dh];go_wp2_with fail;refine(X2.out _).mono ?_;rintro e t⟨rfl,K⟩;have L:=K.get n6 (by simp);have KN:t.cell? ⟨c.heap.size,0,none⟩=some (.int .u64 t1):=y7 L rfl;have zk:t.cell? ⟨c.heap.size,1,none⟩=some (.int .i64 0):=y7 L rfl;have f70:t.frozen? ⟨c.heap.size,0,none⟩=false:=ax _ _ _ _ _ L;have f71:t.frozen? ⟨c.heap.size,1,none⟩=false:=ax _ _ _ _ _ L;have X:y6 [c.heap.size] t ((t.setCell ⟨c.heap.size,0,none⟩ (.int .u64 t2)).setCell ⟨c.heap.size,1,none⟩ (.int .i64 0)):=((y6.refl [c.heap.size] t).setCell (p:=⟨c.heap.size,0,none⟩) (Or.inl (by simp)) _).setCell (p:=⟨c.heap.size,1,none⟩) (Or.inl (by simp)) _;have n8:=yf (i:=1) (.int .i64 0) (yf (i:=0) (.int .u64 (t2:Int)) L);have Io:c.heap.size∉yk a (.slice l n j) S:=(tP.no n6 (by decide))
 have AO:=(tP.k0 K).k1 X Io;have Ip:Vol ((t.setCell ⟨c.heap.size,0,none⟩ (.int .u64 t2)).setCell ⟨c.heap.size,1,none⟩ (.int .i64 0)) v a n:=X.get (K.get Im (by simp)) (by simp;omega);have uX:y6 (yk a (.slice l n j) cv) w ((t.setCell ⟨c.heap.size,0,none⟩ (.int .u64 t2)).setCell ⟨c.heap.size,1,none⟩ (.int .i64 0)):=(kU.trans2 K (by simp)).trans2 X (by intro x A;simp at A;subst A;exact Or.inr (by omega));have Iq:qM F\/Tab ((t.setCell ⟨c.heap.size,0,none⟩ (.int .u64 t2)).setCell ⟨c.heap.size,1,none⟩ (.int .i64 0)):=zj.imp id fun hT=>(hT.k K).kept X (by have:=(hT.k K).ne L (by decide);simpa using this);generalize E4:(t.setCell ⟨c.heap.size,0,none⟩ (.int .u64 t2)).setCell ⟨c.heap.size,1,none⟩ (.int .i64 0)=w8 at*;have Ct:Hid _:=E4;clear E4;have KO:w8.cell? ⟨c.heap.size,0,none⟩=some (.int .u64 t2):=y7 n8 rfl;have KQ:w8.cell? ⟨c.heap.size,1,none⟩=some (.int .i64 0):=y7 n8 rfl;go_wp2_with fail;rw[Ct.out];go_wp2_with fail;refine(PJ v a (.slice l n j) n S F t2 0 w8 Ip AO fM (by omega) (by rw[u.q];simp) l2 (by omega) Iq).mono ?_;have E5:=uX.size;rintro e w9⟨E6,D9,E7,P,E8,⟨E1,Ir,Is,rfl⟩|⟨E9,It⟩⟩
 ·go_wp2_with fail;rw[dh];go_wp2;go_end0;exact⟨none,rfl,⟨E6,D9,E7,fun y g=>(VM ss E8 E5 y g).imp id fun h=>by omega,(N.out _ _).2 (Or.inl ⟨rfl,F,u,E1,Ir,Is⟩)⟩,uX.trans2 P (UA ss)⟩
 ·obtain⟨f,o,rfl,hf⟩:=E9.ex;exact⟨rfl,some 6,E9,⟨E6,D9,E7,fun y g=>(VM ss E8 E5 y g).imp id fun h=>by omega,(N.out _ _).2 (Or.inr ⟨rfl,Or.inr ⟨F,u,It⟩⟩)⟩,uX.trans2 P (UA ss)⟩
def qY(_:World):Prop:=True
theorem Q8u(a:Nat)(bv:Value)(n:Nat)(cv:Value)(D:Dv)(w:World)(h:DQ w a bv n cv D)(fM:8<=n)(hn:n<=400)(hq:D.q.length<1000000)(hT:qM D\/Tab w):
  Calls prog 54 #[.iface 26 (.pointer (some ⟨a,0,none⟩))] w (QZ (yk a bv cv) (DEnd a bv n cv w.heap.size (FmtP D)) w):=by
 have v:=j2;have d:=(y6.refl [] w).alloc (.cells #[.iface 26 (.pointer (some ⟨a,0,none⟩))] 126);have m:=af w (.cells #[.iface 26 (.pointer (some ⟨a,0,none⟩))] 126);have g:=h.k0 d;have p:Hid (∀b,Calls prog 42 #[.string b,.func (.func 86) #[] #[.pointer (some ⟨w.heap.size,0,none⟩)]] (w.alloc (.cells #[.iface 26 (.pointer (some ⟨a,0,none⟩))] 126)) (QZ (yk a bv cv) (DEnd a bv n cv w.heap.size (FmtP D)) (w.alloc (.cells #[.iface 26 (.pointer (some ⟨a,0,none⟩))] 126)))):=by
  intro b;refine Zs b 86 _ (fun _ _=>by kernel_rfl) _ _ _ (fun x l=>g.lt x l) (fun o W u T t s hT=>t.err s fun x l=>(hT x l).2.2) ?_;intro W c _;exact Q8t w.heap.size a bv n cv D w.heap.size W (av d.size c.size) (c.get m (by simp)) (g.k0 c) fM hn hq (hT.imp id fun hT=>(hT.k d).k c)
 clear g m;go_enter func54,ntmps54;go_wp2_with(go_at_call 42;refine(p.out _).mono ?_;rintro e y⟨o,f,rfl,i,r,j⟩)
 go_ret;exact⟨o,f,rfl,i,r,(d.mono (by simp)).trans j⟩
theorem Xr(p a n cap:Nat)(ao:Option Addr)(cache:Value)(D:Dv)(w:World)(hp:w.heap[p]?=some (.cells #[.iface 26 (.pointer (some ⟨a,0,none⟩))] 126 (0,0)))(h:DC w a (.slice ao n cap) cache D)(hn:n<8\/400<n):
  Calls prog 86 #[.pointer (some ⟨p,0,none⟩)] w (L0 [] (fun o _=>o=some 8) w):=by
 have d:w.cell? ⟨p,0,none⟩=some (.iface 26 (.pointer (some ⟨a,0,none⟩))):=y7 hp rfl;go_enter func86,ntmps86;go_wp2_with fail;refine(UQ a n cap ao cache D w h hn).mono ?_;rintro e g⟨f,o,rfl,b,c⟩;exact⟨rfl,some 8,⟨f,o,rfl,b⟩,rfl,c⟩
theorem Q8w(a n cap:Nat)(ao:Option Addr)(cache:Value)(D:Dv)(w:World)(h:DC w a (.slice ao n cap) cache D)(hn:n<8\/400<n):
  Calls prog 54 #[.iface 26 (.pointer (some ⟨a,0,none⟩))] w (QZ [] (fun o _=>o=some 8) w):=by
 have t:=j2;have j:=(y6.refl [] w).alloc (.cells #[.iface 26 (.pointer (some ⟨a,0,none⟩))] 126);have k:=af w (.cells #[.iface 26 (.pointer (some ⟨a,0,none⟩))] 126);have g:DC _ a (.slice ao n cap) cache D:=j.get h (by simp);have l:Hid (∀b,Calls prog 42 #[.string b,.func (.func 86) #[] #[.pointer (some ⟨w.heap.size,0,none⟩)]] (w.alloc (.cells #[.iface 26 (.pointer (some ⟨a,0,none⟩))] 126)) (QZ [] (fun o _=>o=some 8) (w.alloc (.cells #[.iface 26 (.pointer (some ⟨a,0,none⟩))] 126)))):=by
  intro b;refine Zs b 86 _ (fun _ _=>by kernel_rfl) _ _ _ (by simp) (fun o W q T p r s=>p) ?_;intro W i _;exact Xr w.heap.size a n cap ao cache D W (i.get k (by simp)) (i.get g (by simp)) hn
 clear g k;go_enter func54,ntmps54;go_wp2_with(go_at_call 42;refine(l.out _).mono ?_;rintro e u⟨o,c,rfl,d,m,f⟩)
 go_ret;exact⟨o,c,rfl,d,m,j.trans f⟩
theorem Ta(a:Nat)(w:World)(S:List Nat)(R:Option Int->World->Prop)(hR:Calls prog 54 #[.iface 26 (.pointer (some ⟨a,0,none⟩))] w (QZ S R w)):
  Calls prog 33 #[.pointer (some ⟨a,0,none⟩)] w (QZ S R w):=by
 have c:Hid (Calls _ _ _ _ _):=hR;clear hR;go_enter func33,ntmps33;go_wp2_with(go_at_call 54;refine c.out.mono ?_;rintro e f⟨o,b,rfl,d⟩)
 go_ret;exact⟨o,b,rfl,d⟩
def SpM(w:World)(b:Nat)(us:List Nat):Prop:=
 ∃(m:Nat) (D:DataW Unit),w.ownsMap prog 3 unitElem b m D/\m<=us.length/\∀i:Nat,Maps.has D (.int .i64 i)=decide (i∈us)
variable {us:List Nat}
theorem SpM.kept{S:List Nat}{b:Nat}(h:SpM w b us)(k:y6 S w w')(hb:b∉S):SpM w' b us:=by
 obtain⟨m,D,d,f⟩:=h;refine⟨m,D,?_,f⟩;have c:=d.lt;obtain⟨e,a,g,r⟩:=d;exact⟨e,a,by rw[k.block b c hb];exact g,r⟩
theorem SpM.lt{w:World}{b:Nat}{us:List Nat}(h:SpM w b us):b<w.heap.size:=by
 obtain⟨m,D,a,_⟩:=h;exact a.lt
theorem SpM.ne{b:Nat}(h:SpM w b us){y:Nat}{t:TypeId}{fr:Nat×Nat}(hy:w.heap[y]?=some (.cells cs t fr)):y≠b:=by
 rintro rfl;obtain⟨m,D,⟨d,a,c,_⟩,_⟩:=h;rw[hy]at c
 cases c
theorem kl:Maps.Keyed prog 3:=Maps.int_keyed underlying3
theorem kwf(i:Nat)(hi:i<70000):keyOf prog 3 (.int .i64 (i:Int))=some (.int .i64 i):=Maps.keyOf_int_mk underlying3 (by simp[Lit.wf,show IntKind.i64.min= -9223372036854775808 from rfl,show IntKind.i64.max=9223372036854775807 from rfl];omega)
theorem XL(w:World):(zeroValue 172).run prog w=.ok (.agg #[]) w:=by kernel_rfl
theorem SpM.made(w:World):SpM (w.alloc (.map #[] 0)) w.heap.size []:=
 ⟨0,.map [],World.ownsMap_made w _ _ _,ag _,fun i=>by simp[Maps.has]⟩
theorem SpM.look{b:Nat}(h:SpM w b us)(i:Nat)(hi:i<70000):(Instr.lookup 129 (.map (some b)) (.int .i64 (i:Int)) true).run prog w=.ok (.tuple #[.agg #[],.bool (decide (i∈us))]) w:=by
 obtain⟨m,D,a,f,c⟩:=h;obtain⟨v,g,d,e⟩:=a.look_ok kl underlying129 (XL w) unitElem_mk (kwf i hi);obtain⟨rfl,_⟩:=unitElem_inv e;rw[<-c i];exact d
theorem SpM.put{b:Nat}(h:SpM w b us)(i:Nat)(hi:i<70000)(hl:us.length<70000):∃w',(Instr.mapUpdate 129 (.map (some b)) (.int .i64 (i:Int)) (.agg #[])).run prog w=.ok () w'/\SpM w' b (i::us)/\y6 [b] w w':=by
 obtain⟨m,D,a,k,c⟩:=h;obtain⟨w',f,d,ht⟩:=a.store kl underlying129 (by unfold maxLen;omega) (kwf i hi) unitElem_mk;refine⟨w',f,⟨m+1,_,d,by simp;omega,?_⟩,?_⟩
 ·intro j
  by_cases e:j=i
  ·subst e;rw[Maps.has_put_same a.isMap (by simp[WideAt.IsKeyLit])];simp
  ·rw[Maps.has_put_other (by simpa using fun h=>e (by omega))];rw[c j];simp[e]
 ·exact yF ht.grown [b] (by intro y g;cases g;simp)
theorem Zl:(prog.info? 131).map (·.size)=some 2:=by kernel_rfl
theorem Ol(n b:Nat)(us:List Nat)(i:Nat)(w:World)(h:SpM w b us)(hi:i<70000):
  Calls prog 114 #[.agg #[.int .i64 n,.map (some b)],.int .i64 i] w fun e w'=>e=.returned (.bool (decide (i∈us)))/\y6 [] w w':=by
 have a:=(y6.refl [] w).alloc (.cells #[.int .i64 n,.map (some b)] 131);have c:=(h.kept a (by simp)).look i hi;go_enter func114,ntmps114;go_wp2;go_ret;exact⟨rfl,((y6.refl _ _).alloc _).alloc _⟩
theorem MT(n b:Nat)(us:List Nat)(i:Nat)(w:World)(h:SpM w b us)(hi:i<70000)(hl:us.length<70000)(h1:i<n)(h2:i∉us):
  Calls prog 78 #[.agg #[.int .i64 n,.map (some b)],.int .i64 i] w fun e w'=>e=.returned (.tuple #[])/\SpM w' b (i::us)/\y6 [b] w w':=by
 have g:=(y6.refl [] w).alloc (.cells #[.int .i64 n,.map (some b)] 131);have l:=af w (.cells #[.int .i64 n,.map (some b)] 131);have c:=h.kept g (by simp);have q:¬(i:Int)<0:=by omega
 have r:¬(n:Int)<=i:=by omega
 have f:Hid (Calls _ _ _ _ _):=Ol n b us i _ c hi;have k:decide (i∈us)=false:=by simpa using h2
 rw[k]at f;go_enter func78,ntmps78;go_wp2_with(go_at_call 114;refine f.out.mono ?_;rintro e m⟨rfl,a⟩;obtain⟨s,o,j,d⟩:=(c.kept a (by simp)).put i hi hl;have p:m.cell? ⟨w.heap.size,1,none⟩=some (.map (some b)):=y7 (a.get l (by simp)) rfl)
 go_end0;exact⟨rfl,j,((g.trans a).mono (by simp)).trans d⟩
theorem YU(n b:Nat)(us:List Nat)(i:Nat)(w:World)(h:SpM w b us)(hi:i<70000)(h1:¬(i<n/\i∉us))(hT:Tab w):
  Calls prog 78 #[.agg #[.int .i64 n,.map (some b)],.int .i64 i] w fun e w'=>Thr 7 e w'/\y6 [] w w':=by
 have d:=(y6.refl [] w).alloc (.cells #[.int .i64 n,.map (some b)] 131);have C:=af w (.cells #[.int .i64 n,.map (some b)] 131);have j:=h.kept d (by simp);have B:¬(i:Int)<0:=by omega
 have m:Hid (Calls _ _ _ _ _):=Ol n b us i _ j hi;have q:=hT.k d
 by_cases v:i<n
 ·have s:¬(n:Int)<=i:=by omega
  have t:decide (i∈us)=true:=by
   by_cases p:i∈us
   ·simpa using p
   ·exact absurd ⟨v,p⟩ h1
  rw[t]at m;go_enter func78,ntmps78;go_wp2_with(first|(go_at_call 114;refine m.out.mono ?_;rintro e D⟨rfl,c⟩;have x:=q.k c)|(go_at_call 115;refine(M4 x i hi).mono ?_;rintro e z⟨l,rfl,r,a⟩;have y:¬9223372036854775807<13+l.size:=(by omega))|(go_at_call 62;refine(ZH _ _ _).mono ?_;rintro e A⟨ht,g⟩;obtain⟨f,o,rfl,u⟩:=ht.ex))
  exact⟨rfl,ht,((d.trans c).trans a).trans g⟩
 ·have s:(n:Int)<=i:=by omega
  go_enter func78,ntmps78;go_wp2_with(first|(go_at_call 115;refine(M4 q i hi).mono ?_;rintro e z⟨l,rfl,r,a⟩;have y:¬9223372036854775807<13+l.size:=(by omega))|(go_at_call 62;refine(ZH _ _ _).mono ?_;rintro e A⟨ht,g⟩;obtain⟨f,o,rfl,u⟩:=ht.ex))
  exact⟨rfl,ht,(d.trans a).trans g⟩
def OfR(n:Nat)(w:World)(e:Ending)(w':World):Prop:=∃b,e=.returned (.agg #[.int .i64 n,.map (some b)])/\SpM w' b [1,0]/\w.heap.size<=b/\y6 [] w w'
theorem Q38(w:World):(Instr.makeMap 129 none).run prog w=.ok (.map (some w.heap.size)) (w.alloc (.map #[] 0)):=by kernel_rfl
theorem OA(n:Nat)(w:World)(hn:8<=n):Calls prog 75 #[.int .i64 n,.int .i64 2] w (OfR n w):=by
 have Q:=Q38;have t:=(y6.refl [] w).alloc (.cells #[.int .i64 0,.map none] 131);have v:=af w (.cells #[.int .i64 0,.map none] 131);have k:=(y6.refl [] (w.alloc (.cells #[.int .i64 0,.map none] 131))).alloc (.map #[] 0);have q:=SpM.made (w.alloc (.cells #[.int .i64 0,.map none] 131));have c:(w.alloc (.cells #[.int .i64 0,.map none] 131)).heap.size=w.heap.size+1:=ak _ _;rw[c]at q;have g:=(y6.refl [] ((w.alloc (.cells #[.int .i64 0,.map none] 131)).alloc (.map #[] 0))).alloc (.cells #[.int .i64 n,.map (some (w.heap.size+1))] 131);have h:=af ((w.alloc (.cells #[.int .i64 0,.map none] 131)).alloc (.map #[] 0)) (.cells #[.int .i64 n,.map (some (w.heap.size+1))] 131);have s:((w.alloc (.cells #[.int .i64 0,.map none] 131)).alloc (.map #[] 0)).heap.size=w.heap.size+1+1:=by rw[ak,c]
 rw[s]at h;have I:=q.kept g (by simp);have G:=g.get (k.get v (by simp)) (by simp);have d:=(t.trans k).trans g;have F:=d.size;generalize B:((w.alloc (.cells #[.int .i64 0,.map none] 131)).alloc (.map #[] 0)).alloc (.cells #[.int .i64 n,.map (some (w.heap.size+1))] 131)=r at*;have j:Hid _:=B;have C:Hid (Calls _ _ _ _ _):=MT n (w.heap.size+1) [] 0 r I (by omega) (by simp) (by omega) (by simp);have D:Hid (∀W,SpM W (w.heap.size+1) [0]->Calls prog 78 #[.agg #[.int .i64 n,.map (some (w.heap.size+1))],.int .i64 1] W fun e z=>e=.returned (.tuple #[])/\SpM z (w.heap.size+1) [1,0]/\y6 [w.heap.size+1] W z):=fun W E=>MT n (w.heap.size+1) [0] 1 W E (by omega) (by simp) (by omega) (by simp);have N:r.cell? ⟨w.heap.size+1+1,0,none⟩=some (.int .i64 n):=y7 h rfl;have O:r.cell? ⟨w.heap.size+1+1,1,none⟩=some (.map (some (w.heap.size+1))):=y7 h rfl;clear B t v k q g c s;go_enter func75,ntmps75;go_wp2_with fail;rw[j.out];go_wp2_with fail;refine dU 3 ?_;rw[dh];go_wp2_with fail;refine C.out.mono ?_;rintro e A⟨rfl,J,l⟩;have o:=l.get h (by simp);have H:=l.get G (by simp);have L:A.cell? ⟨w.heap.size+1+1,0,none⟩=some (.int .i64 n):=y7 o rfl;have M:A.cell? ⟨w.heap.size+1+1,1,none⟩=some (.map (some (w.heap.size+1))):=y7 o rfl;go_wp2_with fail;rw[dh];go_wp2_with fail;refine(D.out _ J).mono ?_;rintro e a⟨rfl,K,m⟩;have y:=m.get o (by simp);have f:=m.get H (by simp);have R:a.cell? ⟨w.heap.size+1+1,0,none⟩=some (.int .i64 n):=y7 y rfl;have P:a.cell? ⟨w.heap.size+1+1,1,none⟩=some (.map (some (w.heap.size+1))):=y7 y rfl;have d50:a.cell? ⟨w.heap.size,0,none⟩=some (.int .i64 0):=y7 f rfl;have d51:a.cell? ⟨w.heap.size,1,none⟩=some (.map none):=y7 f rfl;have f50:a.frozen? ⟨w.heap.size,0,none⟩=false:=ax _ _ _ _ _ f;have f51:a.frozen? ⟨w.heap.size,1,none⟩=false:=ax _ _ _ _ _ f;go_wp2_with fail;rw[dh];go_wp2;have u:y6 [w.heap.size] a ((a.setCell ⟨w.heap.size,0,none⟩ (.int .i64 n)).setCell ⟨w.heap.size,1,none⟩ (.map (some (w.heap.size+1)))):=((y6.refl [w.heap.size] a).setCell (p:=⟨w.heap.size,0,none⟩) (Or.inl (by simp)) _).setCell (p:=⟨w.heap.size,1,none⟩) (Or.inl (by simp)) _;refine aR (aI rfl _ _ w.heap.size 131 #[.int .i64 n,.map (some (w.heap.size+1))] (0,0) _ rfl (yf (i:=1) (.map (some (w.heap.size+1))) (yf (i:=0) (.int .i64 (n:Int)) f)) underlying131 rfl Zl) rfl ?_;refine⟨w.heap.size+1,rfl,K.kept u (by simp),by omega,((d.trans2 l ?_).trans2 m ?_).trans2 u ?_⟩
 ·intro x b;simp at b;subst b;exact Or.inr (by omega)
 ·intro x b;simp at b;subst b;exact Or.inr (by omega)
 ·intro x b;simp at b;subst b;exact Or.inr (ag _)
theorem XN(k v:Value)(w:World):(Go.method 433 122 (.agg #[k,v]) "store/tree.packed").run prog w=.ok (247,.agg #[k,v]) w:=by kernel_rfl
theorem Q7R(k v x:Value)(w:World):(Go.method 433 80 (.agg #[k,v,x]) "store/tree.packed").run prog w=.ok (296,.agg #[k,v,x]) w:=by kernel_rfl
theorem WA(w:World)(x y:Int):(Instr.buildSlice 60 2 #[(0,.int .u8 x),(1,.int .u8 y)]).run prog w=.ok (.slice (some ⟨w.heap.size,0,none⟩) 2 2) (w.alloc (.cells #[.int .u8 x,.int .u8 y] 5)):=by kernel_rfl
theorem Zz{P:Program}{o:Oper}{a:Act}(t:TypeId)(n:Nat)(x y:Operand)(ho:o.op=.buildSlice t n #[(0,x),(1,y)])(vx vy:Value)(hx:a.eval x=vx)(hy:a.eval y=vy)(v:Value)
  (eJ:(Instr.buildSlice t n #[(0,vx),(1,vy)]).run P w=.ok v w'):(execOp a.eval o).run P w=.ok (.value v) w':=by
 simp[execOp,ho,hx,hy,eJ,Result.andThen]
theorem RZ(out:List UInt8)(h:out.length<=124):Zb (splice (List.replicate 128 0) 0 out)=LV (LL 124 out):=by
 have e:splice (List.replicate 128 (0:UInt8)) 0 out=out++List.replicate (128-out.length) 0:=by unfold splice;rw[cR,aX,bL,List.drop_replicate]
 have c:(out++List.replicate (128-out.length) (0:UInt8)).length=128:=by rw[ai,bR];omega
 have a:(out++List.replicate (128-out.length) (0:UInt8)).take 124=LL 124 out:=by
  rw[dS,aJ h,List.take_replicate];unfold LL;congr 2;omega
 have b:(out++List.replicate (128-out.length) (0:UInt8)).drop 128= []:=bC (by omega);rw[e,Zb,c,show 128-4=124 from rfl,a];unfold LV splice;rw[a,yE,b,bo]
def BkI(w w1:World)(pre:List UInt8)(m:Nat)(part:Nat->List UInt8)(out i:Value)(wr:World):Prop:=
 ∃j:Nat,j<=m/\i=.int .i64 j/\Bf w.heap.size wr out (pre++part j)/\Kt w.heap.size w1 wr
theorem Ya(kind:UInt8)(vl:Value)(l:List Pr)(w:World)(h:SL w 122 2 vl (l.map pe))(hl:l.length<=200)(hk:∀p∈l,p.1.size<=8/\p.2.size<=12)(hsum:(l.flatMap pkP).length<=122):
  Calls prog 242 #[.int .u8 kind.toNat,vl] w fun e w'=>e=.returned (.agg (u8s (Zm kind l.length (l.flatMap pkP))).toArray)/\y6 [] w w':=by
 obtain⟨pv,cv,M⟩:=h.shape;rw[aj]at M;subst M;have hm:=XN;have v:=OQ l.length;obtain⟨a,c⟩:∃a,a= [kind,UInt8.ofNat l.length]:=⟨_,rfl⟩
 have z:a.length=2:=by rw[c];rfl
 have B:∀j,((l.take j).flatMap pkP).length<=122:=by
  intro j;have e:l.flatMap pkP=(l.take j).flatMap pkP++(l.drop j).flatMap pkP:=by
   rw[<-cr,aS]
  rw[e,ai]at hsum;omega
 have t:a++(l.take l.length).flatMap pkP=kind::UInt8.ofNat l.length::l.flatMap pkP:=by rw[c,bV];rfl
 have E:Hid _:=t;have my:Hid _:=v;have uU:Hid _:=c;clear t v c;go_enter func242,ntmps242;go_wp2_with(first|(refine yj rfl 4 rfl 92 rfl _ (zblk _) ?_;intro O n1 k1 C)|(refine yw rfl _ _ (Zz 60 2 (.tmp 9) (.tmp 12) rfl (.int .u8 kind.toNat) (.int .u8 (l.length:Int)) (by rfl) (by rfl) _ (WA _ _ _)) ?_;intro w2 n2 k2 eS))
 have Y:Bf w.heap.size w2 (.slice (some ⟨w.heap.size+1,0,none⟩) 2 2) (a++(l.take 0).flatMap pkP):=by
  have e:u8s (a++(l.take 0).flatMap pkP)= [.int .u8 kind.toNat,.int .u8 (l.length:Int)]:=by
   rw[uU.out,show(l.length:Int)=((UInt8.ofNat l.length).toNat:Int)by have:=my.out;omega];simp[u8s]
  have el:(a++(l.take 0).flatMap pkP).length=2:=by simp[z]
  unfold Bf;rw[e,el];exact⟨rfl,Or.inr ⟨w.heap.size+1,2,_,rfl,by omega,by rw[<-C];exact n2,ag _,by unfold maxLen;omega,rfl,rfl⟩⟩
 have K2:Kt w.heap.size O w2:=Kt.of k2 (by omega);have hU:Hid _:=C;have R:Hid (O.heap[w.heap.size]?=_):=n1;have Cj:Hid (y6 [] w O):=k1;clear n2 k2 eS C n1 k1
 go_loopw [5,16] (fun o i wr=>BkI w O a l.length (fun j=>(l.take j).flatMap pkP) o i wr) (fun _ i _=>l.length-(intOf i).toNat)
 case atStart=>exact⟨0,ay _,rfl,Y,K2⟩
 case round=>
  obtain⟨j,hj,rfl,n,H⟩:=hrel;have K:y6 [] w wr:=y6.of_below (Cj.out.below.trans H.bl);clear Y K2
  by_cases I:j<l.length
  ·have hlt':(j:Int)<(l.length:Int):=by omega
   obtain⟨x,N⟩:∃x,l[j]?=some x:=⟨_,aa I⟩
   have hx1:=(hk x (ah N)).1;have hx2:=(hk x (ah N)).2;have k:(l.take (j+1)).flatMap pkP=(l.take j).flatMap pkP++pkP x:=by
    rw[qe l j x N];simp
   have H9:=B j;obtain⟨g,D,G,S,e,hg,hc1,hc2,hc3,dW⟩:=(SL.kept h K).at_ (by simp;omega);rw[aj]at e
   cases e
   have eK:=jC (P:=prog) (ty:=122) _ hg (dW j _ (by rw[aA,N];rfl)) underlying122 stp;have HP:Hid (∀o W,Bf w.heap.size W o (a++(l.take j).flatMap pkP)->w.heap.size<=W.heap.size->Calls prog 247 #[.agg #[.string x.1,.string x.2],o] W (BfR w.heap.size (a++(l.take j).flatMap pkP++pkP x) W)):=fun o W n hs=>Q7L w.heap.size o (a++(l.take j).flatMap pkP) x W n hs (by rw[ai,z];omega) (by omega) (by omega);simp only[pe]at eK;have HN:Hid _:=k;have HB:Hid (Bf w.heap.size wr _ _):=n;have V:=K.size;clear dW k n;go_wp2_with(first|(refine ya rfl _ _ (yc 115 (.tmp 14) (.tmp 16) rfl g D l.length cv j 2 rfl rfl 122 underlying115 stp I (D+j*2) rfl) ?_)|(refine y8 rfl 122 (.tmp 18) rfl ⟨g,D+j*2,none⟩ rfl _ eK ?_)|(go_at_call 247;refine(HP.out _ _ (HB.out.keep ((y6.refl [] wr).alloc (.cells #[.string x.1,.string x.2] 122))) (by rw[ak];omega)).mono ?_;rintro e w3⟨v3,rfl,pf,kS⟩))
   have Q:Hid _:=pf;clear pf;go_roundw
   case rel=>exact⟨j+1,by omega,by go_num,by show Bf w.heap.size w3 v3 (a++(l.take (j+1)).flatMap pkP);rw[HN.out,<-aG];exact Q.out,(H.trans (Kt.of ((y6.refl [] wr).alloc _) (by omega))).trans kS⟩
   case measure=>simp[intOf];omega
  ·have hge:¬(j:Int)<(l.length:Int):=by omega
   have ej:j=l.length:=by omega
   subst ej;rw[E.out]at n;obtain⟨m,b⟩:∃m,m=kind::UInt8.ofNat l.length::l.flatMap pkP:=⟨_,rfl⟩
   have J:m.length<=124:=by rw[b];simp only[aB];omega
   have U:0<m.length:=by rw[b];simp
   have r:Zb (splice (List.replicate 128 0) 0 m)=Zm kind l.length (l.flatMap pkP):=by rw[RZ m J,b];rfl
   have f:(Zm kind l.length (l.flatMap pkP)).length=128:=jX _ _ _ hsum;have Z:Hid _:=r;rw[<-b]at n;obtain⟨g,G,S,M,lX,hb0,hb1,hb2,hb3,iO⟩:=jf n U;have T:=H.row _ _ _ _ (by decide) R.out;have V:=K.size;have rj:(splice (List.replicate 128 (0:UInt8)) 0 m).length=128:=by rw[aN _ _ _ (by simp;omega)];simp
   have F:Hid (∀s W,W.heap[s]?=some (.cells (u8s (splice (List.replicate 128 0) 0 m)).toArray 92 (0,0))->Calls prog 152 #[.slice (some ⟨s,0,none⟩) 128 128] W fun e w'=>e=.returned (.tuple #[])/\w'.heap[s]?=some (.cells (u8s (Zm kind l.length (l.flatMap pkP))).toArray 92 (0,0))/\y6 [s] W w'):=by
    intro s W hW;have:=OC s (splice (List.replicate 128 0) 0 m) 92 W hW (by omega) (by omega);rw[rj,Z.out]at this;exact this
   subst M;obtain⟨L,d⟩:∃L,L=Zm kind l.length (l.flatMap pkP):=⟨_,rfl⟩
   rw[<-d]at f F;have Ck:Hid (L=_):=d;clear d Z;clear n b r rj;go_wp2_with(first|(refine yj rfl 8 rfl 92 rfl _ (zblk _) ?_;intro w3 n3 X fV;have pL:=X.get lX (by simp))|(refine jR 60 60 5 underlying60 su8 wr.heap.size 0 124 128 ⟨g,0,none⟩ m.length G (u8s (List.replicate 128 0)) 92 n3 (u8s m) (by rw[yd];exact(bS J).symm) (jS pL (by intro q u hq;rw[bL];exact QT iO hq)) (by rw[yd,yd,bR];omega) (qP _) ?_;intro w4 n4 k4;rw[Qf]at n4)|(go_at_call 152;refine(F.out wr.heap.size _ n4).mono ?_;rintro e w5⟨rfl,n5,k5⟩;have Cm:=k5.get (k4.get (X.get T (by simp)) (by have:=hU.out;have:=H.bl.size;simp;omega)) (by have:=hU.out;have:=H.bl.size;simp;omega))|(refine aW rfl 92 (.tmp 8) rfl wr.heap.size rfl 92 (u8s L).toArray (0,0) _ n5 underlying92 rfl (by rw[QM];simp[yd,f]) ?_)|(refine ye rfl 92 (.tmp 4) (.tmp 30) rfl w.heap.size (u8s L).toArray rfl rfl 92 _ Cm (by rw[QM];simp[yd,f]) (by simp[yd,f]) (qf (qP _)) ?_;intro w6 n6 k6))
   refine aR (aI rfl _ w6 w.heap.size 92 _ (0,0) _ rfl n6 underlying92 rfl (by rw[QM];simp[yd,f])) rfl ?_;have hz:=K.size;exact⟨by rw[Ck.out],(((K.trans X).trans2 k4 (by intro y A;simp at A;subst A;exact Or.inr hz)).trans2 k5 (by intro y A;simp at A;subst A;exact Or.inr hz)).trans2 k6 (by intro y A;simp at A;subst A;exact Or.inr (ag _))⟩
def kp(e:KE):ByteArray×Nat:=(e.1,e.3)
theorem Q7V(kind:UInt8)(vl:Value)(l:List KE)(w:World)(h:SL w 80 3 vl (l.map ke))(hl:l.length<=200)(hk:∀p∈l,p.1.size<=8/\p.3<65536)(hsum:((l.map kp).flatMap pkK).length<=122)(ho:∀x∈l,x.2=.nilIface\/∃t v,x.2=.iface t v):
  Calls prog 261 #[.int .u8 kind.toNat,vl] w fun e w'=>e=.returned (.agg (u8s (Zm kind l.length ((l.map kp).flatMap pkK))).toArray)/\y6 [] w w':=by
 obtain⟨pv,cv,S⟩:=h.shape;rw[aj]at S;subst S;have hm:=Q7R;have C:=OQ l.length;obtain⟨a,d⟩:∃a,a= [kind,UInt8.ofNat l.length]:=⟨_,rfl⟩
 have r:a.length=2:=by rw[d];rfl
 have F:∀j,(((l.take j).map kp).flatMap pkK).length<=122:=by
  intro j;have e:(l.map kp).flatMap pkK=((l.take j).map kp).flatMap pkK++((l.drop j).map kp).flatMap pkK:=by
   rw[<-cr,<-cS,aS]
  rw[e,ai]at hsum;omega
 have B:a++((l.take l.length).map kp).flatMap pkK=kind::UInt8.ofNat l.length::(l.map kp).flatMap pkK:=by rw[d,bV];rfl
 have I:Hid _:=B;have my:Hid _:=C;have uU:Hid _:=d;clear B C d;go_enter func261,ntmps261;go_wp2_with(first|(refine yj rfl 4 rfl 92 rfl _ (zblk _) ?_;intro T n1 k1 G)|(refine yw rfl _ _ (Zz 60 2 (.tmp 9) (.tmp 12) rfl (.int .u8 kind.toNat) (.int .u8 (l.length:Int)) (by rfl) (by rfl) _ (WA _ _ _)) ?_;intro w2 n2 k2 eS))
 have B2:Bf w.heap.size w2 (.slice (some ⟨w.heap.size+1,0,none⟩) 2 2) (a++((l.take 0).map kp).flatMap pkK):=by
  have e:u8s (a++((l.take 0).map kp).flatMap pkK)= [.int .u8 kind.toNat,.int .u8 (l.length:Int)]:=by
   rw[uU.out,show(l.length:Int)=((UInt8.ofNat l.length).toNat:Int)by have:=my.out;omega];simp[u8s]
  have el:(a++((l.take 0).map kp).flatMap pkK).length=2:=by simp[r]
  unfold Bf;rw[e,el];exact⟨rfl,Or.inr ⟨w.heap.size+1,2,_,rfl,by omega,by rw[<-G];exact n2,ag _,by unfold maxLen;omega,rfl,rfl⟩⟩
 have K2:Kt w.heap.size T w2:=Kt.of k2 (by omega);have hU:Hid _:=G;have X:Hid (T.heap[w.heap.size]?=_):=n1;have Cj:Hid (y6 [] w T):=k1;clear n2 k2 eS G n1 k1
 go_loopw [5,16] (fun o i wr=>BkI w T a l.length (fun j=>((l.take j).map kp).flatMap pkK) o i wr) (fun _ i _=>l.length-(intOf i).toNat)
 case atStart=>exact⟨0,ay _,rfl,B2,K2⟩
 case round=>
  obtain⟨j,hj,rfl,k,L⟩:=hrel;have H:y6 [] w wr:=y6.of_below (Cj.out.below.trans L.bl);clear B2 K2
  by_cases E:j<l.length
  ·have hlt':(j:Int)<(l.length:Int):=by omega
   obtain⟨x,O⟩:∃x,l[j]?=some x:=⟨_,aa E⟩
   have hx1:=(hk x (ah O)).1;have hx2:=(hk x (ah O)).2;have b:((l.take (j+1)).map kp).flatMap pkK=((l.take j).map kp).flatMap pkK++pkK (x.1,x.3):=by
    rw[qe l j x O];simp[kp]
   have H9:=F j;obtain⟨g,f,K,Z,e,hg,hc1,hc2,hc3,dW⟩:=(SL.kept h H).at_ (by simp;omega);rw[aj]at e
   cases e
   have R:=jC (P:=prog) (ty:=80) _ hg (dW j _ (by rw[aA,O];rfl)) underlying80 stk;rcases ho x (ah O)with ei|⟨ti,vi,ei⟩
   focus
    have Y:Hid (∀o W,Bf w.heap.size W o (a++((l.take j).map kp).flatMap pkK)->w.heap.size<=W.heap.size->Calls prog 296 #[.agg #[.string x.1,.int .i64 x.3,.nilIface],o] W (BfR w.heap.size (a++((l.take j).map kp).flatMap pkK++pkK (x.1,x.3)) W)):=fun o W k hs=>Ud w.heap.size o (a++((l.take j).map kp).flatMap pkK) x.1 x.3 .nilIface W k hs (by rw[ai,r];omega) (by omega) (by omega);simp only[ke,ei]at R;have HN:Hid _:=b;have U:Hid (Bf w.heap.size wr _ _):=k;have N:=H.size;clear dW b k;go_wp2_with(first|(refine ya rfl _ _ (yc 165 (.tmp 14) (.tmp 16) rfl g f l.length cv j 3 rfl rfl 80 underlying165 stk E (f+j*3) rfl) ?_)|(refine y8 rfl 80 (.tmp 18) rfl ⟨g,f+j*3,none⟩ rfl _ R ?_)|(go_at_call 296;refine(Y.out _ _ (U.out.keep ((y6.refl [] wr).alloc (.cells #[.string x.1,.int .i64 x.3,.nilIface] 80))) (by rw[ak];omega)).mono ?_;rintro e w3⟨v3,rfl,pf,kS⟩))
   rotate_left
   focus
    have Y:Hid (∀o W,Bf w.heap.size W o (a++((l.take j).map kp).flatMap pkK)->w.heap.size<=W.heap.size->Calls prog 296 #[.agg #[.string x.1,.int .i64 x.3,(.iface ti vi)],o] W (BfR w.heap.size (a++((l.take j).map kp).flatMap pkK++pkK (x.1,x.3)) W)):=fun o W k hs=>Ud w.heap.size o (a++((l.take j).map kp).flatMap pkK) x.1 x.3 (.iface ti vi) W k hs (by rw[ai,r];omega) (by omega) (by omega);simp only[ke,ei]at R;have HN:Hid _:=b;have U:Hid (Bf w.heap.size wr _ _):=k;have N:=H.size;clear dW b k;go_wp2_with(first|(refine ya rfl _ _ (yc 165 (.tmp 14) (.tmp 16) rfl g f l.length cv j 3 rfl rfl 80 underlying165 stk E (f+j*3) rfl) ?_)|(refine y8 rfl 80 (.tmp 18) rfl ⟨g,f+j*3,none⟩ rfl _ R ?_)|(go_at_call 296;refine(Y.out _ _ (U.out.keep ((y6.refl [] wr).alloc (.cells #[.string x.1,.int .i64 x.3,(.iface ti vi)] 80))) (by rw[ak];omega)).mono ?_;rintro e w3⟨v3,rfl,pf,kS⟩))
   rotate_left
   all_goals
    have V:Hid _:=pf;clear pf;go_roundw
    case rel=>exact⟨j+1,by omega,by go_num,by show Bf w.heap.size w3 v3 (a++((l.take (j+1)).map kp).flatMap pkK);rw[HN.out,<-aG];exact V.out,(L.trans (Kt.of ((y6.refl [] wr).alloc _) (by omega))).trans kS⟩
    case measure=>simp[intOf];omega
  ·have hge:¬(j:Int)<(l.length:Int):=by omega
   have ej:j=l.length:=by omega
   subst ej;rw[I.out]at k;obtain⟨z,c⟩:∃z,z=kind::UInt8.ofNat l.length::(l.map kp).flatMap pkK:=⟨_,rfl⟩
   have M:z.length<=124:=by rw[c];simp only[aB];omega
   have ho2:0<z.length:=by rw[c];simp
   have A:Zb (splice (List.replicate 128 0) 0 z)=Zm kind l.length ((l.map kp).flatMap pkK):=by rw[RZ z M,c];rfl
   have n:(Zm kind l.length ((l.map kp).flatMap pkK)).length=128:=jX _ _ _ hsum;have HE:Hid _:=A;rw[<-c]at k;obtain⟨g,K,Z,S,lX,hb0,hb1,hb2,hb3,iO⟩:=jf k ho2;have hn1:=L.row _ _ _ _ (by decide) X.out;have N:=H.size;have rj:(splice (List.replicate 128 (0:UInt8)) 0 z).length=128:=by rw[aN _ _ _ (by simp;omega)];simp
   have J:Hid (∀s W,W.heap[s]?=some (.cells (u8s (splice (List.replicate 128 0) 0 z)).toArray 92 (0,0))->Calls prog 152 #[.slice (some ⟨s,0,none⟩) 128 128] W fun e w'=>e=.returned (.tuple #[])/\w'.heap[s]?=some (.cells (u8s (Zm kind l.length ((l.map kp).flatMap pkK))).toArray 92 (0,0))/\y6 [s] W w'):=by
    intro s W hW;have:=OC s (splice (List.replicate 128 0) 0 z) 92 W hW (by omega) (by omega);rw[rj,HE.out]at this;exact this
   subst S;obtain⟨Q,m⟩:∃Q,Q=Zm kind l.length ((l.map kp).flatMap pkK):=⟨_,rfl⟩
   rw[<-m]at n J;have Ck:Hid (Q=_):=m;clear m HE;clear k c A rj;go_wp2_with(first|(refine yj rfl 8 rfl 92 rfl _ (zblk _) ?_;intro w3 n3 k3 fV;have pL:=k3.get lX (by simp))|(refine jR 60 60 5 underlying60 su8 wr.heap.size 0 124 128 ⟨g,0,none⟩ z.length K (u8s (List.replicate 128 0)) 92 n3 (u8s z) (by rw[yd];exact(bS M).symm) (jS pL (by intro q u hq;rw[bL];exact QT iO hq)) (by rw[yd,yd,bR];omega) (qP _) ?_;intro w4 n4 k4;rw[Qf]at n4)|(go_at_call 152;refine(J.out wr.heap.size _ n4).mono ?_;rintro e w5⟨rfl,n5,k5⟩;have Cm:=k5.get (k4.get (k3.get hn1 (by simp)) (by have:=hU.out;have:=L.bl.size;simp;omega)) (by have:=hU.out;have:=L.bl.size;simp;omega))|(refine aW rfl 92 (.tmp 8) rfl wr.heap.size rfl 92 (u8s Q).toArray (0,0) _ n5 underlying92 rfl (by rw[QM];simp[yd,n]) ?_)|(refine ye rfl 92 (.tmp 4) (.tmp 30) rfl w.heap.size (u8s Q).toArray rfl rfl 92 _ Cm (by rw[QM];simp[yd,n]) (by simp[yd,n]) (qf (qP _)) ?_;intro w6 n6 k6))
   refine aR (aI rfl _ w6 w.heap.size 92 _ (0,0) _ rfl n6 underlying92 rfl (by rw[QM];simp[yd,n])) rfl ?_;have hz:=H.size;exact⟨by rw[Ck.out],(((H.trans k3).trans2 k4 (by intro y D;simp at D;subst D;exact Or.inr hz)).trans2 k5 (by intro y D;simp at D;subst D;exact Or.inr hz)).trans2 k6 (by intro y D;simp at D;subst D;exact Or.inr (ag _))⟩
end Go.Proofs.YtcklgafpgdhnaaaGreatDoor
