import Derived.Test.YtcklgafpgdhnaaaGreatDoorPyal
import Derived.Laws.StructEq
import Derived.Deep.RegionWith
import Derived.Lib.BufferWrite
import Derived.LaidEql
import Derived.Stop.Asserts
import Derived.RowKitTokens
import Derived.Lib.Strings
import Derived.Lib.UnsafeStr
import Derived.Laws.MakeOwn
import Derived.Defers
import Derived.Recover
import Derived.Laws.Pointers
import Derived.Deep.CutRange
set_option maxRecDepth 100000
set_option maxHeartbeats 4000000
set_option linter.unusedSimpArgs false
set_option linter.unusedVariables false
set_option linter.unusedSectionVars false
open Go.Proofs.Tryz
open List renaming set_cons_zero → zF
namespace Go.Proofs.YtcklgafpgdhnaaaGreatDoor
open Go.RowKit
theorem Wm{α:Type}(p:α->Bool)(l:List α):∀(m:Nat),m<=l.length->(∀x q,l[x]?=some q->(x<m↔p q=true))->(l.takeWhile p).length=m:=by
 induction l with
 |nil=>intro m b _;simp at b;subst b;rfl
 |cons a r ih=>
  intro m b h
  cases m with
  |zero=>
   have:=h 0 a rfl;have c:p a=false:=by
    cases d:p a with
    |false=>rfl
    |true=>exact absurd (this.2 d) (by omega)
   rw[List.takeWhile_cons,c];rfl
  |succ m=>
   have ht:p a=true:=(h 0 a rfl).1 (by omega);rw[List.takeWhile_cons,ht];simp only[if_true,aB];rw[ih m (by simp at b;omega) fun x q e=>by
    have:=h (x+1) q (by simpa using e);rw[<-this];omega]
variable {keys:List ByteArray}
theorem ZM.lt(h:ZM keys){i j:Nat}{a b:ByteArray}(hi:keys[i]?=some a)(hj:keys[j]?=some b)(hij:i<j):bl a b=true:=by
 have c:=ae.1 hi;have d:=ae.1 hj;have:=bP.1 h i j c.1 d.1 hij;rw[c.2,d.2]at this;exact this
theorem SG{a b:ByteArray}(h:bl a b=true):bl b a=false:=Zt h
theorem SN{k:ByteArray}{i:Nat}{b:Bool}(hr:ZM keys)(hp:Pos keys k i)(hb:b=true↔keys[i]?=some k):
  ∀x q,keys[x]?=some q->(x<(if b then i+1 else i)↔(!bl k q)=true):=by
 intro x q a;have f:=hp.2 x q a;have l:x<keys.length:=(ae.1 a).1
 cases b with
 |true=>
  have g:=hb.1 rfl;rw[if_pos rfl];rcases Nat.lt_trichotomy x i with h|h|h
  ·simp[SG (f.1 h)];omega
  ·subst h;rw[g]at a;cases a;simp[jU]
  ·have:=hr.lt g a h;simp[this];omega
 |false=>
  simp only[bj,cQ];constructor
  ·intro h;simp[SG (f.1 h)]
  ·intro h;simp at h;rcases bG x i with d|d
   ·exact d
   exfalso;have j:¬bl q k=true:=fun e=>absurd (f.2 e) (by omega);rcases QX q k with e|e|e
   ·exact j e
   ·subst e;rcases Nat.eq_or_lt_of_le d with e|e
    ·subst e;exact absurd (hb.2 a) (by simp)
    ·obtain⟨c,hc⟩:∃c,keys[i]?=some c:=⟨_,aa (by omega)⟩
     have:=(hp.2 i c hc).2 (hr.lt hc a e);omega
   ·rw[h]at e;cases e
theorem O4{h:Nat}{ks:List (Kid h)}(hk:KW h ks):ZM (ks.map (·.1)):=by
 unfold ZM;rw[db];exact hk.ord.imp fun a=>a.1
theorem Q5{l:List Pr}(hs:Srt l):ZM (l.map (·.1)):=by
 unfold ZM;rw[db];exact hs
theorem Q5L{h:Nat}{ks:List (Kid h)}{k:ByteArray}{i:Nat}{b:Bool}(hk:KW h ks)(hp:Pos (ks.map (·.1)) k i)(hb:b=true↔(ks.map (·.1))[i]?=some k):
  qq ks k=if b then i else i-1:=by
 have c:=SN (O4 hk) hp hb;have d:(if b then i+1 else i)<=ks.length:=by
  cases b with
  |true=>
   have:=(ae.1 (hb.1 rfl)).1;rw[aj]at this;rw[if_pos rfl];omega
  |false=>have:=hp.1;rw[aj]at this;simpa using this
 have:=Wm (fun a:Kid h=> !bl k a.1) ks _ d fun x q e=>c x q.1 (by rw[aA,e];rfl);unfold qq;rw[this]
 cases b<;>simp
theorem Zy{l:List Pr}{k:ByteArray}{i:Nat}(hp:Pos (l.map (·.1)) k i):(∀p∈l.take i,bl p.1 k=true)/\∀p∈l.drop i,bl p.1 k=false:=by
 constructor
 ·intro p c;obtain⟨j,a⟩:=aU.1 c;rw[aD]at a;split at a
  ·rename_i b;exact(hp.2 j p.1 (by rw[aA,a];rfl)).1 b
  ·cases a
 ·intro p c;obtain⟨j,a⟩:=aU.1 c;rw[aV]at a;have:=hp.2 (i+j) p.1 (by rw[aA,a];rfl)
  cases d:bl p.1 k with
  |false=>rfl
  |true=>exact absurd (this.2 d) (by omega)
theorem Q5M(k v:ByteArray)(B:List Pr)(h:∀p∈B,bl k p.1=true):yy k v B=(k,v)::B:=by
 have:=Qy k v [] B h
 simpa[yy,gK]using this
theorem Q5N(k v u:ByteArray)(B:List Pr)(h:∀p∈B,bl k p.1=true):yy k v ((k,u)::B)=(k,v)::B:=by
 have:=Qy k v [(k,u)] B h;have e:yy k v [(k,u)]= [(k,v)]:=by simp[yy,gK,jU,Qq]
 rw[e]at this;exact this
theorem OL{l:List Pr}{k:ByteArray}{i:Nat}{b:Bool}(hs:Srt l)(hp:Pos (l.map (·.1)) k i)(hb:b=true↔(l.map (·.1))[i]?=some k):
  (b=true->∃u B,l.drop i=(k,u)::B/\l.drop (i+1)=B/\l[i]?=some (k,u)/\∀p∈B,bl k p.1=true)/\(b=false->∀p∈l.drop i,bl k p.1=true):=by
 have v:=Zy hp;constructor
 ·intro s;have c:=hb.1 s;rw[aA]at c
  cases e:l[i]? with
  |none=>rw[e]at c;cases c
  |some q=>
   rw[e]at c;simp at c;obtain⟨t,o⟩:=q;simp at c;subst c;have m:=ae.1 e;have g:l.drop i=(t,o)::l.drop (i+1):=by rw[aL m.1,m.2]
   refine⟨o,l.drop (i+1),g,rfl,rfl,?_⟩;intro p f;have d:Srt (l.drop i):=List.Pairwise.sublist (List.drop_sublist i l) hs;rw[g]at d;exact(aP.1 d).1 p f
 ·intro r p f;obtain⟨j,n⟩:=aU.1 f;rw[aV]at n;have a:=SN (Q5 hs) hp hb (i+j) p.1 (by rw[aA,n];rfl);rw[r]at a;simp only[bj,cQ]at a
  cases h:bl k p.1 with
  |true=>rfl
  |false=>rw[h]at a;have:=a.2 rfl;omega
theorem Q5P{l:List Pr}{k v:ByteArray}{i:Nat}{b:Bool}(hs:Srt l)(hp:Pos (l.map (·.1)) k i)(hb:b=true↔(l.map (·.1))[i]?=some k):
  yy k v l=l.take i++ [(k,v)]++l.drop (if b then i+1 else i):=by
 obtain⟨c,d⟩:=OL hs hp hb
 conv=>lhs;rw[<-aS i l]
 rw[Zd k v _ _ (Zy hp).1,aG]
 cases b with
 |true=>
  obtain⟨u,B,e,a,_,f⟩:=c rfl;rw[e,Q5N k v u B f,if_pos rfl,a];rfl
 |false=>
  rw[Q5M k v _ (d rfl)];rfl
theorem Yp{l:List Pr}{k:ByteArray}{i:Nat}{b:Bool}(hs:Srt l)(hp:Pos (l.map (·.1)) k i)(hb:b=true↔(l.map (·.1))[i]?=some k):
  ym k l=if b then l.take i++l.drop (i+1)else l:=by
 obtain⟨c,d⟩:=OL hs hp hb
 conv=>lhs;rw[<-aS i l]
 rw[P2,Vx k _ (Zy hp).1]
 cases b with
 |true=>
  obtain⟨u,B,e,a,_,f⟩:=c rfl;rw[e,if_pos rfl,a];have:ym k ((k,u)::B)=ym k B:=by simp[ym,Qq]
  rw[this,Qj k B f]
 |false=>
  rw[Qj k _ (d rfl),aS];rfl
theorem Vh(k:ByteArray)(l:List Pr)(h:∀p∈l,be p.1 k=false):gA k l=none:=by
 induction l with
 |nil=>rfl
 |cons p r ih=>
  unfold gA;rw[h p (by simp)];exact ih fun q a=>h q (by simp[a])
theorem Ww(k:ByteArray)(A l:List Pr)(h:∀p∈A,be p.1 k=false):gA k (A++l)=gA k l:=by
 induction A with
 |nil=>rfl
 |cons p r ih=>
  rw[bD]
  conv=>lhs;unfold gA
  rw[h p (by simp)];exact ih fun q a=>h q (by simp[a])
theorem Q5T(k:ByteArray)(l B:List Pr)(h:∀p∈B,be p.1 k=false):gA k (l++B)=gA k l:=by
 induction l with
 |nil=>exact Vh k B h
 |cons p r ih=>
  rw[bD];unfold gA;rw[ih]
theorem Vq{l:List Pr}{k:ByteArray}{i:Nat}{b:Bool}(hs:Srt l)(hp:Pos (l.map (·.1)) k i)(hb:b=true↔(l.map (·.1))[i]?=some k):
  gA k l=if b then(l[i]?).map (·.2)else none:=by
 obtain⟨d,f⟩:=OL hs hp hb
 conv=>lhs;rw[<-aS i l]
 rw[Ww k _ _ fun p a=>jo ((Zy hp).1 p a)]
 cases b with
 |true=>
  obtain⟨u,B,e,_,c,_⟩:=d rfl;rw[e,if_pos rfl,c];simp[gA,Qq]
 |false=>
  rw[Vh k _ fun p a=>by rw[ZL];exact jo (f rfl p a)];rfl
def gW(k:ByteArray):(h:Nat)->Nd h->List Pr
 |0,l=>l
 |h+1,ks=>match(show List (Kid h)from ks)[qq (h:=h) ks k]? with
  |none=> []
  |some a=>gW k h a.2
theorem ZQ(k:ByteArray)(h:Nat)(ks:List (Kid h))(a:Kid h)(hg:ks[qq ks k]?=some a):gW k (h+1) ks=gW k h a.2:=by
 show(match ks[qq ks k]? with|none=> []|some a=>gW k h a.2)=_;rw[hg]
theorem Rd(k:ByteArray):∀(h:Nat) (f:ByteArray) (n:Nd h),WFN h f n->ge k f->Srt (gW k h n)/\gA k (gW k h n)=gA k (yV h n)
 |0,_,_,o,_=>⟨o.1,rfl⟩
 |h+1,f,i,o,w=>by
  obtain⟨⟨x,D,z,q⟩,m⟩:=(yN h f i).1 o;obtain⟨A,a,B,b,d,r,v⟩:=Zv f x D z k (by rw[<-q];exact m) w;rw[<-q]at b d;have u:List.Mem (α:=Kid h) a i:=by rw[b];exact az _ (by simp)
  have ih:=Rd k h a.1 a.2 (m.all a u) r;have e:=m.ord;rw[b]at e;obtain⟨E,y,l⟩:=aQ.1 e;have C:∀p∈yJ h A,be p.1 k=false:=by
   intro p g;obtain⟨c,hc,g⟩:=qb.1 g;exact jo (qF ((l c hc a (by simp)).2 p g) r)
  have j:∀p∈yJ h B,be p.1 k=false:=by
   intro p g;obtain⟨c,hc,g⟩:=qb.1 g;rw[ZL];exact jo (qF (v c hc) (WFN.keys (m.all c (by rw[b];simp[hc])) p g).1)
  have s:gW k (h+1) i=gW k h a.2:=ZQ k h i a (by rw[<-d,b];simp);have t:yV (h+1) i=yJ h A++(yV h a.2++yJ h B):=by
   show yJ h i=_;rw[b,qz,qz];simp[yJ]
  rw[s,t];exact⟨ih.1,by rw[Ww k _ _ C,Q5T k _ _ j];exact ih.2⟩
def pK(keys:List ByteArray)(k:ByteArray):Nat:=(keys.takeWhile fun q=>bl q k).length
def bK(keys:List ByteArray)(k:ByteArray):Bool:=decide (keys[pK keys k]?=some k)
theorem L5(keys:List ByteArray)(k:ByteArray):bK keys k=true↔keys[pK keys k]?=some k:=by unfold bK;simp
theorem ME(hr:ZM keys)(k:ByteArray):Pos keys k (pK keys k):=by
 have d:(keys.takeWhile fun q=>bl q k)<+:keys:=List.takeWhile_prefix _;refine⟨d.length_le,fun x q f=> ?_⟩;have m:=ae.1 f;obtain⟨r,g⟩:=d;constructor
 ·intro o;have:(keys.takeWhile fun q=>bl q k)[x]?=some q:=by
   rw[<-g,bq o]at f;exact f
  have b:=List.all_takeWhile (p:=fun q=>bl q k) (l:=keys);rw[List.all_eq_true]at b;exact b q (ah this)
 ·intro j;rcases bG x (pK keys k)with h|h
  ·exact h
  exfalso;obtain⟨c,hc⟩:∃c,keys[pK keys k]?=some c:=⟨_,aa (by have:=m.1;omega)⟩
  have a:bl c k=false:=by
   have:=List.head?_dropWhile_not (p:=fun q=>bl q k) (l:=keys);have n:(keys.dropWhile fun q=>bl q k).head?=some c:=by
    have i:=List.takeWhile_append_dropWhile (p:=fun q=>bl q k) (l:=keys);unfold pK at hc;generalize keys.takeWhile (fun q=>bl q k)=T at i hc;generalize keys.dropWhile (fun q=>bl q k)=D at i hc⊢;rw[<-i,bh (ag _),Nat.sub_self]at hc;rw[<-hc]
    cases D<;>rfl
   rw[n]at this
   simpa using this
  rcases Nat.eq_or_lt_of_le h with e|e
  ·rw[e,f]at hc;cases hc;rw[j]at a;cases a
  ·have:=gV (hr.lt hc f e) j;rw[this]at a;cases a
variable {w w':World}
theorem MS{k:ByteArray}{e:Ending}(h:MB keys k w e w'):e=.returned (.tuple #[.int .i64 (pK keys k:Nat),.bool (bK keys k)])/\y6 [] w w':=by
 obtain⟨i,b,rfl,f,c,g⟩:=h;have d:pK keys k=i:=Wm (fun q=>bl q k) keys i f.1 f.2;have a:bK keys k=b:=by
  unfold bK;rw[d]
  cases b with
  |true=>simpa using c.1 rfl
  |false=>simpa using fun e=>absurd (c.2 e) (by simp)
 rw[d,a];exact⟨rfl,g⟩
structure Tab(w:World):Prop where
 row:∃cs fr,w.heap[2]?=some (.cells cs 267 fr)
 ito:∀W:World,W.heap[2]?=w.heap[2]?->∀i:Nat,i<70000->Calls prog 115 #[.int .i64 i] W fun e w'=>∃s,e=.returned (.string s)/\s.size<=1000/\y6 [] W w'
theorem Tab.lt(h:Tab w):2<w.heap.size:=by
 obtain⟨b,c,a⟩:=h.row;exact yt a
theorem Tab.kept{S:List Nat}(h:Tab w)(k:y6 S w w')(hS:2∉S):Tab w':=by
 have e:=k.block 2 h.lt hS;obtain⟨a,b,d⟩:=h.row;exact⟨⟨a,b,by rw[e];exact d⟩,fun W c=>h.ito W (by rw[c,e])⟩
theorem Tab.k(h:Tab w)(k:y6 [] w w'):Tab w':=h.kept k (by simp)
theorem M4(hT:Tab w)(i:Nat)(hi:i<70000):Calls prog 115 #[.int .i64 i] w fun e w'=>∃s,e=.returned (.string s)/\s.size<=1000/\y6 [] w w':=hT.ito w rfl i hi
theorem Tab.ne(h:Tab w){y:Nat}{cs:Array Value}{t:TypeId}{fr:Nat×Nat}(hy:w.heap[y]?=some (.cells cs t fr))(ht:t≠267):2≠y:=by
 obtain⟨b,c,a⟩:=h.row;exact yP a hy ht.symm
theorem Ti(P:Program)(w:World)(e:TypeId)(A:List UInt8)(i:Nat)(hi:i<A.length)(he:P.underlying e=some (.int .u8)):
  (part e (u8s A).toArray i).run P w=.ok (.int .u8 (A[i].toNat:Int)) w:=by
 have:(u8s A).toArray[i]?=some (.int .u8 (A[i].toNat:Int)):=by simp[Qo,hi]
 simp[part,isAgg,aO he,this]
theorem Q86(P:Program)(w:World)(d len:Nat)(e:TypeId)(A B:List UInt8)(hA:A.length=len)(hB:B.length=len)(he:P.underlying e=some (.int .u8))(k:Nat):∀s,s+k=len->
  (forIn (List.range' s k) ((none:Option Bool),()) fun i __s=>do
    let x<-part e (u8s A).toArray (i*1)
    let y<-part e (u8s B).toArray (i*1)
    let z<-Op.equalIn (d+1) e x y
    if(!z)=true then pure (ForInStep.done (some false,()))else pure (ForInStep.yield (none,()))).run P w=
   .ok (if A.drop s=B.drop s then((none:Option Bool),())else(some false,())) w:=by
 induction k with
 |zero=>
  intro s j;rw[bC (by omega),bC (by omega)];simp
 |succ k ih=>
  intro s j;have c:s<A.length:=by omega
  have f:s<B.length:=by omega
  have g:(A.drop s=B.drop s)=(A[s]=B[s]/\A.drop (s+1)=B.drop (s+1)):=by
   rw[aL c,aL f,List.cons.injEq]
  have b:=ih (s+1) (by omega);simp only[Nat.mul_one]at b⊢;rw[List.range'_succ,List.forIn_cons];simp only[Sem.run_bind,Ti P w e A s c he,Ti P w e B s f he,Result.andThen_ok,run_equalIn_int (P:=P) (w:=w) d e .u8 .u8 _ _ he]
  by_cases hc:A[s]=B[s]
  ·have a:((A[s].toNat:Int)==(B[s].toNat:Int))=true:=by rw[hc];simp
   simp only[a,Bool.not_true,bj,cQ,Sem.run_pure,Result.andThen_ok];rw[b];simp only[g,hc,true_and]
  ·have a:((A[s].toNat:Int)==(B[s].toNat:Int))=false:=by
    rw[beq_eq_false_iff_ne];exact fun h=>hc (UInt8.toNat_inj.1 (by omega))
   simp only[a,Bool.not_false,if_true,Sem.run_pure,Result.andThen_ok,g,hc,false_and,cQ]
theorem VJ(P:Program)(w:World)(d len:Nat)(t e:TypeId)(A B:List UInt8)(hA:A.length=len)(hB:B.length=len)(ht:P.underlying t=some (.array len e))(he:P.underlying e=some (.int .u8))(hs:(P.info? e).map (·.size)=some 1):
  (Op.equalIn (d+2) t (.agg (u8s A).toArray) (.agg (u8s B).toArray)).run P w=.ok (decide (A=B)) w:=by
 cases b:P.info? e with
 |none=>simp[b]at hs
 |some f=>
  have c:f.size=1:=by simpa[b]using hs
  have a:(sizeOf e).run P w=.ok 1 w:=by simp[sizeOf,typeInfo,b,c]
  rw[Op.equalIn];simp only[Sem.run_bind,aO ht,Result.andThen_ok,a];rw[Std.Legacy.Range.forIn_eq_forIn_range'];have:=Q86 P w d len e A B hA hB he len 0 (by omega);simp only[Std.Legacy.Range.size,Nat.sub_zero,dJ,Nat.div_one]at this⊢;rw[this]
  by_cases hc:A=B<;>simp[hc]
theorem Q88(P:Program)(w:World)(len:Nat)(t e:TypeId)(A B:List UInt8)(hA:A.length=len)(hB:B.length=len)(ht:P.underlying t=some (.array len e))(he:P.underlying e=some (.int .u8))(hs:(P.info? e).map (·.size)=some 1):
  (binOp .neq t (.agg (u8s A).toArray) (.agg (u8s B).toArray)).run P w=.ok (.bool (!decide (A=B))) w:=by
 rw[run_neq_struct,VJ P w 9998 len t e A B hA hB ht he hs];rfl
def qt:List UInt8->Nat
 | []=>0
 |b::r=>b.toNat+256*qt r
theorem V1(l:List UInt8)(b:UInt8):qt (l++ [b])=qt l+b.toNat*2^(8*l.length):=by
 induction l with
 |nil=>simp[qt]
 |cons a r ih=>
  simp only[bD,qt,ih,aB,Nat.mul_add,Nat.mul_one];rw[show 8*r.length+8=8*r.length+8 from rfl,Nat.pow_add];have:(2:Nat)^8=256:=rfl;have c:256*(b.toNat*2^(8*r.length))=b.toNat*(2^(8*r.length)*256):=by rw[Nat.mul_comm 256,Nat.mul_assoc]
  rw[this];omega
theorem QY(l:List UInt8):qt l<2^(8*l.length):=by
 induction l with
 |nil=>simp[qt]
 |cons a r ih=>
  have b:=a.toNat_lt;simp only[qt,aB,Nat.mul_add,Nat.mul_one,Nat.pow_add];have:(2:Nat)^8=256:=rfl;omega
theorem Q2i(a b k:Nat)(ha:a<2^(8*k))(hb:b<256)(hk:k<8):
  bits .or .u64 (a:Int) (IntKind.u64.wrap (IntKind.u64.wrap (b:Int)*2^(8*k)))=((a+b*2^(8*k):Nat):Int):=by
 have i:b*2^(8*k)<2^(8*(k+1)):=by rw[Nat.mul_add,Nat.pow_add];have:(2:Nat)^(8*1)=256:=rfl;rw[this,Nat.mul_comm];exact Nat.mul_lt_mul_of_pos_left hb (Nat.two_pow_pos _)
 have e:2^(8*(k+1))<=2^64:=dy (by omega) (by omega);have f:2^(8*k)<=2^64:=dy (by omega) (by omega);have c:(2:Nat)^64=18446744073709551616:=by decide
 rw[c]at e f;have g:IntKind.u64.wrap (b:Int)=b:=by rw[IntKind.wrap_u64];omega
 have d:(b:Int)*2^(8*k)=((b*2^(8*k):Nat):Int):=by simp
 have h:IntKind.u64.wrap ((b*2^(8*k):Nat):Int)=((b*2^(8*k):Nat):Int):=by rw[IntKind.wrap_u64];omega
 rw[g,d,h,u64_or_nat a (b*2^(8*k)) (by omega) (by omega),Nat.mul_comm b,Nat.or_comm,<-Nat.two_pow_add_eq_or_of_lt ha,Nat.add_comm]
theorem Q2j(s off cap:Nat)(cs:Array Value)(L:List UInt8)(t':TypeId)(fr:Nat×Nat)(w:World)(h:w.heap[s]?=some (.cells cs t' fr))(hl:L.length<=8)
  (hc:∀j (hj:j<L.length),cs[off+j]?=some (.int .u8 (L[j].toNat:Int))):
  Calls prog 154 #[.slice (some ⟨s,off,none⟩) L.length cap] w fun e w'=>e=.returned (.int .u64 (qt L))/\w'=w:=by
 go_enter func154,ntmps154;go_wp2
 go_loop [3,8] (fun v i=>∃(k:Nat),k<=L.length/\i=.int .i64 k/\v=.int .u64 (qt (L.take k))) (fun _ i=>L.length-(intOf i).toNat)
 case atStart=>exact⟨0,ay _,rfl,rfl⟩
 case round=>
  obtain⟨k,l,rfl,rfl⟩:=hrel
  by_cases b:k<L.length
  ·have g:w.cell? ⟨s,off+k,none⟩=some (.int .u8 (L[k].toNat:Int)):=y7 h (hc k b);have a:(L.take k).length=k:=by rw[au];omega
   have c:bits .or .u64 (qt (L.take k):Int) (IntKind.u64.wrap (IntKind.u64.wrap (L[k].toNat:Int)*2^(8*k)))=(qt (L.take (k+1)):Int):=by
    rw[Q2i _ _ _ (by have:=QY (L.take k);rwa[a]at this) L[k].toNat_lt (by omega),cZ b,V1,a]
   have f:Hid (bits .or .u64 (qt (L.take k):Int) (IntKind.u64.wrap (IntKind.u64.wrap (L[k].toNat:Int)*2^(8*k)))=(qt (L.take (k+1)):Int)):=c;clear c a;generalize qt (L.take k)=z at*;go_wp2
   go_round
   case rel=>exact⟨k+1,by omega,by go_num,congrArg (Value.int .u64) f.out⟩
   case measure=>simp[intOf];omega
  ·have d:k=L.length:=by omega
   subst d;rw[bV];go_wp2;go_ret;exact⟨rfl,rfl⟩
def QE(n i:Nat):UInt8:=UInt8.ofNat (n/2^(8*i)%256)
theorem Q2k(n i:Nat):((n:Int)/2^(8*i)%256)=((QE n i).toNat:Int):=by
 have h:(QE n i).toNat=n/2^(8*i)%256:=by
  unfold QE;rw[UInt8.toNat_ofNat'];exact dI (by have:(2:Nat)^8=256:=rfl;omega)
 rw[h];simp
def yz(n len:Nat):List UInt8:=(List.range len).map (QE n)
theorem jI(n len:Nat):qt (yz n len)=n%2^(8*len):=by
 induction len with
 |zero=>simp[yz,qt,Nat.mod_one]
 |succ k ih=>
  have e:yz n (k+1)=yz n k++ [QE n k]:=by simp[yz,List.range_succ]
  have b:(yz n k).length=k:=by simp[yz]
  rw[e,V1,ih,b];have a:(QE n k).toNat=n/2^(8*k)%256:=by
   unfold QE;rw[UInt8.toNat_ofNat'];exact dI (by have:(2:Nat)^8=256:=rfl;omega)
  rw[a,Nat.mul_add,Nat.pow_add,Nat.mod_mul,Nat.mul_comm (2^(8*k))]
theorem Oc(s off len cap:Nat)(cs:List UInt8)(n:Nat)(t':TypeId)(w:World)(h:w.heap[s]?=some (.cells (u8s cs).toArray t' (0,0)))(hl:len<=8)(hfit:off+len<=cs.length)(_h1:(n:Int)<18446744073709551616):
  Calls prog 151 #[.slice (some ⟨s,off,none⟩) len cap,.int .u64 n] w fun e w'=>e=.returned (.tuple #[])/\
   w'.heap[s]?=some (.cells (u8s (splice cs off (yz n len))).toArray t' (0,0))/\y6 [s] w w':=by
 go_enter func151,ntmps151;go_wp2
 go_loopw [7] (fun i wr=>∃(k:Nat),k<=len/\i=.int .i64 k/\wr.heap[s]?=some (.cells (u8s (splice cs off (yz n k))).toArray t' (0,0))/\y6 [s] w wr) (fun i _=>len-(intOf i).toNat)
 case atStart=>exact⟨0,ay _,rfl,by simpa[yz,splice]using h,y6.refl _ _⟩
 case round=>
  obtain⟨k,v,rfl,a,d⟩:=hrel
  by_cases t:k<len
  ·have b:(yz n k).length=k:=by simp[yz]
   have g:(splice cs off (yz n k)).length=cs.length:=aN _ _ _ (by omega);obtain⟨c,l⟩:∃c,wr.cell? ⟨s,off+k,none⟩=some c:=⟨_,y7 a (Array.getElem?_eq_getElem (by simp only[bX,yd];omega))⟩
   have u:wr.frozen? ⟨s,off+k,none⟩=false:=ax _ _ _ _ _ a;have m:(splice cs off (yz n k)).set (off+k) (QE n k)=splice cs off (yz n (k+1)):=by
    have e:yz n (k+1)=yz n k++ [QE n k]:=by simp[yz,List.range_succ]
    have r:off+k<cs.length:=by omega
    rw[e,splice,splice,ai,b];rw[cP _ _ (by simp;omega),cP _ _ (by simp;omega)];have q:off+k-(List.take off cs).length-(yz n k).length=0:=by rw[au,b];omega
    rw[q,aL r,zF];simp[Nat.add_assoc]
   have j:=yf (i:=off+k) (.int .u8 ((QE n k).toNat:Int)) a;rw[Q12,m]at j;have o:y6 [s] w (wr.setCell ⟨s,off+k,none⟩ (.int .u8 ((QE n k).toNat:Int))):=d.setCell (Or.inl (by simp)) _;have p:Hid ((n:Int)/2^(8*k)%256=((QE n k).toNat:Int)):=Q2k n k;clear m g b a d;go_wp2;go_roundw
   case rel=>rw[p.out];exact⟨k+1,by omega,by go_num,j,o⟩
   case measure=>simp[intOf];omega
  ·have f:k=len:=by omega
   subst f;go_wp2;go_end0;exact⟨rfl,a,d⟩
def P4(y:Int):Int:=bits .xor .u32 (y/2) (bits .and .u32 3988292384 (-bits .and .u32 y 1%4294967296))
def Zj:Nat->Int->Int
 |0,y=>y
 |n+1,y=>P4 (Zj n y)
def MU(z:Int)(b:UInt8):Int:=Zj 8 (bits .xor .u32 z ((b.toNat:Int)%4294967296))
def csum(L:List UInt8):Int:=L.foldl MU 4294967295
theorem Q2o(L:List UInt8)(b:UInt8):csum (L++ [b])=MU (csum L) b:=by simp[csum]
def crc(L:List UInt8):Nat:=(bits .xor .u32 IntKind.u32.max (csum L)).toNat
theorem Vu(L:List UInt8):bits .xor .u32 IntKind.u32.max (csum L)=(crc L:Int)/\crc L<4294967296:=by
 have h:0<=bits .xor .u32 IntKind.u32.max (csum L)/\bits .xor .u32 IntKind.u32.max (csum L)<4294967296:=by
  unfold bits;simp only[IntKind.wrap_u32];omega
 unfold crc;omega
theorem X9(s off cap:Nat)(cs:Array Value)(L:List UInt8)(t':TypeId)(fr:Nat×Nat)(w:World)(h:w.heap[s]?=some (.cells cs t' fr))(hl:L.length<=1000)
  (hc:∀j (hj:j<L.length),cs[off+j]?=some (.int .u8 (L[j].toNat:Int))):
  Calls prog 172 #[.slice (some ⟨s,off,none⟩) L.length cap] w fun e w'=>e=.returned (.int .u32 (crc L))/\w'=w:=by
 go_enter func172,ntmps172;go_wp2
 go_loop [3,8] (fun v i=>∃(k:Nat),k<=L.length/\i=.int .i64 k/\v=.int .u32 (csum (L.take k))) (fun _ i=>L.length-(intOf i).toNat)
 case atStart=>exact⟨0,ay _,rfl,rfl⟩
 case round=>
  obtain⟨k,n,rfl,rfl⟩:=hrel
  by_cases a:k<L.length
  ·have m:w.cell? ⟨s,off+k,none⟩=some (.int .u8 (L[k].toNat:Int)):=y7 h (hc k a);have f:Hid (Zj 8 (bits .xor .u32 (csum (L.take k)) ((L[k].toNat:Int)%4294967296))=csum (L.take (k+1))):=by
    show _=_;rw[cZ a,Q2o];rfl
   generalize csum (L.take k)=z at*;go_wp2
   go_loop [3,16] (fun v i=>∃(j:Nat),j<=8/\i=.int .i64 j/\v=.int .u32 (Zj j (bits .xor .u32 z ((L[k].toNat:Int)%4294967296)))) (fun _ i=>8-(intOf i).toNat)
   case atStart=>exact⟨0,by omega,rfl,rfl⟩
   case round=>
    obtain⟨j,hj,rfl,rfl⟩:=hrel
    by_cases g:j<8
    ·have c:Hid (bits .xor .u32 (Zj j (bits .xor .u32 z ((L[k].toNat:Int)%4294967296))/2) (bits .and .u32 3988292384 (-bits .and .u32 (Zj j (bits .xor .u32 z ((L[k].toNat:Int)%4294967296))) 1%4294967296))=Zj (j+1) (bits .xor .u32 z ((L[k].toNat:Int)%4294967296))):=rfl;generalize Zj j (bits .xor .u32 z ((L[k].toNat:Int)%4294967296))=y at*;go_wp2
     go_round
     case rel=>exact⟨j+1,by omega,by go_num,congrArg (Value.int .u32) c.out⟩
     case measure=>simp[intOf];omega
    ·have l:j=8:=by omega
     subst l;go_wp2
     go_round
     case rel=>exact⟨k+1,by omega,by go_num,congrArg (Value.int .u32) f.out⟩
     case measure=>simp[intOf];omega
  ·have b:k=L.length:=by omega
   subst b;rw[bV];have d:Hid (bits .xor .u32 IntKind.u32.max (csum L)=(crc L:Int)):=(Vu L).1;generalize csum L=z at*;go_wp2;go_ret;exact⟨M2 d.out,rfl⟩
def hc(t r:Nat):Array Value:=#[.int .u64 t,.int .i64 r]
def nxt(t:Nat):Nat:=(t+1)%18446744073709551616
def nwr(t u:Nat):Bool:=decide (0<wrap64 (IntKind.u64.wrap ((t:Int)-u)))
theorem WN(t r:Nat)(w:World):Calls prog 118 #[.agg #[.int .u64 t,.int .i64 r]] w fun e w'=>e=.returned (.int .i64 (t%2:Nat))/\y6 [] w w':=by
 go_enter func118,ntmps118;go_wp2;go_ret;exact⟨M2 (by omega),(y6.refl _ _).alloc _⟩
theorem Q2s(t r:Nat)(w:World):Calls prog 91 #[.agg #[.int .u64 t,.int .i64 r]] w fun e w'=>e=.returned (.int .i64 r)/\y6 [] w w':=by
 go_enter func91,ntmps91;go_wp2;go_ret;exact⟨rfl,(y6.refl _ _).alloc _⟩
theorem PI(t r x:Nat)(w:World):Calls prog 84 #[.agg #[.int .u64 t,.int .i64 r],.int .i64 x] w fun e w'=>e=.returned (.agg #[.int .u64 (nxt t),.int .i64 x])/\y6 [] w w':=by
 go_enter func84,ntmps84;go_wp2
 go_returns
 refine⟨?_,((y6.refl _ _).alloc _).alloc _⟩;simp[nxt,IntKind.wrap_u64]
theorem Q2u(t r u q:Nat)(w:World):Calls prog 121 #[.agg #[.int .u64 t,.int .i64 r],.agg #[.int .u64 u,.int .i64 q]] w fun e w'=>e=.returned (.bool (nwr t u))/\y6 [] w w':=by
 have a:Hid (nwr t u=decide (0<wrap64 (IntKind.u64.wrap ((t:Int)-u)))):=rfl;go_enter func121,ntmps121;go_wp2;go_ret;exact⟨congrArg (fun b=>Ending.returned (.bool b)) a.out.symm,((y6.refl _ _).alloc _).alloc _⟩
structure Qt(D D':Dv):Prop where
 L:D'.L=D.L
 q:D'.q=D.q
 wr:D'.wr=D.wr
 t:D'.t=D.t
 off:D'.off=D.off
 fr:D'.fr=D.fr
 toE:D'.toE=D.toE
def qM(D:Dv):Prop:=D.off= -1/\D.fr=D.toE/\D.toE=D.toE
structure Er(D D':Dv):Prop where
 L:D'.L=D.L
 q:D'.q=D.q
 wr:D'.wr=D.wr
 t:D'.t=wrap64 (D.t+1)
 off:D'.off=D.off
 fr:D'.fr=D.fr
 toE:D'.toE=D.toE
 bad:¬qM D
structure Wn(D:Dv)(i:Nat)(B:List UInt8)(D':Dv):Prop where
 L:D'.L=D.L
 q:D'.q=D.q++ [(i,B)]
 wr:D'.wr=wrap64 (D.wr+1)
 t:D'.t=D.t
 off:D'.off=D.off
 fr:D'.fr=D.fr
 toE:D'.toE=D.toE
structure Fl(D D':Dv):Prop where
 L:D'.L=lay D.L D.q
 q:D'.q= []
 wr:D'.wr=D.wr
 t:D'.t=D.t
 off:D'.off=D.off
 fr:D'.fr=D.fr
 toE:D'.toE=D.toE
theorem qM.bad{D:Dv}(h:qM D):D.bad=false:=by
 obtain⟨e,a,_⟩:=h;have b:decide ((0:Int)<=D.off)=false:=ct (by omega);unfold Dv.bad;rw[b,a,Bool.false_and,Bool.false_or]
 cases d:decide (D.toE<=D.c)with
 |false=>rfl
 |true=>
  have:=cf d;exact ct (by omega)
theorem Qt.refl(D:Dv):Qt D D:=⟨rfl,rfl,rfl,rfl,rfl,rfl,rfl⟩
theorem Qt.trans{D E F:Dv}(h:Qt D E)(g:Qt E F):Qt D F:=
 ⟨g.L.trans h.L,g.q.trans h.q,g.wr.trans h.wr,g.t.trans h.t,g.off.trans h.off,g.fr.trans h.fr,g.toE.trans h.toE⟩
variable {D E:Dv}
theorem Qt.good(h:Qt D E):qM E↔qM D:=by unfold qM;rw[h.off,h.fr,h.toE]
theorem Qt.er{F:Dv}(h:Qt D E)(g:Er E F):Er D F:=
 ⟨g.L.trans h.L,g.q.trans h.q,g.wr.trans h.wr,by rw[g.t,h.t],g.off.trans h.off,g.fr.trans h.fr,g.toE.trans h.toE,fun a=>g.bad (h.good.2 a)⟩
variable {B:List UInt8}
theorem Qt.wn{F:Dv}{i:Nat}(h:Qt D E)(g:Wn E i B F):Wn D i B F:=
 ⟨g.L.trans h.L,by rw[g.q,h.q],by rw[g.wr,h.wr],g.t.trans h.t,g.off.trans h.off,g.fr.trans h.fr,g.toE.trans h.toE⟩
theorem Qt.view{D E:Dv}(h:Qt D E)(i:Nat):E.view i=D.view i:=by unfold Dv.view;rw[h.L,h.q]
theorem Qt.tick{D:Dv}(hb:D.bad=false):Qt D D.tick:=by
 refine⟨rfl,rfl,rfl,?_,rfl,rfl,rfl⟩;simp[Dv.tick,hb]
theorem Er.tick{D:Dv}(hb:D.bad=true):Er D D.tick:=by
 refine⟨rfl,rfl,rfl,?_,rfl,rfl,rfl,fun a=> ?_⟩
 ·simp[Dv.tick,hb]
 ·rw[a.bad]at hb;cases hb
theorem Wn.put{D:Dv}(hb:D.bad=false)(i:Nat)(B:List UInt8):Wn D i B (D.put i B):=by
 refine⟨rfl,rfl,rfl,?_,rfl,rfl,rfl⟩;simp[Dv.put,Dv.tick,hb]
theorem Fl.flush{D:Dv}(hb:D.bad=false):Fl D D.flush:=by
 refine⟨rfl,rfl,rfl,?_,rfl,rfl,rfl⟩;simp[Dv.flush,Dv.tick,hb]
theorem Wn.good{i:Nat}(h:Wn D i B E):qM E↔qM D:=by unfold qM;rw[h.off,h.fr,h.toE]
theorem Fl.good(h:Fl D E):qM E↔qM D:=by unfold qM;rw[h.off,h.fr,h.toE]
variable {Q:Exit->Act->World->Prop}
theorem yj{P:Program}{ops:Array Oper}{rest:List Oper}{o:Oper}{a:Act}(hgd:o.guard=none)(d:Tmp)(_hd:o.dst=some d)(t:TypeId)(ho:o.op=.alloc t)(cs:Array Value)
  (hz:(Instr.alloc t true (.tuple #[])).run P w=.ok (.pointer (some ⟨w.heap.size,0,none⟩)) (w.alloc (.cells cs t)))
  (h:∀w',w'.heap[w.heap.size]?=some (.cells cs t (0,0))->y6 [] w w'->w'.heap.size=w.heap.size+1->wpList P ops Q rest (a.put o.dst (.pointer (some ⟨w.heap.size,0,none⟩))) w'):wpList P ops Q (o::rest) a w:=
 qn hgd t ho cs hz h
theorem Q2v{P:Program}{o:Oper}{a:Act}{K:Act->World->Prop}{ty:TypeId}(dT sT:TypeId)(elem:TypeId)(hu:P.underlying dT=some (.slice elem))(hsz:(P.info? elem).map (·.size)=some 1)
  (g off dLen dCap:Nat)(S:List UInt8)(cur:List UInt8)(t:TypeId)(hg:w.heap[g]?=some (.cells (u8s cur).toArray t (0,0)))(hle:S.length<=dLen)(hfit:off+S.length<=cur.length)
  (h:∀w',w'.heap[g]?=some (.cells (u8s (splice cur off S)).toArray t (0,0))->y6 [g] w w'->K (a.put o.dst (goInt S.length)) w'):
  Oper.upon P o a K Q ((Sem.run P (Builtin.copy_ #[dT,sT] ty #[.slice (some ⟨g,off,none⟩) dLen dCap,.string ⟨S.toArray⟩]) w).andThen fun a w'=>Result.ok (Next.value a) w'):=by
 have b:(ByteArray.mk S.toArray).size=S.length:=rfl;rw[Lib.run_copy_row_string (P:=P) w dT sT ty elem g off dLen dCap ⟨S.toArray⟩ (u8s cur).toArray t hu hsz hg (by rw[b];exact hle) (by rw[b];simpa[yd]using hfit)];refine h _ ?_ ((y6.refl _ _).setRow (Or.inl (by simp)) _);rw[bH w g _ _ t _ hg,<-Qf];simp[splice,b,Lib.byteCells,u8s]
theorem zsec(w:World):(Instr.alloc 175 true (.tuple #[])).run prog w=.ok (.pointer (some ⟨w.heap.size,0,none⟩)) (w.alloc (.cells (u8s (List.replicate 32 0)).toArray 175)):=by kernel_rfl
theorem ssec:(prog.info? 175).map (·.size)=some 32:=by kernel_rfl
def Mp:List UInt8:= [115,116,111,114,101,32,49,10]
def sec0:List UInt8:=splice (List.replicate 32 0) 0 Mp
def sec1(t:Nat):List UInt8:=splice sec0 8 (yz t 8)
def sec2(t r:Nat):List UInt8:=splice (sec1 t) 16 (yz r 2)
def Zb(B:List UInt8):List UInt8:=splice B (B.length-4) (yz (crc (B.take (B.length-4))) 4)
def sec(t r:Nat):List UInt8:=Zb (sec2 t r)
theorem yE(n k:Nat):(yz n k).length=k:=by simp[yz]
theorem Qv:sec0.length=32:=by decide
theorem jW(t:Nat):(sec1 t).length=32:=by rw[sec1,aN _ _ _ (by rw[yE,Qv];omega),Qv]
theorem qE(t r:Nat):(sec2 t r).length=32:=by rw[sec2,aN _ _ _ (by rw[yE,jW];omega),jW]
theorem Q2x(B:List UInt8)(h:4<=B.length):(Zb B).length=B.length:=by rw[Zb,aN _ _ _ (by rw[yE];omega)]
theorem qL(t r:Nat):(sec t r).length=32:=by rw[sec,Q2x _ (by rw[qE];omega),qE]
theorem PG(L:List UInt8)(off:Nat)(n:Nat):∀j (hj:j<((L.drop off).take n).length),(u8s L).toArray[off+j]?=some (.int .u8 (((L.drop off).take n)[j].toNat:Int)):=by
 intro j hj;simp only[List.getElem?_toArray,Qo];have b:j<n:=by simp at hj;omega
 have a:off+j<L.length:=by simp at hj;omega
 rw[aa a];simp
theorem Q2z(s off cap n m:Nat)(D:List UInt8)(t':TypeId)(fr:Nat×Nat)(w:World)(h:w.heap[s]?=some (.cells (u8s D).toArray t' fr))(hm:((D.drop off).take m).length=n)(hn:n<=1000):
  Calls prog 172 #[.slice (some ⟨s,off,none⟩) n cap] w fun e w'=>e=.returned (.int .u32 (crc ((D.drop off).take m)))/\w'=w:=by
 subst hm;exact X9 s off cap _ _ t' fr w h hn (PG D off m)
theorem P9(s off cap n m:Nat)(D:List UInt8)(t':TypeId)(fr:Nat×Nat)(w:World)(h:w.heap[s]?=some (.cells (u8s D).toArray t' fr))(hm:((D.drop off).take m).length=n)(hn:n<=8):
  Calls prog 154 #[.slice (some ⟨s,off,none⟩) n cap] w fun e w'=>e=.returned (.int .u64 (qt ((D.drop off).take m)))/\w'=w:=by
 subst hm;exact Q2j s off cap _ _ t' fr w h hn (PG D off m)
theorem OC(s:Nat)(B:List UInt8)(t':TypeId)(w:World)(h:w.heap[s]?=some (.cells (u8s B).toArray t' (0,0)))(h4:4<=B.length)(hn:B.length<=1000):
  Calls prog 152 #[.slice (some ⟨s,0,none⟩) B.length B.length] w fun e w'=>e=.returned (.tuple #[])/\w'.heap[s]?=some (.cells (u8s (Zb B)).toArray t' (0,0))/\y6 [s] w w':=by
 obtain⟨m,g⟩:∃m,B.length=m+4:=⟨B.length-4,by omega⟩
 have i:=(Vu (B.take m)).2;have j:Hid (∀W:World,W.heap[s]?=some (.cells (u8s B).toArray t' (0,0))->Calls prog 172 #[.slice (some ⟨s,0,none⟩) m (m+4)] W fun e w'=>e=.returned (.int .u32 (crc (B.take m)))/\w'=W):=by
  intro W c;have:=Q2z s 0 (m+4) m m B t' (0,0) W c (by rw[da,au];omega) (by omega);rw[da]at this;exact this
 have k:Hid (splice B m (yz (crc (B.take m)) 4)=Zb B):=by
  show _=_;rw[Zb,g];rfl
 generalize d:crc (B.take m)=a at*;clear d;have n:Hid (IntKind.u64.wrap (a:Int)=a):=by show _=_;rw[IntKind.wrap_u64];omega
 have l:Hid (∀W:World,W.heap[s]?=some (.cells (u8s B).toArray t' (0,0))->Calls prog 151 #[.slice (some ⟨s,m,none⟩) 4 4,.int .u64 a] W fun e w'=>e=.returned (.tuple #[])/\
   w'.heap[s]?=some (.cells (u8s (splice B m (yz a 4))).toArray t' (0,0))/\y6 [s] W w'):=by
  intro W c;exact Oc s m 4 4 B a t' W c (by omega) (by omega) (by omega)
 rw[g];have o:m+4<=1000:=by omega
 clear g hn h4 i;go_enter func152,ntmps152;go_wp2
 go_region_with (first|(go_at_call 172;refine(j.out _ (by exact h)).mono ?_;rintro e w'⟨rfl,rfl⟩)|(go_at_call 151;rw[n.out];refine(l.out _ (by exact h)).mono ?_;rintro e p⟨rfl,b,f⟩))
 all_goals
  rw[k.out]at b;go_end0;exact⟨rfl,b,(y6.refl [s] w).drew.trans f⟩
end Go.Proofs.YtcklgafpgdhnaaaGreatDoor
namespace Go.Proofs.YtcklgafpgdhnaaaGreatDoor
open Go.RowKit Go.Extern.Stop Go.Stop Go.Extern
theorem vOf(t:Addr)(w:World):(ReflectliteValue.unpack (.iface 222 (.pointer (some t)))).run prog w
  =.ok (.agg #[.pointer (some ⟨5,222,none⟩),.pointer (some ⟨w.heap.size,0,none⟩),.int .u64 150]) (w.alloc (.cells #[.pointer (some t)] 222)):=by kernel_rfl
theorem tyOf(a:Addr)(w:World):(ReflectliteValue.methodAny (ReflectliteValue.valueError "reflectlite.Value.Type" 0) (fun t _ _ _=>ReflectliteType.toType t) #[.agg #[.pointer (some ⟨5,222,none⟩),.pointer (some a),.int .u64 150]]).run prog w
  =.ok (.iface 254 (.agg #[.pointer (some ⟨5,222,none⟩)])) w:=by kernel_rfl
theorem Q1i(h:Value)(w:World):(Go.method 433 254 (.agg #[h]) "Kind").run prog w=.ok (217,h) w:=by kernel_rfl
theorem kPtr(w:World):((ReflectliteType.abiMethod fun t=>(fun a:Nat=>Value.int IntKind.u8 (a:Int))<$>Rtype.kind t) #[.pointer (some ⟨5,222,none⟩)]).run prog w=.ok (.int .u8 22) w:=by kernel_rfl
theorem Q1j(w:World):((ReflectliteType.abiMethod fun t=>(fun a:Nat=>Value.int IntKind.u8 (a:Int))<$>Rtype.kind t) #[.pointer (some ⟨5,100,none⟩)]).run prog w=.ok (.int .u8 2) w:=by kernel_rfl
theorem S7(a:Addr)(w:World):(ReflectliteValue.parts (.agg #[.pointer (some ⟨5,222,none⟩),.pointer (some a),.int .u64 150])).run prog w=.ok (some (222,a,150)) w:=by kernel_rfl
theorem Q1l(a p:Addr)(W:World)(ha:W.cell? a=some (.pointer (some p))):
  (ReflectliteValue.method (ReflectliteValue.valueError "reflectlite.Value.IsNil" 0) ReflectliteValue.isNil #[.agg #[.pointer (some ⟨5,222,none⟩),.pointer (some a),.int .u64 150]]).run prog W=.ok (.bool false) W:=by
 change Sem.run prog (ReflectliteValue.parts (.agg #[.pointer (some ⟨5,222,none⟩),.pointer (some a),.int .u64 150])>>=_) W=_;simp only[Sem.run_bind,S7,Result.andThen];simp[ReflectliteValue.isNil,loadVar,isAgg,underlying,underlying222,ha,Result.andThen]
theorem Q1m(h:Value)(w:World):(Go.method 433 254 (.agg #[h]) "Elem").run prog w=.ok (288,.agg #[h]) w:=by kernel_rfl
theorem Q1n(h:Value)(w:World):(Go.method 433 254 (.agg #[h]) "Implements").run prog w=.ok (289,.agg #[h]) w:=by kernel_rfl
theorem Q1o(h:Value)(w:World):(Go.method 433 254 (.agg #[h]) "AssignableTo").run prog w=.ok (286,.agg #[h]) w:=by kernel_rfl
theorem Q1p(w:World):(ReflectliteType.method ReflectliteType.elem #[.agg #[.pointer (some ⟨5,222,none⟩)]]).run prog w=.ok (.iface 254 (.agg #[.pointer (some ⟨5,100,none⟩)])) w:=by kernel_rfl
theorem Q1q(w:World):(ReflectliteType.relation "Implements" ReflectliteType.implements_ #[.agg #[.pointer (some ⟨5,100,none⟩)],.iface 254 (.agg #[.pointer (some ⟨5,35,none⟩)])]).run prog w=.ok (.bool true) w:=by kernel_rfl
theorem Q1r(v:Value)(w:World):(ReflectliteType.typeOf #[.iface 100 v]).run prog w=.ok (.iface 254 (.agg #[.pointer (some ⟨5,100,none⟩)])) w:=by kernel_rfl
theorem Xu(v:Value)(w:World):(ReflectliteType.typeOf #[.iface 111 v]).run prog w=.ok (.iface 254 (.agg #[.pointer (some ⟨5,111,none⟩)])) w:=by kernel_rfl
theorem Yl(w:World):(ReflectliteType.relation "AssignableTo" ReflectliteType.assignableTo #[.agg #[.pointer (some ⟨5,100,none⟩)],.iface 254 (.agg #[.pointer (some ⟨5,100,none⟩)])]).run prog w=.ok (.bool true) w:=by kernel_rfl
theorem Q1u(w:World):(ReflectliteType.relation "AssignableTo" ReflectliteType.assignableTo #[.agg #[.pointer (some ⟨5,111,none⟩)],.iface 254 (.agg #[.pointer (some ⟨5,100,none⟩)])]).run prog w=.ok (.bool false) w:=by kernel_rfl
theorem vOfE(x:Int)(w:World):(ReflectliteValue.unpack (.iface 100 (.int .i64 x))).run prog w
  =.ok (.agg #[.pointer (some ⟨5,100,none⟩),.pointer (some ⟨w.heap.size,0,none⟩),.int .u64 130]) (w.alloc (.cells #[.int .i64 x] 100)):=by kernel_rfl
theorem Q1v(w:World):(Rtype.elem? 222).run prog w=.ok (some 100) w:=by kernel_rfl
theorem mkE(p:Addr)(w:World):(ReflectliteValue.mk 100 p ReflectliteValue.flagAddr).run prog w=.ok (.agg #[.pointer (some ⟨5,100,none⟩),.pointer (some p),.int .u64 386]) w:=by kernel_rfl
theorem Q1w(a p:Addr)(W:World)(ha:W.cell? a=some (.pointer (some p))):
  (ReflectliteValue.method (ReflectliteValue.valueError "reflectlite.Value.Elem" 0) ReflectliteValue.elem #[.agg #[.pointer (some ⟨5,222,none⟩),.pointer (some a),.int .u64 150]]).run prog W
   =.ok (.agg #[.pointer (some ⟨5,100,none⟩),.pointer (some p),.int .u64 386]) W:=by
 change Sem.run prog (ReflectliteValue.parts (.agg #[.pointer (some ⟨5,222,none⟩),.pointer (some a),.int .u64 150])>>=_) W=_;simp only[Sem.run_bind,S7,Result.andThen];simp[ReflectliteValue.elem,loadVar,isAgg,underlying,underlying222,ha,Result.andThen,Q1v,mkE]
theorem W9(p:Value)(w:World):(Instr.typeAssert (.iface 111 p) 35 259 true).run prog w=.ok (.tuple #[.nilIface,.bool false]) w:=run_typeAssert_lacksB underlying259 (by kernel_rfl) (by kernel_rfl) p 35 w
theorem Q1y(p:Value)(w:World):(Instr.typeAssert (.iface 111 p) 35 262 true).run prog w=.ok (.tuple #[.iface 111 p,.bool true]) w:=run_typeAssert_hasB underlying262 (by kernel_rfl) p 35 w
theorem Q1z(a:Addr)(w:World):(Go.method 433 111 (.pointer (some a)) "Unwrap").run prog w=.ok (230,.pointer (some a)) w:=by kernel_rfl
end Go.Proofs.YtcklgafpgdhnaaaGreatDoor
namespace Go.Proofs.YtcklgafpgdhnaaaGreatDoor
open Go.RowKit
theorem Vb(a:Addr)(w:World):(Go.method 433 26 (.pointer (some a)) "Read").run prog w=.ok (222,.pointer (some a)) w:=by kernel_rfl
theorem TY(a:Addr)(w:World):(Go.method 433 26 (.pointer (some a)) "Write").run prog w=.ok (223,.pointer (some a)) w:=by kernel_rfl
theorem Q2F(a:Addr)(w:World):(Go.method 433 26 (.pointer (some a)) "Flush").run prog w=.ok (221,.pointer (some a)) w:=by kernel_rfl
theorem Q2G(a:Addr)(w:World):(Go.method 433 26 (.pointer (some a)) "Blocks").run prog w=.ok (220,.pointer (some a)) w:=by kernel_rfl
theorem zblk(w:World):(Instr.alloc 92 true (.tuple #[])).run prog w=.ok (.pointer (some ⟨w.heap.size,0,none⟩)) (w.alloc (.cells (u8s (List.replicate 128 0)).toArray 92)):=by kernel_rfl
def Vol(w:World)(v a n:Nat):Prop:=w.heap[v]?=some (.cells #[.iface 26 (.pointer (some ⟨a,0,none⟩)),.int .i64 n] 128 (0,0))
def Thr(x:Int)(e:Ending)(w':World):Prop:=
 ∃f o,e=.panicked [{v:=.iface 147 (.agg #[.iface 111 (.pointer (some ⟨f,0,none⟩))]),recovered:=false}]/\
  w'.heap[f]?=some (.cells #[o,.iface 100 (.int .i64 x)] 114 (0,0))
theorem ZH(o:ByteArray)(x:Int)(w:World):Calls prog 62 #[.string o,.int .i64 x] w fun e w'=>Thr x e w'/\y6 [] w w':=by
 go_enter func62,ntmps62;go_wp2;exact⟨rfl,⟨w.heap.size,.string o,rfl,af _ _⟩,(y6.refl _ _).alloc _⟩
theorem Thr.ex{x:Int}{e:Ending}{w':World}(h:Thr x e w'):∃f o,e=.panicked [{v:=.iface 147 (.agg #[.iface 111 (.pointer (some ⟨f,0,none⟩))]),recovered:=false}]/\
  w'.heap[f]?=some (.cells #[o,.iface 100 (.int .i64 x)] 114 (0,0)):=h
def RdR(a:Nat)(bv:Value)(n:Nat)(cv:Value)(D:Dv)(P:Ending->World->Prop)(w:World)(e:Ending)(w':World):Prop:=
 ∃D',DQ w' a bv n cv D'/\y6 [a] w w'/\((Qt D D'/\P e w')\/(Er D D'/\Thr 6 e w'))
def WrR(a:Nat)(bv:Value)(n:Nat)(cv:Value)(P:Dv->Ending->World->Prop)(w:World)(e:Ending)(w':World):Prop:=
 ∃cv' D',DQ w' a bv n cv' D'/\y6 (yk a bv cv) w w'/\(∀y,cv'.ownBlock=some y->cv.ownBlock=some y\/w.heap.size<=y)/\P D' e w'
variable {w:World}{a n y:Nat}{bv cv:Value}
theorem DQ.no{D:Dv}(h:DQ w a bv n cv D){cs:Array Value}{t:TypeId}{fr:Nat×Nat}(hy:w.heap[y]?=some (.cells cs t fr))(ht:t∉ [91,92,94]):y∉yk a bv cv:=by
 simp only[an,bW,or_false,not_or]at ht;intro c;rcases an.1 c with rfl|c
 ·exact yP hy h.d ht.1 rfl
 rcases ar.1 c with c|c
 ·obtain⟨f,g,e⟩:=yD h.b (by simpa using c);exact yP hy e ht.2.1 rfl
 ·obtain⟨f,g,e⟩:=yD h.o (by simpa using c);exact yP hy e ht.2.2 rfl
theorem DQ.ge{D:Dv}(h:DQ w a bv n cv D)(hy:w.heap.size<=y):y∉yk a bv cv:=fun b=>by have:=h.lt y b;omega
theorem DQ.k1{w':World}{D:Dv}(h:DQ w a bv n cv D)(k:y6 [y] w w')(hy:y∉yk a bv cv):DQ w' a bv n cv D:=h.kept k (by intro x c b;simp at b;subst b;exact hy c)
theorem Tab.dq{D:Dv}(hT:Tab w)(h:DQ w a bv n cv D):2∉yk a bv cv:=by
 obtain⟨c,d,b⟩:=hT.row;exact h.no b (by decide)
theorem Tab.dqa{D:Dv}(hT:Tab w)(h:DQ w a bv n cv D):2∉ [a]:=by
 have:=hT.dq h;simp only[yk,an,not_or]at this
 simpa using this.1
theorem SF(v a:Nat)(bv:Value)(n:Nat)(cv:Value)(D:Dv)(i:Nat)(w:World)(hv:Vol w v a n)(h:DQ w a bv n cv D)(hi:i<n)(hn:n<=1000)(hq:D.q.length<=1000000)(hb:D.bad=false):
  Calls prog 124 #[.pointer (some ⟨v,0,none⟩),.int .i64 i] w fun e w'=>e=.returned (.agg (u8s (D.view i)).toArray)/\DQ w' a bv n cv D.tick/\y6 [a] w w':=by
 have T:=Vb;have J:v≠a:=yP hv h.d (by decide);have O:=yt hv;have U:=yt h.d;have b:(D.view i).length=128:=M0 (gE D.L n i h.l hi) h.q;go_enter func124,ntmps124;go_wp2_with(first|(refine yj rfl 4 rfl 92 rfl _ (zblk _) ?_;intro A j g k;have G:Hid _:=k;clear k;have R:A.cell? ⟨v,0,none⟩=some (.iface 26 (.pointer (some ⟨a,0,none⟩))):=y7 (g.get hv (by simp)) rfl)|(go_at_call 222;refine(V6 a bv n cv D i A (h.k0 g) hi hn hq).mono ?_;rintro e B⟨u,c,p⟩;rw[hb]at p;simp only[bj,cQ]at p;obtain⟨r,rfl,C,Q⟩:=p)|(refine yj rfl 7 rfl 92 rfl _ (zblk _) ?_;intro V F f y;have P:Hid _:=y;clear y;have s:=f.get C (by simp))|(refine jR 60 60 5 underlying60 su8 B.heap.size 0 128 128 ⟨r,0,none⟩ 128 128 (u8s (List.replicate 128 0)) 92 F (u8s (D.view i)) (by rw[yd,b];exact(Nat.min_self 128).symm) (ju s) (by rw[yd,yd,b,bR];omega) (qP _) ?_;intro W z o;rw[QL _ _ (by rw[yd,yd,b,bR])]at z)|(refine aW rfl 92 (.tmp 7) rfl B.heap.size rfl 92 (u8s (D.view i)).toArray (0,0) _ z underlying92 rfl (by rw[QM];simp[yd,b]) ?_)|(refine ye rfl 92 (.tmp 4) (.tmp 26) rfl w.heap.size (u8s (D.view i)).toArray rfl rfl 92 _ (o.get (f.get (c.get j (by simp;omega)) (by simp)) (by have:=c.size;have:=yt j;simp;omega)) (by rw[QM];simp[yd,b]) (by simp[yd,b]) (qf (qP _)) ?_;intro N K t))
 refine aR (aI rfl _ N w.heap.size 92 _ (0,0) _ rfl K underlying92 rfl (by rw[QM];simp[yd,b])) rfl ?_;have H:=G.out;have S:=c.size;have E:=u.k0 f;have I:=E.k1 o (u.ge (ag _));have M:=I.k1 t (h.ge (ag _));refine⟨rfl,M,?_⟩;refine y6.trans2 (y6.trans2 (y6.trans2 (y6.trans2 (g.mono (by simp)) c (by simp)) f (by simp)) o ?_) t ?_
 ·intro x m;simp at m;subst m;exact Or.inr (by omega)
 ·intro x m;simp at m;subst m;exact Or.inr (ag _)
theorem T9(v a:Nat)(bv:Value)(n:Nat)(cv:Value)(D:Dv)(i:Nat)(w:World)(hv:Vol w v a n)(h:DQ w a bv n cv D)(hi:i<n)(hn:n<=1000)(hq:D.q.length<=1000000)(hb:D.bad=true)(hT:Tab w):
  Calls prog 124 #[.pointer (some ⟨v,0,none⟩),.int .i64 i] w fun e w'=>Thr 6 e w'/\DQ w' a bv n cv D.tick/\y6 [a] w w':=by
 have A:=Vb;go_enter func124,ntmps124;go_wp2_with(first|(refine yj rfl 4 rfl 92 rfl _ (zblk _) ?_;intro m r b g;have y:Hid _:=g;clear g;have u:m.cell? ⟨v,0,none⟩=some (.iface 26 (.pointer (some ⟨a,0,none⟩))):=y7 (b.get hv (by simp)) rfl)|(go_at_call 222;refine(V6 a bv n cv D i m (h.k0 b) hi hn hq).mono ?_;rintro e C⟨p,c,j⟩;rw[hb]at j;simp only[if_true,eIO]at j;subst j;have s:=(hT.k b).kept c ((hT.k b).dqa (h.k0 b)))|(go_at_call 115;refine(M4 s i (by omega)).mono ?_;rintro e E⟨t,rfl,x,d⟩;have B:¬9223372036854775807<14+t.size:=(by omega))|(go_at_call 62;refine(ZH _ _ _).mono ?_;rintro e F⟨ht,l⟩;obtain⟨f,o,rfl,z⟩:=ht.ex))
 exact⟨rfl,ht,(p.k0 d).k0 l,((b.mono (by simp)).trans c).trans ((d.trans l).mono (by simp))⟩
theorem Q2J(v a:Nat)(bv:Value)(n:Nat)(cv:Value)(D:Dv)(i:Nat)(w:World)(hv:Vol w v a n)(h:DQ w a bv n cv D)(hi:i<n)(hn:n<=1000)(hq:D.q.length<=1000000)(hT:qM D\/Tab w):
  Calls prog 124 #[.pointer (some ⟨v,0,none⟩),.int .i64 i] w (RdR a bv n cv D (fun e _=>e=.returned (.agg (u8s (D.view i)).toArray)) w):=by
 cases b:D.bad with
 |false=>exact(SF v a bv n cv D i w hv h hi hn hq b).mono fun e j ⟨c,d,f⟩=>⟨D.tick,d,f,Or.inl ⟨Qt.tick b,c⟩⟩
 |true=>exact(T9 v a bv n cv D i w hv h hi hn hq b (hT.resolve_left fun g=>by rw[g.bad]at b;cases b)).mono fun e j ⟨c,d,f⟩=>⟨D.tick,d,f,Or.inr ⟨Er.tick b,c⟩⟩
theorem itu8:(prog.info? 5).map (fun i=>(i.zero,i.size,i.bytes))=some (some (Value.int .u8 0),1,1):=by kernel_rfl
theorem XV(s:ByteArray)(w:World)(hs:s.size<=1000000):Calls prog 71 #[.string s] w fun e w'=>e=.returned (.string s)/\y6 [] w w':=by
 by_cases t:s.size=0
 ·obtain rfl:s=⟨#[]⟩:=ByteArray.ext (Array.eq_empty_of_size_eq_zero t);go_enter func71,ntmps71;go_wp2;go_ret;exact⟨rfl,y6.refl _ _⟩
 ·obtain⟨u,g,r,h,A⟩:=bu itu8;have B:(prog.info? 5).map (·.size)=some 1:=by rw[g];simp[h]
  have f:prog.cellsOf 5=1:=by simp[Program.cellsOf,g,h]
  obtain⟨b,n⟩:∃b,b=madeCells (Value.int .u8 0).cells (((s.size:Nat):Int).toNat*u.size):=⟨_,rfl⟩
  have D:b.size=s.size:=by rw[n,size_madeCells,h];simp
  have o:∀W:World,(Instr.makeSlice 60 (.int .i64 (s.size:Int)) (.int .i64 (s.size:Int))).run prog W=.ok (.slice (some ⟨W.heap.size,0,none⟩) s.size s.size) (W.alloc (.cells b 5)):=by
   intro W;have:=run_make (P:=prog) W 60 5 u (.int .u8 0) underlying60 g r .i64 .i64 (s.size:Int) (s.size:Int) (by omega) (by omega) (by rw[A];omega) (by omega);rw[<-n]at this
   simpa using this
  clear n;obtain⟨i,l⟩:∃i,i=w.alloc (.cells b 5):=⟨_,rfl⟩
  have c:i.heap[w.heap.size]?=some (.cells b 5 (0,0)):=by rw[l];exact af w _
  have F:=Lib.run_copy_row_string (P:=prog) i 60 9 3 5 w.heap.size 0 s.size s.size s b 5 underlying60 B c (ag _) (by omega);obtain⟨a,m⟩:∃a,a=(b.toList.take 0++Lib.byteCells s.data.toList++b.toList.drop (0+s.size)).toArray:=⟨_,rfl⟩
  rw[<-m]at F;have k:a.toList=Lib.byteCells s.data.toList:=by
   rw[m,List.toList_toArray,cR,aX,bC (by rw[bZ];omega),bo]
  have C:a.size=s.size:=by rw[<-bZ,k,Lib.byteCells_length,<-Lib.size_eq]
  have d:(i.setRow w.heap.size a).heap[w.heap.size]?=some (.cells a 5 (0,0)):=bH _ _ b _ 5 (0,0) c;have q:s.data.toList≠ []:=fun e=>t (by rw[Lib.size_eq,e];rfl);have y:=Lib.run_unsafeString_row (P:=prog) (i.setRow w.heap.size a) 164 3 9 5 underlying164 f w.heap.size a.size (by unfold World.shape?;rw[d]) s.data.toList q (by rw[<-Lib.size_eq];omega) (by rw[<-Lib.size_eq];omega)
   (fun j x E=>Lib.cells_of_row d a.size j _ (by rw[aJ (by rw[bZ];exact ag _),k];simp[Lib.byteCells,E]))
  rw[<-Lib.size_eq]at y;have v:y6 [] w (i.setRow w.heap.size a):=by rw[l];exact((y6.refl [] w).alloc _).setRow (Or.inr (ag _)) _
  have z:Hid _:=v.below;subst l;clear m v;go_enter func71,ntmps71;go_wp2;go_ret;exact⟨rfl,y6.of_below (Lib.below_freeze z.out (p:=⟨w.heap.size,0,none⟩) (ag _) _)⟩
theorem Pk(s:ByteArray)(w:World)(hs:s.size<=1000000):Calls prog 47 #[.string s] w fun e w'=>e=.returned (.string s)/\y6 [] w w':=by
 have b:Hid (Calls _ _ _ _ _):=XV s w hs;go_enter func47,ntmps47;go_wp2_with(first|(go_at_call 71;refine b.out.mono ?_;rintro e c⟨rfl,a⟩))
 go_ret;exact⟨rfl,a⟩
end Go.Proofs.YtcklgafpgdhnaaaGreatDoor
namespace Go.Proofs.YtcklgafpgdhnaaaGreatDoor
open Go.RowKit Go.Extern.Stop Go.Stop Go.Extern
theorem Q1A(a:Addr)(w:World):(ReflectliteValue.parts (.agg #[.pointer (some ⟨5,100,none⟩),.pointer (some a),.int .u64 386])).run prog w=.ok (some (100,a,386)) w:=by kernel_rfl
theorem Q1B(a:Addr)(w:World):(ReflectliteValue.parts (.agg #[.pointer (some ⟨5,100,none⟩),.pointer (some a),.int .u64 130])).run prog w=.ok (some (100,a,130)) w:=by kernel_rfl
theorem Q1C(w:World):(Rtype.directlyAssignable 100 100).run prog w=.ok true w:=by kernel_rfl
theorem setE(ta b:Addr)(x:Int)(old:Value)(W:World)(hb:W.cell? b=some (.int .i64 x))(ht:W.cell? ta=some old)(hf:W.frozen? ta=false):
  (ReflectliteValue.set #[.agg #[.pointer (some ⟨5,100,none⟩),.pointer (some ta),.int .u64 386],.agg #[.pointer (some ⟨5,100,none⟩),.pointer (some b),.int .u64 130]]).run prog W
   =.ok (.tuple #[]) (W.setCell ta (.int .i64 x)):=by
 have a:(sizeOf 100).run prog W=.ok 1 W:=by kernel_rfl
 change Sem.run prog (ReflectliteValue.parts (.agg #[.pointer (some ⟨5,100,none⟩),.pointer (some ta),.int .u64 386])>>=fun c=>ReflectliteValue.parts (.agg #[.pointer (some ⟨5,100,none⟩),.pointer (some b),.int .u64 130])>>=_) W=_;simp only[Sem.run_bind,Q1A,Q1B,Result.andThen];simp[ReflectliteValue.flagAddr,loadVar,isAgg,underlying,underlying100,hb,Result.andThen,Q1C,storeVar,Value.cells,storeCells,Addr.add];rw[run_store prog W ta _ _ (by rfl)];simp[ht,hf]
theorem U8(f:Nat)(o E:Value)(w:World)(hf:w.heap[f]?=some (.cells #[o,E] 114 (0,0))):
  Calls prog 230 #[.pointer (some ⟨f,0,none⟩)] w fun e w'=>e=.returned E/\w'=w:=by
 have a:w.cell? ⟨f,1,none⟩=some E:=y7 hf rfl;clear hf;go_enter func230,ntmps230;go_wp2;go_ret;exact⟨rfl,rfl⟩
structure gU(w:World)(err:Value)(x:Int):Prop where
 ex:∃f1 f2 o1 o2,err=.iface 111 (.pointer (some ⟨f1,0,none⟩))/\w.heap[f1]?=some (.cells #[o1,.iface 111 (.pointer (some ⟨f2,0,none⟩))] 114 (0,0))/\
  w.heap[f2]?=some (.cells #[o2,.iface 100 (.int .i64 x)] 114 (0,0))
theorem Q1E(f1 f2 tb pb:Nat)(o1 o2 old tg:Value)(x:Int)(w:World)
  (h1:w.heap[f1]?=some (.cells #[o1,.iface 111 (.pointer (some ⟨f2,0,none⟩))] 114 (0,0)))
  (h2:w.heap[f2]?=some (.cells #[o2,.iface 100 (.int .i64 x)] 114 (0,0)))
  (hp:w.heap[pb]?=some (.cells #[.pointer (some ⟨tb,0,none⟩)] 222 (0,0)))
  (ht:w.heap[tb]?=some (.cells #[old] 100 (0,0))):
  Calls prog 179 #[.iface 111 (.pointer (some ⟨f1,0,none⟩)),tg,.agg #[.pointer (some ⟨5,222,none⟩),.pointer (some ⟨pb,0,none⟩),.int .u64 150],.iface 254 (.agg #[.pointer (some ⟨5,100,none⟩)])] w
   fun e w'=>e=.returned (.bool true)/\w'.heap[tb]?=some (.cells #[.int .i64 x] 100 (0,0))/\y6 [tb] w w':=by
 have r:= @run_callFunc_extern prog 190 _ ReflectliteType.typeOf func190 (by kernel_rfl) (by kernel_rfl) (by kernel_rfl) (by kernel_rfl);have p:= @run_callFunc_extern prog 286 _ (ReflectliteType.relation "AssignableTo" ReflectliteType.assignableTo) func286 (by kernel_rfl) (by kernel_rfl) (by kernel_rfl) (by kernel_rfl);have s:= @run_callFunc_extern prog 191 _ (ReflectliteValue.method (ReflectliteValue.valueError "reflectlite.Value.Elem" 0) ReflectliteValue.elem) func191 (by kernel_rfl) (by kernel_rfl) (by kernel_rfl) (by kernel_rfl);have q:= @run_callFunc_extern prog 176 _ (fun b=>ReflectliteValue.unpack (b.getD 0 (.tuple #[]))) func176 (by kernel_rfl) (by kernel_rfl) (by kernel_rfl) (by kernel_rfl);have t:= @run_callFunc_extern prog 192 _ ReflectliteValue.set func192 (by kernel_rfl) (by kernel_rfl) (by kernel_rfl) (by kernel_rfl);have E:=Xu;have D:=Q1r;have y:=Q1o;have v:=Q1u;have u:=Yl;have A:=W9;have B:=Q1y;have z:=Q1z;have F:=vOfE;have c:=(y6.refl [] w).alloc (.cells #[.pointer (some ⟨5,222,none⟩),.pointer (some ⟨pb,0,none⟩),.int .u64 150] 233);have j:=c.get h1 (by simp);have k:=c.get h2 (by simp);have l:=c.get hp (by simp);have m:=c.get ht (by simp);have el:=Q1w ⟨pb,0,none⟩ ⟨tb,0,none⟩ _ (y7 l rfl);have n:=(y6.refl [] (w.alloc (.cells #[.pointer (some ⟨5,222,none⟩),.pointer (some ⟨pb,0,none⟩),.int .u64 150] 233))).alloc (.cells #[.int .i64 x] 100);have d:=n.get m (by simp);have f:=af (w.alloc (.cells #[.pointer (some ⟨5,222,none⟩),.pointer (some ⟨pb,0,none⟩),.int .u64 150] 233)) (.cells #[.int .i64 x] 100);rw[ak]at f;have C:=setE ⟨tb,0,none⟩ ⟨w.heap.size+1,0,none⟩ x old _ (y7 f rfl) (y7 d rfl) (ax _ _ _ _ _ d);have o:=yf (i:=0) (.int .i64 x) d;have a:y6 [tb] w (((w.alloc (.cells #[.pointer (some ⟨5,222,none⟩),.pointer (some ⟨pb,0,none⟩),.int .u64 150] 233)).alloc (.cells #[.int .i64 x] 100)).setCell ⟨tb,0,none⟩ (.int .i64 x)):=(((y6.refl _ _).alloc _).alloc _).setCell (Or.inl (by simp)) _;have g:Hid (_/\_):=⟨j,k⟩
 have h:Hid (_/\_):=⟨o,a⟩
 clear h1 h2 hp ht c j k l m n d f o a;go_enter func179,ntmps179;go_wp2;refine dU 3 ?_;rw[dh];go_wp2_with(go_at_call 230;refine(U8 f1 _ _ _ g.out.1).mono ?_;rintro e w'⟨rfl,rfl⟩)
 rw[dh];go_wp2_with(go_at_call 230;refine(U8 f2 _ _ _ g.out.2).mono ?_;rintro e w'⟨rfl,rfl⟩)
 rw[dh];go_wp2;go_ret;exact⟨rfl,h.out.1,h.out.2⟩
end Go.Proofs.YtcklgafpgdhnaaaGreatDoor
namespace Go.Proofs.YtcklgafpgdhnaaaGreatDoor
open Go.RowKit
theorem Q2K(v a:Nat)(bv:Value)(n:Nat)(cv:Value)(D:Dv)(B:List UInt8)(i:Nat)(w:World)(hv:Vol w v a n)(h:DQ w a bv n cv D)(hi:i<n)(hB:B.length=128)(hq:D.q.length<=1000000)(hb:D.bad=false):
  Calls prog 82 #[.pointer (some ⟨v,0,none⟩),.int .i64 i,.agg (u8s B).toArray] w (WrR a bv n cv (fun D' e _=>D'=D.put i B/\e=.returned (.tuple #[])) w):=by
 have G:=TY;have H:=yt h.d;have l:=(y6.refl [] w).alloc (.cells (u8s B).toArray 92);have F:(w.alloc (.cells (u8s B).toArray 92)).cell? ⟨v,0,none⟩=some (.iface 26 (.pointer (some ⟨a,0,none⟩))):=y7 (l.get hv (by simp)) rfl;have C:=h.k0 l;have o:=af w (.cells (u8s B).toArray 92);have u:Hid (DQ (w.alloc (.cells (u8s B).toArray 92)).drew a bv n cv D):=C.k0 (y6.refl _ _).drew;generalize f:w.alloc (.cells (u8s B).toArray 92)=m at*;have x:Hid (w.alloc (.cells (u8s B).toArray 92)=m):=f;clear f;go_enter func82,ntmps82;go_wp2;rw[x.out]
 go_region_with (go_at_call 223;refine(Vj a bv n w.heap.size cv D B 92 i _ u.out hi hB (by exact o) (by omega) hq).mono ?_;rintro e p k;unfold ZD at k;rw[hb]at k;simp only[bj,cQ]at k;obtain⟨rfl,b,g,c,j⟩:=k)
 have r:y6 (yk a bv cv) w p:=(((l.trans (y6.refl _ _).drew).mono (by simp)).trans c)
 have t:Hid (DQ p a bv n b (D.put i B)/\(∀y,b.ownBlock=some y->cv.ownBlock=some y\/m.drew.heap.size<=y)):=⟨g,j⟩
 have z:Hid (y6 (yk a bv cv) w p):=r;have s:w.heap.size<=m.drew.heap.size:=l.size;have A:Hid (w.heap.size<=m.drew.heap.size):=s;clear g j c r s;go_wp2;go_end0;obtain⟨g,j⟩:=t.out;exact⟨b,D.put i B,g,z.out,fun y E=>(j y E).imp id (fun o=>av A.out o),rfl,rfl⟩
theorem Q2L(v a:Nat)(bv:Value)(n:Nat)(cv:Value)(D:Dv)(B:List UInt8)(i:Nat)(w:World)(hv:Vol w v a n)(h:DQ w a bv n cv D)(hi:i<n)(hn:n<=1000)(hB:B.length=128)(hq:D.q.length<=1000000)(hb:D.bad=true)(hT:Tab w):
  Calls prog 82 #[.pointer (some ⟨v,0,none⟩),.int .i64 i,.agg (u8s B).toArray] w (WrR a bv n cv (fun D' e w'=>D'=D.tick/\Thr 6 e w') w):=by
 have J:=TY;have K:=yt h.d;have l:=(y6.refl [] w).alloc (.cells (u8s B).toArray 92);have G:(w.alloc (.cells (u8s B).toArray 92)).cell? ⟨v,0,none⟩=some (.iface 26 (.pointer (some ⟨a,0,none⟩))):=y7 (l.get hv (by simp)) rfl;have z:=h.k0 l;have A:=af w (.cells (u8s B).toArray 92);have u:Hid (DQ (w.alloc (.cells (u8s B).toArray 92)).drew a bv n cv D):=z.k0 (y6.refl _ _).drew;generalize g:w.alloc (.cells (u8s B).toArray 92)=F at*;have x:Hid (w.alloc (.cells (u8s B).toArray 92)=F):=g;clear g;go_enter func82,ntmps82;go_wp2;rw[x.out]
 go_region_with (go_at_call 223;refine(Vj a bv n w.heap.size cv D B 92 i _ u.out hi hB (by exact A) (by omega) hq).mono ?_;rintro e m k;unfold ZD at k;rw[hb]at k;simp only[if_true,eIO]at k;obtain⟨rfl,s,b⟩:=k)
 have p:Hid (y6 [a] w m):=(((l.trans (y6.refl _ _).drew).mono (by simp)).trans b)
 have t:Hid (DQ m a bv n cv D.tick):=s;have C:Tab m:=hT.kept p.out (hT.dqa h);clear s b;go_wp2_with(first|(go_at_call 115;refine(M4 C i (by omega)).mono ?_;rintro e M⟨E,rfl,H,c⟩;have L:¬9223372036854775807<15+E.size:=(by omega))|(go_at_call 62;refine(ZH _ _ _).mono ?_;rintro e N⟨ht,r⟩;obtain⟨f,o,rfl,I⟩:=ht.ex))
 refine⟨rfl,cv,D.tick,(t.out.k0 c).k0 r,(p.out.trans ((c.trans r).mono (by simp))).mono (by intro y j;simp at j;subst j;simp[yk]),fun y j=>Or.inl j,rfl,ht⟩
def Q2M(D:Dv)(i:Nat)(B:List UInt8)(D':Dv)(e:Ending)(w':World):Prop:=(Wn D i B D'/\e=.returned (.tuple #[]))\/(Er D D'/\Thr 6 e w')
theorem Ux(v a:Nat)(bv:Value)(n:Nat)(cv:Value)(D:Dv)(B:List UInt8)(i:Nat)(w:World)(hv:Vol w v a n)(h:DQ w a bv n cv D)(hi:i<n)(hn:n<=1000)(hB:B.length=128)(hq:D.q.length<=1000000)(hT:qM D\/Tab w):
  Calls prog 82 #[.pointer (some ⟨v,0,none⟩),.int .i64 i,.agg (u8s B).toArray] w (WrR a bv n cv (Q2M D i B) w):=by
 cases c:D.bad with
 |false=>exact(Q2K v a bv n cv D B i w hv h hi hB hq c).mono fun e o ⟨b,d,f,g,j,k,l⟩=>⟨b,d,f,g,j,Or.inl ⟨by rw[k];exact Wn.put c i B,l⟩⟩
 |true=>exact(Q2L v a bv n cv D B i w hv h hi hn hB hq c (hT.resolve_left fun m=>by rw[m.bad]at c;cases c)).mono fun e o ⟨b,d,f,g,j,k,l⟩=>⟨b,d,f,g,j,Or.inr ⟨by rw[k];exact Er.tick c,l⟩⟩
def SetP(D D':Dv)(e:Ending)(w':World):Prop:=(Fl D D'/\e=.returned (.tuple #[]))\/(Er D D'/\Thr 6 e w')
theorem On(v a:Nat)(bv:Value)(n:Nat)(cv:Value)(D:Dv)(w:World)(hv:Vol w v a n)(h:DQ w a bv n cv D)(hn:n<=1000)(hq:D.q.length<=1000000):
  Calls prog 52 #[.pointer (some ⟨v,0,none⟩)] w (WrR a bv n cv (SetP D) w):=by
 have p:=Q2F;have l:w.cell? ⟨v,0,none⟩=some (.iface 26 (.pointer (some ⟨a,0,none⟩))):=y7 hv rfl
 cases g:D.bad with
 |false=>
  go_enter func52,ntmps52;go_wp2_with(go_at_call 221;refine(Sa a bv n cv D w h hn hq).mono ?_;rintro e k c;unfold ZE at c;rw[g]at c;simp only[bj,cQ]at c;obtain⟨rfl,i,d⟩:=c)
  go_end0;exact⟨_,_,i,d.mono (by intro y b;rcases an.1 b with rfl|b;exact aZ;exact aq _ (aw _ b)),(by intro y b;cases b),Or.inl ⟨Fl.flush g,rfl⟩⟩
 |true=>
  go_enter func52,ntmps52;go_wp2_with(first|(go_at_call 221;refine(Sa a bv n cv D w h hn hq).mono ?_;rintro e k c;unfold ZE at c;rw[g]at c;simp only[if_true,eIO]at c;obtain⟨rfl,i,d⟩:=c)|(go_at_call 62;refine(ZH _ _ _).mono ?_;rintro e r⟨ht,j⟩;obtain⟨f,o,rfl,m⟩:=ht.ex))
  exact⟨rfl,cv,D.tick,i.k0 j,(d.trans (j.mono (by simp))).mono (by intro y b;simp at b;subst b;simp[yk]),fun y b=>Or.inl b,Or.inr ⟨Er.tick g,ht⟩⟩
end Go.Proofs.YtcklgafpgdhnaaaGreatDoor
namespace Go.Proofs.YtcklgafpgdhnaaaGreatDoor
open Go.RowKit Go.Extern.Stop Go.Stop Go.Extern
def qW(w:World):Prop:=w.cell? ⟨1,0,none⟩=some (.iface 254 (.agg #[.pointer (some ⟨5,35,none⟩)]))
theorem qW.lt{w:World}(h:qW w):1<w.heap.size:=block_lt_of_cell h
theorem qW.kept{S:List Nat}{w w':World}(h:qW w)(k:y6 S w w')(h0:1∉S):qW w':=by
 have b:=h.lt;unfold qW at*;rw[World.cell?_of_block (w:=w) (a:=⟨1,0,none⟩) (k.block 1 b h0)];exact h
theorem Q1F(err:Value)(tb:Nat)(old:Value)(x:Int)(w:World)(hg:qW w)(hc:gU w err x)
  (ht:w.heap[tb]?=some (.cells #[old] 100 (0,0))):
  Calls prog 164 #[err,.iface 222 (.pointer (some ⟨tb,0,none⟩))] w
   fun e w'=>e=.returned (.bool true)/\w'.heap[tb]?=some (.cells #[.int .i64 x] 100 (0,0))/\y6 [tb] w w':=by
 obtain⟨f1,f2,p,q,rfl,h,i⟩:=hc.ex;have u:= @run_callFunc_extern prog 176 _ (fun c=>ReflectliteValue.unpack (c.getD 0 (.tuple #[]))) func176 (by kernel_rfl) (by kernel_rfl) (by kernel_rfl) (by kernel_rfl);have A:= @run_callFunc_extern prog 177 _ (ReflectliteValue.methodAny (ReflectliteValue.valueError "reflectlite.Value.Type" 0) (fun t _ _ _=>ReflectliteType.toType t)) func177 (by kernel_rfl) (by kernel_rfl) (by kernel_rfl) (by kernel_rfl);have B:= @run_callFunc_extern prog 178 _ (ReflectliteValue.method (ReflectliteValue.valueError "reflectlite.Value.IsNil" 0) ReflectliteValue.isNil) func178 (by kernel_rfl) (by kernel_rfl) (by kernel_rfl) (by kernel_rfl);have v:= @run_callFunc_extern prog 217 _ (ReflectliteType.abiMethod fun t=>do pure (.int .u8 (<-Rtype.kind t))) func217 (by kernel_rfl) (by kernel_rfl) (by kernel_rfl) (by kernel_rfl);have y:= @run_callFunc_extern prog 288 _ (ReflectliteType.method ReflectliteType.elem) func288 (by kernel_rfl) (by kernel_rfl) (by kernel_rfl) (by kernel_rfl);have z:= @run_callFunc_extern prog 289 _ (ReflectliteType.relation "Implements" ReflectliteType.implements_) func289 (by kernel_rfl) (by kernel_rfl) (by kernel_rfl) (by kernel_rfl);have f6:=vOf;have f7:=tyOf;have J:=Q1i;have G:=Q1m;have I:=Q1n;have F:=kPtr;have E:=Q1j;have C:=Q1p;have D:=Q1q;have b:=(y6.refl [] w).alloc (.cells #[.pointer (some ⟨tb,0,none⟩)] 222);have k:=af w (.cells #[.pointer (some ⟨tb,0,none⟩)] 222);have a:=(y6.refl [] (w.alloc (.cells #[.pointer (some ⟨tb,0,none⟩)] 222))).alloc (.cells #[.pointer (some ⟨5,222,none⟩),.pointer (some ⟨w.heap.size,0,none⟩),.int .u64 150] 233);have g:=a.get k (by simp);have K:=Q1l ⟨w.heap.size,0,none⟩ ⟨tb,0,none⟩ _ (y7 g rfl);have d:qW _:=(hg.kept b (by simp)).kept a (by simp);have n:=d;unfold qW at n;have m:=a.get (b.get h (by simp)) (by simp);have j:=a.get (b.get i (by simp)) (by simp);have l:=a.get (b.get ht (by simp)) (by simp);have H:=Q1E f1 f2 tb w.heap.size p q old (.iface 222 (.pointer (some ⟨tb,0,none⟩))) x _ m j g l;have o:Hid (Calls _ _ _ _ _):=H;have r:=b.trans a;clear H h i m j ht l k g b a hg d;go_enter func164,ntmps164;go_wp2_with(go_at_call 179;refine o.out.mono ?_;rintro e w'⟨rfl,s,f⟩)
 go_ret;exact⟨rfl,s,(r.mono (by simp)).trans f⟩
theorem Q1G(w:World):Calls prog 131 #[.nilIface] w fun e w'=>e=.returned (.int .i64 0)/\w'=w:=by
 go_enter func131,ntmps131;go_wp2;go_ret;exact⟨rfl,rfl⟩
theorem Q1H(err:Value)(x:Int)(w:World)(hg:qW w)(hc:gU w err x):Calls prog 131 #[err] w fun e w'=>e=.returned (.int .i64 x)/\y6 [] w w':=by
 have b:=(y6.refl [] w).alloc (.cells #[.int .i64 0] 100);have a:gU (w.alloc (.cells #[.int .i64 0] 100)) err x:=by
  obtain⟨f1,f2,f,g,rfl,i,k⟩:=hc.ex;exact⟨f1,f2,f,g,rfl,b.get i (by simp),b.get k (by simp)⟩
 have H:=Q1F err w.heap.size (.int .i64 0) x _ (hg.kept b (by simp)) a (af _ _);have h:Hid (Calls _ _ _ _ _):=H;obtain⟨f1,f2,f,g,rfl,-,-⟩:=hc.ex;clear hc a H hg;go_enter func131,ntmps131;go_wp2_with(go_at_call 164;refine h.out.mono ?_;rintro e w'⟨rfl,l,c⟩;have m:=y7 (j:=0) l rfl)
 go_ret;exact⟨rfl,b.trans2 c (by intro y d;simp at d;subst d;exact Or.inr (ag _))⟩
end Go.Proofs.YtcklgafpgdhnaaaGreatDoor
namespace Go.Proofs.YtcklgafpgdhnaaaGreatDoor
open Go.RowKit
theorem Vp(t r:Nat)(w:World)(ht:(t:Int)<18446744073709551616)(hr:(r:Int)<18446744073709551616):
  Calls prog 117 #[.agg #[.int .u64 t,.int .i64 r]] w fun e w'=>e=.returned (.agg (u8s (sec t r)).toArray)/\y6 [] w w':=by
 go_enter func117,ntmps117;go_wp2_with(first|(refine yj rfl 2 rfl 175 rfl _ (zsec _) ?_;intro b k i A;have H:Hid _:=A;clear A)|(refine yj rfl 3 rfl 175 rfl _ (zsec _) ?_;intro W B c C;have V:Hid _:=C;clear C)|(refine Q2v 60 9 5 underlying60 su8 b.heap.size 0 32 32 Mp (List.replicate 32 0) 175 B (by decide) (by decide) ?_;intro l F q))
 have h:l.heap[w.heap.size]?=some (.cells #[.int .u64 t,.int .i64 r] 76 (0,0)):=by
  have S:=c.get (i.get (af w (.cells #[.int .u64 t,.int .i64 r] 76)) (by simp)) (by simp);exact q.get S (by have:=H.out;simp at this⊢;omega)
 have E:b.heap.size=w.heap.size+1+1:=by have:=H.out;simpa using this
 have g:Hid (b.heap.size=w.heap.size+1+1):=E;have z:l.heap[w.heap.size+1]?=some (.cells (u8s (List.replicate 32 0)).toArray 175 (0,0)):=by
  rw[ak]at k;exact q.get (c.get k (by simp)) (by simp;omega)
 have Q:l.cell? ⟨w.heap.size,0,none⟩=some (.int .u64 t):=y7 h rfl;have J:y6 [] w l:=by
  refine y6.trans2 (y6.trans (y6.trans ((y6.refl _ _).alloc _) i) c) q ?_;intro x a;simp at a;subst a;exact Or.inr (by omega)
 have d:l.heap[b.heap.size]?=some (.cells (u8s sec0).toArray 175 (0,0)):=F;clear F B k i c q E
 go_region_with (go_at_call 151;refine(Oc b.heap.size 8 8 24 sec0 t 175 _ (by exact d) (by omega) (by rw[Qv];omega) ht).mono ?_;rintro e u⟨rfl,m,s⟩)
 have f:u.heap[b.heap.size]?=some (.cells (u8s (sec1 t)).toArray 175 (0,0)):=m;have G:=s.get (w:=l.drew) z (by have:=g.out;simp;omega);have I:=s.get (w:=l.drew) h (by have:=g.out;simp;omega);have R:u.cell? ⟨w.heap.size,1,none⟩=some (.int .i64 r):=y7 I rfl;have K:y6 [] w u:=J.drew.trans2 s (by intro x a;simp at a;subst a;have:=g.out;exact Or.inr (by omega));have N:Hid (IntKind.u64.wrap (r:Int)=r):=by show _=_;rw[IntKind.wrap_u64];omega
 clear m s z d Q J h;go_wp2
 go_region_with (go_at_call 151;rw[N.out];refine(Oc b.heap.size 16 2 16 (sec1 t) r 175 _ (by exact f) (by omega) (by rw[jW];omega) hr).mono ?_;rintro e p⟨rfl,n,j⟩)
 have o:p.heap[b.heap.size]?=some (.cells (u8s (sec2 t r)).toArray 175 (0,0)):=n;have L:=j.get (w:=u.drew) G (by have:=g.out;simp;omega);have M:y6 [] w p:=K.drew.trans2 j (by intro x a;simp at a;subst a;have:=g.out;exact Or.inr (by omega));have v:Hid (Calls prog 152 #[.slice (some ⟨b.heap.size,0,none⟩) 32 32] p fun e w'=>e=.returned (.tuple #[])/\w'.heap[b.heap.size]?=some (.cells (u8s (sec t r)).toArray 175 (0,0))/\y6 [b.heap.size] p w'):=by
  have:=OC b.heap.size (sec2 t r) 175 p o (by rw[qE];omega) (by rw[qE];omega);rw[qE]at this;exact this
 clear n f G j K R I;go_wp2_with(first|(go_at_call 152;refine v.out.mono ?_;rintro e X⟨rfl,U,D⟩;have O:=D.get L (by have:=g.out;simp;omega))|(refine aW rfl 175 (.tmp 3) rfl b.heap.size rfl 175 (u8s (sec t r)).toArray (0,0) _ U underlying175 rfl (by rw[ssec];simp[yd,qL]) ?_)|(refine ye rfl 175 (.tmp 2) (.tmp 17) rfl (w.heap.size+1) (u8s (sec t r)).toArray rfl rfl 175 _ O (by rw[ssec];simp[yd,qL]) (by simp[yd,qL]) (qf (qP _)) ?_;intro T P y))
 refine aR (aI rfl _ T (w.heap.size+1) 175 _ (0,0) _ rfl P underlying175 rfl (by rw[ssec];simp[yd,qL])) rfl ?_;exact⟨rfl,(M.trans2 D (by intro x a;simp at a;subst a;have:=g.out;exact Or.inr (by omega))).trans2 y (by intro x a;simp at a;subst a;exact Or.inr (by omega))⟩
theorem Q2P(p:Addr)(w:World):
  CallsD prog 153 #[.pointer (some p)] .returning w fun e u' w'=>e=.returned (.tuple #[])/\u'=.returning/\w'=w:=by
 refine callsD_of_wpS func153 rfl fun a b hu=> ?_;apply wpS_seq;apply wpS_region;simp[wpOpsS,go_sem,recoverD,hu,ntmps153,Exit.thenS];refine wpS_cond (t:=false) (by simp[Act.eval,Array.replicate]) ?_;simp only[bj,cQ];refine wpS_of_wp (wp_skip ?_)
 cases a
 simp_all[bodyPostS,results,Tryz.results153]
theorem j2(fn:Fn)(first cap:Array Value)(w:World):(Instr.makeFunc fn first cap).run prog w=.ok (.func fn first cap) w:=rfl
theorem Ue(a n cap:Nat)(ao:Option Addr)(cache:Value)(D:Dv)(w:World)(h:DC w a (.slice ao n cap) cache D):
  Calls prog 119 #[.iface 26 (.pointer (some ⟨a,0,none⟩))] w fun e w'=>e=.returned (.int .i64 n)/\y6 [] w w':=by
 have g:=j2;have i:=Q2G;have c:=(y6.refl [] w).alloc (.cells #[.int .i64 0] 3);have b:DC _ a (.slice ao n cap) cache D:=c.get h (by simp)
 go_enter_defers func119,ntmps119
 go_wp2_with(go_at_call 220;refine(Q0c a ao n cap cache D _ b).mono ?_;rintro e w'⟨rfl,rfl⟩)
 refine leaves_cons (f:=153) (args:=#[.pointer (some ⟨w.heap.size,0,none⟩)]) (by simp) (by simp[go_sem]) ?_;refine(Q2P ⟨w.heap.size,0,none⟩ _).mono ?_;rintro e j d⟨rfl,rfl,rfl⟩;simp[Leaves,settle,results,Tryz.results119,go_sem];exact(y6.refl _ _).alloc _
def L9(x:Int)(w:World)(e:Ending)(w':World):Prop:=
 ∃f o,e=.panicked [{v:=.iface 147 (.agg #[.iface 111 (.pointer (some ⟨f,0,none⟩))]),recovered:=false}]/\
  w'.heap[f]?=some (.cells #[o,.iface 100 (.int .i64 x)] 114 (0,0))/\y6 [] w w'
theorem jy(o:ByteArray)(x:Int)(w:World):Calls prog 62 #[.string o,.int .i64 x] w (L9 x w):=by
 go_enter func62,ntmps62;go_wp2;exact⟨rfl,w.heap.size,.string o,rfl,af _ _,(y6.refl _ _).alloc _⟩
def Q2S(a n:Nat)(w:World)(e:Ending)(w':World):Prop:=∃v,e=.returned (.pointer (some ⟨v,0,none⟩))/\Vol w' v a n/\w.heap.size<=v/\y6 [] w w'
theorem Tn(a n cap:Nat)(ao:Option Addr)(cache:Value)(D:Dv)(w:World)(h:DC w a (.slice ao n cap) cache D)(h8:8<=n)(h4:n<=400):
  Calls prog 87 #[.iface 26 (.pointer (some ⟨a,0,none⟩))] w (Q2S a n w):=by
 have d:¬(n:Int)<8:=by omega
 have c:¬(400:Int)<n:=by omega
 go_enter func87,ntmps87;go_wp2_with(go_at_call 119;refine(Ue a n cap ao cache D _ h).mono ?_;rintro e f⟨rfl,b⟩)
 go_ret;exact⟨_,rfl,af _ _,b.size,b.alloc _⟩
theorem UQ(a n cap:Nat)(ao:Option Addr)(cache:Value)(D:Dv)(w:World)(h:DC w a (.slice ao n cap) cache D)(hn:n<8\/400<n):
  Calls prog 87 #[.iface 26 (.pointer (some ⟨a,0,none⟩))] w (L9 8 w):=by
 rcases hn with hn|hn
 focus
  have b:(n:Int)<8:=by omega
 rotate_left
 focus
  have b:¬(n:Int)<8:=by omega
  have i:(400:Int)<n:=by omega
 rotate_left
 all_goals
  go_enter func87,ntmps87;go_wp2_with(first|(go_at_call 119;refine(Ue a n cap ao cache D _ h).mono ?_;rintro e j⟨rfl,g⟩)|(go_at_call 62;refine(jy _ _ _).mono ?_;rintro e k⟨f,o,rfl,c,d⟩))
  exact⟨rfl,f,o,rfl,c,g.trans d⟩
theorem TD(args:Array Value)(w:World):(callFunc 118 args).run prog w=.ok (.enter 118 args) w:=qy func118 (by kernel_rfl) (by kernel_rfl) args w
theorem Q8b(args:Array Value)(w:World):(callFunc 117 args).run prog w=.ok (.enter 117 args) w:=qy func117 (by kernel_rfl) (by kernel_rfl) args w
theorem UH(args:Array Value)(w:World):(callFunc 154 args).run prog w=.ok (.enter 154 args) w:=qy func154 (by kernel_rfl) (by kernel_rfl) args w
theorem Up(args:Array Value)(w:World):(callFunc 82 args).run prog w=.ok (.enter 82 args) w:=qy func82 (by kernel_rfl) (by kernel_rfl) args w
variable {P:Program}{w:World}
theorem Q8e{o:Oper}{a:Act}(t u:TypeId)(x y:Operand)(ho:o.op=.binOp .neq t x y u)(p q:Int)(hx:a.eval x=.int .i64 p)(hy:a.eval y=.int .i64 q):
  (execOp a.eval o).run P w=.ok (.value (.bool (p !=q))) w:=by
 unfold execOp;simp only[ho,hx,hy,Sem.run_bind,eqGuard_at_int,Sem.run_pure,Result.andThen_ok];rfl
theorem Xb{o:Oper}{a:Act}(t u:TypeId)(x y:Operand)(ho:o.op=.binOp .neq t x y u)(A B:List UInt8)(hx:a.eval x=.agg (u8s A).toArray)(hy:a.eval y=.agg (u8s B).toArray)
  (len:Nat)(e:TypeId)(hA:A.length=len)(hB:B.length=len)(ht:P.underlying t=some (.array len e))(he:P.underlying e=some (.int .u8))(hs:(P.info? e).map (·.size)=some 1)(hm:P.eqGuardType P.depth t=false):
  (execOp a.eval o).run P w=.ok (.value (.bool (!decide (A=B)))) w:=by
 unfold execOp;simp only[ho,hx,hy,Sem.run_bind,run_eqGuard_agg (P:=P) (w:=w) .neq t x y _ _ hm,Q88 P w len t e A B hA hB ht he hs,Result.andThen_ok,Sem.run_pure]
theorem LS:(prog.info? 76).map (·.size)=some 2:=by kernel_rfl
theorem res2{fn:Func}{p u:Tmp}{ty:TypeId}(h:fn.results=#[.cell p ty,.tmp u])(tmps:Array Value)(w:World)(g:Nat)(t:TypeId)(cs:Array Value)(fr:Nat×Nat)(d:TypeDesc)(b:Value)
  (hp:tmps.getD p undef=.pointer (some ⟨g,0,none⟩))(hb:tmps.getD u undef=b)(hg:w.heap[g]?=some (.cells cs t fr))
  (hu:P.underlying ty=some d)(hd:(match d with| .struct _| .array _ _=>true|_=>false)=true)(hi:(P.info? ty).map (·.size)=some cs.size):
  (results fn tmps).run P w=.ok (.tuple #[.agg cs,b]) w:=by
 rw[results_cell_tmp h,hp,hb];simp[asAddr,df w g t ty cs fr d hg hu hd hi]
def rdH(i:Nat)(B:List UInt8):Option (Nat×Nat):=
 if qt ((B.drop 8).take 8)%2=i/\sec (qt ((B.drop 8).take 8)) (qt ((B.drop 16).take 2))=B.take 32 then some (qt ((B.drop 8).take 8),qt ((B.drop 16).take 2))else none
def hdV:Option (Nat×Nat)->Value
 |some (t,r)=> .tuple #[.agg #[.int .u64 t,.int .i64 r],.bool true]
 |none=> .tuple #[.agg #[.int .u64 0,.int .i64 0],.bool false]
structure HrS(w:World)(g a:Nat)(bv:Value)(n:Nat)(cv:Value)(D:Dv)(B:List UInt8)(hv:Array Value)(W:World):Prop where
 h:W.heap[w.heap.size]?=some (.cells hv 76 (0,0))
 b:W.heap[g]?=some (.cells (u8s B).toArray 92 (0,0))
 d:DQ W a bv n cv D
 k:y6 [a] w W
variable {B:List UInt8}{hv:Array Value}
theorem HrS.kept{g a:Nat}{bv:Value}{n:Nat}{cv:Value}{D:Dv}{W W':World}(h:HrS w g a bv n cv D B hv W)(k:y6 [] W W'):HrS w g a bv n cv D B hv W':=
 ⟨k.get h.h (by simp),k.get h.b (by simp),h.d.k0 k,h.k.trans2 k (by simp)⟩
theorem HrS.set{g a:Nat}{bv:Value}{n:Nat}{cv:Value}{D:Dv}{hv':Array Value}{W W':World}(h:HrS w g a bv n cv D B hv W)(hg:g≠w.heap.size)(ha:w.heap.size∉yk a bv cv)(k:y6 [w.heap.size] W W')(hh:W'.heap[w.heap.size]?=some (.cells hv' 76 (0,0))):HrS w g a bv n cv D B hv' W':=
 ⟨hh,k.get h.b (by simpa using hg),h.d.k1 k ha,h.k.trans2 k (by intro x c;simp at c;subst c;exact Or.inr (ag _))⟩
def HrR(a:Nat)(bv:Value)(n:Nat)(cv:Value)(D':Dv)(v:Value)(w:World)(e:Ending)(w':World):Prop:=e=.returned v/\DQ w' a bv n cv D'/\y6 [a] w w'
theorem Ps(v a:Nat)(bv:Value)(n:Nat)(cv:Value)(D:Dv)(i:Nat)(w:World)(hv:Vol w v a n)(h:DQ w a bv n cv D)(hi:i<n)(hn:n<=1000)(hq:D.q.length<=1000000)(hb:D.bad=false):
  Calls prog 120 #[.pointer (some ⟨v,0,none⟩),.int .i64 i] w (HrR a bv n cv D.tick (hdV (rdH i (D.view i))) w):=by
 have r:(D.view i).length=128:=M0 (gE D.L n i h.l hi) h.q;generalize hB:D.view i=B at*;have HB:Hid (D.view i=B):=hB;clear hB;have k0:=(y6.refl [] w).alloc (.cells #[.int .u64 0,.int .i64 0] 76);have n0:=af w (.cells #[.int .u64 0,.int .i64 0] 76);have rm:((B.drop 8).take 8).length=8:=by rw[au,aC,r];rfl
 have o:((B.drop 16).take 2).length=2:=by rw[au,aC,r];rfl
 have lB:=QY ((B.drop 8).take 8);have nP:=QY ((B.drop 16).take 2);rw[rm]at lB;rw[o]at nP;have Y:=h.ge (ag _);have zg:Hid (∀b1 b2:Bool,decide (qt ((B.drop 8).take 8)%2=i)=b1->decide (sec (qt ((B.drop 8).take 8)) (qt ((B.drop 16).take 2))=B.take 32)=b2->rdH i B=if b1&&b2 then some (qt ((B.drop 8).take 8),qt ((B.drop 16).take 2))else none):=by
  intro b1 b2 e1 e2;subst e1 e2;simp only[rdH,cz,cE]
 have J:Hid (∀W:World,∀g:Nat,W.heap[g]?=some (.cells (u8s B).toArray 92 (0,0))->Calls prog 154 #[.slice (some ⟨g,8,none⟩) 8 120] W fun e w'=>e=.returned (.int .u64 (qt ((B.drop 8).take 8)))/\w'=W):=fun W g m=>P9 g 8 120 8 8 B 92 (0,0) W m rm (by omega);have wJ:Hid (∀W:World,∀g:Nat,W.heap[g]?=some (.cells (u8s B).toArray 92 (0,0))->Calls prog 154 #[.slice (some ⟨g,16,none⟩) 2 112] W fun e w'=>e=.returned (.int .u64 (qt ((B.drop 16).take 2)))/\w'=W):=fun W g m=>P9 g 16 112 2 2 B 92 (0,0) W m o (by omega);generalize qt ((B.drop 8).take 8)=T at*;generalize qt ((B.drop 16).take 2)=R at*;have Ic:(T:Int)<18446744073709551616:=by have:(2:Nat)^(8*8)=18446744073709551616:=(by decide);omega
 have hRi:(R:Int)<65536:=by have:(2:Nat)^(8*2)=65536:=(by decide);omega
 clear lB nP rm o;go_enter func120,ntmps120;go_wp2_with(first|(go_at_call 124;refine(SF v a bv n cv D i _ (k0.get hv (by simp)) (h.k0 k0) hi hn hq hb).mono ?_;rintro e w1⟨iF,fO,C⟩;rw[HB.out]at iF;subst iF;have n1:=C.get n0 (by have:=Y;simp only[yk,an,not_or]at this;simpa using this.1))|(refine yj rfl 6 rfl 92 rfl _ (zblk _) ?_;intro w2 Q E eS;clear eS;have n2:=E.get n1 (by simp))|(refine ye rfl 92 (.tmp 6) (.tmp 9) rfl w1.heap.size (u8s B).toArray rfl rfl 92 _ Q (by rw[QM];simp[yd,r]) (by simp[yd,r]) (qf (qP _)) ?_;intro I fT F))
 have V:=C.size;rw[ak]at V;have O:w1.heap.size≠w.heap.size:=by omega
 have M:HrS w w1.heap.size a bv n cv D.tick B #[.int .u64 0,.int .i64 0] I:=by
  refine⟨F.get n2 (by simpa using O.symm),fT,(fO.k0 E).k1 F (fO.ge (ag _)),?_⟩;refine y6.trans2 (y6.trans (y6.trans (k0.mono (by simp)) C) (E.mono (by simp))) F ?_;intro x hx;simp at hx;subst hx;exact Or.inr (by omega)
 clear C E F n1 n2 Q fT fO k0 n0 h hv V;generalize w1.heap.size=g at*;have HW:Hid (IntKind.i64.wrap (R:Int)=R):=by show _=_;rw[IntKind.wrap_i64];omega
 have s:=M.kept (y6.refl [] I).drew;refine wp_region_held (S:=fun W=>∃hv,HrS w g a bv n cv D.tick B hv W) (by kernel_rfl) ?_;refine hu 0 (.slice (some ⟨g,8,none⟩) 8 120) rfl (fun W m=>by rfl) ⟨_,s⟩ ?_;refine uh 2 (.slice (some ⟨g,16,none⟩) 2 112) rfl (fun W m=>by rfl) ⟨_,s⟩ ?_;refine yi (i:=1) (by kernel_rfl) (yp rfl (by rfl) 154 #[.slice (some ⟨g,8,none⟩) 8 120] (yn _ _ _ rfl _ (by simp[Act.eval]) (UH _ _)) _ (J.out _ g s.b) ?_);rintro e W4⟨rfl,rfl⟩;refine⟨_,rfl,⟨_,s⟩,?_⟩;simp only[zz];refine yi (i:=3) (by kernel_rfl) (yp rfl (by rfl) 154 #[.slice (some ⟨g,16,none⟩) 2 112] (yn _ _ _ rfl _ (by simp[Act.eval]) (UH _ _)) _ (wJ.out _ g s.b) ?_);rintro e W4⟨rfl,rfl⟩;refine⟨_,rfl,⟨_,s⟩,?_⟩;refine hu 4 (.int .i64 (IntKind.i64.wrap (R:Int))) rfl (fun W m=>TF 74 3 (.tmp 13) rfl .u64 .i64 _ R rfl underlying74 underlying3) ⟨_,s⟩ ?_;rw[HW.out];refine hu 5 (.agg #[.int .u64 T,.int .i64 R]) rfl (fun W m=>QU 76 (.tmp 11) (.tmp 14) 0 1 rfl _ _ _ rfl rfl (by kernel_rfl)) ⟨_,s⟩ ?_;obtain⟨w4,uV⟩:∃w4,w4=I.drew.setRow w.heap.size #[.int .u64 (T:Int),.int .i64 (R:Int)]:=⟨_,rfl⟩
 have U:(storeVar 76 ⟨w.heap.size,0,none⟩ (.agg #[.int .u64 (T:Int),.int .i64 (R:Int)])).run prog I.drew=.ok () w4:=by
  rw[uV];exact yI (P:=prog) I.drew w.heap.size 0 76 76 [.int .u64 0,.int .i64 0] [.int .u64 (T:Int),.int .i64 (R:Int)] s.h (by rw[LS];rfl) (by simp) (by intro u hu;simp at hu;rcases hu with rfl|rfl<;>rfl)
 have N:HrS w g a bv n cv D.tick B #[.int .u64 (T:Int),.int .i64 (R:Int)] w4:=by
  rw[uV];exact s.set O Y ((y6.refl [w.heap.size] I.drew).setRow (Or.inl (by simp)) _) (bH _ _ _ _ _ _ s.h)
 clear uV;refine yi (i:=6) (by kernel_rfl) (qo rfl rfl _ (yK 76 (.tmp 4) (.tmp 15) rfl ⟨w.heap.size,0,none⟩ rfl _ rfl U) ⟨⟨_,N⟩,?_⟩);refine aK (by kernel_rfl) ?_ _;simp only[zz];clear U M s J wJ HW;go_wp2_with fail;have Z:=N.kept (y6.refl [] w4).drew;have Cq:∀j v,(u8s (B.take 32))[j]?=some v->(u8s B)[0+j]?=some v:=by
  intro j v hv;rw[bL];rw[Qo]at hv⊢;rw[aD]at hv;split at hv
  ·exact hv
  ·simp at hv
 refine wp_region_held (S:=HrS w g a bv n cv D.tick B #[.int .u64 T,.int .i64 R]) (by kernel_rfl) ?_;refine uh 0 (.agg #[.int .u64 T,.int .i64 R]) rfl (fun W m=>y9 76 (.tmp 4) rfl ⟨w.heap.size,0,none⟩ rfl _ (df W _ _ _ _ _ _ m.h underlying76 rfl LS)) Z ?_;refine uh 2 (.int .i64 i) rfl (fun W m=>by rfl) Z ?_;refine yi (i:=1) (by kernel_rfl) (yp rfl (by rfl) 118 #[.agg #[.int .u64 T,.int .i64 R]] (yn _ _ _ rfl _ (by simp[Act.eval]) (TD _ _)) _ (WN T R _) ?_);rintro e G⟨rfl,k5⟩;have c:=Z.kept k5;refine⟨_,rfl,c,?_⟩;refine uh 3 (.bool (((T%2:Nat):Int) !=(i:Int))) rfl (fun W m=>Q8e 3 3 (.tmp 17) (.tmp 18) rfl _ _ rfl rfl) c ?_
 by_cases z:T%2=i
 ·have H:(((T%2:Nat):Int) !=(i:Int))=false:=by simp[z]
  rw[H];refine uh 4 (.bool false) rfl (fun W m=>by rfl) c ?_;refine uh 5 (.agg #[.int .u64 T,.int .i64 R]) rfl (fun W m=>y9 76 (.tmp 4) rfl ⟨w.heap.size,0,none⟩ rfl _ (df W _ _ _ _ _ _ m.h underlying76 rfl LS)) c ?_;refine uh 7 (.slice (some ⟨g,0,none⟩) 32 128) rfl (fun W m=>by rfl) c ?_;refine uh 8 (.pointer (some ⟨g,0,none⟩)) rfl (fun W m=>by rfl) c ?_;refine uh 9 (.agg (u8s (B.take 32)).toArray) rfl (fun W m=>y9 175 (.tmp 24) rfl ⟨g,0,none⟩ rfl _ (yQ W _ 0 _ _ (u8s B) (u8s (B.take 32)) _ _ m.b underlying175 rfl (by rw[ssec,yd,au,r];rfl) Cq)) c ?_;refine yi (i:=6) (by kernel_rfl) (yp rfl (by rfl) 117 #[.agg #[.int .u64 T,.int .i64 R]] (yn _ _ _ rfl _ (by simp[Act.eval]) (Q8b _ _)) _ (Vp T R _ Ic (by omega)) ?_);rintro e y⟨rfl,k6⟩;have f:=c.kept k6;refine⟨_,rfl,f,?_⟩;refine uh 10 (.bool (!decide (sec T R=B.take 32))) rfl (fun W m=>Xb 175 175 (.tmp 22) (.tmp 25) rfl (sec T R) (B.take 32) rfl rfl 32 5 (qL T R) (by rw[au,r];rfl) underlying175 underlying5 su8 (by kernel_rfl)) f ?_
  by_cases A:sec T R=B.take 32
  focus
   have hD:(!decide (sec T R=B.take 32))=false:=by simp[A]
   rw[hD];refine uh 11 (.bool false) rfl (fun W m=>by rfl) f ?_;refine aK (by kernel_rfl) ?_ _;have K:Hid (rdH i B=some (T,R)):=zg.out true true (by simp[z]) (by simp[A])
  rotate_left
  focus
   have hD:(!decide (sec T R=B.take 32))=true:=by simp[A]
   rw[hD];refine uh 11 (.bool true) rfl (fun W m=>by rfl) f ?_;refine aK (by kernel_rfl) ?_ _;have K:Hid (rdH i B=none):=zg.out true false (by simp[z]) (by simp[A])
  rotate_left
  all_goals
   clear hD zg c Z k5 k6;have e0:y.cell? ⟨w.heap.size,0,none⟩=some (.int .u64 T):=y7 f.h rfl;have e1:y.cell? ⟨w.heap.size,1,none⟩=some (.int .i64 R):=y7 f.h rfl;have f0:y.frozen? ⟨w.heap.size,0,none⟩=false:=ax _ _ _ _ _ f.h;have f1:y.frozen? ⟨w.heap.size,1,none⟩=false:=ax _ _ _ _ _ f.h;go_wp2
  ·have X:y6 [w.heap.size] y ((y.setCell ⟨w.heap.size,0,none⟩ (.int .u64 (T:Int))).setCell ⟨w.heap.size,1,none⟩ (.int .i64 (R:Int))):=((y6.refl [w.heap.size] y).setCell (p:=⟨w.heap.size,0,none⟩) (Or.inl (by simp)) _).setCell (p:=⟨w.heap.size,1,none⟩) (Or.inl (by simp)) _;have t:=f.set (hv':=#[.int .u64 (T:Int),.int .i64 (R:Int)]) O Y X (yf (i:=1) (.int .i64 (R:Int)) (yf (i:=0) (.int .u64 (T:Int)) f.h));refine aR (res2 rfl _ _ w.heap.size 76 #[.int .u64 (T:Int),.int .i64 (R:Int)] (0,0) _ _ rfl rfl t.h underlying76 rfl LS) rfl ?_;exact⟨by rw[K.out];rfl,t.d,t.k⟩
  ·have X:y6 [w.heap.size] y ((y.setCell ⟨w.heap.size,0,none⟩ (.int .u64 0)).setCell ⟨w.heap.size,1,none⟩ (.int .i64 0)):=((y6.refl [w.heap.size] y).setCell (p:=⟨w.heap.size,0,none⟩) (Or.inl (by simp)) _).setCell (p:=⟨w.heap.size,1,none⟩) (Or.inl (by simp)) _;have t:=f.set (hv':=#[.int .u64 0,.int .i64 0]) O Y X (yf (i:=1) (.int .i64 0) (yf (i:=0) (.int .u64 0) f.h));refine aR (res2 rfl _ _ w.heap.size 76 #[.int .u64 0,.int .i64 0] (0,0) _ _ rfl rfl t.h underlying76 rfl LS) rfl ?_;exact⟨by rw[K.out];rfl,t.d,t.k⟩
 ·have H:(((T%2:Nat):Int) !=(i:Int))=true:=by rw[bne_iff_ne];omega
  rw[H];refine uh 4 (.bool true) rfl (fun W m=>by rfl) c ?_;refine bU (i:=5) (v:=undef) rfl (by kernel_rfl) (by kernel_rfl) (by kernel_rfl) (fun _ _ _ h=>h) (Or.inr ⟨by rfl,rfl⟩) c ?_;simp only[zz];refine bU (i:=6) (v:=undef) rfl (by kernel_rfl) (by kernel_rfl) (by kernel_rfl) (fun _ _ _ h=>h) (Or.inr ⟨by rfl,rfl⟩) c ?_;simp only[zz];refine bU (i:=7) (v:=undef) rfl (by kernel_rfl) (by kernel_rfl) (by kernel_rfl) (fun _ _ _ h=>h) (Or.inr ⟨by rfl,rfl⟩) c ?_;simp only[zz];refine bU (i:=8) (v:=undef) rfl (by kernel_rfl) (by kernel_rfl) (by kernel_rfl) (fun _ _ _ h=>h) (Or.inr ⟨by rfl,rfl⟩) c ?_;simp only[zz];refine bU (i:=9) (v:=undef) rfl (by kernel_rfl) (by kernel_rfl) (by kernel_rfl) (fun _ _ _ h=>h) (Or.inr ⟨by rfl,rfl⟩) c ?_;simp only[zz];refine bU (i:=10) (v:=undef) rfl (by kernel_rfl) (by kernel_rfl) (by kernel_rfl) (fun _ _ _ h=>h) (Or.inr ⟨by rfl,rfl⟩) c ?_;simp only[zz];refine uh 11 (.bool true) rfl (fun W m=>by rfl) c ?_;refine aK (by kernel_rfl) ?_ _;have K:Hid (rdH i B=none):=zg.out false _ (by simp[z]) rfl;clear zg Z k5;have e0:G.cell? ⟨w.heap.size,0,none⟩=some (.int .u64 T):=y7 c.h rfl;have e1:G.cell? ⟨w.heap.size,1,none⟩=some (.int .i64 R):=y7 c.h rfl;have f0:G.frozen? ⟨w.heap.size,0,none⟩=false:=ax _ _ _ _ _ c.h;have f1:G.frozen? ⟨w.heap.size,1,none⟩=false:=ax _ _ _ _ _ c.h;go_wp2;have X:y6 [w.heap.size] G ((G.setCell ⟨w.heap.size,0,none⟩ (.int .u64 0)).setCell ⟨w.heap.size,1,none⟩ (.int .i64 0)):=((y6.refl [w.heap.size] G).setCell (p:=⟨w.heap.size,0,none⟩) (Or.inl (by simp)) _).setCell (p:=⟨w.heap.size,1,none⟩) (Or.inl (by simp)) _;have t:=c.set (hv':=#[.int .u64 0,.int .i64 0]) O Y X (yf (i:=1) (.int .i64 0) (yf (i:=0) (.int .u64 0) c.h));refine aR (res2 rfl _ _ w.heap.size 76 #[.int .u64 0,.int .i64 0] (0,0) _ _ rfl rfl t.h underlying76 rfl LS) rfl ?_;exact⟨by rw[K.out];rfl,t.d,t.k⟩
theorem WB(v a:Nat)(bv:Value)(n:Nat)(cv:Value)(D:Dv)(i:Nat)(w:World)(hv:Vol w v a n)(h:DQ w a bv n cv D)(hi:i<n)(hn:n<=1000)(hq:D.q.length<=1000000)(hb:D.bad=true)(hT:Tab w):
  Calls prog 120 #[.pointer (some ⟨v,0,none⟩),.int .i64 i] w fun e w'=>Thr 6 e w'/\DQ w' a bv n cv D.tick/\y6 [a] w w':=by
 have b:=(y6.refl [] w).alloc (.cells #[.int .u64 0,.int .i64 0] 76);have d:Hid (Calls _ _ _ _ _):=T9 v a bv n cv D i _ (b.get hv (by simp)) (h.k0 b) hi hn hq hb (hT.k b);go_enter func120,ntmps120;go_wp2_with(go_at_call 124;refine d.out.mono ?_;rintro e l⟨ht,g,c⟩;obtain⟨f,o,rfl,j⟩:=ht.ex)
 exact⟨rfl,ht,g,(b.mono (by simp)).trans c⟩
def nwst(o0 o1:Option (Nat×Nat)):(Nat×Nat)×Bool:=match o0,o1 with
 |some e,some o=>if nwr o.1 e.1 then(o,true)else(e,true)
 |some e,none=>(e,false)
 |none,some o=>(o,false)
 |none,none=>((0,0),false)
def nwV(x:(Nat×Nat)×Bool):Value:=.tuple #[.agg #[.int .u64 x.1.1,.int .i64 x.1.2],.bool x.2]
theorem TE(o:Option (Nat×Nat)):∃t r:Nat,hdV o=.tuple #[.agg #[.int .u64 t,.int .i64 r],.bool o.isSome]/\∀x,o=some x->x=(t,r):=by
 cases o with
 |none=>exact⟨0,0,rfl,fun x h=>by cases h⟩
 |some x=>exact⟨x.1,x.2,rfl,fun y h=>by cases h;rfl⟩
theorem Q8k(v a:Nat)(bv:Value)(n:Nat)(cv:Value)(D:Dv)(w:World)(hv:Vol w v a n)(h:DQ w a bv n cv D)(fM:8<=n)(hn:n<=1000)(hq:D.q.length<=1000000)(hb:D.bad=false)(hb2:D.tick.bad=false):
  Calls prog 88 #[.pointer (some ⟨v,0,none⟩)] w (HrR a bv n cv D.tick.tick (nwV (nwst (rdH 0 (D.view 0)) (rdH 1 (D.view 1)))) w):=by
 have Q:v∉ [a]:=by simpa using yP hv h.d (by decide)
 have S:=h.ge (ag _);have t:w.heap.size∉ [a]:=by have:=S;simp only[yk,an,not_or]at this;simpa using this.1
 have C:Hid (∀W,Vol W v a n->DQ W a bv n cv D->Calls prog 120 #[.pointer (some ⟨v,0,none⟩),.int .i64 0] W (HrR a bv n cv D.tick (hdV (rdH 0 (D.view 0))) W)):=fun W L K=>Ps v a bv n cv D 0 W L K (by omega) hn hq hb;have E:Hid (∀W,Vol W v a n->DQ W a bv n cv D.tick->Calls prog 120 #[.pointer (some ⟨v,0,none⟩),.int .i64 1] W (HrR a bv n cv D.tick.tick (hdV (rdH 1 (D.view 1))) W)):=fun W L K=>Ps v a bv n cv D.tick 1 W L K (by omega) hn hq hb2;generalize rdH 0 (D.view 0)=r at C⊢;generalize rdH 1 (D.view 1)=j at E⊢;obtain⟨t0,o,V,x0⟩:=TE r;obtain⟨t1,b,X,T⟩:=TE j;rw[V]at C;rw[X]at E;have F:nwst r j=if r.isSome then(if j.isSome then(if nwr t1 t0 then((t1,b),true)else((t0,o),true))else((t0,o),false))else if j.isSome then((t1,b),false)else((0,0),false):=by
  cases r with
  |none=>
   cases j with
   |none=>rfl
   |some q=>have:=T q rfl;subst this;rfl
  |some p=>
   have:=x0 p rfl;subst this
   cases j with
   |none=>rfl
   |some q=>have:=T q rfl;subst this;rfl
 generalize nwst r j=Z at F⊢;have B:Hid _:=F;clear F V X x0 T;generalize r.isSome=c0 at C B;generalize j.isSome=c1 at E B;have G:=(y6.refl [] w).alloc (.cells #[.int .u64 0,.int .i64 0] 76);have n0:=af w (.cells #[.int .u64 0,.int .i64 0] 76);go_enter func88,ntmps88;go_wp2_with fail;refine(C.out _ (G.get hv (by simp)) (h.k0 G)).mono ?_;rintro e k⟨rfl,Y,l⟩;have n1:=l.get n0 t;have N:Vol k v a n:=l.get (G.get hv (by simp)) Q;have H:=(y6.refl [] k).alloc (.cells #[.int .u64 (t0:Int),.int .i64 (o:Int)] 76);have m2:=af k (.cells #[.int .u64 (t0:Int),.int .i64 (o:Int)] 76);have n2:=H.get n1 (by simp);have M:=yt n1;go_wp2_with fail;refine(E.out _ (H.get N (by simp)) (Y.k0 H)).mono ?_;rintro e c⟨rfl,fF,g⟩;have n3:=g.get n2 t;have m3:=g.get m2 (by have:=Y.ge (ag _);simp only[yk,an,not_or]at this;simpa using this.1);have O:k.heap.size+1<=c.heap.size:=by have:=g.size;rwa[ak]at this
 have z:=(y6.refl [] c).alloc (.cells #[.int .u64 (t1:Int),.int .i64 (b:Int)] 76);have m:=z.get n3 (by simp);have I:=z.get m3 (by simp);have P:=fF.k0 z;have R:y6 [a] w (c.alloc (.cells #[.int .u64 (t1:Int),.int .i64 (b:Int)] 76)):=(((G.mono (by simp)).trans l).trans2 H (by simp)).trans g|>.trans2 z (by simp)
 have a0:(c.alloc (.cells #[.int .u64 (t1:Int),.int .i64 (b:Int)] 76)).cell? ⟨k.heap.size,0,none⟩=some (.int .u64 (t0:Int)):=y7 I rfl;have a1:(c.alloc (.cells #[.int .u64 (t1:Int),.int .i64 (b:Int)] 76)).cell? ⟨k.heap.size,1,none⟩=some (.int .i64 (o:Int)):=y7 I rfl;have b0:(c.alloc (.cells #[.int .u64 (t1:Int),.int .i64 (b:Int)] 76)).cell? ⟨w.heap.size,0,none⟩=some (.int .u64 0):=y7 m rfl;have b1:(c.alloc (.cells #[.int .u64 (t1:Int),.int .i64 (b:Int)] 76)).cell? ⟨w.heap.size,1,none⟩=some (.int .i64 0):=y7 m rfl;have f0:(c.alloc (.cells #[.int .u64 (t1:Int),.int .i64 (b:Int)] 76)).frozen? ⟨w.heap.size,0,none⟩=false:=ax _ _ _ _ _ m;have f1:(c.alloc (.cells #[.int .u64 (t1:Int),.int .i64 (b:Int)] 76)).frozen? ⟨w.heap.size,1,none⟩=false:=ax _ _ _ _ _ m;clear M O;have J:Hid _:=P;have Ie:Hid _:=R;rcases c0 with _|_<;>rcases c1 with _|_;rotate_left 3
 focus
  go_wp2_with fail;refine(Q2u t1 b t0 o _).mono ?_;rintro e f⟨rfl,s⟩;have p5:=s.get (af c (.cells #[.int .u64 (t1:Int),.int .i64 (b:Int)] 76)) (by simp);have A:=s.get m (by simp);have m5:=s.get I (by simp);have pS:=P.k0 s;have lR:=R.trans2 s (by simp);have KH:f.cell? ⟨k.heap.size,0,none⟩=some (.int .u64 (t0:Int)):=y7 m5 rfl;have a51:f.cell? ⟨k.heap.size,1,none⟩=some (.int .i64 (o:Int)):=y7 m5 rfl;have KI:f.cell? ⟨w.heap.size,0,none⟩=some (.int .u64 0):=y7 A rfl;have KJ:f.cell? ⟨w.heap.size,1,none⟩=some (.int .i64 0):=y7 A rfl;have d50:f.cell? ⟨c.heap.size,0,none⟩=some (.int .u64 (t1:Int)):=y7 p5 rfl;have d51:f.cell? ⟨c.heap.size,1,none⟩=some (.int .i64 (b:Int)):=y7 p5 rfl;have f50:f.frozen? ⟨w.heap.size,0,none⟩=false:=ax _ _ _ _ _ A;have f51:f.frozen? ⟨w.heap.size,1,none⟩=false:=ax _ _ _ _ _ A;have k6:∀x y:Int,y6 [w.heap.size] f ((f.setCell ⟨w.heap.size,0,none⟩ (.int .u64 x)).setCell ⟨w.heap.size,1,none⟩ (.int .i64 y)):=fun x y=>((y6.refl [w.heap.size] f).setCell (p:=⟨w.heap.size,0,none⟩) (Or.inl (by simp)) _).setCell (p:=⟨w.heap.size,1,none⟩) (Or.inl (by simp)) _
  cases hN:nwr t1 t0
  all_goals
   go_wp2;refine aR (res2 rfl _ _ w.heap.size 76 #[.int .u64 _,.int .i64 _] (0,0) _ _ rfl rfl (yf (i:=1) (.int .i64 _) (yf (i:=0) (.int .u64 _) A)) underlying76 rfl LS) rfl ?_;exact⟨by rw[B.out,hN];rfl,pS.k1 (k6 _ _) S,lR.trans2 (k6 _ _) (by intro x u;simp at u;subst u;exact Or.inr (ag _))⟩
 all_goals
  have N6:Hid (∀x y:Int,(((c.alloc (.cells #[.int .u64 (t1:Int),.int .i64 (b:Int)] 76)).setCell ⟨w.heap.size,0,none⟩ (.int .u64 x)).setCell ⟨w.heap.size,1,none⟩ (.int .i64 y)).heap[w.heap.size]?=some (.cells #[.int .u64 x,.int .i64 y] 76 (0,0))):=fun x y=>yf (i:=1) _ (yf (i:=0) _ m);have U:Hid (∀x y:Int,y6 [w.heap.size] (c.alloc (.cells #[.int .u64 (t1:Int),.int .i64 (b:Int)] 76)) (((c.alloc (.cells #[.int .u64 (t1:Int),.int .i64 (b:Int)] 76)).setCell ⟨w.heap.size,0,none⟩ (.int .u64 x)).setCell ⟨w.heap.size,1,none⟩ (.int .i64 y))):=fun x y=>((y6.refl [w.heap.size] _).setCell (p:=⟨w.heap.size,0,none⟩) (Or.inl (by simp)) _).setCell (p:=⟨w.heap.size,1,none⟩) (Or.inl (by simp)) _;clear P R z m I;go_wp2;refine aR (res2 rfl _ _ w.heap.size 76 #[.int .u64 _,.int .i64 _] (0,0) _ _ rfl rfl (N6.out _ _) underlying76 rfl LS) rfl ?_;exact⟨by rw[B.out];rfl,J.out.k1 (U.out _ _) S,Ie.out.trans2 (U.out _ _) (by intro x u;simp at u;subst u;exact Or.inr (ag _))⟩
theorem Q8l(v a:Nat)(bv:Value)(n:Nat)(cv:Value)(D:Dv)(w:World)(hv:Vol w v a n)(h:DQ w a bv n cv D)(fM:8<=n)(hn:n<=1000)(hq:D.q.length<=1000000)(hb:D.bad=true)(hT:Tab w):
  Calls prog 88 #[.pointer (some ⟨v,0,none⟩)] w fun e w'=>Thr 6 e w'/\DQ w' a bv n cv D.tick/\y6 [a] w w':=by
 have b:=(y6.refl [] w).alloc (.cells #[.int .u64 0,.int .i64 0] 76);have d:Hid (Calls _ _ _ _ _):=WB v a bv n cv D 0 _ (b.get hv (by simp)) (h.k0 b) (by omega) hn hq hb (hT.k b);go_enter func88,ntmps88;go_wp2_with fail;refine d.out.mono ?_;rintro e j⟨ht,g,c⟩;obtain⟨f,o,rfl,i⟩:=ht.ex;exact⟨rfl,ht,g,(b.mono (by simp)).trans c⟩
theorem Q8m(v a:Nat)(bv:Value)(n:Nat)(cv:Value)(D:Dv)(w:World)(hv:Vol w v a n)(h:DQ w a bv n cv D)(fM:8<=n)(hn:n<=1000)(hq:D.q.length<=1000000)(hb:D.bad=false)(hb2:D.tick.bad=true)(hT:Tab w):
  Calls prog 88 #[.pointer (some ⟨v,0,none⟩)] w fun e w'=>Thr 6 e w'/\DQ w' a bv n cv D.tick.tick/\y6 [a] w w':=by
 have m:v∉ [a]:=by simpa using yP hv h.d (by decide)
 have g:=(y6.refl [] w).alloc (.cells #[.int .u64 0,.int .i64 0] 76);have s:Hid (Calls _ _ _ _ _):=Ps v a bv n cv D 0 _ (g.get hv (by simp)) (h.k0 g) (by omega) hn hq hb;have y:Hid (∀W,Vol W v a n->DQ W a bv n cv D.tick->Tab W->Calls prog 120 #[.pointer (some ⟨v,0,none⟩),.int .i64 1] W fun e w'=>Thr 6 e w'/\DQ w' a bv n cv D.tick.tick/\y6 [a] W w'):=fun W E C hT=>WB v a bv n cv D.tick 1 W E C (by omega) hn hq hb2 hT;have u:Hid (∃t r b,hdV (rdH 0 (D.view 0))=.tuple #[.agg #[.int .u64 (t:Nat),.int .i64 (r:Nat)],.bool b]):=by
  show _
  cases rdH 0 (D.view 0)with
  |none=>exact⟨0,0,false,rfl⟩
  |some x=>exact⟨x.1,x.2,true,rfl⟩
 obtain⟨t0,G,H,z⟩:=u.out;rw[z]at s;go_enter func88,ntmps88;go_wp2_with fail;refine s.out.mono ?_;rintro e p⟨rfl,B,c⟩;have F:Tab p:=(hT.k g).kept c ((hT.k g).dqa (h.k0 g));have l:Vol p v a n:=c.get (g.get hv (by simp)) m;have i:=(y6.refl [] p).alloc (.cells #[.int .u64 (t0:Int),.int .i64 (G:Int)] 76);go_wp2_with fail;refine(y.out _ (i.get l (by simp)) (B.k0 i) (F.k i)).mono ?_;rintro e J⟨ht,A,j⟩;obtain⟨f,o,rfl,I⟩:=ht.ex;exact⟨rfl,ht,A,(((g.mono (by simp)).trans c).trans2 i (by simp)).trans j⟩
theorem WL(v a:Nat)(bv:Value)(n:Nat)(cv:Value)(D:Dv)(w:World)(hv:Vol w v a n)(h:DQ w a bv n cv D)(fM:8<=n)(hn:n<=1000)(hq:D.q.length<=1000000)(hT:qM D\/Tab w):
  Calls prog 88 #[.pointer (some ⟨v,0,none⟩)] w (RdR a bv n cv D (fun e _=>e=.returned (nwV (nwst (rdH 0 (D.view 0)) (rdH 1 (D.view 1))))) w):=by
 have k:D.bad=true\/D.tick.bad=true->Tab w:=by
  intro b;rcases hT with j|hT
  ·rcases b with b|b
   ·rw[j.bad]at b;cases b
   ·have:qM D.tick:=j;rw[this.bad]at b;cases b
  ·exact hT
 cases d:D.bad with
 |true=>exact(Q8l v a bv n cv D w hv h fM hn hq d (k (Or.inl d))).mono fun e l ⟨f,g,i⟩=>⟨_,g,i,Or.inr ⟨Er.tick d,f⟩⟩
 |false=>
  cases c:D.tick.bad with
  |true=>exact(Q8m v a bv n cv D w hv h fM hn hq d c (k (Or.inr c))).mono fun e l ⟨f,g,i⟩=>⟨_,g,i,Or.inr ⟨(Qt.tick d).er (Er.tick c),f⟩⟩
  |false=>exact(Q8k v a bv n cv D w hv h fM hn hq d c).mono fun e l ⟨f,g,i⟩=>⟨_,g,i,Or.inl ⟨(Qt.tick d).trans (Qt.tick c),f⟩⟩
end Go.Proofs.YtcklgafpgdhnaaaGreatDoor
