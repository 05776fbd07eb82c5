import Derived.Test.YtcklgafpgdhnaaaGreatDoorPyai
import Derived.Maps.AppendAt
set_option maxRecDepth 100000
set_option maxHeartbeats 4000000
set_option linter.unusedSimpArgs false
set_option linter.unusedVariables false
set_option linter.unusedSectionVars false
open Go.Proofs.Tryz
namespace Go.Proofs.YtcklgafpgdhnaaaGreatDoor
open Go.RowKit
theorem Q1Y(w:World)(p:Pr):(Instr.build 224 #[(0,.string p.1),(1,.string p.2)]).run prog w=.ok (.agg #[.string p.1,.string p.2]) w:=by
 simp[Instr.build,go_sem]
def PrS(g:Nat)(cur:Array Value)(W:World):Prop:=W.heap[g]?=some (.cells cur 41 (0,0))
def PrI(w:World)(l:List Pr)(out i:Value)(wr:World):Prop:=∃(j:Nat),j<=l.length/\i=.int .i64 j/\wr.ownsRow w.heap.size 224 2 out j (yU (l.take j))/\y6 [] w wr
theorem OK(vl:Value)(l:List Pr)(w:World)(h:PL w 41 vl l)(hl:l.length<=50000):
  Calls prog 144 #[vl] w (PO 224 l w):=by
 obtain⟨pv,q,rfl⟩:=h.shape;obtain⟨ie,R,A,Q,B⟩:=bu irp;go_enter func144,ntmps144;go_wp2
 go_loopw [3,4] (fun D i wr=>PrI w l D i wr) (fun _ i _=>l.length-(intOf i).toNat)
 case atStart=>exact⟨0,ay _,rfl,aM _ _ _ _,y6.refl _ _⟩
 case round=>
  obtain⟨j,hj,rfl,n,r⟩:=hrel
  by_cases f:j<l.length
  ·have I:=h.kept r (by simp);obtain⟨g,O,c,e,z,F⟩:=I.at_ (by omega)
   cases e
   obtain⟨p,H⟩:∃p,l[j]?=some p:=⟨_,aa f⟩
   have hc:=F j p H;have m:y6 [] wr (wr.drew.alloc (.cells (gH p).toArray 224)):=(y6.refl [] wr).drew.alloc _;have a:PrS g c wr.drew:=z;have v:PrS g c (wr.drew.alloc (.cells (gH p).toArray 224)):=m.get z (by simp);have K:(wr.drew.alloc (.cells (gH p).toArray 224)).ownsRow w.heap.size 224 2 u3 j (yU (l.take j)):=yb n m (by simp);have N:Hid (g∉u3.ownBlock.toList):=by
    intro k;simp at k;obtain⟨_,⟨rfl,_⟩|⟨g',fh,GM,rfl,_,Y,_⟩⟩:=n
    ·cases k
    ·cases k;exact yP z Y (by decide) rfl
   have o:∀(E:Value) (s:World),s.ownsRow w.heap.size 224 2 E (j+1) (yU (l.take j)++gH p)->y6 u3.ownBlock.toList wr s->PrI w l E (.int .i64 ((j:Int)+1)) s:=by
    intro E s T U;refine⟨j+1,by omega,by simp,by rw[qe l j p H,<-Ph];exact T,r.trans2 U ?_⟩;intro x k;right;exact qj n x k
   have u:Hid _:=o;clear o I F;go_wp2;refine yo (PrS g c) (by kernel_rfl) ?_;refine uh 0 u3 rfl (fun W b=>by rfl) a ?_;refine uh 1 (.slice (some ⟨g,0,none⟩) l.length q) rfl (fun W b=>by rfl) a ?_;refine uh 2 (.int .i64 j) rfl (fun W b=>by rfl) a ?_;refine uh 3 (.pointer (some ⟨g,j*2,none⟩)) rfl (fun W b=>yc 28 (.tmp 12) (.tmp 13) rfl g 0 l.length q j 2 rfl rfl 41 underlying28 sap f (j*2) (by omega)) a ?_;refine uh 4 (.pointer (some ⟨g,j*2+0,none⟩)) rfl (fun W b=>yx 41 (.tmp 14) 0 rfl g (j*2) rfl 0 (by rfl)) a ?_;refine uh 5 (.string p.1) rfl (fun W b=>y9 9 (.tmp 15) rfl ⟨g,j*2+0,none⟩ rfl _ (yh underlying9 rfl (y7 b hc.1))) a ?_;refine uh 6 (.slice (some ⟨g,0,none⟩) l.length q) rfl (fun W b=>by rfl) a ?_;refine uh 7 (.int .i64 j) rfl (fun W b=>by rfl) a ?_;refine uh 8 (.pointer (some ⟨g,j*2,none⟩)) rfl (fun W b=>yc 28 (.tmp 17) (.tmp 18) rfl g 0 l.length q j 2 rfl rfl 41 underlying28 sap f (j*2) (by omega)) a ?_;refine uh 9 (.pointer (some ⟨g,j*2+1,none⟩)) rfl (fun W b=>yx 41 (.tmp 19) 1 rfl g (j*2) rfl 1 (by rfl)) a ?_;refine uh 10 (.string p.2) rfl (fun W b=>y9 9 (.tmp 20) rfl ⟨g,j*2+1,none⟩ rfl _ (yh underlying9 rfl (y7 b hc.2))) a ?_;refine uh 11 (.agg #[.string p.1,.string p.2]) rfl (fun W b=>QU 224 (.tmp 16) (.tmp 21) 0 1 rfl _ _ _ rfl rfl (Q1Y W p)) a ?_;refine yi (i:=12) (by kernel_rfl) (yX rfl rfl _ _ (yv 187 1 (.tmp 22) rfl (.agg #[.string p.1,.string p.2]) rfl _ (jw _ p)) ⟨v,?_⟩);simp only[zz];obtain⟨M,t,L,G,J,-⟩:=cY (P:=prog) (wr.drew.alloc (.cells (gH p).toArray 224)) w.heap.size 187 187 224 ie _ 2 32 underlying187 R A Q B rfl (by decide) u3 j (yU (l.take j)) K ⟨wr.drew.heap.size,0,none⟩ 1 1 (gH p) rfl (ju (af _ _)) (QW p) (by unfold maxLen;omega) (by omega) (by have:=r.size;simp;omega);have C:=yF J u3.ownBlock.toList (by intro x k;rw[k];simp);have d:PrS g c t:=C.get v (N.out);refine yi (i:=13) (by kernel_rfl) (yX rfl rfl _ t (jl (.tmp 11) (.tmp 23) 187 rfl u3 (.slice (some ⟨wr.drew.heap.size,0,none⟩) 1 1) rfl rfl _ L) ⟨d,?_⟩);simp only[zz];refine yi (i:=14) (by kernel_rfl) (yX rfl rfl M t rfl ⟨d,?_⟩);simp only[zz];refine aK (by kernel_rfl) ?_ _;have V:=u.out M t G ((m.mono (by simp)).trans C);clear L J G d C v a K;go_wp2;go_roundw
   case rel=>exact V
   case measure=>simp[intOf];omega
  ·have X:¬(j:Int)<(l.length:Int):=by omega
   have S:j=l.length:=by omega
   subst S;rw[bV]at n;go_wp2;go_ret;exact⟨_,rfl,gT n (ay _),fun y Z=>(n.lt y Z).1,r⟩
def opnc(px:Option Addr)(vl:Value)(f c:Bool)(mo ch:Int)(lv wv:Value):Array Value:=#[.pointer px,vl,.bool f,.bool c,.int .i64 mo,.int .i64 ch,lv,wv]
def OR(w:World)(b:Nat)(px:Option Addr)(vl:Value)(f c:Bool)(mo ch:Int)(lv wv:Value):Prop:=w.heap[b]?=some (.cells (opnc px vl f c mo ch lv wv) 195 (0,0))
structure HLd where
 v:Value
 u:Value
 l:List Pr
structure HL(w:World)(lv wv:Value)(xs:List HLd):Prop where
 lists:w.ownsRow 0 28 1 lv xs.length (xs.map HLd.v)
 want:w.ownsRow 0 28 1 wv xs.length (xs.map HLd.u)
 apart:∀g,lv.ownBlock=some g->wv.ownBlock≠some g
 all:∀x∈xs,PL w 41 x.v x.l/\PL w 41 x.u x.l/\x.l.length<=50000
variable {w:World}
theorem P5{base n:Nat}{t:TypeId}{v:Value}{vs:List Value}(h:w.ownsRow base t 1 v n vs)(hl:0<n):∃g cap cur,v=.slice (some ⟨g,0,none⟩) n cap/\w.heap[g]?=some (.cells cur t (0,0))/\∀(i:Nat) (x:Value),vs[i]?=some x->cur[i]?=some x:=by
 obtain⟨hl,⟨_,f⟩|⟨g,cap,cur,e,_,c,_,_,_,b⟩⟩:=h
 ·omega
 refine⟨g,cap,cur,e,c,?_⟩;intro i x a;have d:i<vs.length:=(ae.1 a).1;rw[<-b,aD,if_pos (by omega)]at a
 simpa using a
def LoI(n:Nat)(w:World)(i:Value)(wr:World):Prop:=∃(j:Nat),j<=n/\i=.int .i64 j/\y6 [] w wr
theorem Q21(b:Nat)(px:Option Addr)(vl:Value)(f c:Bool)(mo ch:Int)(lv wv:Value)(xs:List HLd)(w:World)(hb:OR w b px vl f c mo ch lv wv)(h:HL w lv wv xs)(hn:xs.length<=50000):
  Calls prog 105 #[.pointer (some ⟨b,0,none⟩)] w fun e w'=>e=.returned (.bool true)/\y6 [] w w':=by
 obtain⟨U,q,rfl⟩:=jx h.lists;obtain⟨pw,z,rfl⟩:=jx h.want;go_enter func105,ntmps105;go_wp2
 go_loopw [3] (fun i wr=>LoI xs.length w i wr) (fun i _=>xs.length-(intOf i).toNat)
 case atStart=>exact⟨0,ay _,rfl,y6.refl _ _⟩
 case round=>
  obtain⟨j,hj,rfl,A⟩:=hrel;have F:OR wr b px vl f c mo ch (.slice U xs.length q) (.slice pw xs.length z):=A.get hb (by simp);have c6:wr.cell? ⟨b,6,none⟩=some (.slice U xs.length q):=y7 F rfl
  by_cases H:j<xs.length
  ·obtain⟨x,J⟩:∃x,xs[j]?=some x:=⟨_,aa H⟩
   obtain⟨D,_,Q,e,W,o⟩:=P5 h.lists (by omega)
   cases e
   obtain⟨E,_,R,e,X,M⟩:=P5 h.want (by omega)
   cases e
   have a:=o j x.v (by simp[J]);have V:=M j x.u (by simp[J]);obtain⟨I,hu,BQ⟩:=h.all x (ah J);obtain⟨Z,y,T⟩:=I.shape;obtain⟨Y,t,S⟩:=hu.shape;rw[T]at a I;rw[S]at V hu;clear o M T S;go_wp2
   go_loopw [4] (fun i wr=>LoI x.l.length w i wr) (fun i _=>x.l.length-(intOf i).toNat)
   case atStart=>exact⟨0,ay _,rfl,A⟩
   case round=>
    obtain⟨k,hk,rfl,g⟩:=hrel;have n:OR wr b px vl f c mo ch (.slice (some ⟨D,0,none⟩) xs.length q) (.slice (some ⟨E,0,none⟩) xs.length z):=g.get hb (by simp);have d6:wr.cell? ⟨b,6,none⟩=some (.slice (some ⟨D,0,none⟩) xs.length q):=y7 n rfl;have d7:wr.cell? ⟨b,7,none⟩=some (.slice (some ⟨E,0,none⟩) xs.length z):=y7 n rfl;have e1:wr.cell? ⟨D,j,none⟩=some (.slice Z x.l.length y):=y7 (g.get W (by simp)) a;have e2:wr.cell? ⟨E,j,none⟩=some (.slice Y x.l.length t):=y7 (g.get X (by simp)) V
    by_cases d:k<x.l.length
    ·obtain⟨B,_,N,e,K,r⟩:=(I.kept g (by simp)).at_ (by omega)
     cases e
     obtain⟨C,_,O,e,L,s⟩:=(hu.kept g (by simp)).at_ (by omega)
     cases e
     obtain⟨p,m⟩:∃p,x.l[k]?=some p:=⟨_,aa d⟩
     have l1:=PL.load (P:=prog) (ty:=41) _ K (r k p m) underlying41 sap;have l2:=PL.load (P:=prog) (ty:=41) _ L (s k p m) underlying41 sap;have i1:(Instr.indexAt 28 (.slice (some ⟨B,0,none⟩) x.l.length y) (.int .i64 k)).run prog wr=.ok (.pointer (some ⟨B,k*2,none⟩)) wr:=jV 28 B 0 x.l.length y k 2 41 underlying28 sap d _ (by omega);have i2:(Instr.indexAt 28 (.slice (some ⟨C,0,none⟩) x.l.length t) (.int .i64 k)).run prog wr=.ok (.pointer (some ⟨C,k*2,none⟩)) wr:=jV 28 C 0 x.l.length t k 2 41 underlying28 sap d _ (by omega);have a0:=y7 (j:=k*2) K (r k p m).1;have a1:=y7 (j:=k*2+1) K (r k p m).2;have q0:=y7 (j:=k*2) L (s k p m).1;have q1:=y7 (j:=k*2+1) L (s k p m).2;clear r s;go_wp2
     go_quiet (fail)
     go_wp2;go_roundw
     case rel=>exact⟨k+1,by omega,by go_num,g.drewN _⟩
     case measure=>simp[intOf];omega
    ·have G:¬(k:Int)<(x.l.length:Int):=by omega
     go_wp2;go_roundw
     case rel=>exact⟨j+1,by omega,by go_num,g⟩
     case measure=>simp[intOf];omega
  ·have G:¬(j:Int)<(xs.length:Int):=by omega
   go_wp2;go_ret;exact⟨rfl,A⟩
def StrR(w:World)(e:Ending)(w':World):Prop:=(∃s,e=.returned (.string s))/\y6 [] w w'
theorem TR(n:Int)(w:World):Calls prog 167 #[.int .i64 n] w (StrR w):=by
 have b:=af w (.cells #[.int .u8 (n/16777216%256),.int .u8 (n/65536%256),.int .u8 (n/256%256),.int .u8 (n%256),.int .u8 33] 5);have a:=run_loadCells_list (P:=prog) _ ⟨w.heap.size,0,none⟩ ([n/16777216%256,n/65536%256,n/256%256,n%256,33].map (Value.int .u8)) (ju b);have hc:=(run_convert_bytes_string (P:=prog) _ 60 9 5 (some ⟨w.heap.size,0,none⟩) 5 5 underlying60 underlying5 underlying9).trans (run_bytesToString _ ⟨w.heap.size,0,none⟩ 5 5 _ a);clear a b;go_enter func167,ntmps167;go_wp2;go_ret;exact⟨⟨_,rfl⟩,(y6.refl _ _).alloc _⟩
variable {P:Program}
theorem Zi(w:World)(dT sT ty elem:TypeId)(g o dLen dCap k:Nat)(a:Addr)(sLen sCap:Nat)(cur:Array Value)(t:TypeId)(cs:List Value)
  (hu:P.underlying dT=some (.slice elem))(hs:(P.info? elem).map (·.size)=some k)
  (hg:w.heap[g]?=some (.cells cur t (0,0)))(hn:cs.length=Nat.min sLen dLen*k)
  (hH:∀j v,cs[j]?=some v->w.cell? (a.add j)=some v)(hfit:o+cs.length<=cur.size)(h1:∀v∈cs,v.oneCell'=true):
  (Builtin.copy_ #[dT,sT] ty #[.slice (some ⟨g,o,none⟩) dLen dCap,.slice (some a) sLen sCap]).run P w=
   .ok (goInt (Nat.min sLen dLen)) (w.setRow g (cur.toList.take o++cs++cur.toList.drop (o+cs.length)).toArray):=by
 have d:=run_loadCells_list (P:=P) w a cs hH;have c:=run_storeCells_at P g o t cs 0 cur w hg (by simpa using hfit) h1
 cases b:P.info? elem with
 |none=>simp[b]at hs
 |some i=>
  have e:i.size=k:=by simpa[b]using hs
  rw[hn]at d;simp[Builtin.copy_,aO hu,Builtin.lenOf,Builtin.firstCells,sizeOf,typeInfo,b,e,d,c]
theorem XA(m:Nat)(hm:m<=100000)(w:World):∃z:List Value,z.length=m*2/\(Instr.makeSlice 28 (.int .i64 m) (.int .i64 m)).run prog w=.ok (.slice (some ⟨w.heap.size,0,none⟩) m m) (w.alloc (.cells z.toArray 41)):=by
 obtain⟨c,e,a,d,b⟩:=bu iap;obtain⟨z,f⟩:∃z:Value,c.zero=some z:=⟨_,a⟩
 have:=run_make (P:=prog) w 28 41 c z underlying28 e f .i64 .i64 m m (by omega) (by omega) (by rw[b];omega) (by omega);refine⟨(Array.map (fun x=>z.cells[x%z.cells.size]!) (Array.range (m*c.size))).toList,?_,?_⟩
 ·simp[d]
 ·rw[this];rfl
theorem Ov(w:World)(t e:TypeId)(v:Value)(ie:TypeInfo)(z:Value)(hu:P.underlying t=some (.slice e))(hi:P.info? e=some ie)(hz:ie.zero=some z)(hzc:z.cells=#[z])(hs:ie.size=1)(h1:v.cells=#[v]):
  (Instr.buildSlice t 1 #[(0,v)]).run P w=.ok (.slice (some ⟨w.heap.size,0,none⟩) 1 1) (w.alloc (.cells #[v] e)):=by
 have c:(Array.range 1).map (fun i=>(z.cells)[i%z.cells.size]!)=#[z]:=by
  rw[hzc];apply Array.ext
  ·simp
  ·intro i _ a;simp at a;subst a;simp
 have b:Instr.fill (fun i=>some (i,1)) #[z] [(0,v)]=some #[v]:=by
  simp[Instr.fill,h1]
 simp[Instr.buildSlice,aO hu,sizeOf,typeInfo,hi,zeroValue,hz,newRow,hs,c,b]
theorem XM:(prog.info? 28).map (fun i=>(i.zero,i.size,i.bytes))=some (some (.slice none 0 0),1,24):=by kernel_rfl
theorem HL.kept{S:List Nat}{w w':World}{lv wv:Value}{xs:List HLd}(h:HL w lv wv xs)(k:y6 S w w')(h1:∀g,lv.ownBlock=some g->g∉S)(h2:∀g,wv.ownBlock=some g->g∉S)(h3:∀x∈xs,(∀g,x.v.ownBlock=some g->g∉S)/\(∀g,x.u.ownBlock=some g->g∉S)):HL w' lv wv xs:=
 ⟨yb h.lists k h1,yb h.want k h2,h.apart,fun x d=>by
  obtain⟨a,b,c⟩:=h.all x d;exact⟨a.kept k (h3 x d).1,b.kept k (h3 x d).2,c⟩⟩
theorem HL.fresh{w':World}{lv wv:Value}{xs:List HLd}(h:HL w lv wv xs)(k:y6 [] w w'):HL w' lv wv xs:=h.kept k (by simp) (by simp) (by simp)
theorem PL.tag{t:TypeId}{v:Value}{l:List Pr}(h:PL w t v l){g:Nat}(hg:v.ownBlock=some g):∃cs fr,w.heap[g]?=some (.cells cs t fr):=by
 obtain⟨_,⟨rfl,_⟩|⟨d,a,b,rfl,_,c,_⟩⟩:=h
 ·cases hg
 ·cases hg;exact⟨_,_,c⟩
theorem qH{a b:Nat}{t1 t2:TypeId}(h1:∃cs fr,w.heap[a]?=some (.cells cs t1 fr))(h2:∃cs fr,w.heap[b]?=some (.cells cs t2 fr))(ht:t1≠t2):a≠b:=by
 obtain⟨_,_,h1⟩:=h1;obtain⟨_,_,h2⟩:=h2;exact yP h1 h2 ht
def Cop(w:World)(l:List Pr)(W:World):Prop:=W.heap[w.heap.size]?=some (.cells (yU l).toArray 41 (0,0))/\y6 [] w W
def YV(b:Nat)(px:Option Addr)(vl:Value)(f c:Bool)(mo ch:Int)(lv wv:Value)(xs:List HLd)(v:Value)(l:List Pr)(w:World)(e:Ending)(w':World):Prop:=
 e=.returned (.tuple #[])/\∃uy uz u,OR w' b px vl f c mo ch uy uz/\HL w' uy uz (xs++ [⟨v,u,l⟩])/\y6 (b::(lv.ownBlock.toList++wv.ownBlock.toList)) w w'/\
  (∀g,uy.ownBlock=some g->lv.ownBlock=some g\/w.heap.size<=g)/\(∀g,uz.ownBlock=some g->wv.ownBlock=some g\/w.heap.size<=g)/\(∀g,u.ownBlock=some g->w.heap.size<=g)
theorem S0(b:Nat)(px:Option Addr)(vl:Value)(f c:Bool)(mo ch:Int)(lv wv:Value)(xs:List HLd)(v:Value)(l:List Pr)(w:World)(hb:OR w b px vl f c mo ch lv wv)(h:HL w lv wv xs)(hn:xs.length<=50000)(hv:PL w 41 v l)(hl:l.length<=50000):
  Calls prog 168 #[.pointer (some ⟨b,0,none⟩),v] w (YV b px vl f c mo ch lv wv xs v l w):=by
 obtain⟨z,D,uA⟩:=XA l.length (by omega) w;obtain⟨ie,Z,B,Y,C⟩:=bu XM;obtain⟨pv,R,rfl⟩:=hv.shape;have kA:=(y6.refl [] w).alloc (.cells z.toArray 41);have nA:=af w (.cells z.toArray 41);have pR:∃W,(∀M,(Builtin.copy_ #[28,28] M #[.slice (some ⟨w.heap.size,0,none⟩) l.length l.length,.slice pv l.length R]).run prog (w.alloc (.cells z.toArray 41))=.ok (goInt l.length) W)/\Cop w l W:=by
  have hv':=hv;obtain⟨hlen,⟨e,h0⟩|⟨g,cap,cur,e,_,hh,_,_,_,htk⟩⟩:=hv'
  ·have e0:l= []:=bQ h0;subst e0
   cases e
   have ez:z= []:=bQ (by simpa using D);subst ez;exact⟨_,fun M=>run_copy_nil (P:=prog) _ 28 28 M 41 ⟨w.heap.size,0,none⟩ 0 0 underlying28 (by rw[sap];rfl),nA,kA⟩
  ·cases e
   refine⟨(w.alloc (.cells z.toArray 41)).setRow w.heap.size (yU l).toArray,fun M=>(Zi (P:=prog) _ 28 28 M 41 w.heap.size 0 l.length l.length 2 ⟨g,0,none⟩ l.length R z.toArray 41 (yU l) underlying28 sap nA (by rw[gk];simp) ?_ (by simp[gk,D]) (by intro u hu;simp only[yU,cU]at hu;obtain⟨p,_,I⟩:=hu;exact QW p u I)).trans (by rw[show(z.toArray.toList.take 0++yU l++z.toArray.toList.drop (0+(yU l).length)).toArray=(yU l).toArray by simp[gk,D]];simp),?_,?_⟩
   ·intro j u hj;have iU:j<l.length*2:=by have:=(ae.1 hj).1;rwa[gk]at this
    rw[add_lit,bL,aY _ _ _ _ _ _ (kA.get hh (by simp))];rw[<-htk,aD,if_pos iU]at hj
    simpa using hj
   ·exact bH (w.alloc (.cells z.toArray 41)) w.heap.size _ (yU l).toArray _ _ nA
   ·exact kA.setRow (Or.inr (ag _)) _
 obtain⟨t,hcp,nC,F⟩:=pR;have o:OR t b px vl f c mo ch lv wv:=F.get hb (by simp);have y:=h.fresh F;have c6:t.cell? ⟨b,6,none⟩=some lv:=y7 o rfl;have hlb:=yt o;have mi:w.heap.size+1<=t.heap.size:=by have:=yt nC;omega
 go_enter func168,ntmps168;have nK:=fun W u (hu:Value.cells u=#[u])=>Ov (P:=prog) W 193 28 u ie (.slice none 0 0) underlying193 Z B rfl Y hu;go_wp2_with(first|(refine yw rfl _ _ (yv 193 1 (.tmp 17) rfl (.slice pv l.length R) rfl _ (nK _ _ rfl)) ?_;intro O n3 K _;have eZ:=yb y.lists K (by simp);have tC:=yb y.want K (by simp);have A:OR O b px vl f c mo ch lv wv:=K.get o (by simp);have nb3:b∉lv.ownBlock.toList:=(by intro a;simp at a;exact qH ⟨_,_,A⟩ (yD eZ a) (by decide) rfl);have xJ:b∉wv.ownBlock.toList:=(by intro a;simp at a;exact qH ⟨_,_,A⟩ (yD tC a) (by decide) rfl))|(at_builtin;refine wpList_append_own_at _ rfl (.tmp 16) (.tmp 18) 193 rfl 0 28 ie _ 1 24 underlying193 Z B Y C rfl (by decide) lv xs.length (xs.map HLd.v) rfl eZ ⟨t.heap.size,0,none⟩ 1 1 [.slice pv l.length R] rfl rfl (ju n3) (by simp[Value.oneCell']) (by unfold maxLen;omega) (by omega) (ay _) ?_;intro Km q k Es _ X;obtain⟨s,r,rfl⟩:=jx k;have T:=yF Es lv.ownBlock.toList (by intro x a;rw[a];simp);have S:OR q b px vl f c mo ch lv wv:=T.get A nb3;have Kn:q.cell? ⟨b,6,none⟩=some lv:=y7 S rfl;have f64:q.frozen? ⟨b,6,none⟩=false:=ax _ _ _ _ _ S;have pQ:OR (q.setCell ⟨b,6,none⟩ (.slice s (xs.length+1) r)) b px vl f c mo ch (.slice s (xs.length+1) r) wv:=yf (i:=6) (.slice s (xs.length+1) r) S;have U:y6 [b] q (q.setCell ⟨b,6,none⟩ (.slice s (xs.length+1) r)):=(y6.refl _ _).setCell (Or.inl (by simp)) _;have Ko:(q.setCell ⟨b,6,none⟩ (.slice s (xs.length+1) r)).cell? ⟨b,7,none⟩=some wv:=y7 pQ rfl;have xK:=yb tC T (fun g d a=>by simp at a;exact h.apart g a d);clear Es)|(refine yw rfl _ _ (yv 193 1 (.tmp 28) rfl (.slice (some ⟨w.heap.size,0,none⟩) l.length l.length) rfl _ (nK _ _ rfl)) ?_;intro w6 n6 L _;have xM:=yb (yb xK U (fun g d a=>by simp at a;subst a;exact xJ (by simp[d]))) L (by simp);have rO:OR w6 b px vl f c mo ch (.slice s (xs.length+1) r) wv:=L.get pQ (by simp))|(at_builtin;refine wpList_append_own_at _ rfl (.tmp 27) (.tmp 29) 193 rfl 0 28 ie _ 1 24 underlying193 Z B Y C rfl (by decide) wv xs.length (xs.map HLd.u) rfl xM ⟨_,0,none⟩ 1 1 [.slice (some ⟨w.heap.size,0,none⟩) l.length l.length] rfl rfl (ju n6) (by simp[Value.oneCell']) (by unfold maxLen;omega) (by omega) (ay _) ?_;intro tD E uB Et _ Eu;obtain⟨V,Q,rfl⟩:=jx uB;have k7:=yF Et wv.ownBlock.toList (by intro x a;rw[a];simp);have N:OR E b px vl f c mo ch (.slice s (xs.length+1) r) wv:=k7.get rO xJ;have GP:E.cell? ⟨b,7,none⟩=some wv:=y7 N rfl;have f77:E.frozen? ⟨b,7,none⟩=false:=ax _ _ _ _ _ N;clear Et))
 go_end0;have k8:y6 [b] E (E.setCell ⟨b,7,none⟩ (.slice V (xs.length+1) Q)):=(y6.refl _ _).setCell (Or.inl (by simp)) _;have GQ:OR (E.setCell ⟨b,7,none⟩ (.slice V (xs.length+1) Q)) b px vl f c mo ch (.slice s (xs.length+1) r) (.slice V (xs.length+1) Q):=yf (i:=7) _ N;have mL:∀x∈lv.ownBlock.toList,x∈b::(lv.ownBlock.toList++wv.ownBlock.toList):=fun x a=>aq _ (aw _ a);have mW:∀x∈wv.ownBlock.toList,x∈b::(lv.ownBlock.toList++wv.ownBlock.toList):=fun x a=>aq _ (az _ a);have mB:∀x∈ [b],x∈b::(lv.ownBlock.toList++wv.ownBlock.toList):=by intro x a;simp at a;subst a;simp
 have n:y6 (b::(lv.ownBlock.toList++wv.ownBlock.toList)) t (E.setCell ⟨b,7,none⟩ (.slice V (xs.length+1) Q)):=
  (((((K.mono (by simp)).trans (T.mono mL)).trans (U.mono mB)).trans (L.mono (by simp))).trans (k7.mono mW)).trans (k8.mono mB)
 have C:t.heap.size<=O.heap.size:=K.size;have GR:O.heap.size<=q.heap.size:=T.size;have Ev:q.heap.size<=w6.heap.size:=av U.size L.size;have Ew:=LW y.want;have Kp:=LW y.lists;have l4:=LW k;have m:∀{v:Value} {l:List Pr},PL t 41 v l->∀g,v.ownBlock=some g->g∉b::(lv.ownBlock.toList++wv.ownBlock.toList):=by
  intro v l I g d a;rcases an.1 a with rfl|a
  ·exact qH (I.tag d) ⟨_,_,o⟩ (by decide) rfl
  ·rcases ar.1 a with a|a
   ·simp at a;exact qH (I.tag d) (yD y.lists a) (by decide) rfl
   ·simp at a;exact qH (I.tag d) (yD y.want a) (by decide) rfl
 have J:PL t 41 (.slice (some ⟨w.heap.size,0,none⟩) l.length l.length) l:=
  ⟨gk l,Or.inr ⟨w.heap.size,l.length,_,rfl,ay _,nC,ag _,by unfold maxLen;omega,by simp[gk],by rw[<-gk];simp⟩⟩
 refine⟨rfl,_,_,.slice (some ⟨w.heap.size,0,none⟩) l.length l.length,GQ,⟨?_,?_,?_,?_⟩,(F.mono (by simp)).trans n,?_,?_,?_⟩
 ·have o5:=yb k U (fun g d a=>by simp at a;subst a;exact qH (yD k d) ⟨_,_,S⟩ (by decide) rfl);have o6:=yb o5 L (by simp);have o7:=yb o6 k7 (fun g d a=>by
   simp at a;rcases X with e|e
   ·rw[d]at e;exact h.apart g e.symm a
   ·rw[d]at e;cases e;have:=Ew O.heap.size (by simp[a]);omega)
  have o8:=yb o7 k8 (fun g d a=>by simp at a;subst a;exact qH (yD o7 d) ⟨_,_,N⟩ (by decide) rfl)
  simpa using o8
 ·have o8:=yb uB k8 (fun g d a=>by simp at a;subst a;exact qH (yD uB d) ⟨_,_,N⟩ (by decide) rfl)
  simpa using o8
 ·intro g d iM;have g4:=l4 g (by simp[d]);rcases Eu with e|e
  ·rcases X with H|H
   ·rw[iM]at e;rw[d]at H;exact h.apart g H.symm e.symm
   ·rw[d]at H;cases H;rw[iM]at e;have:=Ew O.heap.size (by simp[<-e]);omega
  ·rw[iM]at e;cases e;omega
 ·intro x a;rcases ar.1 a with a|a
  ·obtain⟨G,a2,a3⟩:=y.all x a;exact⟨G.kept n (m G),a2.kept n (m a2),a3⟩
  ·simp at a;subst a;have G:=hv.kept F (by simp);exact⟨G.kept n (m G),J.kept n (m J),hl⟩
 ·intro g d;rcases X with e|e
  ·rw[d]at e;exact Or.inl e.symm
  ·rw[d]at e;cases e;right;have:=F.size;omega
 ·intro g d;rcases Eu with e|e
  ·rw[d]at e;exact Or.inl e.symm
  ·rw[d]at e;cases e;right;have:=F.size;omega
 ·intro g d;cases d;exact ag _
variable {ops:Array Oper}{Q:Exit->Act->World->Prop}{rest:List Oper}
theorem gB{o:Oper}{a:Act}(hgd:o.guard=none)(ty:TypeId)(x y:Operand)(ho:o.op=.store ty x y)(ad:Addr)(hx:a.eval x=.pointer (some ad))(v:Value)(hy:a.eval y=v)(w':World)
  (eJ:(storeVar ty ad v).run P w=.ok () w')(h:wpList P ops Q rest (a.put o.dst undef) w'):wpList P ops Q (o::rest) a w:=
 gL hgd w' (yK ty x y ho ad hx v hy eJ) h
theorem YN{α:Type}(L cs:List α)(off n:Nat)(h:off+cs.length<=n)(h2:n<=L.length):(splice L off cs).take n=splice (L.take n) off cs:=by
 have a:(L.take off).length=off:=by rw[au];omega
 simp only[splice];rw[dS,dS,cA,a,aJ (l:=cs) (by omega),cA,Nat.min_eq_right (by omega),bS (by omega),cC];rw[show n-off-cs.length=n-(off+cs.length)by omega]
theorem YQ(l:List Pr)(i:Nat)(p:Pr)(h:i<l.length):splice (yU l) (i*2) (gH p)=yU (l.set i p):=by
 induction l generalizing i with
 |nil=>simp at h
 |cons x r ih=>
  cases i with
  |zero=>simp[splice,yU,gH]
  |succ i=>
   have c:i<r.length:=by simpa using h
   have:=ih i c;have a:yU (x::r)=gH x++yU r:=rfl;have b:yU ((x::r).set (i+1) p)=gH x++yU (r.set i p):=rfl;rw[a,b,<-this];simp only[splice,qU];rw[show(i+1)*2=2+i*2 by omega,show(2+i*2+2)=2+(i*2+2)by omega];simp[gH,cH,show 2+i*2=i*2+1+1 by omega,show 2+(i*2+2)=(i*2+2)+1+1 by omega]
theorem PL.set{w:World}{t ty:TypeId}{g cap i:Nat}{l:List Pr}{P:Program}(h:PL w t (.slice (some ⟨g,0,none⟩) l.length cap) l)(hi:i<l.length)(hs:(P.info? ty).map (·.size)=some 2)(p:Pr):
  ∃W,(storeVar ty ⟨g,i*2,none⟩ (.agg #[.string p.1,.string p.2])).run P w=.ok () W/\PL W t (.slice (some ⟨g,0,none⟩) l.length cap) (l.set i p)/\y6 [g] w W:=by
 obtain⟨f,⟨e,_⟩|⟨o,n,a,e,j,d,hc,k,b,c⟩⟩:=h
 ·cases e
 cases e
 have m:=yI (P:=P) w g (i*2) t ty a.toList (gH p) (by simpa using d) hs (by rw[qU];simp;omega) (QW p);refine⟨_,m,⟨by rw[gk,bJ],Or.inr ⟨g,cap,_,by rw[bJ],j,bH w g _ _ t _ d,by simpa using hc,k,?_,?_⟩⟩,(y6.refl _ _).setRow (Or.inl (by simp)) _⟩
 ·simp only[bX];rw[aN _ _ _ (by rw[qU];simp;omega)]
  simpa using b
 ·rw[<-YQ l i p hi,<-c,bJ];exact YN _ _ _ _ (by rw[qU];omega) (by simp;have:=bN 2 hc;omega)
theorem Q2a(a b:List Pr):yU (a++b)=yU a++yU b:=by simp[yU]
theorem SH(l:List Pr):∀u∈yU l,u.oneCell'=true:=by
 intro u hu;simp only[yU,cU]at hu;obtain⟨p,_,a⟩:=hu;exact QW p u a
theorem Y1(ty:TypeId)(w:World)(v:Value)(l:List Pr)(hP:PL w 41 v l)(hl:l.length<=50000)(nb:Nat)(ps:List Pr)(m c:Nat)(hm:ps.length=m)(Ex:m<=50000)(hnb:w.heap[nb]?=some (.cells (yU ps).toArray 41 (0,0))):
  ∃v' w',(Builtin.append_ #[28,28] ty #[v,.slice (some ⟨nb,0,none⟩) m c]).run prog w=.ok v' w'/\PL w' 41 v' (l++ps)/\PL w' 41 v l/\y6 v.ownBlock.toList w w'/\(v'.ownBlock=v.ownBlock\/v'.ownBlock=some w.heap.size):=by
 obtain⟨s,t,q,i,r⟩:=bu iap;have d:(yU ps).length=m*2:=by rw[gk,hm]
 obtain⟨v',w',n,G,F,_,C⟩:=run_append_own_at (P:=prog) w 0 28 ty 41 s _ 2 32 underlying28 t q i r rfl (by decide) v l.length (yU l) hP ⟨nb,0,none⟩ m c (yU ps) d (ju hnb) (SH ps) (by unfold maxLen;omega) (by omega) (ay _);have I:=yF F v.ownBlock.toList (by intro y H;rw[H];simp);refine⟨v',w',n,?_,?_,I,C⟩
 ·show World.ownsRow _ _ _ _ _ _ _;rw[Q2a,ai,hm];exact G
 ·have D:=hP;obtain⟨a,⟨rfl,E⟩|⟨g,b,e,rfl,B,z,hc,A,o,p⟩⟩:=D
  ·exact⟨a,Or.inl ⟨rfl,E⟩⟩
  ·by_cases h:l.length+m<=b
   ·have k:l.length*s.size+(yU ps).length<=e.size:=by rw[i,d,o];omega
    have x:=run_append_room (P:=prog) w 28 ty 41 s underlying28 t g l.length b e z ⟨nb,0,none⟩ m c (yU ps) (by rw[i];exact d) (ju hnb) (SH ps) h k;rw[x]at n
    cases n
    refine⟨a,Or.inr ⟨g,b,_,rfl,B,bH w g _ _ _ _ z,hc,A,?_,?_⟩⟩
    ·simp only[bX,ai,au,aC,bZ];omega
    ·rw[i,aG,br (by rw[au];simp;omega),cA,Nat.min_self];exact p
   ·have f:∀j u,(yU l)[j]?=some u->w.cell? ((⟨g,0,none⟩:Addr).add j)=some u:=World.ownsRow.cells hP (g:=g) rfl;have x:=run_append_grow (P:=prog) w 28 ty 41 s _ underlying28 t q ⟨g,0,none⟩ l.length b (yU l) (by rw[i];exact a) f ⟨nb,0,none⟩ m c (yU ps) (by rw[i];exact d) (ju hnb) (by omega) (by omega) (growslice_fits (by omega) (by rw[r];omega));rw[x]at n
    cases n
    exact⟨a,Or.inr ⟨g,b,e,rfl,B,((y6.refl [] w).drew.alloc _).get z (by simp),hc,A,o,p⟩⟩
theorem Q2d{o:Oper}{a:Act}(hgd:o.guard=none)(s x:Operand)(ho:o.op=.call {callee:=.builtin .append,args:=#[s,x],argTypes:=#[28,28]})
  (v:Value)(l:List Pr)(hs:a.eval s=v)(hP:PL w 41 v l)(hl:l.length<=50000)(nb:Nat)(ps:List Pr)(m c:Nat)(hx:a.eval x=.slice (some ⟨nb,0,none⟩) m c)(hm:ps.length=m)(Ex:m<=50000)(hnb:w.heap[nb]?=some (.cells (yU ps).toArray 41 (0,0)))
  (h:∀v' w',PL w' 41 v' (l++ps)->PL w' 41 v l->y6 v.ownBlock.toList w w'->(v'.ownBlock=v.ownBlock\/v'.ownBlock=some w.heap.size)->wpList prog ops Q rest (a.put o.dst v') w'):wpList prog ops Q (o::rest) a w:=by
 obtain⟨v',w',g,b,d,e,f⟩:=Y1 o.type w v l hP hl nb ps m c hm Ex hnb;exact ya hgd v' w' (jl s x 28 ho v _ hs hx v' g) (h v' w' b d e f)
def KpI(v:Value)(n:Nat)(w:World)(i:Value)(wr:World):Prop:=∃(j:Nat) (l:List Pr),j<=n/\i=.int .i64 j/\l.length=n/\PL wr 41 v l/\y6 v.ownBlock.toList w wr
def Xy(b:Nat)(px:Option Addr)(vl:Value)(f c:Bool)(mo ch:Int)(lv wv:Value)(xs:List HLd)(v:Value)(w:World)(e:Ending)(w':World):Prop:=
 e=.returned (.tuple #[])/\∃uy uz oX,oX.length=2/\OR w' b px vl f c mo ch uy uz/\HL w' uy uz (xs++oX)/\y6 (b::(lv.ownBlock.toList++wv.ownBlock.toList++v.ownBlock.toList)) w w'/\
  (∀g,uy.ownBlock=some g->lv.ownBlock=some g\/w.heap.size<=g)/\(∀g,uz.ownBlock=some g->wv.ownBlock=some g\/w.heap.size<=g)/\
  (∀x∈oX,(∀g,x.v.ownBlock=some g->v.ownBlock=some g\/w.heap.size<=g)/\(∀g,x.u.ownBlock=some g->w.heap.size<=g))
theorem Q2f(b:Nat)(px:Option Addr)(vl:Value)(f c:Bool)(mo ch:Int)(lv wv:Value)(xs:List HLd)(v:Value)(l:List Pr)(w:World)(hb:OR w b px vl f c mo ch lv wv)(h:HL w lv wv xs)(hn:xs.length<=40000)(hv:PL w 41 v l)(hl:l.length<=40000)
  (iw:∀x∈xs,(∀g,x.v.ownBlock=some g->v.ownBlock≠some g)/\(∀g,x.u.ownBlock=some g->v.ownBlock≠some g)):
  Calls prog 146 #[.pointer (some ⟨b,0,none⟩),v] w (Xy b px vl f c mo ch lv wv xs v w):=by
 obtain⟨s,q,rfl⟩:=jx h.lists;have c6:w.cell? ⟨b,6,none⟩=some (.slice s xs.length q):=y7 hb rfl;obtain⟨p,n,rfl⟩:=hv.shape;have L:∀g,(Value.slice p l.length n).ownBlock=some g->g≠b:=fun g d=>qH (hv.tag d) ⟨_,_,hb⟩ (by decide);go_enter func146,ntmps146;go_wp2
 go_loopw [5] (fun i wr=>KpI (.slice p l.length n) l.length w i wr) (fun i _=>l.length-(intOf i).toNat)
 case atStart=>exact⟨0,l,ay _,rfl,rfl,hv,y6.refl _ _⟩
 case round=>
  obtain⟨j,J,hj,rfl,m,t,z⟩:=hrel
  by_cases G:j<l.length
  ·obtain⟨g,cap,cur,e,d,dW⟩:=t.at_ (by omega);rw[m]at e
   cases e
   rw[<-m]at t;go_wp2_with(first|(go_at_call 167;refine(TR _ _).mono ?_;rintro e N⟨⟨M,rfl⟩,k⟩;obtain⟨w3,I,Q,F⟩:=(t.kept k (by simp)).set (i:=j) (by omega) sap (M,⟨#[]⟩))|(refine ya rfl _ _ (yc 28 (.tmp 26) (.tmp 27) rfl g 0 l.length n j 2 rfl rfl 41 underlying28 sap G (j*2) (by omega)) ?_)|(refine gB rfl 41 (.tmp 30) (.tmp 29) rfl ⟨g,j*2,none⟩ rfl _ rfl _ I ?_))
   go_roundw
   case rel=>exact⟨j+1,J.set j (M,⟨#[]⟩),by omega,by go_num,by simpa using m,by rw[m]at Q;exact Q,(z.trans (k.mono (by simp))).trans (F.mono (by simp[Value.ownBlock]))⟩
   case measure=>simp[intOf];omega
  ·have hge:¬(j:Int)<(l.length:Int):=by omega
   go_wp2_with(first|(go_at_call 167;refine(TR _ _).mono ?_;rintro e N⟨⟨M,rfl⟩,k⟩;have t:=t.kept k (by simp);have z:=z.trans (k.mono (by simp)))|(at_builtin;(refine Q2d rfl (.tmp 37) (.tmp 42) rfl (.slice p l.length n) J rfl (t.kept ((y6.refl [] _).alloc _) (by simp)) (by omega) N.heap.size [(_,⟨#[]⟩),(_,⟨#[]⟩)] 2 2 rfl rfl (by omega) (af _ _) ?_;intro gv y C GT eD U;obtain⟨pg,cg,rfl⟩:=C.shape;simp only[ai,aB,bO,m,bL,Nat.reduceAdd]at C U)))
   have o:y6 (Value.slice p l.length n).ownBlock.toList w y:=(z.trans (((y6.refl [] _).alloc _).mono (by simp))).trans eD;have X:b∉(Value.slice p l.length n).ownBlock.toList:=fun a=>L b (by simpa using a) rfl;have T:OR y b px vl f c mo ch (.slice s xs.length q) wv:=o.get hb X;have R:HL y (.slice s xs.length q) wv xs:=by
    refine h.kept o ?_ ?_ ?_
    ·intro g d a;simp only[dP]at a;exact qH (yD h.lists d) (hv.tag a) (by decide) rfl
    ·intro g d a;simp only[dP]at a;exact qH (yD h.want d) (hv.tag a) (by decide) rfl
    ·intro x a;refine⟨fun g d A=> ?_,fun g d A=> ?_⟩
     ·simp only[dP]at A;exact(iw x a).1 g d A
     ·simp only[dP]at A;exact(iw x a).2 g d A
   have z5:w.heap.size<=y.heap.size:=o.size;have z2:w.heap.size<=N.heap.size:=z.size;have B:∀{v:Value} {l:List Pr} {D E:Value} {xs:List HLd} {W:World},PL W 41 v l->OR W b px vl f c mo ch D E->HL W D E xs->∀g,v.ownBlock=some g->g∉b::(D.ownBlock.toList++E.ownBlock.toList):=by
    intro v l D E xs W H ho S g d a;rcases an.1 a with rfl|a
    ·exact qH (H.tag d) ⟨_,_,ho⟩ (by decide) rfl
    ·rcases ar.1 a with a|a
     ·simp only[dP]at a;exact qH (H.tag d) (yD S.lists a) (by decide) rfl
     ·simp only[dP]at a;exact qH (H.tag d) (yD S.want a) (by decide) rfl
   refine(S0 b px vl f c mo ch (.slice s xs.length q) wv xs _ J y T R (by omega) GT (by omega)).mono ?_;rintro e V⟨rfl,Z,GV,Kq,rO,GW,r,O,P,GX⟩;have GY:=C.kept r (B C T R);go_wp2_with fail;have HH:=S0 b px vl f c mo ch Z GV _ _ _ V rO GW (by simp;omega) GY (by simp;omega);refine HH.mono ?_;rintro e w7⟨rfl,uE,tD,Kr,uC,GZ,ff,xN,xO,Y⟩;go_wp2;go_end0;have z6:y.heap.size<=V.heap.size:=r.size;refine⟨rfl,uE,tD,_,rfl,uC,by simpa using GZ,?_,?_,?_,?_⟩
   ·have mv:∀x∈(Value.slice p l.length n).ownBlock.toList,x∈b::((Value.slice s xs.length q).ownBlock.toList++wv.ownBlock.toList++(Value.slice p l.length n).ownBlock.toList):=fun x a=>aq _ (az _ a);have K:∀x∈b::((Value.slice s xs.length q).ownBlock.toList++wv.ownBlock.toList),x∈b::((Value.slice s xs.length q).ownBlock.toList++wv.ownBlock.toList++(Value.slice p l.length n).ownBlock.toList):=by
     intro x a;rcases an.1 a with rfl|a
     ·exact aZ
     ·exact aq _ (aw _ a)
    refine((o.mono mv).trans (r.mono K)).trans2 ff ?_;intro x a;rcases an.1 a with rfl|a
    ·exact Or.inl aZ
    rcases ar.1 a with a|a
    ·rcases O x (by simpa using a)with e|e
     ·exact Or.inl (K x (aq _ (aw _ (by simpa using e))))
     ·right;omega
    ·rcases P x (by simpa using a)with e|e
     ·exact Or.inl (K x (aq _ (az _ (by simpa using e))))
     ·right;omega
   ·intro g d;rcases xN g d with e|e
    ·rcases O g e with e|e
     ·exact Or.inl e
     ·right;omega
    ·right;omega
   ·intro g d;rcases xO g d with e|e
    ·rcases P g e with e|e
     ·exact Or.inl e
     ·right;omega
    ·right;omega
   ·intro x a;simp only[an,bW,or_false]at a;rcases a with rfl|rfl
    ·exact⟨fun g d=>Or.inl d,fun g d=>by have:=GX g d;omega⟩
    ·refine⟨fun g d=> ?_,fun g d=>by have:=Y g d;omega⟩;rcases U with e|e
     ·left;rw[<-e];exact d
     ·right;have iM:(some _:Option Nat)=some g:=e.symm.trans d
      cases iM
      simp;omega
end Go.Proofs.YtcklgafpgdhnaaaGreatDoor
