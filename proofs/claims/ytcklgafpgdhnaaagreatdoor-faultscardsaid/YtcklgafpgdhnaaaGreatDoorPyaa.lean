import Derived.Test.YtcklgafpgdhnaaaGreatDoorProg
import Derived.Handy
import Derived.WalkKit
import Derived.WalkSpells
import Derived.WalkLawsBesides
import Derived.Laws.CopyOwn
import Derived.OrdersHeld
import Derived.RegionTactic
set_option maxRecDepth 100000
set_option maxHeartbeats 4000000
set_option linter.unusedSimpArgs false
set_option linter.unusedVariables false
set_option linter.unusedSectionVars false
namespace Go.Proofs.YtcklgafpgdhnaaaGreatDoor
open Go.RowKit
set_option linter.defProp false
def aa:=@List.getElem?_eq_getElem
def ae:=@List.getElem?_eq_some_iff
def af:=@heap_alloc_new
def ag:=@Nat.le_refl
def ah:=@List.mem_of_getElem?
def ai:=@List.length_append
def aj:=@List.length_map
def ak:=@World.size_alloc
def an:=@List.mem_cons
def aq:=@List.mem_cons_of_mem
def ar:=@List.mem_append
def au:=@List.length_take
def av:=@Nat.le_trans
def aw:=@List.mem_append_left
def ax:=@frozen_of_row
def ay:=@Nat.zero_le
def az:=@List.mem_append_right
def aA:=@List.getElem?_map
def aB:=@List.length_cons
def aC:=@List.length_drop
def aD:=@List.getElem?_take
def aG:=@List.append_assoc
def aH:=@Option.some.inj
def aI:=@results_cell_row
def aJ:=@List.take_of_length_le
def aK:=@wpAnyH_done
def aL:=@List.drop_eq_getElem_cons
def aM:=@World.ownsRow_nil
def aN:=@length_splice
def aO:=@run_underlying
def aP:=@List.pairwise_cons
def aQ:=@List.pairwise_append
def aR:=@bodyPost_ret
def aS:=@List.take_append_drop
def aU:=@List.mem_iff_getElem?
def aV:=@List.getElem?_drop
def aW:=@wpList_load_row
def aX:=@List.nil_append
def aY:=@cell_of_row
def aZ:=@List.mem_cons_self
def ba:=@Option.some.injEq
def bg:=@List.mem_map
def bh:=@List.getElem?_append_right
def bj:=@Bool.false_eq_true
def bn:=@List.map_cons
def bo:=@List.append_nil
def bq:=@List.getElem?_append_left
def br:=@List.take_append_of_le_length
def bu:=@info_parts
def bz:=@Nat.lt_of_lt_of_le
def bA:=@Array.getElem?_eq_some_iff
def bC:=@List.drop_of_length_le
def bD:=@List.cons_append
def bE:=@List.sum_cons
def bF:=@List.flatMap_cons
def bG:=@Nat.lt_or_ge
def bH:=@setRow_heap
def bI:=@List.getElem?_cons_succ
def bJ:=@List.length_set
def bL:=@Nat.zero_add
def bM:=@decide_eq_true
def bN:=@Nat.mul_le_mul_right
def bO:=@List.length_nil
def bP:=@List.pairwise_iff_getElem
def bQ:=@List.eq_nil_of_length_eq_zero
def bR:=@List.length_replicate
def bS:=@Nat.min_eq_left
def bT:=@Nat.add_mul
def bU:=@wpAnyH_take
def bV:=@List.take_length
def bW:=@List.not_mem_nil
def bX:=@List.size_toArray
def bY:=@List.getElem?_eq_none
def bZ:=@Array.length_toList
def b7:=@Option.map_some
def cf:=@of_decide_eq_true
def cj:=@Option.map_eq_some_iff
def cn:=@List.mem_singleton
def cr:=@List.flatMap_append
def ct:=@decide_eq_false
def cz:=@Bool.and_eq_true
def cA:=@List.take_take
def cC:=@List.drop_take
def cD:=@List.mem_reverse
def cE:=@decide_eq_true_eq
def cF:=@List.Sublist.refl
def cG:=@Nat.le_succ
def cH:=@List.take_succ_cons
def cI:=@List.drop_succ_cons
def cJ:=@List.ext_getElem?
def cK:=@wpList_append_own
def cL:=@List.nodup_append
def cM:=@List.mem_of_mem_take
def cN:=@Nat.xor_lt_two_pow
def cO:=@Prod.mk.injEq
def cP:=@List.set_append_right
def cQ:=@if_false
def cR:=@List.take_zero
def cS:=@List.map_append
def cT:=@Nat.mod_lt
def cU:=@List.mem_flatMap
def cV:=@Option.getD_some
def cW:=@List.getElem?_set_ne
def cX:=@List.getElem?_cons_zero
def cY:=@run_append_own
def cZ:=@List.take_succ_eq_append_getElem
def da:=@List.drop_zero
def db:=@List.pairwise_map
def dc:=@List.getElem?_set_self
def dd:=@List.mem_range
def df:=@run_loadVar_row
def dh:=@rounds_succ
def dj:=@List.nodup_cons
def dm:=@List.exists_mem_of_ne_nil
def dt:=@List.length_filter_le
def dw:=@Nat.zero_mul
def dx:=@List.take_set
def dy:=@Nat.pow_le_pow_right
def dz:=@Array.replicate_succ
def dA:=@Array.replicate_zero
def dB:=@Nat.max_eq_left
def dC:=@List.getElem?_range
def dD:=@Nat.mul_le_mul_left
def dE:=@List.Sublist.append
def dF:=@List.append_toArray
def dG:=@Nat.add_zero
def dH:=@callsIn_wide
def dI:=@Nat.mod_eq_of_lt
def dJ:=@Nat.add_sub_cancel
def dK:=@Nat.mod_two_eq_zero_or_one
def dL:=@List.drop_drop
def dM:=@Nat.eq_zero_or_pos
def dN:=@Array.mem_of_getElem?
def dO:=@List.getElem?_eq_none_iff
def dP:=@Option.mem_toList
def dQ:=@List.push_toArray
def dR:=@List.set_eq_of_length_le
def dS:=@List.take_append
def dU:=@wp_loop_rounds
def dV:=@List.drop_length
structure y6(S:List Nat)(w w':World):Prop where
 os:w'.os=w.os
 tape:w'.tape=w.tape
 output:w'.output=w.output
 size:w.heap.size<=w'.heap.size
 block:∀k,k<w.heap.size->k∉S->w'.heap[k]?=w.heap[k]?
theorem y6.refl(S:List Nat)(w:World):y6 S w w:=⟨rfl,rfl,rfl,ag _,fun _ _ _=>rfl⟩
variable {S:List Nat}
theorem y6.trans2{S':List Nat}{a b c:World}(h:y6 S a b)(k:y6 S' b c)(hs:∀x∈S',x∈S\/a.heap.size<=x):y6 S a c:=
 ⟨k.os.trans h.os,k.tape.trans h.tape,k.output.trans h.output,av h.size k.size,fun i e f=>
  (k.block i (bz e h.size) (fun g=>by rcases hs i g with d|d;exact f d;omega)).trans (h.block i e f)⟩
theorem y6.trans{a b c:World}(h:y6 S a b)(k:y6 S b c):y6 S a c:=h.trans2 k fun _ d=>Or.inl d
theorem y6.mono{S':List Nat}{a b:World}(h:y6 S a b)(hs:∀x∈S,x∈S'):y6 S' a b:=
 ⟨h.os,h.tape,h.output,h.size,fun k c d=>h.block k c fun e=>d (hs k e)⟩
theorem y6.drew{S:List Nat}{a b:World}(h:y6 S a b):y6 S a b.drew:=⟨h.os,h.tape,h.output,h.size,h.block⟩
theorem y6.alloc{S:List Nat}{a b:World}(h:y6 S a b)(o:Obj):y6 S a (b.alloc o):=
 ⟨h.os,h.tape,h.output,by have:=h.size;simp;omega,fun k c d=>(Below.heap_alloc b o k (bz c h.size)).trans (h.block k c d)⟩
theorem y6.setCell{S:List Nat}{a b:World}(h:y6 S a b){p:Addr}(hp:p.block∈S\/a.heap.size<=p.block)(u:Value):y6 S a (b.setCell p u):=
 ⟨h.os,h.tape,h.output,by have:=h.size;simp[World.setCell];omega,fun k f d=>
  (Below.heap_setCell b p u k (fun e=>by subst e;rcases hp with c|c;exact d c;omega)).trans (h.block k f d)⟩
theorem y6.setRow{S:List Nat}{a b:World}(h:y6 S a b){g:Nat}(hp:g∈S\/a.heap.size<=g)(cs:Array Value):y6 S a (b.setRow g cs):=
 ⟨h.os,h.tape,h.output,by have:=h.size;simp;omega,fun k f d=>
  (setRow_other b g k cs (fun e=>by subst e;rcases hp with c|c;exact d c;omega)).trans (h.block k f d)⟩
variable {w w':World}
theorem y6.below(h:y6 [] w w'):Below w.heap.size w w':=⟨h.os,h.tape,h.output,h.size,fun k a=>h.block k a (by simp)⟩
theorem y6.of_below(h:Below w.heap.size w w'):y6 [] w w':=⟨h.os,h.tape,h.output,h.size,fun k a _=>h.block k a⟩
theorem yt{b:Nat}{o:Obj}(h:w.heap[b]?=some o):b<w.heap.size:=(bA.1 h).1
theorem y6.get(h:y6 S w w'){b:Nat}{o:Obj}(hb:w.heap[b]?=some o)(hn:b∉S):w'.heap[b]?=some o:=
 (h.block b (yt hb) hn).trans hb
theorem yP{a b:Nat}{c1 c2:Array Value}{t1 t2:TypeId}{f1 f2:Nat×Nat}(h1:w.heap[a]?=some (.cells c1 t1 f1))(h2:w.heap[b]?=some (.cells c2 t2 f2))(ht:t1≠t2):a≠b:=by
 intro e;subst e;rw[h1]at h2;simp only[ba,Obj.cells.injEq]at h2;exact ht h2.2.1
variable {g j:Nat}{cs:Array Value}{v:Value}
theorem y7{t:TypeId}{fr:Nat×Nat}(h:w.heap[g]?=some (.cells cs t fr))(hv:cs[j]?=some v):w.cell? ⟨g,j,none⟩=some v:=by
 rw[aY _ _ _ _ _ _ h];exact hv
variable {i:Nat}
theorem yf{t:TypeId}(v:Value)(h:w.heap[g]?=some (.cells cs t (0,0))):
  (w.setCell ⟨g,i,none⟩ v).heap[g]?=some (.cells (cs.setIfInBounds i v) t (0,0)):=heap_setCell_same w g i cs t v h
variable {P:Program}{ops:Array Oper}{rest:List Oper}{o:Oper}{Q:Exit->Act->World->Prop}
theorem ya{a:Act}(hgd:o.guard=none)(v:Value)(w':World)
  (eJ:(execOp a.eval o).run P w=.ok (.value v) w')(h:wpList P ops Q rest (a.put o.dst v) w'):wpList P ops Q (o::rest) a w:=
 wpList_plain hgd fun K b=>by unfold Oper.wp;rw[eJ];exact b _ _ h
theorem gL{a:Act}(hgd:o.guard=none)(w':World)
  (eJ:(execOp a.eval o).run P w=.ok .skip w')(h:wpList P ops Q rest (a.put o.dst undef) w'):wpList P ops Q (o::rest) a w:=
 wpList_plain hgd fun K b=>by unfold Oper.wp;rw[eJ];exact b _ _ h
theorem yw{a:Act}(hgd:o.guard=none)(v:Value)(x:Obj)
  (eJ:(execOp a.eval o).run P w=.ok (.value v) (w.alloc x))
  (h:∀w',w'.heap[w.heap.size]?=some x->y6 [] w w'->w'.heap.size=w.heap.size+1->wpList P ops Q rest (a.put o.dst v) w'):wpList P ops Q (o::rest) a w:=
 ya hgd v _ eJ (h _ (af w x) ((y6.refl _ _).alloc _) (by simp))
theorem jH{a:Act}(hgd:o.guard=none)(t:TypeId)(l c:Operand)(ho:o.op=.makeSlice t l c)
  (vl vc:Value)(hl:a.eval l=vl)(hc:a.eval c=vc)(v:Value)(x:Obj)(eJ:(Instr.makeSlice t vl vc).run P w=.ok v (w.alloc x))
  (h:∀w',w'.heap[w.heap.size]?=some x->y6 [] w w'->w'.heap.size=w.heap.size+1->wpList P ops Q rest (a.put o.dst v) w'):wpList P ops Q (o::rest) a w:=
 yw hgd v x (by unfold execOp;simp only[ho,hl,hc,Sem.run_bind,eJ,Result.andThen_ok,Sem.run_pure]) h
def u8s(l:List UInt8):List Value:=l.map fun b=> .int .u8 b.toNat
theorem yd(l:List UInt8):(u8s l).length=l.length:=by simp[u8s]
theorem qP(l:List UInt8):∀v∈u8s l,v.oneCell'=true:=by
 intro v a;simp only[u8s,bg]at a;obtain⟨b,_,rfl⟩:=a;rfl
theorem Qo(l:List UInt8)(j:Nat):(u8s l)[j]?=(l[j]?).map fun b=>Value.int .u8 b.toNat:=by simp[u8s]
theorem qn{a:Act}(hgd:o.guard=none)(t:TypeId)(ho:o.op=.alloc t)(cs:Array Value)
  (hz:(Instr.alloc t true (.tuple #[])).run P w=.ok (.pointer (some ⟨w.heap.size,0,none⟩)) (w.alloc (.cells cs t)))
  (h:∀w',w'.heap[w.heap.size]?=some (.cells cs t (0,0))->y6 [] w w'->w'.heap.size=w.heap.size+1->wpList P ops Q rest (a.put o.dst (.pointer (some ⟨w.heap.size,0,none⟩))) w'):wpList P ops Q (o::rest) a w:=
 yw hgd _ _ (by unfold execOp;simp only[ho,Sem.run_bind,hz,Result.andThen_ok,Sem.run_pure]) h
theorem ye{a:Act}(hgd:o.guard=none)(ty:TypeId)(x y:Operand)(ho:o.op=.store ty x y)
  (g:Nat)(cells:Array Value)(hx:a.eval x=.pointer (some ⟨g,0,none⟩))(hy:a.eval y=.agg cells)
  (t:TypeId)(old:Array Value)(hg:w.heap[g]?=some (.cells old t (0,0)))(hi:(P.info? ty).map (·.size)=some cells.size)
  (hold:old.size=cells.size)(h1:cells.all (·.oneCell')=true)
  (h:∀w',w'.heap[g]?=some (.cells cells t (0,0))->y6 [g] w w'->wpList P ops Q rest (a.put o.dst undef) w'):wpList P ops Q (o::rest) a w:=
 wpList_store_row hgd ty x y ho g cells hx hy t old hg hi hold h1 (h _ (bH w g _ _ t _ hg) ((y6.refl _ _).setRow (Or.inl (by simp)) _))
variable {K:Act->World->Prop}
theorem jR{a:Act}{ty:TypeId}(dT sT:TypeId)(elem:TypeId)(hu:P.underlying dT=some (.slice elem))(hsz:(P.info? elem).map (·.size)=some 1)
  (g off dLen dCap:Nat)(ad:Addr)(sLen sCap:Nat)
  (cur:List Value)(t:TypeId)(hg:w.heap[g]?=some (.cells cur.toArray t (0,0)))(cs:List Value)(hn:cs.length=Nat.min sLen dLen)
  (hH:∀j v,cs[j]?=some v->w.cell? (ad.add j)=some v)(hfit:off+cs.length<=cur.length)(h1:∀v∈cs,v.oneCell'=true)
  (h:∀w',w'.heap[g]?=some (.cells (splice cur off cs).toArray t (0,0))->y6 [g] w w'->K (a.put o.dst (goInt cs.length)) w'):
  Oper.upon P o a K Q ((Sem.run P (Builtin.copy_ #[dT,sT] ty #[.slice (some ⟨g,off,none⟩) dLen dCap,.slice (some ad) sLen sCap]) w).andThen fun a w'=>Result.ok (Next.value a) w'):=by
 rw[run_copy_row (P:=P) w dT sT ty elem g off dLen dCap ad sLen sCap cur.toArray t cs hu hsz hg hn hH (by simpa using hfit) h1];refine h _ ?_ ((y6.refl _ _).setRow (Or.inl (by simp)) _)
 simpa[splice]using bH w g _ _ t _ hg
theorem QL{α:Type}(L cs:List α)(h:L.length=cs.length):splice L 0 cs=cs:=by
 simp[splice,bC (Nat.le_of_eq h)]
theorem Q00(l:List Value):∀(k:Nat) (cs:Array Value),k+l.length<=cs.size->
  (l.zipIdx k).foldl (fun cs x=>cs.setIfInBounds (0+x.2) x.1) cs=(splice cs.toList k l).toArray:=by
 induction l with
 |nil=>intro k cs _;simp[splice]
 |cons v a ih=>
  intro k cs h;simp only[aB]at h;rw[List.zipIdx_cons,List.foldl_cons,ih (k+1) _ (by simp;omega)];congr 1;have e:=list_seg_step cs.toList k v a (by simp;omega);simp only[splice,bL,Array.toList_setIfInBounds,aB]at e⊢;rw[<-aG,<-aG];rw[show k+1+a.length=k+(a.length+1)by omega]at e⊢;exact e
theorem Qd(w:World)(t e:TypeId)(cs:Array Value)(ie:TypeInfo)(z:Value)(hu:P.underlying t=some (.slice e))(hi:P.info? e=some ie)(hz:ie.zero=some z)
  (hs:ie.size=cs.size)(h0:0<cs.size)(hb:cs.size<=1000):
  (Instr.buildSlice t 1 #[(0,.agg cs)]).run P w=.ok (.slice (some ⟨w.heap.size,0,none⟩) 1 1) (w.alloc (.cells cs e)):=by
 have a:Instr.fill (fun i=>some (i*ie.size,ie.size)) ((Array.range (1*ie.size)).map (z.cells[·%z.cells.size]!)) [(0,.agg cs)]=some cs:=by
  have hc:(Value.agg cs).cells=cs:=rfl;simp only[Instr.fill,hc,dw,hs];rw[if_neg (by simp)];congr 1;rw[<-Array.foldl_toList,Array.toList_zipIdx];have:=Q00 cs.toList 0 ((Array.range (1*cs.size)).map (z.cells[·%z.cells.size]!)) (by simp);rw[QL _ _ (by simp)]at this
  simpa using this
 have c:¬ie.size=0:=by omega
 have b:¬16777216<ie.size:=by omega
 generalize d:z.cells=f at a;simp only[Nat.one_mul]at a;simp[Instr.buildSlice,aO hu,sizeOf,typeInfo,hi,zeroValue,hz,newRow,c,b,d,a]
variable {listed:Array Bool}
section
variable {P:Program} {ops:Array Oper} {Q:Exit->Act->World->Prop} {md:Region.Mode} {S:World->Prop}
theorem yX{a:Act}(ho:ops[i]?=some o)(hg:o.guard=none)(v:Value)(w':World)
  (eJ:(execOp a.eval o).run P w=.ok (.value v) w')(h:K (a.put o.dst v) w'):wpOp P ops Q i K a w:=
 wpOp_step ho fun c b=>by rw[if_pos (by simp[Region.wanted,hg])];unfold Oper.wp;rw[eJ];exact b _ _ h
theorem qo{a:Act}(ho:ops[i]?=some o)(hg:o.guard=none)(w':World)
  (eJ:(execOp a.eval o).run P w=.ok .skip w')(h:K (a.put o.dst undef) w'):wpOp P ops Q i K a w:=
 wpOp_step ho fun c b=>by rw[if_pos (by simp[Region.wanted,hg])];unfold Oper.wp;rw[eJ];exact b _ _ h
theorem yi{fuel:Nat}{a:Act}(hr:Region.ready md ops listed= [i])
  (h:wpOp P ops Q i (fun a' w'=>S w'/\wpAnyH P md ops Q S fuel (listed.setIfInBounds i true) a' w') a w):wpAnyH P md ops Q S (fuel+1) listed a w:=
 wpAnyH_all hr (by simp) (by intro j b;simp at b;subst b;exact h)
theorem Nf{fuel:Nat}{a:Act}(hr:Region.ready md ops listed= [i,j])
  (h:wpOp P ops Q i (fun a' w'=>S w'/\wpAnyH P md ops Q S fuel (listed.setIfInBounds i true) a' w') a w)
  (h':wpOp P ops Q j (fun a' w'=>S w'/\wpAnyH P md ops Q S fuel (listed.setIfInBounds j true) a' w') a w):wpAnyH P md ops Q S (fuel+1) listed a w:=
 wpAnyH_all hr (by simp) (by intro k b;simp at b;rcases b with rfl|rfl;exact h;exact h')
theorem y9{a:Act}(ty:TypeId)(x:Operand)(ho:o.op=.load ty x)(ad:Addr)(hx:a.eval x=.pointer (some ad))(v:Value)
  (eJ:(loadVar ty ad).run P w=.ok v w):(execOp a.eval o).run P w=.ok (.value v) w:=by
 unfold execOp;simp only[ho,hx,Instr.loadAt,Instr.sureAddr,Sem.run_bind,Sem.run_pure,Result.andThen_ok,eJ]
theorem yK{a:Act}(ty:TypeId)(x y:Operand)(ho:o.op=.store ty x y)(ad:Addr)(hx:a.eval x=.pointer (some ad))(v:Value)(hy:a.eval y=v)
  (eJ:(storeVar ty ad v).run P w=.ok () w'):(execOp a.eval o).run P w=.ok .skip w':=by
 unfold execOp;simp only[ho,hx,hy,Instr.storeAt,Instr.sureAddr,Sem.run_bind,Sem.run_pure,Result.andThen_ok,eJ]
theorem jl{a:Act}(x y:Operand)(t:TypeId)(ho:o.op=.call {callee:=.builtin .append,args:=#[x,y],argTypes:=#[t,t]})(vx vy:Value)(hx:a.eval x=vx)(hy:a.eval y=vy)(v:Value)
  (eJ:(Builtin.append_ #[t,t] o.type #[vx,vy]).run P w=.ok v w'):(execOp a.eval o).run P w=.ok (.value v) w':=by
 simp[execOp,ho,resolve,invoke,builtin,hx,hy,eJ,Result.andThen]
theorem yv{a:Act}(t:TypeId)(n:Nat)(x:Operand)(ho:o.op=.buildSlice t n #[(0,x)])(vx:Value)(hx:a.eval x=vx)(v:Value)
  (eJ:(Instr.buildSlice t n #[(0,vx)]).run P w=.ok v w'):(execOp a.eval o).run P w=.ok (.value v) w':=by
 simp[execOp,ho,hx,eJ,Result.andThen]
theorem yh{ty:TypeId}{d:TypeDesc}{ad:Addr}(hu:P.underlying ty=some d)(hd:(match d with| .struct _| .array _ _=>true|_=>false)=false)(hc:w.cell? ad=some v):
  (loadVar ty ad).run P w=.ok v w:=by
 cases d<;>simp_all[loadVar,isAgg,aO hu]
theorem qR{ty:TypeId}{t:TypeId}(hs:(P.info? ty).map (·.size)=some 1)(h1:v.oneCell'=true)(hg:w.heap[g]?=some (.cells cs t (0,0)))(hj:j<cs.size):
  (storeVar ty ⟨g,j,none⟩ v).run P w=.ok () (w.setCell ⟨g,j,none⟩ v):=by
 have d:v.cells=#[v]:=by cases v<;>simp_all[Value.cells,Value.oneCell']
 have hc:w.cell? ⟨g,j,none⟩=some cs[j]:=y7 hg (by simp[hj]);have b:w.frozen? ⟨g,j,none⟩=false:=ax _ _ _ _ _ hg
 cases a:P.info? ty with
 |none=>simp[a]at hs
 |some i=>
  have c:i.size=1:=by simpa[a]using hs
  simp[storeVar,sizeOf,typeInfo,a,c,d,storeCells,Addr.add];rw[run_store P w _ _ _ h1];simp[hc,b]
theorem yQ(w:World)(g off:Nat)(t ty:TypeId)(cs xs:List Value)(fr:Nat×Nat)(d:TypeDesc)(hg:w.heap[g]?=some (.cells cs.toArray t fr))
  (hu:P.underlying ty=some d)(hd:(match d with| .struct _| .array _ _=>true|_=>false)=true)(hi:(P.info? ty).map (·.size)=some xs.length)
  (hx:∀j v,xs[j]?=some v->cs[off+j]?=some v):(loadVar ty ⟨g,off,none⟩).run P w=.ok (.agg xs.toArray) w:=by
 have e:(loadCells ⟨g,off,none⟩ xs.length).run P w=.ok xs.toArray w:=
  run_loadCells_list (P:=P) w ⟨g,off,none⟩ xs (fun j v h=>by
   have a:(⟨g,off,none⟩:Addr).add j=⟨g,off+j,none⟩:=by unfold Addr.add;split<;>simp_all
   rw[a,aY w g _ _ t fr hg]
   simpa using hx j v h)
 cases c:P.info? ty with
 |none=>simp[c]at hi
 |some i=>
  have f:i.size=xs.length:=by simpa[c]using hi
  have b:(isAgg ty).run P w=.ok true w:=by
   unfold isAgg;rw[Sem.run_bind,aO hu w]
   cases d<;>simp_all
  simp[loadVar,Sem.run_bind,b,sizeOf,typeInfo,c,f,e]
theorem yI(w:World)(g off:Nat)(t ty:TypeId)(cs xs:List Value)(hg:w.heap[g]?=some (.cells cs.toArray t (0,0)))(hi:(P.info? ty).map (·.size)=some xs.length)
  (hfit:off+xs.length<=cs.length)(h1:∀v∈xs,v.oneCell'=true):
  (storeVar ty ⟨g,off,none⟩ (.agg xs.toArray)).run P w=.ok () (w.setRow g (splice cs off xs).toArray):=by
 have b:=run_storeCells_at P g off t xs 0 cs.toArray w hg (by simpa using hfit) h1
 cases a:P.info? ty with
 |none=>simp[a]at hi
 |some i=>
  have c:i.size=xs.length:=by simpa[a]using hi
  simp[storeVar,sizeOf,typeInfo,a,c,Value.cells,b,splice]
theorem y8{a:Act}(hgd:o.guard=none)(ty:TypeId)(x:Operand)(ho:o.op=.load ty x)(ad:Addr)(hx:a.eval x=.pointer (some ad))(v:Value)
  (eJ:(loadVar ty ad).run P w=.ok v w)(h:wpList P ops Q rest (a.put o.dst v) w):wpList P ops Q (o::rest) a w:=
 ya hgd v w (y9 ty x ho ad hx v eJ) h
theorem add_lit(g o k:Nat):(⟨g,o,none⟩:Addr).add k=⟨g,o+k,none⟩:=by unfold Addr.add;split<;>simp_all
theorem yc{a:Act}(t:TypeId)(x ix:Operand)(ho:o.op=.indexAddr t x ix)(g off n cap i k:Nat)(hx:a.eval x=.slice (some ⟨g,off,none⟩) n cap)(th:a.eval ix=.int .i64 i)
  (e:TypeId)(hu:P.underlying t=some (.slice e))(hs:(P.info? e).map (·.size)=some k)(hi:i<n)(p:Nat)(hp:p=off+i*k):
  (execOp a.eval o).run P w=.ok (.value (.pointer (some ⟨g,p,none⟩))) w:=by
 cases b:P.info? e with
 |none=>simp[b]at hs
 |some d=>
  have c:d.size=k:=by simpa[b]using hs
  subst hp;rw[<-add_lit];simp[execOp,ho,hx,th,Instr.indexAt,asIntOf,aO hu,sizeOf,typeInfo,b,c,Result.andThen,hi]
end
end Go.Proofs.YtcklgafpgdhnaaaGreatDoor
