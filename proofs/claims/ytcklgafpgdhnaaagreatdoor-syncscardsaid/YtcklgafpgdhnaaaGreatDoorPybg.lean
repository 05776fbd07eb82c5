import Derived.Test.YtcklgafpgdhnaaaGreatDoorPybf
import Derived.Test.YtcklgafpgdhnaaaGreatDoorPybb
set_option maxRecDepth 100000
set_option maxHeartbeats 4000000
set_option linter.unusedSimpArgs false
set_option linter.unusedVariables false
set_option linter.unusedSectionVars false
open Go.Proofs.Tryz
namespace Go.Proofs.YtcklgafpgdhnaaaGreatDoor
open Go.RowKit Go.Shelf
structure Gr(B:Nat)(w w':World):Prop where
 os:w'.os=w.os
 tape:w'.tape=w.tape
 output:w'.output=w.output
 size:w.heap.size<=w'.heap.size
 low:∀(k:Nat),k<w.heap.size->k<B->w'.heap[k]?=w.heap[k]?
 row:∀(k:Nat) (cs:Array Value) (t:TypeId) (fr:Nat×Nat),w.heap[k]?=some (.cells cs t fr)->w'.heap[k]?=some (.cells cs t fr)
variable {B:Nat}
theorem Gr.of{a b:World}(h:y6 [] a b):Gr B a b:=⟨h.os,h.tape,h.output,h.size,fun k d _=>h.block k d (by simp),fun _ _ _ _ c=>h.get c (by simp)⟩
variable {W:World}
theorem Gr.put{l:Nat}{o:Obj}(o':Obj)(hB:B<=l)(h:W.heap[l]?=some o)(hc:o.isCells=false):Gr B W (W.putObj l o'):=by
 have g:=grownBy_putObj' W l o';refine⟨g.os,g.tape,g.output,g.size,fun i a b=>g.block i a (by intro e;cases e;omega),fun i c t d a=>(g.block i (yt a) ?_).trans a⟩;intro e
 cases e
 rw[a]at h
 cases h
 cases hc
theorem Gr.mono{B':Nat}{a b:World}(h:Gr B a b)(hb:B'<=B):Gr B' a b:=⟨h.os,h.tape,h.output,h.size,fun k c d=>h.low k c (by omega),h.row⟩
def Sty{β:Type}(B:Nat)(J:β->World->Prop):Prop:=∀s A A',J s A->Gr B A A'->J s A'
def Rnd{α:Type}(M:List Nat)(B:Nat)(J Jx:List α->World->Prop)(xs:List α)(W:World)(e:Ending)(W':World):Prop:=
 (e=.returned (.bool true)/\J xs W'/\KC M W W'/\KeepsFrom B W W')\/(e=.returned (.bool false)/\Jx xs W'/\KeepsFrom B W W')
def Itr{α:Type}(g:FuncId)(lb:Array Value)(encs:α->Array Value)(V:α->World->Prop)(M:List Nat)(S Sp:List α->Prop)(N:Nat)(w:World):Prop:=
 ∀(l:Nat) (J Jx:List α->World->Prop) (W:World),y6 [] w W->Sty W.heap.size J->Sty W.heap.size Jx->
  (∀m pre x W1,J pre W1->V x W1->pre.length<N->YieldAt Fence.wide m prog l (encs x) W1 (Rnd M W.heap.size J Jx (pre++ [x]) W1))->J [] W->
  Calls prog g (#[.func (.yield l) #[] #[]]++lb) W fun e W'=>(∃v,e=.returned v)/\((∃xs,S xs/\J xs W')\/∃pre,Sp pre/\Jx pre W')
def RndP{α:Type}(M:List Nat)(B:Nat)(I:List α->World->Prop)(Ix:Code->List α->World->Prop)(xs:List α)(W:World):Exit->Act->World->Prop
 | .normal,_,W'=>KeepsFrom B W W'/\KC M W W'/\I xs W'
 | .ret,_,W'=>KeepsFrom B W W'/\Ix .ret xs W'
 | .exit id,_,W'=>KeepsFrom B W W'/\Ix (.exit id) xs W'
 |_,_,_=>False
theorem Qz{W':World}(k:y6 [] W W'):W.grownBy W' none:=⟨k.os,k.tape,k.output,k.size,fun i a _=>k.block i a (by simp)⟩
theorem V4{l:Nat}(o:Obj)(hl:l<B):KeepsFrom B W (W.putObj l o):=
 KeepsFrom.of_grownBy (grownBy_putObj' W l o) fun j e=>by cases e;exact hl
variable {a:Act}{w:World}
theorem PV{α:Type}{g:Operand}{ps:Array Tmp}{assign body:Code}{Q:Exit->Act->World->Prop}{gf:FuncId}{lb:Array Value}(hg:a.eval g=.func (.func gf) #[] lb)(eg:∀args W,(callFunc gf args).run prog W=.ok (.enter gf args) W)
  {encs:α->Array Value}{V:α->World->Prop}{M:List Nat}{S Sp:List α->Prop}{N:Nat}(zV:Itr gf lb encs V M S Sp N w)(Jm:∀x,(encs x).size=ps.size)
  (I:List α->World->Prop)(Ix:Code->List α->World->Prop)(hI:Sty w.heap.size I)(Bi:∀c,Sty w.heap.size (Ix c))(h0:I [] w)
  (Ax:α->Act->World->Prop)(Jn:∀x a',Sty w.heap.size (fun(_:Unit) W=>Ax x a' W))(hV:∀x,Sty w.heap.size (fun(_:Unit) W=>V x W))
  (sY:∀(m l:Nat) (pre:List α) (x:α) (W:World) (K:Act->World->Prop),I pre W->V x W->(∀a' W',y6 [] W W'->Ax x a' W'->K a' W')->
   assign.wpIn (Fence.wide.inRound l) m prog (Exit.then K (fun _ _ _=>False)) {tmps:=(ps.zip (encs x)).foldl (fun t (p,v)=>t.setIfInBounds p v) a.tmps,defers:= []} W)
  (zW:∀(m l:Nat) (pre:List α) (x:α) (a':Act) (W:World),I pre W->V x W->Ax x a' W->pre.length<N->body.wpIn (Fence.wide.inRound l) m prog (RndP M w.heap.size I Ix (pre++ [x]) W) a' W)
  (zX:∀(D:Nat) (xs:List α) (W:World),w.heap.size<=D->S xs->I xs W->W.heap[D]?=some (.deferred (some []))->Q .normal {a with defers:={target:=.collected D,args:=#[]}::a.defers} W)
  (nX:∀(D:Nat) (c:Code) (pre:List α) (W:World),w.heap.size<=D->Sp pre->Ix c pre W->W.heap[D]?=some (.deferred (some []))->c.wp prog Q {a with defers:={target:=.collected D,args:=#[]}::a.defers} W):
  (Code.rangeFunc g ps assign body).wp prog Q a w:=by
 refine(wpIn_wide (n:=1)).1 (wpIn_rangeFunc fun fn oH=> ?_);obtain⟨d,C⟩:∃d:LoopState->Option Code->Loop,d=fun st pe=>{state:=st,pending:=pe,fn,tmps:=a.tmps,params:=ps,assign,body,defers:=w.heap.size}:=⟨_,rfl⟩
 obtain⟨k,q⟩:∃k,k=(w.alloc (.deferred (some []))).alloc (.loop (d .ready none)):=⟨_,rfl⟩
 have k1:y6 [] w k:=by rw[q];exact((y6.refl [] w).alloc _).alloc _
 have hs1:k.heap.size=w.heap.size+2:=by rw[q];simp
 have hL1:k.heap[w.heap.size+1]?=some (.loop (d .ready none)):=by
  have:=af (w.alloc (.deferred (some []))) (.loop (d .ready none));rw[ak]at this;rw[q];exact this
 have hD1:k.heap[w.heap.size]?=some (.deferred (some [])):=by
  rw[q];exact((y6.refl [] _).alloc _).block _ (by simp) (by simp)|>.trans (World.alloc_heap_new w _)
 refine⟨w.heap.size+1,[{target:=.collected w.heap.size,args:=#[]}],k,{target:=.fn (.func gf) lb,args:=#[.func (.yield (w.heap.size+1)) #[] #[]]},k,gf,#[.func (.yield (w.heap.size+1)) #[] #[]]++lb,k,?_,?_,fun _ _=>trivial,?_,fun h=>(by cases h),?_⟩
 ·rw[q,C];exact run_enterLoop_outer _ _ _ _ _
 ·simp only[resolve,hg];simp[go_sem]
 ·simp[invoke,go_sem,eg]
 refine dH.2 ((zV (w.heap.size+1) (fun pre W=>I pre W/\W.heap[w.heap.size+1]?=some (.loop (d .ready none))/\W.heap[w.heap.size]?=some (.deferred (some [])))
  (fun pre W=>∃c,Ix c pre W/\W.heap[w.heap.size+1]?=some (.loop (d .done (some c)))/\W.heap[w.heap.size]?=some (.deferred (some []))) k k1 ?_ ?_ ?_ ⟨hI _ _ _ h0 (Gr.of k1),hL1,hD1⟩).mono ?_)
 ·rintro s A A'⟨h1,U,X⟩H;exact⟨hI _ _ _ h1 (H.mono (by omega)),(H.low _ (bA.1 U).1 (by omega)).trans U,(H.low _ (bA.1 X).1 (by omega)).trans X⟩
 ·rintro s A A'⟨c,h1,U,X⟩H;exact⟨c,Bi c _ _ _ h1 (H.mono (by omega)),(H.low _ (bA.1 U).1 (by omega)).trans U,(H.low _ (bA.1 X).1 (by omega)).trans X⟩
 ·rintro m pre x W⟨F,B,L⟩hv Y;have hy:=run_yield (P:=prog) (args:=encs x) B (by rw[C];exact Jm x);rw[C]at hy;refine⟨fn,_,assign,body,hy,roundIn_of_wpIn oH (sY m _ pre x W _ F hv ?_)⟩;intro a' T O Jo;have nJ:T.heap[w.heap.size+1]?=some (.loop (d .ready none)):=(O.block _ (bA.1 B).1 (by simp)).trans B;have Bj:T.heap[w.heap.size]?=some (.deferred (some [])):=(O.block _ (bA.1 L).1 (by simp)).trans L;have hlt:w.heap.size+1<T.heap.size:=(bA.1 nJ).1;refine⟨_,run_beginRound nJ (by rw[C]),?_⟩;obtain⟨f,R⟩:∃f,f=T.putObj (w.heap.size+1) (.loop {d .ready none with state:=.busy}):=⟨_,rfl⟩
  rw[<-R];have gb:Gr w.heap.size T f:=by rw[R];exact Gr.put _ (by omega) nJ rfl
  have hlb:f.heap[w.heap.size+1]?=some (.loop {d .ready none with state:=.busy}):=by rw[R];exact World.putObj_heap_same hlt
  have hdb:f.heap[w.heap.size]?=some (.deferred (some [])):=by rw[R];exact(World.putObj_heap_other (by omega)).trans Bj
  have kcb:KC M W f:=(KC.of0 O).trans (by rw[R];exact KC.put _ _ _ _ nJ rfl);have J:KeepsFrom k.heap.size W f:=by
   refine KeepsFrom.trans (KeepsFrom.of_grownBy (Qz O) (fun j e=>by cases e)) ?_;rw[R];exact V4 _ (by omega)
  have ib:I pre f:=hI _ _ _ (hI _ _ _ F (Gr.of O)) gb;have vb:V x f:=hV x () _ _ (hV x () _ _ hv (Gr.of O)) gb;have ab:Ax x a' f:=Jn x a' () _ _ Jo gb;refine wpIn_mono (zW m _ pre x a' f ib vb ab Y) ?_;have E:∀(b:Option Code) (u:World),KeepsFrom w.heap.size f u->∃y,y=u.putObj (w.heap.size+1) (.loop (d (if b.isNone then .ready else .done) b))/\(Instr.endRound (w.heap.size+1) b).run prog u=.ok (.bool b.isNone) y/\
    y.heap[w.heap.size+1]?=some (.loop (d (if b.isNone then .ready else .done) b))/\y.heap[w.heap.size]?=some (.deferred (some []))/\Gr w.heap.size u y/\KC M u y/\KeepsFrom k.heap.size f y:=by
   intro b u k3;have fB:=k3.same _ _ (by omega) hlb rfl;have fF:=k3.same _ _ (ag _) hdb rfl;have G:=run_endRound (P:=prog) b fB;refine⟨_,rfl,?_,World.putObj_heap_same (bA.1 fB).1,(World.putObj_heap_other (by omega)).trans fF,Gr.put _ (by omega) fB rfl,KC.put _ _ _ _ fB rfl,?_⟩
   ·rw[G,C]
   ·refine KeepsFrom.trans ⟨k3.size,fun i o F ho hc=>k3.same i o (by omega) ho hc⟩ (V4 _ (by omega))
  rintro e a3 u z
  cases e with
  |normal=>
   obtain⟨Z,p2,p3⟩:=z;obtain⟨y,_,G,q1,q2,q3,q4,q5⟩:=E none u Z;exact⟨_,_,G,Or.inl ⟨rfl,⟨hI _ _ _ p3 q3,q1,q2⟩,(kcb.trans p2).trans q4,J.trans q5⟩⟩
  |ret=>
   obtain⟨Z,p3⟩:=z;obtain⟨y,_,G,q1,q2,q3,q4,q5⟩:=E (some .ret) u Z;exact⟨_,_,G,Or.inr ⟨rfl,⟨_,Bi _ _ _ _ p3 q3,q1,q2⟩,J.trans q5⟩⟩
  |exit id=>
   obtain⟨Z,p3⟩:=z;obtain⟨y,_,G,q1,q2,q3,q4,q5⟩:=E (some (.exit id)) u Z;exact⟨_,_,G,Or.inr ⟨rfl,⟨_,Bi _ _ _ _ p3 q3,q1,q2⟩,J.trans q5⟩⟩
  |goto t=>exact z.elim
  |panic c=>exact z.elim
  |outgrown=>exact z.elim
 ·rintro e W2⟨⟨v,rfl⟩,⟨xs,hS,F,B,L⟩|⟨pre,Jp,c,F,B,L⟩⟩
  ·have r:=run_endLoop (P:=prog) B (by rw[C];simp);have z:(d .ready none).pending=none:=by rw[C]
   rw[z]at r;exact⟨none,_,r,zX _ xs _ (ag _) hS (hI _ _ _ F (Gr.put _ (by omega) B rfl)) ((World.putObj_heap_other (by omega)).trans L)⟩
  ·have r:=run_endLoop (P:=prog) B (by rw[C];simp);have z:(d .done (some c)).pending=some c:=by rw[C]
   rw[z]at r;exact⟨some c,_,r,wpIn_wide.2 (nX _ c pre _ (ag _) Jp (Bi c _ _ _ F (Gr.put _ (by omega) B rfl)) ((World.putObj_heap_other (by omega)).trans L))⟩
variable {listed:Array Bool}
section
variable {l m:Nat} {ops:Array Oper} {Q:Exit->Act->World->Prop} {i:Nat} {o:Oper} {K:Act->World->Prop} {a:Act} {w:World}
theorem rOp(ho:ops[i]?=some o)(hw:Region.wanted o (yielded ops a.tmps)=true)(hd:∀c,o.op≠ .defer c)(v:Value)(w':World)(eJ:(execOp a.eval o).run prog w=.ok (.value v) w')(h:K (a.put o.dst v) w'):wpOpIn (Fence.wide.inRound l) m prog ops Q i K a w:=
 wpOpIn_step ho fun d b=>by
  rw[if_pos hw];refine⟨fun _ _=>trivial,?_⟩;rw[show(Fence.wide.inRound l).round=some l from rfl,Oper.semAt_some l a.eval o hd,eJ];exact b _ _ h
theorem Np(ho:ops[i]?=some o)(hw:Region.wanted o (yielded ops a.tmps)=false)(h:K (a.put o.dst undef) w):wpOpIn (Fence.wide.inRound l) m prog ops Q i K a w:=
 wpOpIn_step ho fun c b=>by
  rw[if_neg (by rw[hw];simp)];exact⟨fun _ _=>trivial,b _ _ h⟩
theorem MR(ho:ops[i]?=some o)(hw:Region.wanted o (yielded ops a.tmps)=true)(hd:∀c,o.op≠ .defer c)(f:FuncId)(args:Array Value)(eJ:(execOp a.eval o).run prog w=.ok (.enter f args) w)(R:Ending->World->Prop)(hc:Calls prog f args w R)
  (h:∀e w',R e w'->∃v,e=.returned v/\K (a.put o.dst v) w'):wpOpIn (Fence.wide.inRound l) m prog ops Q i K a w:=
 wpOpIn_step ho fun j b=>by
  rw[if_pos hw];refine⟨fun _ _=>trivial,?_⟩;rw[show(Fence.wide.inRound l).round=some l from rfl,Oper.semAt_some l a.eval o hd,eJ];refine⟨fun h=>(by cases h),CallsIn.inRound l ((dH.2 hc).mono ?_)⟩;intro e w' d;obtain⟨v,rfl,g⟩:=h e w' d;exact b _ _ g
theorem SS(ho:ops[i]?=some o)(hw:Region.wanted o (yielded ops a.tmps)=true)(hd:∀c,o.op≠ .defer c)(l0:Nat)(args:Array Value)(eJ:(execOp a.eval o).run prog w=(Instr.yield l0 args).run prog w)(R:Ending->World->Prop)(hy:YieldAt Fence.wide (m-1) prog l0 args w R)
  (h:∀e w',R e w'->∃v,e=.returned v/\K (a.put o.dst v) w'):wpOpIn (Fence.wide.inRound l) m prog ops Q i K a w:=
 wpOpIn_step ho fun g d=>by
  rw[if_pos hw];obtain⟨j,tmps,assign,body,hy,b⟩:=hy;refine⟨fun _ _=>trivial,?_⟩;rw[show(Fence.wide.inRound l).round=some l from rfl,Oper.semAt_some l a.eval o hd,eJ,hy];refine⟨fun h=>(by cases h),b.mono ?_⟩;intro e w' b;obtain⟨v,rfl,f⟩:=h e w' b;exact d _ _ f
theorem QA{fuel:Nat}(hr:Region.ready .any ops listed= [i])(h:wpOpIn (Fence.wide.inRound l) m prog ops Q i (wpAnyIn (Fence.wide.inRound l) m prog .any ops Q fuel (listed.setIfInBounds i true)) a w):wpAnyIn (Fence.wide.inRound l) m prog .any ops Q (fuel+1) listed a w:=
 wpAnyIn_all hr (by simp) (by intro j b;simp at b;subst b;exact h)
theorem rTwo{j fuel:Nat}(hr:Region.ready .any ops listed= [i,j])(h:wpOpIn (Fence.wide.inRound l) m prog ops Q i (wpAnyIn (Fence.wide.inRound l) m prog .any ops Q fuel (listed.setIfInBounds i true)) a w)
  (h':wpOpIn (Fence.wide.inRound l) m prog ops Q j (wpAnyIn (Fence.wide.inRound l) m prog .any ops Q fuel (listed.setIfInBounds j true)) a w):wpAnyIn (Fence.wide.inRound l) m prog .any ops Q (fuel+1) listed a w:=
 wpAnyIn_all hr (by simp) (by intro k b;simp at b;rcases b with rfl|rfl;exact h;exact h')
end
theorem SA{o:Oper}(x y z:Operand)(ts:Array TypeId)(ho:o.op=.call {callee:=.value x,args:=#[y,z],argTypes:=ts})(l:Nat)(hx:a.eval x=.func (.yield l) #[] #[])(vy vz:Value)(hy:a.eval y=vy)(hz:a.eval z=vz):
  (execOp a.eval o).run prog w=(Instr.yield l #[vy,vz]).run prog w:=by
 simp[execOp,ho,resolve,Deferred.ofValue,invoke,hx,hy,hz]
theorem To{o:Oper}(x:Operand)(ts:Array TypeId)(ho:o.op=.call {callee:=.value x,args:=#[],argTypes:=ts})(f:FuncId)(cap:Array Value)(hx:a.eval x=.func (.func f) #[] cap)(he:(callFunc f cap).run prog w=.ok (.enter f cap) w):
  (execOp a.eval o).run prog w=.ok (.enter f cap) w:=by
 simp[execOp,ho,resolve,Deferred.ofValue,invoke,hx,he]
end Go.Proofs.YtcklgafpgdhnaaaGreatDoor
namespace Go.Proofs.YtcklgafpgdhnaaaGreatDoor
open Go.RowKit
theorem zst(w:World):(Instr.build 84 #[]).run prog w=.ok (.agg row0) w:=by kernel_rfl
theorem sst:(prog.info? 84).map (·.size)=some 10:=by kernel_rfl
theorem Q9S(b x v:Nat)(c:Hd)(t:Tr)(r:Value)(w:World)(hs:1<=c.s)(hb:w.heap[b]?=some (.cells #[.pointer (some ⟨x,0,none⟩)] 27 (0,0)))(hx:w.heap[x]?=some (.cells (qC c v t r) 84 (0,0))):
  Calls prog 169 #[.pointer (some ⟨b,0,none⟩)] w (Ends [x] (Shut x) w):=by
 have j:w.cell? ⟨b,0,none⟩=some (.pointer (some ⟨x,0,none⟩)):=y7 hb rfl;have h:Hid (Calls _ _ _ _ _):=jA x v c t r w hs hx;have l:=zst;go_enter func169,ntmps169;go_wp2_with(first|(go_at_call 44;refine h.out.mono ?_;rintro e i⟨rfl,a⟩;have k:i.cell? ⟨b,0,none⟩=some (.pointer (some ⟨x,0,none⟩)):=y7 (a.get hb (by simp)) rfl;have f:=a.get hx (by simp))|(refine ye rfl 84 (.tmp 5) (.tmp 4) rfl x row0 rfl rfl 84 _ f sst rfl (by simp[row0,Value.oneCell']) ?_;intro m g d))
 go_end0;exact⟨rfl,g,(a.mono (by simp)).trans d⟩
theorem Q9T(b x:Nat)(w:World)(hb:w.heap[b]?=some (.cells #[.pointer (some ⟨x,0,none⟩)] 27 (0,0)))(hx:w.heap[x]?=some (.cells row0 84 (0,0))):
  Calls prog 169 #[.pointer (some ⟨b,0,none⟩)] w (jF 5 [] qY w):=by
 have g:w.cell? ⟨b,0,none⟩=some (.pointer (some ⟨x,0,none⟩)):=y7 hb rfl;have a:Hid (Calls _ _ _ _ _):=Zg x w hx;go_enter func169,ntmps169;go_wp2_with(first|(go_at_call 44;refine a.out.mono ?_;rintro e h⟨f,o,rfl,c,d⟩))
 exact⟨rfl,f,o,rfl,c,trivial,d⟩
def jc(P:Value->World->Prop)(S:List Nat)(w:World)(e:Ending)(w':World):Prop:=∃err,e=.returned err/\P err w'/\y6 S w w'
def IsNil(R:World->Prop)(err:Value)(W:World):Prop:=err=.nilIface/\R W
def LI(x:Int)(R:World->Prop)(err:Value)(W:World):Prop:=gU W err x/\R W
variable {w:World}
theorem gU.k{w':World}{err:Value}{x:Int}(h:gU w err x)(k:y6 [] w w'):gU w' err x:=by
 obtain⟨f1,f2,c,d,rfl,a,b⟩:=h.ex;exact⟨f1,f2,c,d,rfl,k.get a (by simp),k.get b (by simp)⟩
theorem M9(b:ByteArray)(fid:FuncId)(caps:Array Value)(he:∀(args:Array Value) (W:World),(callFunc fid args).run prog W=.ok (.enter fid args) W)(S:List Nat)(R:World->Prop)(w:World)(hS:∀x∈S,x<w.heap.size)
  (hR:∀W W' T,R W->y6 T W W'->(∀x∈T,Tg W x 35)->R W')(hw:∀W,y6 [] w W->Calls prog fid caps W (Ends S R W)):
  Calls prog 42 #[.string b,.func (.func fid) #[] caps] w (jc (IsNil R) S w):=by
 refine(Q30 b fid caps he S R w hS (fun W W' T a c d=>hR W W' T a c fun x f=>(d x f).2.2) fun W k _=>hw W k).mono ?_;rintro e g⟨rfl,a,c⟩;exact⟨_,rfl,⟨rfl,a⟩,c⟩
theorem gX(b:ByteArray)(fid:FuncId)(caps:Array Value)(he:∀(args:Array Value) (W:World),(callFunc fid args).run prog W=.ok (.enter fid args) W)(x:Int)(R:World->Prop)(w:World)
  (hR:∀W W' T,R W->y6 T W W'->(∀x∈T,Tg W x 35)->R W')(hw:∀W,y6 [] w W->Calls prog fid caps W (jF x [] R W)):
  Calls prog 42 #[.string b,.func (.func fid) #[] caps] w (jc (LI x R) [] w):=by
 refine(Q32 b fid caps he x [] R w (by simp) (fun W W' T a c d=>hR W W' T a c fun x g=>(d x g).2.2) fun W k _=>hw W k).mono ?_;rintro e h⟨f,rfl,a,c,d⟩;exact⟨_,rfl,⟨a,c⟩,d⟩
theorem Tm(x:Nat)(P:Value->World->Prop)(S:List Nat)(w:World)(hc:∀b,Calls prog 42 #[.string b,.func (.func 169) #[] #[.pointer (some ⟨w.heap.size,0,none⟩)]] (w.alloc (.cells #[.pointer (some ⟨x,0,none⟩)] 27)) (jc P S (w.alloc (.cells #[.pointer (some ⟨x,0,none⟩)] 27)))):
  Calls prog 147 #[.pointer (some ⟨x,0,none⟩)] w (jc P S w):=by
 have d:Hid (∀b,Calls _ _ _ _ _):=hc;have g:=j2;clear hc;go_enter func147,ntmps147;go_wp2_with(go_at_call 42;refine(d.out _).mono ?_;rintro e h⟨a,rfl,f,c⟩)
 go_ret;exact⟨a,rfl,f,((y6.refl S w).alloc _).trans c⟩
variable {x:Nat}
theorem Shut.err{W W':World}{T:List Nat}(h:Shut x W)(k:y6 T W W')(hT:∀y∈T,Tg W y 35):Shut x W':=k.get h fun a=>by
 have:=(hT x a).ne ⟨_,_,h⟩;revert this;decide
theorem Yk(x v a n:Nat)(c:Hd)(r:Value)(t:Tr)(w:World)(h:Rec x v a n c r t w):Calls prog 147 #[.pointer (some ⟨x,0,none⟩)] w (jc (IsNil (Shut x)) [x] w):=by
 have j:=(y6.refl [] w).alloc (.cells #[.pointer (some ⟨x,0,none⟩)] 27);refine Tm x _ _ w fun b=>M9 b _ _ (fun _ _=>by kernel_rfl) [x] _ _ ?_ (fun W k T f g i=>f.err g i) fun W e=> ?_
 ·intro y d;simp at d;subst d;have:=yt h.row;rw[ak];omega
 ·exact Q9S _ x v c t r W h.st.1 (e.get (af _ _) (by simp)) (e.get (j.get h.row (by simp)) (by simp))
theorem Q9Z(x:Nat)(w:World)(h:Shut x w):Calls prog 147 #[.pointer (some ⟨x,0,none⟩)] w (jc (LI 5 qY) [] w):=by
 have c:=(y6.refl [] w).alloc (.cells #[.pointer (some ⟨x,0,none⟩)] 27);exact Tm x _ _ w fun b=>gX b _ _ (fun _ _=>by kernel_rfl) 5 _ _ (fun _ _ _ _ _ _=>trivial) fun W a=>Q9T _ x W (a.get (af _ _) (by simp)) (a.get (c.get h (by simp)) (by simp))
theorem Qa0(args:Array Value)(w:World):(callFunc 50 args).run prog w=.ok (.enter 50 args) w:=qy func50 (by kernel_rfl) (by kernel_rfl) args w
def Bx2(b0 b1 x:Nat)(k:ByteArray)(W:World):Prop:=W.heap[b0]?=some (.cells #[.pointer (some ⟨x,0,none⟩)] 27 (0,0))/\W.heap[b1]?=some (.cells #[.string k] 9 (0,0))
theorem Bx2.k{b0 b1:Nat}{k:ByteArray}{W W':World}(h:Bx2 b0 b1 x k W)(kk:y6 [] W W'):Bx2 b0 b1 x k W':=⟨kk.get h.1 (by simp),kk.get h.2 (by simp)⟩
variable {v n:Nat}{r:Value}{t:Tr}
theorem Rec.load{a:Nat}{c:Hd}(h:Rec x v a n c r t w):(loadVar 82 ⟨x,7,none⟩).run prog w=.ok (.agg #[.string ⟨#[]⟩,.int .i64 t.pl,r]) w:=by
 refine yQ (P:=prog) w x 7 84 82 (qC c v t r).toList [.string ⟨#[]⟩,.int .i64 t.pl,r] (0,0) _ h.row underlying82 rfl stT ?_;intro j u hu;rcases j with _|_|_|j
 ·simpa[qC]using hu
 ·simpa[qC]using hu
 ·simpa[qC]using hu
 ·simp at hu
theorem Rec.set{a:Nat}{c:Hd}{r':Value}{t':Tr}(h:Rec x v a n c r t w)(A:Nat->Prop)(ht:TV w A t' r'):∃w',(storeVar 82 ⟨x,7,none⟩ (.agg #[.string ⟨#[]⟩,.int .i64 t'.pl,r'])).run prog w=.ok () w'/\Rec x v a n c r' t' w'/\y6 [x] w w':=by
 have f:=yI (P:=prog) w x 7 84 82 (qC c v t r).toList [.string ⟨#[]⟩,.int .i64 t'.pl,r'] h.row (by rw[stT];rfl) (by simp[qC]) (by intro u hu;simp at hu;rcases hu with rfl|rfl|rfl;rfl;rfl;exact ht.one);have d:y6 [x] w (w.setRow x (splice (qC c v t r).toList 7 [.string ⟨#[]⟩,.int .i64 t'.pl,r']).toArray):=(y6.refl _ _).setRow (Or.inl (by simp)) _;have g:Tg w x 84:=⟨_,_,h.row⟩
 have b:∀y∈ [x],¬TT w y:=by
  intro y j;simp at j;subst j;rintro(e|e)
  ·have:=g.ne e;revert this;decide
  ·have:=g.ne e;revert this;decide
 refine⟨_,f,⟨bH _ _ _ _ _ _ h.row,d.get h.vol ?_,h.st,TV.kept h.lv.tags d b fun _ _=>trivial,TV.kept ht.tags d b fun _ _=>trivial⟩,d⟩;intro i;simp at i;subst i;have:=g.ne ⟨_,_,h.vol⟩;revert this;decide
theorem Qa1(b0 b1 x v a n:Nat)(c:Hd)(r:Value)(t:Tr)(k:ByteArray)(w:World)(hb:Bx2 b0 b1 x k w)(h:Rec x v a n c r t w)(ht:TW t)(hs:c.s=1\/c.s=2)(hk:gz k):
  Calls prog 48 #[.pointer (some ⟨b0,0,none⟩),.pointer (some ⟨b1,0,none⟩)] w (Ends [x] (fun W=>∃r',Rec x v a n c r' (delT k t) W) w):=by
 have M:w.cell? ⟨b0,0,none⟩=some (.pointer (some ⟨x,0,none⟩)):=y7 hb.1 rfl;have D:Hid (Calls _ _ _ _ _):=jq x v c t r w hs h.row;have C:Hid (∀W,Calls prog 45 #[.string k] W _):=fun W=>Zh k W hk;have B:Hid (∀W,y6 [] w W->_):=fun W H=>Q96 (h.k H).tv.tags (fun y F=>TT.lt F) ht k;have J:Hid _:=h;have u:Hid _:=hb;clear h hb;go_enter func48,ntmps48;go_wp2_with(first|(go_at_call 49;refine D.out.mono ?_;rintro e K⟨rfl,d⟩;have N:K.cell? ⟨b1,0,none⟩=some (.string k):=y7 (Bx2.k u.out d).2 rfl)|(go_at_call 45;refine(C.out _).mono ?_;rintro e z⟨rfl,j⟩))
 have l:Bx2 b0 b1 x k z.drew:=Bx2.k u.out (d.trans j).drew;have o:Rec x v a n c r t z.drew:=Rec.k J.out (d.trans j).drew;refine yo (Bx2 b0 b1 x k) (by kernel_rfl) ?_;refine uh 0 (.pointer (some ⟨x,0,none⟩)) rfl (fun W g=>y9 27 (.tmp 0) rfl ⟨b0,0,none⟩ rfl _ (yh underlying27 rfl (y7 g.1 rfl))) l ?_;refine uh 1 (.pointer (some ⟨x,0,none⟩)) rfl (fun W g=>y9 27 (.tmp 0) rfl ⟨b0,0,none⟩ rfl _ (yh underlying27 rfl (y7 g.1 rfl))) l ?_;refine uh 2 (.pointer (some ⟨x,0,none⟩)) rfl (fun W g=>by rfl) l ?_;refine uh 3 (.pointer (some ⟨x,0+7,none⟩)) rfl (fun W g=>yx 84 (.tmp 8) 4 rfl x (0) rfl 7 (by rfl)) l ?_;refine uh 5 (.string k) rfl (fun W g=>y9 9 (.tmp 1) rfl ⟨b1,0,none⟩ rfl _ (yh underlying9 rfl (y7 g.2 rfl))) l ?_;refine yi (i:=4) (by kernel_rfl) (yM rfl (by rfl) (.agg #[.string ⟨#[]⟩,.int .i64 t.pl,r]) _ (y9 82 (.tmp 9) rfl ⟨x,0+7,none⟩ rfl _ o.load) ⟨l,?_⟩);simp only[zz];refine yi (i:=6) (by kernel_rfl) (yp rfl (by rfl) 50 #[.agg #[.string ⟨#[]⟩,.int .i64 t.pl,r],.string k] (yn _ _ _ rfl _ (by simp[Act.eval]) (Qa0 _ _)) _ (B.out _ (d.trans j).drew) ?_);rintro e O⟨I,rfl,L,f⟩;have b:=l.k f;refine⟨_,rfl,b,?_⟩;simp only[zz];refine uh 7 (.pointer (some ⟨x,0,none⟩)) rfl (fun W g=>by rfl) b ?_;refine uh 8 (.pointer (some ⟨x,0+7,none⟩)) rfl (fun W g=>yx 84 (.tmp 13) 4 rfl x (0) rfl 7 (by rfl)) b ?_;obtain⟨q,A,G,p⟩:=(o.k f).set _ L;have m:Bx2 b0 b1 x k q:=⟨p.get b.1 (by simp;intro e;subst e;have:=Tg.ne ⟨_,_,b.1⟩ ⟨_,_,(o.k f).row⟩;revert this;decide),p.get b.2 (by simp;intro e;subst e;have:=Tg.ne ⟨_,_,b.2⟩ ⟨_,_,(o.k f).row⟩;revert this;decide)⟩
 refine yi (i:=9) (by kernel_rfl) (qo rfl rfl q (yK 82 (.tmp 14) (.tmp 12) rfl ⟨x,0+7,none⟩ rfl _ rfl A) ⟨m,?_⟩);simp only[zz];refine aK (by kernel_rfl) ?_ _;have E:Hid (y6 [x] w q):=((((d.trans j).drew).trans f).mono (by simp)).trans p;clear l b m A;go_wp2;go_end0;exact⟨rfl,⟨I,G⟩,E.out⟩
theorem Qa2(b0 b1 x:Nat)(k:ByteArray)(w:World)(hb:Bx2 b0 b1 x k w)(h:Shut x w):
  Calls prog 48 #[.pointer (some ⟨b0,0,none⟩),.pointer (some ⟨b1,0,none⟩)] w (jF 5 [] qY w):=by
 have g:w.cell? ⟨b0,0,none⟩=some (.pointer (some ⟨x,0,none⟩)):=y7 hb.1 rfl;have a:Hid (Calls _ _ _ _ _):=Z5 x w h;have d:Hid _:=hb;clear hb;go_enter func48,ntmps48;go_wp2_with(first|(go_at_call 49;refine a.out.mono ?_;rintro e i⟨f,o,rfl,b,c⟩))
 exact⟨rfl,f,o,rfl,b,trivial,c⟩
theorem XO(b0 b1 x:Nat)(k:ByteArray)(w:World)(hb:Bx2 b0 b1 x k w){a:Nat}{c:Hd}(h:Rec x v a n c r t w)(hs:c.s=3):
  Calls prog 48 #[.pointer (some ⟨b0,0,none⟩),.pointer (some ⟨b1,0,none⟩)] w (jF 4 [] qY w):=by
 have j:w.cell? ⟨b0,0,none⟩=some (.pointer (some ⟨x,0,none⟩)):=y7 hb.1 rfl;have b:Hid (Calls _ _ _ _ _):=Z6 x v c t r w hs h.row;have i:Hid _:=hb;clear hb;go_enter func48,ntmps48;go_wp2_with(first|(go_at_call 49;refine b.out.mono ?_;rintro e l⟨f,o,rfl,d,g⟩))
 exact⟨rfl,f,o,rfl,d,trivial,g⟩
theorem Qa4(b0 b1 x:Nat)(k:ByteArray)(w:World)(hb:Bx2 b0 b1 x k w){a:Nat}{c:Hd}(h:Rec x v a n c r t w)(hs:c.s=1\/c.s=2)(hk:¬gz k):
  Calls prog 48 #[.pointer (some ⟨b0,0,none⟩),.pointer (some ⟨b1,0,none⟩)] w (jF 1 [] qY w):=by
 have p:w.cell? ⟨b0,0,none⟩=some (.pointer (some ⟨x,0,none⟩)):=y7 hb.1 rfl;have i:Hid (Calls _ _ _ _ _):=jq x v c t r w hs h.row;have g:Hid (∀W,Calls prog 45 #[.string k] W _):=fun W=>Rp k W hk;have d:Hid _:=hb;clear hb;go_enter func48,ntmps48;go_wp2_with(first|(go_at_call 49;refine i.out.mono ?_;rintro e m⟨rfl,b⟩;have q:m.cell? ⟨b1,0,none⟩=some (.string k):=y7 (Bx2.k d.out b).2 rfl)|(go_at_call 45;refine(g.out _).mono ?_;rintro e u⟨f,o,rfl,j,l⟩))
 exact⟨rfl,f,o,rfl,j,trivial,b.trans l⟩
theorem M6(x:Nat)(k:ByteArray)(P:Value->World->Prop)(S:List Nat)(w:World)
  (hc:∀b,Calls prog 42 #[.string b,.func (.func 48) #[] #[.pointer (some ⟨w.heap.size,0,none⟩),.pointer (some ⟨w.heap.size+1,0,none⟩)]] ((w.alloc (.cells #[.pointer (some ⟨x,0,none⟩)] 27)).alloc (.cells #[.string k] 9)) (jc P S ((w.alloc (.cells #[.pointer (some ⟨x,0,none⟩)] 27)).alloc (.cells #[.string k] 9)))):
  Calls prog 22 #[.pointer (some ⟨x,0,none⟩),.string k] w (jc P S w):=by
 have d:Hid (∀b,Calls _ _ _ _ _):=hc;have g:=j2;clear hc;go_enter func22,ntmps22;go_wp2_with(go_at_call 42;refine(d.out _).mono ?_;rintro e h⟨a,rfl,f,c⟩)
 go_ret;exact⟨a,rfl,f,(((y6.refl S w).alloc _).alloc _).trans c⟩
theorem Mf(w:World)(x:Nat)(k:ByteArray):Bx2 w.heap.size (w.heap.size+1) x k ((w.alloc (.cells #[.pointer (some ⟨x,0,none⟩)] 27)).alloc (.cells #[.string k] 9)):=by
 constructor
 ·exact((y6.refl [] _).alloc _).get (af _ _) (by simp)
 ·have:=af (w.alloc (.cells #[.pointer (some ⟨x,0,none⟩)] 27)) (.cells #[.string k] 9)
  rwa[ak]at this
theorem Qa7(x v a n:Nat)(c:Hd)(r:Value)(t:Tr)(k:ByteArray)(w:World)(h:Rec x v a n c r t w)(ht:TW t)(hs:c.s=1\/c.s=2)(hk:gz k):Calls prog 22 #[.pointer (some ⟨x,0,none⟩),.string k] w (jc (IsNil fun W=>∃r',Rec x v a n c r' (delT k t) W) [x] w):=by
 have j:=((y6.refl [] w).alloc (.cells #[.pointer (some ⟨x,0,none⟩)] 27)).alloc (.cells #[.string k] 9);refine M6 x k _ _ w fun b=>M9 b _ _ (fun _ _=>by kernel_rfl) [x] _ _ ?_ (fun W l T d g i=> ?_) fun W f=> ?_
 ·intro y e;simp at e;subst e;have:=yt h.row;rw[ak,ak];omega
 ·obtain⟨r',d⟩:=d;exact⟨r',d.err g i⟩
 ·exact Qa1 _ _ x v a n c r t k W ((Mf w x k).k f) ((h.k j).k f) ht hs hk
theorem Qa8(x:Nat)(k:ByteArray)(w:World)(h:Shut x w):Calls prog 22 #[.pointer (some ⟨x,0,none⟩),.string k] w (jc (LI 5 qY) [] w):=by
 have c:=((y6.refl [] w).alloc (.cells #[.pointer (some ⟨x,0,none⟩)] 27)).alloc (.cells #[.string k] 9);exact M6 x k _ _ w fun b=>gX b _ _ (fun _ _=>by kernel_rfl) 5 _ _ (fun _ _ _ _ _ _=>trivial) fun W a=>Qa2 _ _ x k W ((Mf w x k).k a) (a.get (c.get h (by simp)) (by simp))
theorem Qa9(x v a n:Nat)(c:Hd)(r:Value)(t:Tr)(k:ByteArray)(w:World)(h:Rec x v a n c r t w)(hs:c.s=1\/c.s=2)(hk:¬gz k):Calls prog 22 #[.pointer (some ⟨x,0,none⟩),.string k] w (jc (LI 1 qY) [] w):=by
 have e:=((y6.refl [] w).alloc (.cells #[.pointer (some ⟨x,0,none⟩)] 27)).alloc (.cells #[.string k] 9);exact M6 x k _ _ w fun b=>gX b _ _ (fun _ _=>by kernel_rfl) 1 _ _ (fun _ _ _ _ _ _=>trivial) fun W d=>Qa4 _ _ x k W ((Mf w x k).k d) ((h.k e).k d) hs hk
theorem Yz(x v a n:Nat)(c:Hd)(r:Value)(t:Tr)(k:ByteArray)(w:World)(h:Rec x v a n c r t w)(hs:c.s=3):Calls prog 22 #[.pointer (some ⟨x,0,none⟩),.string k] w (jc (LI 4 qY) [] w):=by
 have e:=((y6.refl [] w).alloc (.cells #[.pointer (some ⟨x,0,none⟩)] 27)).alloc (.cells #[.string k] 9);exact M6 x k _ _ w fun b=>gX b _ _ (fun _ _=>by kernel_rfl) 4 _ _ (fun _ _ _ _ _ _=>trivial) fun W d=>XO _ _ x k W ((Mf w x k).k d) ((h.k e).k d) hs
def TrdR(a:Nat)(bv:Value)(n:Nat)(cv:Value)(D:Dv)(rt:Option Tr)(w:World)(e:Ending)(w':World):Prop:=
 ∃D',DQ w' a bv n cv D'/\y6 [a] w w'/\((Qt D D'/\∃t r,rt=some t/\e=.returned (.agg #[.string ⟨#[]⟩,.int .i64 (t.pl:Nat),r])/\TV w' Tru t r)\/(Qt D D'/\rt=none/\Thr 7 e w')\/(Er D D'/\Thr 6 e w'))
def SNil(sv:Nat)(W:World):Prop:=W.heap[sv]?=some (.cells #[.pointer none] 27 (0,0))
def OpE(sv a:Nat)(bv:Value)(n:Nat)(cv:Value)(D:Dv)(h:(Nat×Nat)×Bool)(rt:Option Tr)(B:Nat)(o:Option Int)(W:World):Prop:=
 ∃D',DQ W a bv n cv D'/\((o=some 6/\Er D D'/\SNil sv W)\/(o=some 7/\Qt D D'/\SNil sv W/\(h.2=false\/rt=none))\/
  (o=none/\Qt D D'/\h.2=true/\∃t r x v,rt=some t/\W.heap[sv]?=some (.cells #[.pointer (some ⟨x,0,none⟩)] 27 (0,0))/\Rec x v a n ⟨1,h.1.1,h.1.2,t,r⟩ r t W/\B<=x/\B<=v))
theorem OpE.err{sv a:Nat}{bv:Value}{n:Nat}{cv:Value}{D:Dv}{h:(Nat×Nat)×Bool}{rt:Option Tr}{B:Nat}{o:Option Int}{W W':World}{T:List Nat}(g:OpE sv a bv n cv D h rt B o W)(k:y6 T W W')(hT:∀x∈T,Tg W x 35):OpE sv a bv n cv D h rt B o W':=by
 obtain⟨i,f,l⟩:=g;have c:∀{y:Nat} {t:TypeId},Tg W y t->t≠35->y∉T:=fun e d b=>d (e.ne (hT _ b));refine⟨i,f.kept k ?_,?_⟩
 ·intro y e b;obtain⟨m,p,j⟩:=hT y b;exact f.no j (by decide) e
 ·rcases l with⟨h1,h2,h3⟩|⟨h1,h2,h3,h4⟩|⟨h1,h2,h3,t,r,x,v,h4,h5,h6,h7⟩
  ·exact Or.inl ⟨h1,h2,k.get h3 (c ⟨_,_,h3⟩ (by decide))⟩
  ·exact Or.inr (Or.inl ⟨h1,h2,k.get h3 (c ⟨_,_,h3⟩ (by decide)),h4⟩)
  ·exact Or.inr (Or.inr ⟨h1,h2,h3,t,r,x,v,h4,k.get h5 (c ⟨_,_,h5⟩ (by decide)),h6.err k hT,h7⟩)
theorem szp:(prog.info? 27).map (·.size)=some 1:=by kernel_rfl
theorem stHd:(prog.info? 76).map (·.size)=some 2:=by kernel_rfl
theorem Qcv(p sv a:Nat)(bv:Value)(n:Nat)(cv:Value)(D:Dv)(rt:Option Tr)(w:World)(hp:w.heap[p]?=some (.cells #[.iface 26 (.pointer (some ⟨a,0,none⟩))] 126 (0,0)))(wY:SNil sv w)(h:DQ w a bv n cv D)(fM:8<=n)(hn:n<=400)(hq:D.q.length<1000000)(hT:qM D\/Tab w)
  (hR:∀v W D1,Vol W v a n->DQ W a bv n cv D1->Qt D D1->(qM D1\/Tab W)->(Tab w->Tab W)->Calls prog 90 #[.pointer (some ⟨v,0,none⟩),.int .i64 ((yg D).1.2:Nat)] W (TrdR a bv n cv D1 rt W)):
  Calls prog 89 #[.pointer (some ⟨p,0,none⟩),.pointer (some ⟨sv,0,none⟩)] w (L0 [a,sv] (OpE sv a bv n cv D (yg D) rt w.heap.size) w):=by
 have c0:w.cell? ⟨p,0,none⟩=some (.iface 26 (.pointer (some ⟨a,0,none⟩))):=y7 hp rfl;obtain⟨F,E,rfl⟩:=yZ h.b;have HN:Hid (∀v W,Vol W v a n->DQ W a (.slice F n E) n cv D->(qM D\/Tab W)->Calls prog 88 #[.pointer (some ⟨v,0,none⟩)] W (RdR a (.slice F n E) n cv D (fun e _=>e=.returned (nwV (yg D))) W)):=fun v W hV hD hT=>WL v a _ n cv D W hV hD fM (by omega) (by omega) hT;have HR:Hid (∀v W D1,Vol W v a n->DQ W a (.slice F n E) n cv D1->Qt D D1->(qM D1\/Tab W)->(Tab w->Tab W)->Calls prog 90 #[.pointer (some ⟨v,0,none⟩),.int .i64 ((yg D).1.2:Nat)] W (TrdR a (.slice F n E) n cv D1 rt W)):=hR;clear hR;obtain⟨⟨⟨t0,s⟩,b0⟩,hx⟩:∃x,x=yg D:=⟨_,rfl⟩
 rw[<-hx]at HN HR⊢;clear hx;have hsl:=yt wY;go_enter func89,ntmps89;go_wp2_with fail;refine(Tn a n E F cv D w h.d fM hn).mono ?_;rintro e w1⟨v,rfl,J,AB,g⟩;have B:=h.k0 g;have lC:qM D\/Tab w1:=hT.imp id fun hT=>hT.k g;have nv:v∉yk a (.slice F n E) cv:=B.no J (by decide);have c:∀y∈ [a],y∈yk a (.slice F n E) cv:=by intro y H;simp at H;subst H;simp[yk]
 have z:sv∉yk a (.slice F n E) cv:=h.no wY (by decide);go_wp2_with fail;refine(HN.out v w1 J B lC).mono ?_;rintro e l⟨N,X,j,⟨L,rfl⟩|⟨rR,tA⟩⟩;rotate_left
 ·obtain⟨f,o,rfl,Y⟩:=tA.ex;exact⟨rfl,some 6,tA,⟨N,X,Or.inl ⟨rfl,rR,j.get (g.get wY (by simp)) fun u=>z (c _ u)⟩⟩,(g.mono (by simp)).trans (j.mono (by simp))⟩
 have Q:Vol l v a n:=j.get J (fun u=>nv (c _ u));have eS:SNil sv l:=j.get (g.get wY (by simp)) fun u=>z (c _ u);have lB:qM N\/Tab l:=lC.imp L.good.2 fun hT=>hT.kept j (hT.dqa B);have I9:Hid (Tab w->Tab l):=fun hT=>(hT.k g).kept j ((hT.k g).dqa B);have oA:y6 [a] w l:=(g.mono (by simp)).trans j;have K:=(y6.refl [] l).alloc (.cells #[.int .u64 (t0:Int),.int .i64 (s:Int)] 76);have Z:=af l (.cells #[.int .u64 (t0:Int),.int .i64 (s:Int)] 76);have Ja:Hid (y6 [] l _):=K;have fF:=X.k0 K;have ic:Vol (l.alloc (.cells #[.int .u64 (t0:Int),.int .i64 (s:Int)] 76)) v a n:=K.get Q (by simp);have P:SNil sv (l.alloc (.cells #[.int .u64 (t0:Int),.int .i64 (s:Int)] 76)):=K.get eS (by simp);have S:=oA.trans2 K (by simp);have mX:qM N\/Tab (l.alloc (.cells #[.int .u64 (t0:Int),.int .i64 (s:Int)] 76)):=lB.imp id fun hT=>hT.k K;have eE:=oA.size;clear B g lC;simp only[nwV];generalize xT:l.alloc (.cells #[.int .u64 (t0:Int),.int .i64 (s:Int)] 76)=w3 at*;have O:Hid _:=xT;clear xT
 cases b0 with
 |false=>
  go_wp2_with fail;rw[O.out];go_wp2_with(first|(go_at_call 62;refine(jy _ _ _).mono ?_;rintro e w4⟨f,o,rfl,Y,m⟩))
  exact⟨rfl,some 7,⟨f,o,rfl,Y⟩,⟨N,fF.k0 m,Or.inr (Or.inl ⟨rfl,L,m.get P (by simp),Or.inl rfl⟩)⟩,(S.mono (by simp)).trans (m.mono (by simp))⟩
 |true=>
  have c30:w3.cell? ⟨l.heap.size,0,none⟩=some (.int .u64 t0):=y7 Z rfl;have ru:w3.cell? ⟨l.heap.size,1,none⟩=some (.int .i64 s):=y7 Z rfl;go_wp2_with fail;rw[O.out];go_wp2_with(first|(go_at_call 91;refine(Q2s t0 s _).mono ?_;rintro e w4⟨rfl,m⟩))
  refine(HR.out v w4 N (m.get ic (by simp)) (fF.k0 m) L (mX.imp id fun hT=>hT.k m) (fun hT=>((I9.out hT).k Ja.out).k m)).mono ?_;rintro e A⟨D5,pS,G,⟨kV,t,r,FO,rfl,A5⟩|⟨kV,FO,T⟩|⟨Jb,T⟩⟩;rotate_left
  ·obtain⟨f,o,rfl,Y⟩:=T.ex;exact⟨rfl,some 7,T,⟨D5,pS,Or.inr (Or.inl ⟨rfl,L.trans kV,G.get (m.get P (by simp)) fun u=>z (c _ u),Or.inr FO⟩)⟩,((S.mono (by simp)).trans (m.mono (by simp))).trans (G.mono (by simp))⟩
  ·obtain⟨f,o,rfl,Y⟩:=T.ex;exact⟨rfl,some 6,T,⟨D5,pS,Or.inl ⟨rfl,L.er Jb,G.get (m.get P (by simp)) fun u=>z (c _ u)⟩⟩,((S.mono (by simp)).trans (m.mono (by simp))).trans (G.mono (by simp))⟩
  have fI:=A5.one;have U:SNil sv A:=G.get (m.get P (by simp)) fun u=>z (c _ u);have wL:Vol A v a n:=G.get (m.get ic (by simp)) fun u=>nv (c _ u);have n5:=G.get (m.get Z (by simp)) (fun u=>X.ge (ag _) (c _ u));have wD:A.cell? ⟨l.heap.size,0,none⟩=some (.int .u64 t0):=y7 n5 rfl;have tG:A.cell? ⟨l.heap.size,1,none⟩=some (.int .i64 s):=y7 n5 rfl;have Lg:A.cell? ⟨sv,0,none⟩=some (.pointer none):=y7 U rfl;have Li:A.frozen? ⟨sv,0,none⟩=false:=ax _ _ _ _ _ U;have K5:y6 [a,sv] w A:=((S.mono (by simp)).trans (m.mono (by simp))).trans (G.mono (by simp));have k6:=(y6.refl [] A).alloc (.cells #[.string ⟨#[]⟩,.int .i64 0,.nilIface] 82);have z6:=af A (.cells #[.string ⟨#[]⟩,.int .i64 0,.nilIface] 82);have hlt2:=yt n5;have vd:=yt U;clear S oA j eS P Q ic X fF lB mX Z K;go_wp2_with(first|(refine ye rfl 82 (.tmp 5) (.tmp 19) rfl A.heap.size #[.string ⟨#[]⟩,.int .i64 (t.pl:Int),r] rfl rfl 82 _ z6 stT rfl (one3 _ fI) ?_;intro C t6 I;have n6:=I.get (k6.get n5 (by simp)) (by simp;omega);have s6:=I.get (k6.get U (by simp)) (by simp;omega);have K6:y6 [] A C:=k6.trans2 I (by intro y H;simp at H;subst H;exact Or.inr (ag _));have k7:=(y6.refl [] C).alloc (.cells #[.int .i64 1,.pointer (some ⟨v,0,none⟩),.int .u64 (t0:Int),.int .i64 (s:Int),.string ⟨#[]⟩,.int .i64 (t.pl:Int),r,.string ⟨#[]⟩,.int .i64 (t.pl:Int),r] 84);have s7:=k7.get s6 (by simp);have x7:=af C (.cells #[.int .i64 1,.pointer (some ⟨v,0,none⟩),.int .u64 (t0:Int),.int .i64 (s:Int),.string ⟨#[]⟩,.int .i64 (t.pl:Int),r,.string ⟨#[]⟩,.int .i64 (t.pl:Int),r] 84))|(refine gL rfl _ (yK 27 (.tmp 1) (.tmp 25) rfl ⟨sv,0,none⟩ rfl _ rfl (qR szp rfl s7 (by simp))) ?_)|(refine aW rfl 76 (.tmp 3) rfl l.heap.size rfl 76 #[.int .u64 (t0:Int),.int .i64 (s:Int)] (0,0) _ n6 underlying76 rfl stHd ?_)|(refine aW rfl 82 (.tmp 5) rfl A.heap.size rfl 82 #[.string ⟨#[]⟩,.int .i64 (t.pl:Int),r] (0,0) _ t6 underlying82 rfl stT ?_))
  go_end0;have M:y6 [sv] (C.alloc (.cells (qC ⟨1,t0,s,t,r⟩ v t r) 84)) ((C.alloc (.cells (qC ⟨1,t0,s,t,r⟩ v t r) 84)).setCell ⟨sv,0,none⟩ (.pointer (some ⟨C.heap.size,0,none⟩))):=(y6.refl _ _).setCell (Or.inl (by simp)) _;have V:y6 [] A (C.alloc (.cells (qC ⟨1,t0,s,t,r⟩ v t r) 84)):=K6.trans k7;have wR:=(A5.k V).tags;have R:∀y∈ [sv],¬TT (C.alloc (.cells (qC ⟨1,t0,s,t,r⟩ v t r) 84)) y:=by
   intro y H;simp at H;subst H;rintro(B|B)
   ·have:=Tg.ne ⟨_,_,s7⟩ B;revert this;decide
   ·have:=Tg.ne ⟨_,_,s7⟩ B;revert this;decide
  have Lj:=K6.size;refine⟨none,rfl,⟨D5,(pS.k0 V).k1 M z,Or.inr (Or.inr ⟨rfl,L.trans kV,rfl,t,r,C.heap.size,v,rfl,yf (i:=0) _ s7,⟨M.get x7 (by simp;omega),M.get (V.get wL (by simp)) (by simp;intro e;subst e;have:=Tg.ne ⟨_,_,U⟩ ⟨_,_,wL⟩;revert this;decide),⟨ag _,by show 1<=3;decide⟩,TV.kept wR M R fun _ _=>trivial,TV.kept wR M R fun _ _=>trivial⟩,by have:=K5.size;omega,by omega⟩)⟩,(K5.trans (V.mono (by simp))).trans (M.mono (by simp))⟩
def LdS(r:Nat)(f:ByteArray)(x' lf:Value)(W:World):Prop:=(∃p:Int,W.heap[r]?=some (.cells #[.string f,.int .i64 p,x'] 80 (0,0)))/\W.heap[r+1]?=some (.cells #[lf] 136 (0,0))
theorem RX:(prog.info? 3).map (·.size)=some 1:=by kernel_rfl
theorem Tu{fid:FuncId}{c1 c2:Value}{N:Nat}{I:Ls->World->Prop}{J:Bool×Nat->Ending->World->Prop}{B:Nat}(hL:Lyr fid c1 c2 N I J B){h:Nat}(IH:∀h',h=h'+1->LdOk fid c1 c2 N I J B h')(s:Ls)(k:Kid h)(x:Value)(A:Nat->Prop)(w:World)(hx:ND w A h k.2 x)(hA:∀y,A y->y<w.heap.size)(hc:CkN h k.2)(hI:I s w)(hB:B<=w.heap.size)(hz:k.3=0):Calls prog 116 #[.agg #[.string k.1,.int .i64 (k.3:Nat),x],lfv fid c1 c2] w (LdR N I J h s k A w):=by
 have oD:=hx.iface;rw[hz];have HW:Hid (∀W,y6 [] w W->w.heap.size+3<=W.heap.size->W.heap[w.heap.size+1]?=some (.cells #[lfv fid c1 c2] 136 (0,0))->∃fn v,jj "store/tree.with" x fn v/\Calls prog fn #[v,.func (.func 150) #[] #[.pointer (some ⟨w.heap.size+1,0,none⟩)]] W (LwR N (LvI I (lfv fid c1 c2) (w.heap.size+1)) J h s k.2 A W)):=fun W kW _ hr=>Q9E hL IH s k.2 x A W (w.heap.size+1) (ND.kept kW (by simp) (fun _ h=>h) hx) (fun y a=>bz (hA y a) kW.size) hc ⟨hL.fresh _ _ _ [] hI kW (by simp),hr⟩ (av hB kW.size);have K:Hid (∀W,I (qg h k.2 s).2 W->Qx (nbN h (qg h k.2 s).1)):=fun W r=>Q9t h k.2 s hc fun u hu=>bz (hL.bnd _ _ r u hu) hL.nb;have HE:=Z1 hz s;have X:Hid _:=HE;have uR:=hL.en;clear HE hx hI hc;obtain⟨tx,vx,ex⟩:=oD;subst ex;go_enter func116,ntmps116;go_wp2_with(first|(refine yw rfl _ _ (j8 80 (.tmp 0) rfl #[.string k.1,.int .i64 0,.iface tx vx] rfl) ?_;intro w1 n1 q1 hs1)|(refine yw rfl _ _ (jZ 136 (.tmp 1) rfl (lfv fid c1 c2) rfl rfl) ?_;intro w2 n2 q2 eS;rw[hs1]at n2 eS)|(refine yj rfl 4 rfl 80 rfl _ (zkid _) ?_;intro D n3 V fV;rw[eS]at n3 fV;have m3:=V.get (q2.get n1 (by simp)) (by simp);have r3:=V.get n2 (by simp);have ru:D.cell? ⟨w.heap.size,1,none⟩=some (.int .i64 0):=y7 m3 rfl;have zm:D.cell? ⟨w.heap.size,2,none⟩=some (.iface tx vx):=y7 m3 rfl;obtain⟨fn,vv,⟨t,et,hm,he⟩,eo⟩:=HW.out D ((q1.trans q2).trans V) (by omega) r3;cases et;have n:Hid (Calls _ _ _ _ _):=eo;clear eo))
 refine n.out.mono ?_;have K3:y6 [] w D:=(q1.trans q2).trans V;rintro e H⟨⟨x',rfl,mg,vo⟩|⟨b,O,Z⟩,T⟩;rotate_left
 ·obtain⟨ch,rfl⟩:=hL.jp _ _ _ O;exact⟨rfl,Or.inr ⟨b,O,by rw[X.out];exact Z.mono (.step (.refl _) _)⟩,(KA.k0 K3).trans T⟩
 have m4:=T.row _ _ _ _ trivial (by decide) m3;have n4:=T.row _ _ _ _ trivial (by decide) n3;have r4:=vo.2;have hs4:=T.size;obtain⟨d,c,ey⟩:=mg.iface;have IN:Hid (ND H (fun y=>A y\/D.heap.size<=y) h (qg h k.2 s).1 x'):=mg;have AW:Hid (I (qg h k.2 s).2 H):=vo.1;have g:=K.out _ vo.1;clear mg vo m3 n3 n1 n2 r3 ru zm q1 q2 V;subst ey;go_wp2_with(refine gL rfl _ (yK 78 (.tmp 12) (.tmp 11) rfl ⟨w.heap.size,2,none⟩ rfl (.iface d c) rfl (qR VV rfl m4 (by simp))) ?_)
 have k5:y6 [w.heap.size] H (H.setCell ⟨w.heap.size,2,none⟩ (.iface d c)):=(y6.refl _ _).setCell (Or.inl (by simp)) _;have m5:=yf (i:=2) (.iface d c) m4;have r5:=k5.get r4 (by simp);have n5:=k5.get n4 (by simp;omega);obtain⟨m,F⟩:∃m,m=(H.setCell ⟨w.heap.size,2,none⟩ (.iface d c)).drew:=⟨_,rfl⟩
 have Y:y6 [w.heap.size] H m:=by rw[F];exact k5.drew
 have z:m.heap[w.heap.size]?=some (.cells #[.string k.1,.int .i64 0,.iface d c] 80 (0,0)):=by rw[F];exact m5
 have R:LdS w.heap.size k.1 (.iface d c) (lfv fid c1 c2) m:=by rw[F];exact⟨⟨0,m5⟩,r5⟩
 have U:m.heap[w.heap.size+1+1]?=some (.cells #[.string ⟨#[]⟩,.int .i64 0,.nilIface] 80 (0,0)):=by rw[F];exact n5
 have o:ND m (fun y=>A y\/D.heap.size<=y) h (qg h k.2 s).1 (.iface d c):=ND.kept Y (by
  intro y a;simp at a;subst a;rintro(f|f)
  ·have:=hA _ f;omega
  ·omega) (fun _ h=>h) IN.out
 have M:I (qg h k.2 s).2 m:=hL.fresh _ _ _ [w.heap.size] AW.out Y (by intro y a;simp at a;subst a;exact⟨hB,_,_,m4⟩);have lS:KA Tru w m:=((KA.k0 K3).trans T).new Y (by intro y a;simp at a;subst a;exact ag _);have IP:Hid (m=_):=F;clear k5 m5 r5 n5 Y F m4 n4 r4;obtain⟨fb,vb,⟨tb,eb,zw,zx⟩,sy⟩:=Q80 o g
 cases eb
 have hel:=OH g;have hsz:=lS.size;have K8:Hid (tk (qg h k.2 s).2.us=_/\_):=⟨rfl,trivial⟩
 refine yo (LdS w.heap.size k.1 (.iface d c) (lfv fid c1 c2)) (by kernel_rfl) ?_;rw[<-IP.out];refine uh 0 (lfv fid c1 c2) rfl (fun W r=>y9 136 (.tmp 3) rfl ⟨w.heap.size+1,0,none⟩ rfl _ (yh underlying136 rfl (y7 r.2 rfl))) R ?_;refine uh 1 (.pointer (some ⟨w.heap.size,0+2,none⟩)) rfl (fun W r=>yx 80 (.tmp 2) 2 rfl w.heap.size 0 rfl 2 (by rfl)) R ?_;refine uh 2 (.iface d c) rfl (fun W r=>y9 78 (.tmp 14) rfl ⟨w.heap.size,0+2,none⟩ rfl _ (yh underlying78 rfl (by obtain⟨p,hp⟩:=r.1;exact y7 hp rfl))) R ?_;refine yi (i:=3) (by kernel_rfl) (yp rfl (by rfl) fb #[c] (ZT (.tmp 15) "store/tree.block" rfl d c rfl fb (zw _) (zx _ _)) _ sy ?_);rintro e w6⟨rfl,l⟩;have q:LdS w.heap.size k.1 (.iface d c) (lfv fid c1 c2) w6:=⟨⟨0,l.get z (by simp)⟩,l.get R.2 (by simp)⟩
 refine⟨_,rfl,q,?_⟩;simp only[zz];refine yi (i:=4) (by kernel_rfl) (jO rfl (by rfl) fid #[.agg (u8s (gS (nbN h (qg h k.2 s).1))).toArray,c1,c2] (Q9p (.tmp 13) (.tmp 16) 92 rfl fid #[c1,c2] rfl _ rfl (uR _ _)) _ (hL.call _ _ w6 (hL.fresh _ _ _ [] M l (by simp)) hel (by have:=l.size;omega)) ?_);rintro e E⟨⟨rfl,rz⟩|⟨b,O,Z⟩,C⟩;rotate_left
 ·obtain⟨ch,rfl⟩:=hL.jp _ _ _ O;exact Or.inr ⟨ch,rfl,rfl,Or.inr ⟨b,O,by rw[X.out];exact⟨fun mr h=>Z.1 mr (h _ (aZ ..)),by simp only[Ls.step,ai];exact av Z.2 (Nat.le_add_right _ _)⟩⟩,(lS.trans (KA.k0 l)).trans C⟩
 have S:=C.row _ _ _ _ trivial (by decide) (l.get z (by simp));have r7:=C.row _ _ _ _ trivial (by decide) q.2;have n7:=C.row _ _ _ _ trivial (by decide) (l.get U (by simp));have Fq:=ND.ka (C.mono fun _ _=>trivial) (ND.kept l (by simp) (fun _ h=>h) o);have iA:LdS w.heap.size k.1 (.iface d c) (lfv fid c1 c2) E:=⟨⟨0,S⟩,r7⟩
 refine Or.inl ⟨_,rfl,iA,?_⟩;simp only[zz];refine uh 5 (.pointer (some ⟨w.heap.size,0+1,none⟩)) rfl (fun W r=>yx 80 (.tmp 2) 1 rfl w.heap.size 0 rfl 1 (by rfl)) iA ?_;have G:y6 [w.heap.size] E (E.setCell ⟨w.heap.size,0+1,none⟩ (.int .i64 (tk (qg h k.2 s).2.us:Nat))):=(y6.refl _ _).setCell (Or.inl (by simp)) _;have m8:=yf (i:=0+1) (.int .i64 (tk (qg h k.2 s).2.us:Nat)) S;have zy:=qR (P:=prog) (v:=.int .i64 (tk (qg h k.2 s).2.us:Nat)) (j:=0+1) RX rfl S (by simp);have n8:=G.get n7 (by simp;omega);have r8:=G.get r7 (by simp);have AX:I ((qg h k.2 s).2.step (gS (nbN h (qg h k.2 s).1))) (E.setCell ⟨w.heap.size,0+1,none⟩ (.int .i64 (tk (qg h k.2 s).2.us:Nat))):=hL.fresh _ _ _ [w.heap.size] rz G (by intro y a;simp at a;subst a;exact⟨hB,_,_,S⟩);have Fs:ND (E.setCell ⟨w.heap.size,0+1,none⟩ (.int .i64 (tk (qg h k.2 s).2.us:Nat))) (fun y=>A y\/D.heap.size<=y) h (qg h k.2 s).1 (.iface d c):=ND.kept G (by
  intro y a;simp at a;subst a;rintro(f|f)
  ·have:=hA _ f;omega
  ·omega) (fun _ h=>h) Fq
 have Q:KA Tru w (E.setCell ⟨w.heap.size,0+1,none⟩ (.int .i64 (tk (qg h k.2 s).2.us:Nat))):=((lS.trans (KA.k0 l)).trans C).new G (by intro y a;simp at a;subst a;exact ag _);generalize E.setCell ⟨w.heap.size,0+1,none⟩ (.int .i64 (tk (qg h k.2 s).2.us:Nat))=w8 at*;refine yi (i:=6) (by kernel_rfl) (qo rfl rfl w8 (yK 3 (.tmp 18) (.tmp 17) rfl ⟨w.heap.size,0+1,none⟩ rfl (.int .i64 (tk (qg h k.2 s).2.us:Nat)) rfl zy) ⟨⟨⟨_,m8⟩,r8⟩,?_⟩);simp only[zz];refine aK (by kernel_rfl) ?_ _;have L:Hid (_/\_):=⟨Fs,AX⟩
 have m8':w8.heap[w.heap.size]?=some (.cells #[.string k.1,.int .i64 (tk (qg h k.2 s).2.us:Nat),.iface d c] 80 (0,0)):=m8;have Ft:w8.heap[w.heap.size+1+1]?=some (.cells #[.string ⟨#[]⟩,.int .i64 0,.nilIface] 80 (0,0)):=n8;clear Fs AX Fq rz o M R q iA m8 n8 S n7 r7 r8 zy G C l sy z U g;go_wp2_with(first|(refine aW rfl 80 (.tmp 2) rfl w.heap.size rfl 80 #[.string k.1,.int .i64 (tk (qg h k.2 s).2.us:Nat),.iface d c] (0,0) _ m8' underlying80 rfl stk ?_)|(refine ye rfl 80 (.tmp 4) (.tmp 19) rfl (w.heap.size+1+1) #[.string k.1,.int .i64 (tk (qg h k.2 s).2.us:Nat),.iface d c] rfl rfl 80 _ Ft stk rfl (qf (jb _ _ rfl)) ?_;intro w9 n9 k9))
 refine aR (aI rfl _ w9 (w.heap.size+1+1) 80 _ (0,0) _ rfl n9 underlying80 rfl stk) rfl ?_;refine⟨Or.inl ⟨.iface d c,?_,?_,?_⟩,Q.new k9 (by intro y a;simp at a;subst a;omega)⟩
 ·rw[X.out]
 ·rw[X.out];refine ND.kept k9 ?_ ?_ L.out.1
  ·intro y a;simp at a;subst a;rintro(f|f)
   ·have:=hA _ f;omega
   ·omega
  ·rintro y(f|f)
   ·exact Or.inl f
   ·exact Or.inr (by omega)
 ·rw[X.out];exact hL.fresh _ _ _ [w.heap.size+1+1] L.out.2 k9 (by intro y a;simp at a;subst a;exact⟨by omega,_,_,Ft⟩)
theorem Uf{fid:FuncId}{c1 c2:Value}{N:Nat}{I:Ls->World->Prop}{J:Bool×Nat->Ending->World->Prop}{B:Nat}(hL:Lyr fid c1 c2 N I J B):∀h,LdOk fid c1 c2 N I J B h
 |0=>fun s k x A W c d hc b f=>by
  by_cases a:k.3=0
  ·exact Tu hL (fun _ e=>by cases e) s k x A W c d (hc.2.2 a) b f a
  ·exact Wl hL s k x A W c b a
 |h+1=>fun s k x A W c d hc b f=>by
  by_cases a:k.3=0
  ·exact Tu hL (fun g e=>by cases e;exact Uf hL h) s k x A W c d (hc.2.2 a) b f a
  ·exact Wl hL s k x A W c b a
theorem TZ(w:World)(d:Value):((w.alloc (.cells #[d] 126)).alloc (.cells #[.pointer none] 27)).heap[w.heap.size]?=some (.cells #[d] 126 (0,0))/\
  ((w.alloc (.cells #[d] 126)).alloc (.cells #[.pointer none] 27)).heap[w.heap.size+1]?=some (.cells #[.pointer none] 27 (0,0)):=by
 constructor
 ·exact((y6.refl [] _).alloc _).get (af _ _) (by simp)
 ·have:=af (w.alloc (.cells #[d] 126)) (.cells #[.pointer none] 27)
  rwa[ak]at this
def UE(a:Nat)(bv:Value)(n:Nat)(cv:Value)(D:Dv)(h:(Nat×Nat)×Bool)(rt:Option Tr)(w:World)(e:Ending)(w':World):Prop:=
 ∃o pv err D',e=.returned (.tuple #[pv,err])/\CEnd o err w'/\DQ w' a bv n cv D'/\y6 [a] w w'/\((o=some 6/\Er D D'/\pv=.pointer none)\/(o=some 7/\Qt D D'/\pv=.pointer none/\(h.2=false\/rt=none))\/
  (o=none/\Qt D D'/\h.2=true/\∃t r x v,rt=some t/\pv=.pointer (some ⟨x,0,none⟩)/\Rec x v a n ⟨1,h.1.1,h.1.2,t,r⟩ r t w'/\w.heap.size<=x))
theorem QcN(a:Nat)(bv:Value)(n:Nat)(cv:Value)(D:Dv)(rt:Option Tr)(w:World)(h:DQ w a bv n cv D)(fM:8<=n)(hn:n<=400)(hq:D.q.length<1000000)(hT:qM D\/Tab w)
  (hR:∀v W D1,Vol W v a n->DQ W a bv n cv D1->Qt D D1->(qM D1\/Tab W)->(Tab w->Tab W)->Calls prog 90 #[.pointer (some ⟨v,0,none⟩),.int .i64 ((yg D).1.2:Nat)] W (TrdR a bv n cv D1 rt W)):
  Calls prog 55 #[.iface 26 (.pointer (some ⟨a,0,none⟩))] w (UE a bv n cv D (yg D) rt w):=by
 have iN:=j2;have nJ:=yt h.d;have A:=((y6.refl [] w).alloc (.cells #[.iface 26 (.pointer (some ⟨a,0,none⟩))] 126)).alloc (.cells #[.pointer none] 27);obtain⟨O,P⟩:=TZ w (.iface 26 (.pointer (some ⟨a,0,none⟩)));have z:=h.k0 A;have N:=hT.imp id fun hT:Tab w=>hT.k A;have hsz:((w.alloc (.cells #[.iface 26 (.pointer (some ⟨a,0,none⟩))] 126)).alloc (.cells #[.pointer none] 27)).heap.size=w.heap.size+2:=by simp
 generalize p:(w.alloc (.cells #[.iface 26 (.pointer (some ⟨a,0,none⟩))] 126)).alloc (.cells #[.pointer none] 27)=B at*;have U:Hid (∀b,Calls prog 42 #[.string b,.func (.func 89) #[] #[.pointer (some ⟨w.heap.size,0,none⟩),.pointer (some ⟨w.heap.size+1,0,none⟩)]] B (QZ [a,w.heap.size+1] (OpE (w.heap.size+1) a bv n cv D (yg D) rt B.heap.size) B)):=by
  intro b;refine Zs b 89 _ (fun _ _=>by kernel_rfl) _ _ B ?_ (fun o W K T hR hK hT=>hR.err hK fun x I=>(hT x I).2.2) ?_
  ·intro x I;simp at I;omega
  ·intro W m ER;refine(Qcv w.heap.size (w.heap.size+1) a bv n cv D rt W (m.get O (by simp)) (m.get P (by simp)) (z.k0 m) fM hn hq (N.imp id fun hT=>hT.k m) (fun v K D1 c f g j l=>hR v K D1 c f g j fun hT=>l ((hT.k A).k m))).mono ?_;rintro e w'⟨o,z,⟨R,Z,i⟩,h4⟩;refine⟨o,z,⟨R,Z,?_⟩,h4⟩;rcases i with i|i|⟨c,f,g,t,r,x,v,j,l,u,E,F⟩
   ·exact Or.inl i
   ·exact Or.inr (Or.inl i)
   ·exact Or.inr (Or.inr ⟨c,f,g,t,r,x,v,j,l,u,av m.size E,av m.size F⟩)
 have V:Hid _:=p;clear p z O P N hR;go_enter func55,ntmps55;go_wp2_with(go_at_call 42;rw[V.out];refine(U.out _).mono ?_;rintro e Q⟨o,C,rfl,G,⟨S,Y,L⟩,H⟩;obtain⟨J,X,s⟩:∃J,(∃q,J=.pointer q)/\Q.heap[w.heap.size+1]?=some (.cells #[J] 27 (0,0)):=(by rcases L with i|i|⟨c,f,g,t,r,x,v,j,l,u,E,F⟩;exact⟨_,⟨_,rfl⟩,i.2.2⟩;exact⟨_,⟨_,rfl⟩,i.2.2.1⟩;exact⟨_,⟨_,rfl⟩,l⟩);obtain⟨q,rfl⟩:=X;have e2:Q.cell? ⟨w.heap.size+1,0,none⟩=some (.pointer q):=y7 s rfl)
 go_ret2
 refine⟨o,.pointer q,C,S,rfl,G,Y,(A.mono (by simp)).trans2 H ?_,?_⟩
 ·intro y M;simp at M;rcases M with rfl|rfl
  ·exact Or.inl (by simp)
  ·exact Or.inr (by omega)
 ·rcases L with⟨c,f,g⟩|⟨c,f,g,j⟩|⟨c,f,g,t,r,x,v,j,l,u,E,F⟩
  ·have e:=g.symm.trans s;simp at e;exact Or.inl ⟨c,f,by rw[<-e]⟩
  ·have e:=g.symm.trans s;simp at e;exact Or.inr (Or.inl ⟨c,f,by rw[<-e],j⟩)
  ·have e:=l.symm.trans s;simp at e;exact Or.inr (Or.inr ⟨c,f,g,t,r,x,v,j,by rw[<-e],u,by omega⟩)
theorem QcO(p a n cap:Nat)(sv:Value)(ao:Option Addr)(cache:Value)(D:Dv)(w:World)(hp:w.heap[p]?=some (.cells #[.iface 26 (.pointer (some ⟨a,0,none⟩))] 126 (0,0)))(h:DC w a (.slice ao n cap) cache D)(hn:n<8\/400<n):
  Calls prog 89 #[.pointer (some ⟨p,0,none⟩),sv] w (L0 [] (fun o _=>o=some 8) w):=by
 have d:w.cell? ⟨p,0,none⟩=some (.iface 26 (.pointer (some ⟨a,0,none⟩))):=y7 hp rfl;go_enter func89,ntmps89;go_wp2_with fail;refine(UQ a n cap ao cache D w h hn).mono ?_;rintro e g⟨f,o,rfl,b,c⟩;exact⟨rfl,some 8,⟨f,o,rfl,b⟩,rfl,c⟩
theorem QcP(a n cap:Nat)(ao:Option Addr)(cache:Value)(D:Dv)(w:World)(h:DC w a (.slice ao n cap) cache D)(hn:n<8\/400<n):
  Calls prog 55 #[.iface 26 (.pointer (some ⟨a,0,none⟩))] w fun e w'=>∃err,e=.returned (.tuple #[.pointer none,err])/\gU w' err 8/\y6 [] w w':=by
 have y:=j2;have j:=((y6.refl [] w).alloc (.cells #[.iface 26 (.pointer (some ⟨a,0,none⟩))] 126)).alloc (.cells #[.pointer none] 27);obtain⟨k,r⟩:=TZ w (.iface 26 (.pointer (some ⟨a,0,none⟩)));have g:DC _ a (.slice ao n cap) cache D:=j.get h (by simp);generalize d:(w.alloc (.cells #[.iface 26 (.pointer (some ⟨a,0,none⟩))] 126)).alloc (.cells #[.pointer none] 27)=l at*;have m:Hid (∀b,Calls prog 42 #[.string b,.func (.func 89) #[] #[.pointer (some ⟨w.heap.size,0,none⟩),.pointer (some ⟨w.heap.size+1,0,none⟩)]] l (QZ [] (fun o _=>o=some 8) l)):=by
  intro b;refine Zs b 89 _ (fun _ _=>by kernel_rfl) _ _ _ (by simp) (fun o W t T q v x=>q) ?_;intro W i _;exact QcO w.heap.size a n cap _ ao cache D W (i.get k (by simp)) (i.get g (by simp)) hn
 have p:Hid _:=d;clear d g k;go_enter func55,ntmps55;go_wp2_with(go_at_call 42;rw[p.out];refine(m.out _).mono ?_;rintro e s⟨o,err,rfl,f,rfl,c⟩;have u:s.cell? ⟨w.heap.size+1,0,none⟩=some (.pointer none):=y7 (c.get r (by simp)) rfl)
 go_ret2
 exact⟨err,rfl,f,j.trans c⟩
theorem T7(a:Nat)(w:World)(R:Ending->World->Prop)(hR:Calls prog 55 #[.iface 26 (.pointer (some ⟨a,0,none⟩))] w fun e w'=>∃v u,e=.returned (.tuple #[v,u])/\R e w'):
  Calls prog 34 #[.pointer (some ⟨a,0,none⟩)] w R:=by
 have b:Hid (Calls _ _ _ _ _):=hR;clear hR;go_enter func34,ntmps34;go_wp2_with(go_at_call 55;refine b.out.mono ?_;rintro e d⟨v,u,rfl,c⟩)
 exact c
theorem QcR(f:Value)(w:World):Calls prog 122 #[.int .i64 0,f] w fun e w'=>e=.returned (.agg #[.string ⟨#[]⟩,.int .i64 0,.nilIface])/\y6 [] w w':=by
 have h:∀W:World,(Instr.build 82 #[]).run prog W=.ok (.agg #[.string ⟨#[]⟩,.int .i64 0,.nilIface]) W:=fun W=>by kernel_rfl
 have d:=(y6.refl [] w).alloc (.cells #[.string ⟨#[]⟩,.int .i64 0,.nilIface] 82);have g:=af w (.cells #[.string ⟨#[]⟩,.int .i64 0,.nilIface] 82);go_enter func122,ntmps122;go_wp2_with(first|(refine ye rfl 82 (.tmp 4) (.tmp 8) rfl w.heap.size #[.string ⟨#[]⟩,.int .i64 0,.nilIface] rfl rfl 82 _ g stT rfl (one3 _ rfl) ?_;intro i a b))
 refine aR (aI rfl _ _ w.heap.size 82 _ (0,0) _ rfl a underlying82 rfl stT) rfl ?_;exact⟨rfl,d.trans2 b (by intro y c;simp at c;subst c;exact Or.inr (ag _))⟩
theorem QcS(v a n:Nat)(w:World)(hv:Vol w v a n)(hn:8<=n):Calls prog 90 #[.pointer (some ⟨v,0,none⟩),.int .i64 0] w fun e w'=>e=.returned (.agg #[.string ⟨#[]⟩,.int .i64 0,.nilIface])/\y6 [] w w':=by
 have z:=j2;have h:=((y6.refl [] w).alloc (.cells #[.pointer (some ⟨v,0,none⟩)] 73)).alloc (.cells #[.string ⟨#[]⟩,.int .i64 0,.nilIface] 82);have o:(w.alloc (.cells #[.pointer (some ⟨v,0,none⟩)] 73)).heap.size=w.heap.size+1:=ak _ _;have j:=af (w.alloc (.cells #[.pointer (some ⟨v,0,none⟩)] 73)) (.cells #[.string ⟨#[]⟩,.int .i64 0,.nilIface] 82);rw[o]at j;have k:Hid (∀W,y6 [] w W->Calls prog 76 #[.pointer (some ⟨v,0,none⟩)] W _):=fun W p=>Nm v a n W (p.get hv (by simp));go_enter func90,ntmps90;go_wp2_with(first|(go_at_call 76;refine(k.out _ h).mono ?_;rintro e A⟨rfl,c⟩)|(go_at_call 75;refine(OA n _ hn).mono ?_;rintro e s⟨b,rfl,x,u,d⟩)|(go_at_call 122;refine(QcR _ _).mono ?_;rintro e t⟨rfl,f⟩;have i:=(y6.refl [] s).alloc (.cells #[.int .i64 (n:Int),.map (some b)] 131);have l:y6 [] w t:=(((h.trans c).trans d).trans i).trans f;have q:=(((c.trans d).trans i).trans f).get j (by simp))|(refine ye rfl 82 (.tmp 4) (.tmp 11) rfl (w.heap.size+1) #[.string ⟨#[]⟩,.int .i64 0,.nilIface] rfl rfl 82 _ q stT rfl (one3 _ rfl) ?_;intro B r m))
 refine aR (aI rfl _ _ (w.heap.size+1) 82 _ (0,0) _ rfl r underlying82 rfl stT) rfl ?_;exact⟨rfl,l.trans2 m (by intro y g;simp at g;subst g;exact Or.inr (by omega))⟩
end Go.Proofs.YtcklgafpgdhnaaaGreatDoor
