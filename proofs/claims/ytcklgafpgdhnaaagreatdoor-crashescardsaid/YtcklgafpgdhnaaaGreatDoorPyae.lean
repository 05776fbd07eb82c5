import Derived.Test.YtcklgafpgdhnaaaGreatDoorPyac
set_option maxRecDepth 100000
set_option maxHeartbeats 4000000
set_option linter.unusedSimpArgs false
set_option linter.unusedVariables false
set_option linter.unusedSectionVars false
namespace Go.Proofs.YtcklgafpgdhnaaaGreatDoor
open Go.RowKit
variable {P:Program}{ops:Array Oper}{Q:Exit->Act->World->Prop}{w:World}
theorem yo{id:Nat}{a:Act}(S:World->Prop)(hm:P.follows .mixedOrders=true)
  (h:wpAnyH P .any ops Q S ops.size (Array.replicate ops.size false) a w.drew):(Code.region id ops true).wp P Q a w:=wp_region_held hm h
variable {o:Oper}
theorem j8{a:Act}(t:TypeId)(x:Operand)(ho:o.op=.box t x)(cs:Array Value)(hx:a.eval x=.agg cs):
  (execOp a.eval o).run P w=.ok (.value (.pointer (some ⟨w.heap.size,0,none⟩))) (w.alloc (.cells cs t)):=by
 simp[execOp,ho,hx,Instr.box,newVar,newRow,Value.cells]
theorem QU{a:Act}(t:TypeId)(x y:Operand)(i j:Nat)(ho:o.op=.build t #[(i,x),(j,y)])(vx vy v:Value)(hx:a.eval x=vx)(hy:a.eval y=vy)(hr:(Instr.build t #[(i,vx),(j,vy)]).run P w=.ok v w):
  (execOp a.eval o).run P w=.ok (.value v) w:=by
 simp[execOp,ho,hx,hy,hr]
theorem P1{a:Act}(t:TypeId)(x:Operand)(i:Nat)(ho:o.op=.fieldAddr t x i)(ad:Addr)(hx:a.eval x=.pointer (some ad))(off:Nat)(hr:(Instr.fieldAt t (.pointer (some ad)) i).run P w=.ok (.pointer (some (ad.add off))) w):
  (execOp a.eval o).run P w=.ok (.value (.pointer (some (ad.add off)))) w:=by
 simp[execOp,ho,hx,hr]
theorem yY{a:Act}(t:TypeId)(x:Operand)(lo hi mx:Option Operand)(ho:o.op=.slice t x lo hi mx)(vx:Value)(vl vh vm:Option Value)(hx:a.eval x=vx)(h1:lo.map a.eval=vl)(h2:hi.map a.eval=vh)(h3:mx.map a.eval=vm)(r:Value)(hr:(Instr.sliceAt t vx vl vh vm).run P w=.ok r w):
  (execOp a.eval o).run P w=.ok (.value r) w:=by
 subst hx h1 h2 h3;simp[execOp,ho,hr]
variable {w':World}
theorem qc{a:Act}(x y:Operand)(t u:TypeId)(ho:o.op=.call {callee:=.builtin .append,args:=#[x,y],argTypes:=#[t,u]})(vx vy:Value)(hx:a.eval x=vx)(hy:a.eval y=vy)(v:Value)
  (eJ:(Builtin.append_ #[t,u] o.type #[vx,vy]).run P w=.ok v w'):(execOp a.eval o).run P w=.ok (.value v) w':=by
 simp[execOp,ho,resolve,invoke,builtin,hx,hy,eJ,Result.andThen]
theorem PY{a:Act}(x:Operand)(t:TypeId)(ho:o.op=.call {callee:=.builtin .clear,args:=#[x],argTypes:=#[t]})(vx:Value)(hx:a.eval x=vx)(v:Value)
  (eJ:(Builtin.clear_ #[t] o.type #[vx]).run P w=.ok v w'):(execOp a.eval o).run P w=.ok (.value v) w':=by
 simp[execOp,ho,resolve,invoke,builtin,hx,eJ,Result.andThen]
theorem qJ{a:Act}(x y:Operand)(t u:TypeId)(ho:o.op=.call {callee:=.builtin .copy,args:=#[x,y],argTypes:=#[t,u]})(vx vy:Value)(hx:a.eval x=vx)(hy:a.eval y=vy)(v:Value)
  (eJ:(Builtin.copy_ #[t,u] o.type #[vx,vy]).run P w=.ok v w'):(execOp a.eval o).run P w=.ok (.value v) w':=by
 simp[execOp,ho,resolve,invoke,builtin,hx,hy,eJ,Result.andThen]
theorem gF{a:Act}(x:Operand)(t e:TypeId)(ho:o.op=.call {callee:=.builtin .len,args:=#[x],argTypes:=#[t]})(ao:Option Addr)(n cap:Nat)(hx:a.eval x=.slice ao n cap)(hu:P.underlying t=some (.slice e)):
  (execOp a.eval o).run P w=.ok (.value (.int .i64 n)) w:=by
 have b:(Builtin.len_ #[t] o.type #[.slice ao n cap]).run P w=.ok (goInt n) w:=by
  simp[Builtin.len_,aO hu]
 simp[execOp,ho,resolve,invoke,builtin,hx,b,goInt]
variable {i:Nat}{K:Act->World->Prop}
theorem yM{a:Act}(ho:ops[i]?=some o)(hw:Region.wanted o (yielded ops a.tmps)=true)(v:Value)(w':World)
  (eJ:(execOp a.eval o).run P w=.ok (.value v) w')(h:K (a.put o.dst v) w'):wpOp P ops Q i K a w:=
 wpOp_step ho fun c b=>by rw[if_pos hw];unfold Oper.wp;rw[eJ];exact b _ _ h
variable {oi:Oper}{fuel:Nat}{listed:Array Bool}
section
variable {P:Program} {ops:Array Oper} {Q:Exit->Act->World->Prop} {md:Region.Mode} {S:World->Prop}
def okH(md:Region.Mode)(ops:Array Oper)(listed:Array Bool)(i:Nat):Bool:=Region.noSelect ops&&Region.free md ops listed i&&(Region.ready md ops listed).contains i
theorem ht{v:Value}{a:Act}(hi:ops[i]?=some oi)(hc:okH md ops listed i=true)(hg:Region.wanted oi (yielded ops a.tmps)=true)
  (hy:∀W,S W->(execOp a.eval oi).run P W=.ok (.value v) W)(hQ:∀c a w,Q (.panic c) (a.put oi.dst v) w->Q (.panic c) a w)(hS:S w)
  (h:wpAnyH P md ops Q S fuel (listed.setIfInBounds i true) (a.put oi.dst v) w):wpAnyH P md ops Q S (fuel+1) listed a w:=by
 simp only[okH,cz]at hc;exact bU hi hc.1.1 hc.1.2 hc.2 hQ (Or.inl ⟨hg,hy⟩) hS h
theorem hu(i:Nat)(v:Value){a:Act}(hi:ops[i]?=some oi)(hy:∀W,S W->(execOp a.eval oi).run P W=.ok (.value v) W)(hS:S w)
  (h:wpAnyH P md ops Q S fuel (listed.setIfInBounds i true) (a.put oi.dst v) w)(hc:okH md ops listed i=true:=by kernel_rfl)(hg:Region.wanted oi (yielded ops a.tmps)=true:=by rfl)
  (hQ:∀c a w,Q (.panic c) (a.put oi.dst v) w->Q (.panic c) a w:=by exact fun _ _ _ h=>h):wpAnyH P md ops Q S (fuel+1) listed a w:=ht hi hc hg hy hQ hS h
theorem zz:(∀(a:Act) (o:Option Tmp) (v:Value),a.put o v=match o with|some d=>{a with tmps:=a.tmps.setIfInBounds d v}|none=>a)/\(∀{α:Type} (xs:List α) (i:Nat) (h:i<xs.toArray.size),xs.toArray[i]=xs[i]'(by simpa using h))/\(∀{α:Type} (a:α) (l:List α) (i:Nat) (h:i+1<(a::l).length),(a::l)[i+1]=l[i]'(Nat.lt_of_succ_lt_succ h))/\(∀{α:Type} (a:α) (l:List α) (h:0<(a::l).length),(a::l)[0]=a)/\(∀{α:Type} (l:List α) (i:Nat) (a:α),l.toArray.setIfInBounds i a=(l.set i a).toArray)/\(∀{α:Type} (a b:α) (l:List α) (n:Nat),(a::l).set (n+1) b=a::l.set n b)/\∀{α:Type} (a b:α) (l:List α),(a::l).set 0 b=b::l:=⟨fun _ _ _=>rfl,fun _ _ _=>rfl,fun _ _ _ _=>rfl,fun _ _ _=>rfl,fun _ _ _=>by simp,fun _ _ _ _=>rfl,fun _ _ _=>rfl⟩
theorem uh(i:Nat)(v:Value){a a':Act}(hi:ops[i]?=some oi)(hy:∀W,S W->(execOp a.eval oi).run P W=.ok (.value v) W)(hS:S w)
  (h:wpAnyH P md ops Q S fuel (listed.setIfInBounds i true) a' w)(ha:a.put oi.dst v=a':=by simp only[zz];rfl)
  (hc:okH md ops listed i=true:=by kernel_rfl)(hg:Region.wanted oi (yielded ops a.tmps)=true:=by rfl)
  (hQ:∀c a w,Q (.panic c) (a.put oi.dst v) w->Q (.panic c) a w:=by exact fun _ _ _ h=>h):wpAnyH P md ops Q S (fuel+1) listed a w:=by
 subst ha;exact ht hi hc hg hy hQ hS h
end
section
variable {P:Program} {ops:Array Oper} {Q:Exit->Act->World->Prop}
theorem yp{a:Act}(ho:ops[i]?=some o)(hw:Region.wanted o (yielded ops a.tmps)=true)(f:FuncId)(args:Array Value)
  (eJ:(execOp a.eval o).run P w=.ok (.enter f args) w)(R:Ending->World->Prop)(hc:Calls P f args w R)(h:∀e w',R e w'->∃v,e=.returned v/\K (a.put o.dst v) w'):wpOp P ops Q i K a w:=
 wpOp_step ho fun g b=>by
  rw[if_pos hw];unfold Oper.wp;rw[eJ,Oper.upon_enter];refine hc.mono ?_;intro e w' c;obtain⟨v,rfl,d⟩:=h e w' c;exact b _ _ d
end
theorem jO{a:Act}(ho:ops[i]?=some o)(hw:Region.wanted o (yielded ops a.tmps)=true)(f:FuncId)(args:Array Value)
  (eJ:(execOp a.eval o).run P w=.ok (.enter f args) w)(R:Ending->World->Prop)(hc:Calls P f args w R)(h:∀e w',R e w'->(∃v,e=.returned v/\K (a.put o.dst v) w')\/∃c,e=.panicked c/\Q (.panic c) a w'):wpOp P ops Q i K a w:=
 wpOp_step ho fun g b=>by
  rw[if_pos hw];unfold Oper.wp;rw[eJ,Oper.upon_enter];refine hc.mono ?_;intro e w' d;rcases h e w' d with⟨v,rfl,hk⟩|⟨c,rfl,hk⟩
  ·exact b _ _ hk
  ·exact hk
theorem qy{f:FuncId}{fn:Func}(hf:P.funcs[f]?=some fn)(xH:(fn.name== "runtime.NumGoroutine")=false)(hb:fn.body.isNone=false)(args:Array Value)(w:World):(callFunc f args).run P w=.ok (.enter f args) w:=by
 have a:¬fn.name= "runtime.NumGoroutine" :=by simpa using xH
 have b:¬fn.body=none:=by intro h;rw[h]at hb;cases hb
 simp[callFunc,hf,a,b]
theorem yn{a:Act}(f:FuncId)(xs:Array Operand)(ts:Array TypeId)(ho:o.op=.call {callee:=.value (.func f),args:=xs,argTypes:=ts})(vs:Array Value)(hv:xs.map a.eval=vs)(he:(callFunc f vs).run P w=.ok (.enter f vs) w):
  (execOp a.eval o).run P w=.ok (.enter f vs) w:=by
 subst hv;simp[execOp,ho,resolve,Deferred.ofValue,invoke,Act.eval,he]
theorem yx{a:Act}(t:TypeId)(x:Operand)(i:Nat)(ho:o.op=.fieldAddr t x i)(g b:Nat)(hx:a.eval x=.pointer (some ⟨g,b,none⟩))(off:Nat)(hr:(Instr.fieldAt t (.pointer (some ⟨g,b,none⟩)) i).run P w=.ok (.pointer (some ⟨g,b+off,none⟩)) w):
  (execOp a.eval o).run P w=.ok (.value (.pointer (some ⟨g,b+off,none⟩))) w:=by
 simp[execOp,ho,hx,hr]
theorem TF{a:Act}(t u:TypeId)(x:Operand)(ho:o.op=.convert t u x)(k k':IntKind)(d:TypeDesc)(n:Int)(hx:a.eval x=.int k n)(ht:P.underlying t=some d)(hu:P.underlying u=some (.int k')):
  (execOp a.eval o).run P w=.ok (.value (.int k' (k'.wrap n))) w:=by
 simp[execOp,ho,hx,convert,aO ht,aO hu,Conv.intToInt]
end Go.Proofs.YtcklgafpgdhnaaaGreatDoor
