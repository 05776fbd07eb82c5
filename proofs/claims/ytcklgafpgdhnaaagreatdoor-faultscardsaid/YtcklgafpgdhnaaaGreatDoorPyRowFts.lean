import Derived.Test.YtcklgafpgdhnaaaGreatDoorPybz
import Derived.Test.YtcklgafpgdhnaaaGreatDoorCards
import Derived.Test.YtcklgafpgdhnaaaGreatDoorTie
import Derived.Test.YtcklgafpgdhnaaaGreatDoorPybv
import Derived.ProofKit
import Derived.OpenShut
import Derived.ChangeSlices
import Derived.ChangeSame
import Derived.ChangeVars
import Derived.JoinedOf
import Derived.LaidLaws
import Derived.LaidHandle
import Derived.Lib.LaidTab
import Derived.ChangeMaps5
import Derived.Deep.Slices
import Derived.Deep.Strs
import Derived.Deep.DeepHandedRow
import Derived.Carry
set_option maxRecDepth 100000
set_option maxHeartbeats 4000000
set_option linter.unusedSimpArgs false
set_option linter.unusedVariables false
set_option linter.unusedSectionVars false
open Go.Proofs.Tryz
namespace Go.Proofs.YtcklgafpgdhnaaaGreatDoor
open Go.RowKit
theorem Qhx(I:yB)(ad:Addr)(cap:Nat)(os:List Op6)(w:World)(hG:qW w)(hT:Tab w)(h:Scr w ad os)(hok:∀o∈os,o.ok):
  Calls prog 7 #[.slice (some ad) os.length cap] w (jD w):=by
 have a:=(y6.refl [] w).alloc (.cells #[.int .i64 5,.int .i64 6,.int .i64 7,.int .i64 8,.int .i64 10,.int .i64 11,.int .i64 12,.int .i64 13,.int .i64 14,.int .i64 15,.int .i64 16,.int .i64 17] 3);have c:=af w (.cells #[.int .i64 5,.int .i64 6,.int .i64 7,.int .i64 8,.int .i64 10,.int .i64 11,.int .i64 12,.int .i64 13,.int .i64 14,.int .i64 15,.int .i64 16,.int .i64 17] 3);have d:Hid (Calls _ _ _ _ _):=Z8 I ad cap w.heap.size 12 12 [5,6,7,8,10,11,12,13,14,15,16,17] (fun k f=>by simp at f;by_cases h:k<=9;(exact ZC I (by omega) h (outs I (by omega) h));(exact MH I (by omega) (by omega))) rfl (by simp) os _ (hG.kept a (by simp)) (hT.kept a (by simp)) (h.below a) hok c;clear c;go_enter func7,ntmps7;go_wp2_with(first|(go_at_call 15;refine d.out.mono ?_;rintro e g⟨rfl,b⟩))
 go_ret;exact⟨rfl,a.trans b⟩
theorem Yn(ao:Option Addr)(cap:Nat)(w:World):Calls prog 7 #[.slice ao 0 cap] w (jD w):=by
 have d:=(y6.refl [] w).alloc (.cells #[.int .i64 5,.int .i64 6,.int .i64 7,.int .i64 8,.int .i64 10,.int .i64 11,.int .i64 12,.int .i64 13,.int .i64 14,.int .i64 15,.int .i64 16,.int .i64 17] 3);have c:Hid (∀b W,Calls prog 15 #[.slice ao 0 cap,b] W (jD W)):=fun b W=>Z9 ao cap b W;go_enter func7,ntmps7;go_wp2_with(first|(go_at_call 15;refine(c.out _ _).mono ?_;rintro e f⟨rfl,a⟩))
 go_ret;exact⟨rfl,d.trans a⟩
end Go.Proofs.YtcklgafpgdhnaaaGreatDoor
namespace Go.Proofs.YtcklgafpgdhnaaaGreatDoor
open Go.ChangeShapes Go.WideShapes Go.ChangeAt Go.RowKit Go.Deep
theorem own:ownKnob prog.godebug=none:=by kernel_rfl
theorem QP:laidOutB prog=true:=by kernel_rfl
theorem gErr:prog.globalNamed "errors.errorType" =some 1:=by kernel_rfl
theorem LP:(prog.cutTypes.find? (·.1== "internal/reflectlite.rtype")).map (·.2)=some 254:=by kernel_rfl
theorem ZZ:((List.range 333).filter fun t=>prog.rowNamed t [101,114,114,111,114])= [35]:=by kernel_rfl
theorem LR:prog.types.size=333:=by kernel_rfl
theorem QQ:prog.cellsOf 64=6:=by kernel_rfl
theorem qi:prog.cellsOf 3=1:=by kernel_rfl
theorem gN:prog.cellsOf 9=1:=by kernel_rfl
theorem gm{W:World}(h:laidMetH prog Rows.faultsRow.laid W):qW W/\Lib.TabIs prog W "internal/strconv.uint64pow10" .u64 Lib.pow10Tab:=by
 have h':laidMet prog [("math/bits.deBruijn32tab",Rows.laid_math_bits_deBruijn32tab),("math/bits.deBruijn64tab",Rows.laid_math_bits_deBruijn64tab),("internal/strconv.uint64pow10",Rows.laid_internal_strconv_uint64pow10)] W/\
   handlesMet prog [("errors.errorType",Rows.laid_errors_errorType)] W:=h
 constructor
 ·obtain⟨name,u,ty,e1,e2,e3,e4,e5⟩:=h'.2 _ (cn.2 rfl);have en:name= [101,114,114,111,114]:=(aH e1).symm;subst en;obtain rfl:=aH (LP.symm.trans e2);have hm:ty∈(List.range 333).filter fun t=>prog.rowNamed t [101,114,114,111,114]:=List.mem_filter.2 ⟨dd.2 (by rw[<-LR];exact e3),e4⟩;rw[ZZ]at hm;obtain rfl:=cn.1 hm;have hh:typeHandle prog 35=.pointer (some ⟨5,35,none⟩):=by kernel_rfl
  rw[hh]at e5;unfold qW
  simpa using World.var?_cell gErr e5 0
 ·obtain⟨ps,⟨_,_,_,_,_,_,_,_,_,_,⟨_,_,_,_,_,_,_,_,_,_,⟨g',t',cs,fuel,p,q,iM,lg,lW,hd,_,_⟩,_⟩,_⟩,_⟩:=h'.1;have rL:(prog.globals[2]?).map (·.type)=some 267:=by kernel_rfl
  obtain rfl:=aH (gPow.symm.trans iM);obtain rfl:=aH (rL.symm.trans lg);have hz:(Rows.laid_internal_strconv_uint64pow10:DataW Unit)=Lib.tabData .u64 Lib.pow10Tab:=by rfl
  rw[hz]at hd;unfold Lib.TabIs;rw[lW,<-Lib.cells_of_tab underlying267 underlying74 (by kernel_rfl) (by kernel_rfl) hd]
noncomputable def qs(os:Os):World:=
 let w0:=World.holding prog os ⟨#[],#[],[]⟩
 let put (h:Array Obj) (b:Nat) (cs:Array Value):Array Obj:=h.modify b fun
   | .cells _ t frozen=> .cells cs t frozen
   |o=>o
 {w0 with heap:=put (put (put (put w0.heap 1 #[.iface 254 (.agg #[.pointer (some ⟨5,35,none⟩)])]) 3 #[.int .u8 0,.int .u8 1,.int .u8 28,.int .u8 2,.int .u8 29,.int .u8 14,.int .u8 24,.int .u8 3,.int .u8 30,.int .u8 22,.int .u8 20,.int .u8 15,.int .u8 25,.int .u8 17,.int .u8 4,.int .u8 8,.int .u8 31,.int .u8 27,.int .u8 13,.int .u8 23,.int .u8 21,.int .u8 19,.int .u8 16,.int .u8 7,.int .u8 26,.int .u8 12,.int .u8 18,.int .u8 6,.int .u8 11,.int .u8 5,.int .u8 10,.int .u8 9]) 4 #[.int .u8 0,.int .u8 1,.int .u8 56,.int .u8 2,.int .u8 57,.int .u8 49,.int .u8 28,.int .u8 3,.int .u8 61,.int .u8 58,.int .u8 42,.int .u8 50,.int .u8 38,.int .u8 29,.int .u8 17,.int .u8 4,.int .u8 62,.int .u8 47,.int .u8 59,.int .u8 36,.int .u8 45,.int .u8 43,.int .u8 51,.int .u8 22,.int .u8 53,.int .u8 39,.int .u8 33,.int .u8 30,.int .u8 24,.int .u8 18,.int .u8 12,.int .u8 5,.int .u8 63,.int .u8 55,.int .u8 48,.int .u8 27,.int .u8 60,.int .u8 41,.int .u8 37,.int .u8 16,.int .u8 46,.int .u8 35,.int .u8 44,.int .u8 21,.int .u8 52,.int .u8 32,.int .u8 23,.int .u8 11,.int .u8 54,.int .u8 26,.int .u8 40,.int .u8 15,.int .u8 34,.int .u8 20,.int .u8 31,.int .u8 10,.int .u8 25,.int .u8 14,.int .u8 19,.int .u8 9,.int .u8 13,.int .u8 8,.int .u8 7,.int .u8 6]) 2 #[.int .u64 1,.int .u64 10,.int .u64 100,.int .u64 1000,.int .u64 10000,.int .u64 100000,.int .u64 1000000,.int .u64 10000000,.int .u64 100000000,.int .u64 1000000000,.int .u64 10000000000,.int .u64 100000000000,.int .u64 1000000000000,.int .u64 10000000000000,.int .u64 100000000000000,.int .u64 1000000000000000,.int .u64 10000000000000000,.int .u64 100000000000000000,.int .u64 1000000000000000000,.int .u64 10000000000000000000]}
theorem Qb(os:Os):laidMetH prog Rows.faultsRow.laid ((qs os).forCall (fun _ _=>0) ⟨#[],#[.slice none 0 0],[]⟩).memory:=
 laidMetH_of_parts (laidMet_of_run' 8 (by kernel_rfl) (by kernel_rfl)) (by kernel_rfl)
theorem Qc(os:Os){H:Type}(enc:TypeId×Value->H):∃places,DataW.whole enc prog ((qs os).forCall (fun _ _=>0) ⟨#[],#[.slice none 0 0],[]⟩).memory Tryz.f7.params.toList Rows.faultsSpec.vars false #[Value.slice none 0 0].toList 8=some ([.nil],[],places):=
 ⟨[],by kernel_rfl⟩
theorem LO{H:Type}{enc:TypeId×Value->H}{W:World}{base n i:Nat}{a:Addr}{spare:Nat->Bool}{x:DataW H×List MemPlace}{cs:List Value}(hc:W.cells? base (a.add (i*6)) 6=some cs)(ht:DataW.trod enc prog W base spare true n 64 cs=some x):
  ∃o:Op6,o.ok/\∀(j:Nat) (v:Value),o.cells[j]?=some v->W.cell? ((a.add (i*6)).add j)=some v:=by
 obtain⟨_,hl,fe⟩:=World.cells?_some hc;obtain⟨xs,m,_,_,_,hlen,hf⟩:=DataW.trod_struct underlying64 ht
 match cs,hl,xs,hlen with
 | [c0,c1,c2,c3,c4,c5],_,[y0,y1,y2,y3,y4,y5],_=>
  have f0:DataW.trod enc prog W base spare true m 3 (List.take (prog.cellsOf 3) (List.drop 0 [c0,c1,c2,c3,c4,c5]))= [y0,y1,y2,y3,y4,y5][0]?:=hf 0 _ rfl;rw[qi]at f0;have f1:DataW.trod enc prog W base spare true m 3 (List.take (prog.cellsOf 3) (List.drop 1 [c0,c1,c2,c3,c4,c5]))= [y0,y1,y2,y3,y4,y5][1]?:=hf 1 _ rfl;rw[qi]at f1;have f2:DataW.trod enc prog W base spare true m 3 (List.take (prog.cellsOf 3) (List.drop 2 [c0,c1,c2,c3,c4,c5]))= [y0,y1,y2,y3,y4,y5][2]?:=hf 2 _ rfl;rw[qi]at f2;have f3:DataW.trod enc prog W base spare true m 3 (List.take (prog.cellsOf 3) (List.drop 3 [c0,c1,c2,c3,c4,c5]))= [y0,y1,y2,y3,y4,y5][3]?:=hf 3 _ rfl;rw[qi]at f3;have f4:DataW.trod enc prog W base spare true m 9 (List.take (prog.cellsOf 9) (List.drop 4 [c0,c1,c2,c3,c4,c5]))= [y0,y1,y2,y3,y4,y5][4]?:=hf 4 _ rfl;rw[gN]at f4;have f5:DataW.trod enc prog W base spare true m 9 (List.take (prog.cellsOf 9) (List.drop 5 [c0,c1,c2,c3,c4,c5]))= [y0,y1,y2,y3,y4,y5][5]?:=hf 5 _ rfl;rw[gN]at f5;simp only[da,cI,cH,cR,cX,bI]at f0 f1 f2 f3 f4 f5;obtain⟨K,e0,_,k0⟩:=DataW.trod_int underlying3 f0;obtain⟨X,e1,_,k1⟩:=DataW.trod_int underlying3 f1;obtain⟨A,e2,_,k2⟩:=DataW.trod_int underlying3 f2;obtain⟨B,e3,_,k3⟩:=DataW.trod_int underlying3 f3;obtain⟨s,e4,_⟩:=DataW.trod_string underlying9 f4;obtain⟨t,e5,_⟩:=DataW.trod_string underlying9 f5;have hw:∀z:Int,(Lit.int .i64 z).wf=true->I64 z:=by
   intro z hz;simp only[Lit.wf,cz,cE]at hz;have h1:IntKind.min .i64= -9223372036854775808:=by decide
   have h2:IntKind.max .i64=9223372036854775807:=by decide
   rw[h1,h2]at hz;exact hz
  refine⟨⟨K,X,A,B,s,t⟩,⟨hw _ k0,hw _ k1,hw _ k2,hw _ k3⟩,?_⟩;intro j v hv;have hj:j<6:=by have:=(ae.1 hv).1;simpa[Op6.cells]using this
  rw[fe j hj,<-hv];simp only[List.cons.injEq,and_true]at e0 e1 e2 e3 e4 e5;subst e0 e1 e2 e3 e4 e5;rfl
theorem js(H:Type)(enc:TypeId×Value->H)(W:World)(base:Nat)(args:Array Value)(ds gs:List (DataW H))(before:List MemPlace)
  (e9:∀(j:Nat) t v,Tryz.f7.params[j]?=some t->args[j]?=some v->Value.okWide prog W .any base t v)
  (hW:DataW.Whole enc prog Tryz.f7.params.toList Rows.faultsSpec.vars false W args.toList ds gs before)(hL:laidMetH prog Rows.faultsRow.laid W)(hS:W.ShapedOpen prog):
  Calls prog 7 args W fun e W'=>∃v,e=.returned v/\Rows.faultsSpec.post enc prog Tryz.f7 false true false false W args v W':=by
 have kX:=hW;obtain⟨p,q,oc,hV,rfl,_,_⟩:=hW;have hA:DataW.TrodAll enc prog W 0 (fun _=>true) true Tryz.f7.params.toList args.toList ds p:=oc;rw[params7]at hA e9;obtain⟨v0,d0,rfl,rfl,h0⟩:=trodAll_one hA;obtain⟨rfl,rfl⟩:=trodVars_none hV;have ko:=h0;obtain⟨fuel,hf⟩:=h0;clear oc;simp only[bo]at kX;have hlt:∀x∈p,x.block<W.heap.size:=fun x hx=>by simpa using kX.lt x hx
 obtain⟨hG,pF⟩:=gm hL;obtain⟨cs,fC⟩:=My hS;have hT:=MG fC pF;have fin:∀e W',jD W e W'->∃v,e=.returned v/\Rows.faultsSpec.post enc prog Tryz.f7 false true false false W #[v0] v W':=by
  rintro e W'⟨rfl,hk⟩;exact⟨_,rfl,⟨_,_,_,[],_,[],kX,trodAll_mk1 (shut_bool underlying4 true),trodAll_mk1 (Below.trod QP (by kernel_rfl) (cf (by kernel_rfl)) ko hk.below hlt),rfl,hk.below.frame _,fun h=>by cases h⟩⟩
 rcases open_slice underlying22 hf with⟨hcs,_⟩|⟨a,len,cap,m,n,D,Pl,hcs,_,hl,_,hmm,_,hel⟩
 ·obtain⟨a0,len,cap,rfl⟩:=okWide_slice underlying22 (e9 0 22 v0 rfl rfl);simp[Value.cells]at hcs;obtain⟨rfl,rfl,rfl⟩:=hcs;exact(Yn none 0 W).mono fin
 ·obtain⟨a0,eQ,fh,rfl⟩:=okWide_slice underlying22 (e9 0 22 v0 rfl rfl);simp[Value.cells]at hcs;obtain⟨rfl,rfl,rfl⟩:=hcs;simp only[if_true]at hmm;subst hmm;have hin:Inhabited Op6:=⟨⟨0,0,0,0,ByteArray.empty,ByteArray.empty⟩⟩
  obtain⟨O,hO⟩:=choose_lt (α:=Op6) (n:=eQ) (p:=fun i o=>o.ok/\∀(j:Nat) (v:Value),o.cells[j]?=some v->W.cell? ((a.add (i*6)).add j)=some v) (by
   intro i hi;obtain⟨cs,hc,ht⟩:=hel i (by omega);rw[QQ]at hc;exact LO hc ht)
  have hlen:((List.range eQ).map O).length=eQ:=by simp
  have hsc:Scr W a ((List.range eQ).map O):=by
   intro i o hi;rw[aA]at hi;obtain⟨i',iY,rfl⟩:=cj.1 hi;have hlt':i<eQ:=by have:=(ae.1 iY).1;simpa using this
   rw[dC hlt']at iY
   cases iY
   exact(hO i hlt').2
  have hok:∀o∈(List.range eQ).map O,o.ok:=by
   intro o ho;obtain⟨i,hi,rfl⟩:=bg.1 ho;exact(hO i (dd.1 hi)).1
  have h:=fun c=>Qhx Mu a c ((List.range eQ).map O) W hG hT hsc hok;simp only[hlen]at h;exact(h _).mono fin
theorem LM(os:Os)(started:os.Started)(H:Type)(enc:TypeId×Value->H)(F:Stop.Interp):
  ReturnsInHanded {} Tryz.checked os 7 .any ((OpenSpec.ofChange Rows.faultsSpec).preRow enc prog Tryz.f7 Rows.faultsRow.domain false Rows.faultsRow.laid) (((OpenSpec.ofChange Rows.faultsSpec).at F).post enc prog Tryz.f7 false true false false):=by
 obtain⟨places,hx⟩:=Qc os enc;refine returnsInHanded_of_row (C:=Tryz.checked) (s:=OpenSpec.ofChange Rows.faultsSpec) own started (by kernel_rfl) func7
  (witness_row_at (enc:=enc) (C:=Tryz.checked) false (qs os) #[.slice none 0 0] rfl (by kernel_rfl) (by kernel_rfl) (by kernel_rfl)
   (OpenSpec.preRow_of_cond 8 hx (by kernel_rfl) (fun k hk=>by cases hk) (by kernel_rfl) (Qb os))) ?_
 intro W base args ds gs before e9 hW _ _ _ hL hS _;exact js H enc W base args ds gs before e9 hW hL hS
theorem said:Rows.FaultsSaid:=
 OpenClaim.holds_of_cond 7 Tryz.f7 rfl rfl rfl rfl rfl rfl rfl ⟨rfl,rfl,rfl,rfl,rfl⟩ rfl rfl rfl rfl rfl (by kernel_rfl) func7 (by kernel_rfl)
  (cf (by kernel_rfl)) (by unfold Func.isWrapper;first|(rw[if_pos (by decide+kernel)];kernel_rfl)|(rw[if_neg (by decide+kernel)];exact⟨rfl,rfl⟩))
  (fun os started H enc _ F=>by rw[OpenClaim.pre_eq_preRow];exact LM os started H enc F)
theorem LN(f:FuncId)(fn:Func)(hf:Tryz.pinned.checked.prog.funcNamed "store/storelaw.Faults" =some f)(oH:Tryz.pinned.checked.prog.funcs[f]?=some fn):
  true=Tryz.pinned.checked.prog.looks []/\∀(j:Nat) t,fn.params[j]?=some t->Tryz.pinned.checked.prog.wantsStandIn t=false:=by
 obtain rfl:f=7:=aH ((show prog.funcNamed "store/storelaw.Faults" =some 7 by kernel_rfl).symm.trans hf)|>.symm;obtain rfl:fn=Tryz.f7:=(aH (func7.symm.trans oH)).symm;refine⟨by kernel_rfl,fun j t ht=> ?_⟩;rw[params7]at ht;obtain rfl:t=22:=by simpa using dN ht
 exact(show prog.wantsStandIn 22=false by kernel_rfl)
theorem faults_card_holds : Rows.FaultsCardSaid :=
 Claim7.holds_tied_plain_at .later [] _ _ _ _ said (fun _ h => by cases h) (by kernel_rfl) (fun _ h => by cases h) faults_row_tie rfl ⟨rfl, rfl⟩ (by kernel_rfl) rfl LN (by kernel_rfl)
#print axioms faults_card_holds
end Go.Proofs.YtcklgafpgdhnaaaGreatDoor
