import Derived.Test.YtcklgafpgdhnaaaGreatDoorPyam
set_option maxRecDepth 100000
set_option maxHeartbeats 4000000
set_option linter.unusedSimpArgs false
set_option linter.unusedVariables false
set_option linter.unusedSectionVars false
open Go.Proofs.Tryz
namespace Go.Proofs.YtcklgafpgdhnaaaGreatDoor
open Go.RowKit
section
variable {α:Type}
theorem qa(L cs:List α)(o k:Nat)(hk:k<=o)(ho:o<=L.length):(splice L o cs).take k=L.take k:=by
 unfold splice;rw[br (by rw[au];omega),cA,bS hk]
theorem Ze(L cs:List α)(o k:Nat)(hk:o+cs.length<=k)(ho:o<=L.length):(splice L o cs).drop k=L.drop k:=by
 unfold splice;rw[List.drop_append,bC (by rw[au];omega),aX,au,bS ho,List.drop_append,bC (by omega),aX,dL];congr 1;omega
theorem gI(L cs:List α)(o:Nat)(ho:o<=L.length):((splice L o cs).drop o).take cs.length=cs:=by
 unfold splice;rw[List.drop_append,bC (by rw[au];omega),aX,au,bS ho,Nat.sub_self,da,br (ag _),aJ (ag _)]
theorem Qk(L:List α)(a b c:Nat):L.take (a+b+c)=L.take a++((L.drop a).take b++(L.drop (a+b)).take c):=by
 rw[Nat.add_assoc,List.take_add,List.take_add,dL]
end
section
variable {d:Nat} (hd:d=2\/d=3) (es vs:List El) (lI:Wd d es) (sh:Wd d vs) (cur:List Value) (i j n m:Nat) (hn:n=es.length) (hm:m=vs.length) (hij:i<=j) (hjn:j<=n) (htk:cur.take (n*d)=fl es)
include lI hn htk
set_option linter.unusedSectionVars false in
theorem Mq(_hjn:j<=n):(cur.drop (j*d)).take ((n-j)*d)=fl (es.drop j):=by
 rw[<-Pc lI,<-htk,cC];congr 1;rw[Nat.sub_mul]
set_option linter.unusedSectionVars false in
theorem ZO(hin:i<=n):cur.take (i*d)=fl (es.take i):=by
 rw[<-P3 lI,<-htk,cA];congr 1;exact(bS (bN d hin)).symm
include hd sh hm hij hjn
theorem WQ(hc:(i+m+(n-j))*d<=cur.length):
  (splice (splice cur ((i+m)*d) ((cur.drop (j*d)).take ((n-j)*d))) (i*d) (fl vs)).take ((i+m+(n-j))*d)=fl (es.take i++vs++es.drop j):=by
 rcases hd with rfl|rfl
 focus
  rw[Mq es lI cur j n hn htk hjn];have a:(fl vs).length=m*2:=by rw[gj sh,hm]
  have b:(fl (es.drop j)).length=(n-j)*2:=by rw[gj (lI.drop j),aC,hn]
  have c:(splice cur ((i+m)*2) (fl (es.drop j))).length=cur.length:=aN _ _ _ (by omega);rw[show(i+m+(n-j))*2=i*2+m*2+(n-j)*2 by omega,Qk]
 rotate_left
 focus
  rw[Mq es lI cur j n hn htk hjn];have a:(fl vs).length=m*3:=by rw[gj sh,hm]
  have b:(fl (es.drop j)).length=(n-j)*3:=by rw[gj (lI.drop j),aC,hn]
  have c:(splice cur ((i+m)*3) (fl (es.drop j))).length=cur.length:=aN _ _ _ (by omega);rw[show(i+m+(n-j))*3=i*3+m*3+(n-j)*3 by omega,Qk]
 rotate_left
 all_goals
  rw[qa _ _ _ _ (ag _) (by omega),qa _ _ _ _ (by omega) (by omega),ZO es lI cur i n hn htk (by omega)];rw[<-a,gI _ _ _ (by omega),Ze _ _ _ _ (ag _) (by omega),a,<-bT,<-b,gI _ _ _ (by omega),qx,qx,aG]
theorem UG(zs:List Value)(Kz:i+m<=j)(hc:n*d<=cur.length):
  (splice (splice (splice cur (i*d) (fl vs)) ((i+m)*d) (((splice cur (i*d) (fl vs)).drop (j*d)).take ((n-j)*d))) ((i+m+(n-j))*d) zs).take ((i+m+(n-j))*d)=fl (es.take i++vs++es.drop j):=by
 rcases hd with rfl|rfl
 ·have b:(fl vs).length=m*2:=by rw[gj sh,hm]
  have c:(fl (es.drop j)).length=(n-j)*2:=by rw[gj (lI.drop j),aC,hn]
  have e:(splice cur (i*2) (fl vs)).length=cur.length:=aN _ _ _ (by omega);rw[Ze cur _ _ _ (by omega) (by omega),Mq es lI cur j n hn htk hjn];have f:(splice (splice cur (i*2) (fl vs)) ((i+m)*2) (fl (es.drop j))).length=cur.length:=by rw[aN _ _ _ (by omega),e]
  rw[qa _ _ _ _ (ag _) (by omega),show(i+m+(n-j))*2=i*2+m*2+(n-j)*2 by omega,Qk];rw[qa _ _ _ _ (by omega) (by omega),qa _ _ _ _ (ag _) (by omega),ZO es lI cur i n hn htk (by omega)];rw[<-bT,<-c,gI _ _ _ (by omega)];have a:(List.drop (i*2) (splice (splice cur (i*2) (fl vs)) ((i+m)*2) (fl (es.drop j)))).take (m*2)=fl vs:=by
   have:((splice (splice cur (i*2) (fl vs)) ((i+m)*2) (fl (es.drop j))).take ((i+m)*2)).drop (i*2)=fl vs:=by
    rw[qa _ _ _ _ (ag _) (by omega),cC,show(i+m)*2-i*2=m*2 by omega,<-b,gI _ _ _ (by omega)]
   rw[cC,show(i+m)*2-i*2=m*2 by omega]at this;exact this
  rw[a,qx,qx,aG]
 ·have b:(fl vs).length=m*3:=by rw[gj sh,hm]
  have c:(fl (es.drop j)).length=(n-j)*3:=by rw[gj (lI.drop j),aC,hn]
  have e:(splice cur (i*3) (fl vs)).length=cur.length:=aN _ _ _ (by omega);rw[Ze cur _ _ _ (by omega) (by omega),Mq es lI cur j n hn htk hjn];have f:(splice (splice cur (i*3) (fl vs)) ((i+m)*3) (fl (es.drop j))).length=cur.length:=by rw[aN _ _ _ (by omega),e]
  rw[qa _ _ _ _ (ag _) (by omega),show(i+m+(n-j))*3=i*3+m*3+(n-j)*3 by omega,Qk];rw[qa _ _ _ _ (by omega) (by omega),qa _ _ _ _ (ag _) (by omega),ZO es lI cur i n hn htk (by omega)];rw[<-bT,<-c,gI _ _ _ (by omega)];have a:(List.drop (i*3) (splice (splice cur (i*3) (fl vs)) ((i+m)*3) (fl (es.drop j)))).take (m*3)=fl vs:=by
   have:((splice (splice cur (i*3) (fl vs)) ((i+m)*3) (fl (es.drop j))).take ((i+m)*3)).drop (i*3)=fl vs:=by
    rw[qa _ _ _ _ (ag _) (by omega),cC,show(i+m)*3-i*3=m*3 by omega,<-b,gI _ _ _ (by omega)]
   rw[cC,show(i+m)*3-i*3=m*3 by omega]at this;exact this
  rw[a,qx,qx,aG]
theorem VK(rest:List Value)(hc:(i+m+(n-j))*d<=(cur.take (i*d)++rest).length)(hin:i*d<=cur.length):
  (splice (splice (cur.take (i*d)++rest) (i*d) (fl vs)) ((i+m)*d) ((cur.drop (j*d)).take ((n-j)*d))).take ((i+m+(n-j))*d)=fl (es.take i++vs++es.drop j):=by
 rcases hd with rfl|rfl
 ·rw[Mq es lI cur j n hn htk hjn];have c:(fl vs).length=m*2:=by rw[gj sh,hm]
  have e:(fl (es.drop j)).length=(n-j)*2:=by rw[gj (lI.drop j),aC,hn]
  have f:(splice (cur.take (i*2)++rest) (i*2) (fl vs)).length=(cur.take (i*2)++rest).length:=aN _ _ _ (by omega);rw[show(i+m+(n-j))*2=i*2+m*2+(n-j)*2 by omega,Qk];rw[qa _ _ _ _ (by omega) (by omega),qa _ _ _ _ (ag _) (by omega)];rw[<-bT,<-e,gI _ _ _ (by omega)];have a:(cur.take (i*2)++rest).take (i*2)=fl (es.take i):=by
   rw[br (by rw[au];omega),cA,Nat.min_self,ZO es lI cur i n hn htk (by omega)]
  have b:(List.drop (i*2) (splice (splice (cur.take (i*2)++rest) (i*2) (fl vs)) ((i+m)*2) (fl (es.drop j)))).take (m*2)=fl vs:=by
   have:((splice (splice (cur.take (i*2)++rest) (i*2) (fl vs)) ((i+m)*2) (fl (es.drop j))).take ((i+m)*2)).drop (i*2)=fl vs:=by
    rw[qa _ _ _ _ (ag _) (by omega),cC,show(i+m)*2-i*2=m*2 by omega,<-c,gI _ _ _ (by omega)]
   rw[cC,show(i+m)*2-i*2=m*2 by omega]at this;exact this
  rw[a,b,qx,qx,aG]
 ·rw[Mq es lI cur j n hn htk hjn];have c:(fl vs).length=m*3:=by rw[gj sh,hm]
  have e:(fl (es.drop j)).length=(n-j)*3:=by rw[gj (lI.drop j),aC,hn]
  have f:(splice (cur.take (i*3)++rest) (i*3) (fl vs)).length=(cur.take (i*3)++rest).length:=aN _ _ _ (by omega);rw[show(i+m+(n-j))*3=i*3+m*3+(n-j)*3 by omega,Qk];rw[qa _ _ _ _ (by omega) (by omega),qa _ _ _ _ (ag _) (by omega)];rw[<-bT,<-e,gI _ _ _ (by omega)];have a:(cur.take (i*3)++rest).take (i*3)=fl (es.take i):=by
   rw[br (by rw[au];omega),cA,Nat.min_self,ZO es lI cur i n hn htk (by omega)]
  have b:(List.drop (i*3) (splice (splice (cur.take (i*3)++rest) (i*3) (fl vs)) ((i+m)*3) (fl (es.drop j)))).take (m*3)=fl vs:=by
   have:((splice (splice (cur.take (i*3)++rest) (i*3) (fl vs)) ((i+m)*3) (fl (es.drop j))).take ((i+m)*3)).drop (i*3)=fl vs:=by
    rw[qa _ _ _ _ (ag _) (by omega),cC,show(i+m)*3-i*3=m*3 by omega,<-c,gI _ _ _ (by omega)]
   rw[cC,show(i+m)*3-i*3=m*3 by omega]at this;exact this
  rw[a,b,qx,qx,aG]
end
variable {P:Program}
theorem Xn(w:World)(t u ty e d:TypeId)(i:TypeInfo)(ht:P.underlying t=some (.slice e))(hu:P.underlying u=some (.slice d))(hi:P.info? e=some i)(b:Option Addr)(n c:Nat)(x:Value):
  (Builtin.append_ #[t,u] ty #[.slice b n c,x]).run P w=(Builtin.append_ #[t,t] ty #[.slice b n c,x]).run P w:=by
 simp[Builtin.append_,aO ht,aO hu,sizeOf,typeInfo,hi]
variable {w:World}
theorem gC{o:Oper}{a:Act}(x y:Operand)(ho:o.op=.binOp .add 3 x y 3)(m n:Nat)(hx:a.eval x=.int .i64 m)(hy:a.eval y=.int .i64 n)(hb:m+n<1000000000000000000):
  (execOp a.eval o).run prog w=.ok (.value (.int .i64 ((m+n:Nat):Int))) w:=by
 have d:IntKind.i64.wrap ((m:Int)+(n:Int))=(m:Int)+(n:Int):=by rw[IntKind.wrap_i64];omega
 have b:(binOp .add 3 (.int .i64 m) (.int .i64 n)).run prog w=.ok (.int .i64 (IntKind.i64.wrap ((m:Int)+(n:Int)))) w:=rfl;rw[d]at b;have c:(eqGuard .add 3 x y (.int .i64 m) (.int .i64 n)).run prog w=.ok () w:=by simp[eqGuard]
 simp[execOp,ho,hx,hy,b,c]
theorem ZP{a b:Nat}(h:a<=b):Nat.min a b=a:=bS h
theorem Q5l{a b:Nat}(h:b<=a):Nat.min a b=b:=Nat.min_eq_right h
theorem Q5m(B:Nat)(es:List El)(i:Nat)(w:World)(g cap:Nat)(cur:List Value)(_hB:B<=g)(hg:Rw w g 122 cur)(hc1:es.length<=cap)(_hc2:cap<=maxLen)(hc3:cur.length=cap*2)(htk:cur.take (es.length*2)=fl es)(h1:One 2 es)(hi:i<es.length)(hl:es.length<=50000)
  (gv off cv:Nat)(vs:List El)(hv:SL w 122 2 (.slice (some ⟨gv,off,none⟩) vs.length cv) vs)(hv1:One 2 vs)(hv0:0<vs.length)(hv2:vs.length<=1000)(hroom:cap<es.length+vs.length)(ni:B<=w.heap.size):
  Calls prog 156 #[.slice (some ⟨g,0,none⟩) (es.length) cap,.int .i64 i,.slice (some ⟨gv,off,none⟩) vs.length cv] w (QF B 122 2 (.slice (some ⟨g,0,none⟩) (es.length) cap) (es.take i++vs++es.drop i) w):=by
 obtain⟨H,E,p,D,G⟩:=bu itp;have L:g<w.heap.size:=(bA.1 hg).1;have f1:(i:Int)<=(es.length:Int):=by omega
 have f2:¬(vs.length:Int)=0:=by omega
 have f3:¬(i:Int)=(es.length:Int):=by omega
 have f4:(cap:Int)<(es.length:Int)+(vs.length:Int):=by omega
 obtain⟨J,a,b,m,v,z,k,K,j⟩:=TN (P:=prog) hg 116 3 H _ underlying116 underlying3 E p D (by omega) rfl cap i (by omega) hc3 (es.length+vs.length-i) (by omega) (by omega) (by omega);rw[show i+(es.length+vs.length-i)=es.length+vs.length by omega]at m k;rw[show((es.length+vs.length-i:Nat):Int)=(es.length:Int)+(vs.length:Int)-(i:Int)by omega]at m;obtain⟨A,F,e,q⟩:=Zo (P:=prog) v 116 115 122 underlying116 stp a (es.length+vs.length) i (by omega) k z ⟨gv,off,none⟩ vs.length cv (fl vs) (by rw[gj hv1.wd,ZP (by omega)]) (hv.kept j).src.2 hv1.fl;have h:((cur.drop (i*2)).take ((es.length-i)*2)).length=(es.length-i)*2:=by rw[au,aC];omega
 have I:(fl vs).length=vs.length*2:=gj hv1.wd;have r:(splice (cur.take (i*2)++b) (i*2) (fl vs)).length=a*2:=by rw[aN _ _ _ (by omega),z]
 have f:Rw A.drew g 122 cur:=((hg.kept j (by simp)).kept q (by simp;omega)).drew;obtain⟨C,n,u,y⟩:=Zo (P:=prog) e.drew 116 116 122 underlying116 stp a (es.length+vs.length) (i+vs.length) (by omega) k r (qS 2 g 0 cap i) (es.length-i) (cap-i) ((cur.drop (i*2)).take ((es.length-i)*2)) (by rw[h,ZP (by omega)]) (f.src cap i (es.length-i) (by omega)) (Zx h1 htk i _ (by omega));have d:QF B 122 2 (.slice (some ⟨g,0,none⟩) (es.length) cap) (es.take i++vs++es.drop i) w (.returned (.slice (some ⟨w.heap.size,0,none⟩) (es.length+vs.length) a)) C:=by
  refine⟨_,rfl,OW.close (((h1.wd.take i).app hv1.wd).app (h1.wd.drop i)) ni u (by simp;omega) k K (by rw[aN _ _ _ (by rw[h,r];omega),r]) ?_,((j.trans2 q (by intro x o;simp at o;omega)).drew.trans2 y (by intro x o;simp at o;omega)).mono (by simp)⟩;have:=VK (Or.inl rfl) es vs h1.wd hv1.wd cur i i es.length vs.length rfl rfl (ag _) (by omega) htk b (by omega) (by omega);rw[show i+vs.length+(es.length-i)=es.length+vs.length by omega]at this;exact this
 have l:Hid _:=d;have s:∀W:World,(Instr.sliceAt 116 (.slice (some ⟨g,0,none⟩) (es.length) cap) none (some (.int .i64 (i:Int))) none).run prog W=.ok (.slice (some ⟨g,0,none⟩) (i) cap) W:=fun W=>qB W 116 122 2 g 0 es.length cap underlying116 stp i (by omega);have t:∀W:World,(Instr.sliceAt 116 (.slice (some ⟨w.heap.size,0,none⟩) (es.length+vs.length) a) (some (.int .i64 (i:Int))) none none).run prog W=.ok (.slice (some (qS 2 w.heap.size 0 a (i))) (es.length+vs.length-(i)) (a-(i))) W:=fun W=>yA W 116 122 2 w.heap.size 0 (es.length+vs.length) a underlying116 stp i (by omega);clear d j q y u e v f;go_enter func156,ntmps156;go_wp2_with(first|(at_builtin;(refine ya rfl _ J (qc (.tmp 34) (.tmp 39) 116 3 rfl _ _ rfl rfl _ (m _)) ?_))|(at_builtin;(refine ya rfl _ A (qJ (.tmp 43) (.tmp 44) 116 115 rfl _ _ rfl rfl _ (F _)) ?_)))
 refine yo (fun _:World=>True) (by kernel_rfl) ?_;refine uh 0 (.slice (some ⟨w.heap.size,0,none⟩) (es.length+vs.length) a) rfl (fun W c=>by rfl) trivial ?_;refine uh 1 (.int .i64 i) rfl (fun W c=>by rfl) trivial ?_;refine uh 2 (.int .i64 vs.length) rfl (fun W c=>by rfl) trivial ?_;refine uh 3 (.int .i64 ((i+vs.length:Nat):Int)) rfl (fun W c=>gC (.tmp 47) (.tmp 48) rfl (i) (vs.length) rfl rfl (by omega)) trivial ?_;refine uh 4 (.slice (some (qS 2 w.heap.size 0 a (i+vs.length))) (es.length+vs.length-(i+vs.length)) (a-(i+vs.length))) rfl (fun W c=>yY 116 (.tmp 46) (some (.tmp 49)) none none rfl _ (some (.int .i64 ((i+vs.length:Nat):Int))) none none rfl rfl rfl rfl _ (yA W 116 122 2 w.heap.size 0 (es.length+vs.length) a underlying116 stp (i+vs.length) (by omega))) trivial ?_;refine uh 5 (.slice (some ⟨g,0,none⟩) (es.length) cap) rfl (fun W c=>by rfl) trivial ?_;refine uh 6 (.int .i64 i) rfl (fun W c=>by rfl) trivial ?_;refine uh 7 (.slice (some (qS 2 g 0 cap (i))) (es.length-(i)) (cap-(i))) rfl (fun W c=>yY 116 (.tmp 51) (some (.tmp 52)) none none rfl _ (some (.int .i64 ((i:Nat):Int))) none none rfl rfl rfl rfl _ (yA W 116 122 2 g 0 (es.length) cap underlying116 stp (i) (by omega))) trivial ?_;refine yi (i:=8) (by kernel_rfl) (yM rfl (by rfl) _ C (qJ (.tmp 50) (.tmp 53) 116 116 rfl _ _ rfl rfl _ (n _)) ⟨trivial,?_⟩);simp only[zz];refine aK (by kernel_rfl) ?_ _;go_wp2;go_ret;exact l.out
theorem Q5n(B:Nat)(es:List El)(i:Nat)(w:World)(g cap:Nat)(cur:List Value)(hB:B<=g)(hg:Rw w g 122 cur)(hc1:es.length<=cap)(hc2:cap<=maxLen)(hc3:cur.length=cap*2)(htk:cur.take (es.length*2)=fl es)(h1:One 2 es)(hi:i<es.length)(hl:es.length<=50000)
  (gv off cv:Nat)(vs:List El)(hv:SL w 122 2 (.slice (some ⟨gv,off,none⟩) vs.length cv) vs)(hv1:One 2 vs)(hv0:0<vs.length)(hv2:vs.length<=1000)(hroom:es.length+vs.length<=cap)(iw:gv≠g):
  Calls prog 156 #[.slice (some ⟨g,0,none⟩) (es.length) cap,.int .i64 i,.slice (some ⟨gv,off,none⟩) vs.length cv] w (QF B 122 2 (.slice (some ⟨g,0,none⟩) (es.length) cap) (es.take i++vs++es.drop i) w):=by
 have f1:(i:Int)<=(es.length:Int):=by omega
 have f2:¬(vs.length:Int)=0:=by omega
 have f3:¬(i:Int)=(es.length:Int):=by omega
 have f4:¬(cap:Int)<(es.length:Int)+(vs.length:Int):=by omega
 have z:=hv.src;have a:∃h,w.heap[gv]?=some (.cells h 122 (0,0)):=by
  obtain⟨I,K,H,h,e,E,_⟩:=hv.at_ hv0
  cases e
  exact⟨h,E⟩
 obtain⟨h,a⟩:=a;have G:=UX (P:=prog) 115 4 underlying115 stp ⟨gv,off,none⟩ (qS 2 g 0 cap (i+vs.length)) vs.length cv (es.length+vs.length-(i+vs.length)) (cap-(i+vs.length)) a (ZN _ _ _ _ _) hg iw (by omega);have J:= @run_callFunc_extern prog 157 _ (Extern.SlicesOverlaps.overlaps #[115,115] #[4]) func157 (by kernel_rfl) (by kernel_rfl) (by kernel_rfl) (by kernel_rfl);have n:((cur.drop (i*2)).take ((es.length-i)*2)).length=(es.length-i)*2:=by rw[au,aC];omega
 have o:(fl vs).length=vs.length*2:=gj hv1.wd;have c:Rw w.drew g 122 cur:=hg.drew;obtain⟨p,D,t,v⟩:=Zo (P:=prog) c 116 116 122 underlying116 stp cap (es.length+vs.length) (i+vs.length) (by omega) hroom hc3 (qS 2 g 0 cap i) (es.length+vs.length-i) (cap-i) ((cur.drop (i*2)).take ((es.length-i)*2)) (by rw[n,Q5l (by omega)];omega) (c.src cap i (es.length-i) (by omega)) (Zx h1 htk i _ (by omega));have y:(splice cur ((i+vs.length)*2) ((cur.drop (i*2)).take ((es.length-i)*2))).length=cap*2:=by rw[aN _ _ _ (by omega),hc3]
 have l:y6 [g] w p:=(y6.refl [g] w).drew.trans v;have m:∀j u,(fl vs)[j]?=some u->p.cell? ((⟨gv,off,none⟩:Addr).add j)=some u:=by
  intro j u F;have:=z.2 j u F;rw[add_lit]at this⊢;rw[aY _ _ _ _ _ _ a]at this;rw[aY _ _ _ _ _ _ (l.get a (by simp;omega))];exact this
 obtain⟨A,C,f,x⟩:=Zo (P:=prog) t 116 115 122 underlying116 stp cap (es.length+vs.length) i (by omega) hroom y ⟨gv,off,none⟩ vs.length cv (fl vs) (by rw[o,ZP (by omega)]) m hv1.fl;have d:QF B 122 2 (.slice (some ⟨g,0,none⟩) (es.length) cap) (es.take i++vs++es.drop i) w (.returned (.slice (some ⟨g,0,none⟩) (es.length+vs.length) cap)) A:=by
  refine⟨_,rfl,OW.close (((h1.wd.take i).app hv1.wd).app (h1.wd.drop i)) hB f (by simp;omega) hroom hc2 (by rw[aN _ _ _ (by omega),y]) ?_,l.trans x⟩;have:=WQ (Or.inl rfl) es vs h1.wd hv1.wd cur i i es.length vs.length rfl rfl (ag _) (by omega) htk (by omega);rw[show i+vs.length+(es.length-i)=es.length+vs.length by omega]at this;exact this
 have k:Hid _:=d;have q:∀W:World,(Instr.sliceAt 116 (.slice (some ⟨g,0,none⟩) (es.length) cap) none (some (.int .i64 ((es.length:Int)+(vs.length:Int)))) none).run prog W=.ok (.slice (some ⟨g,0,none⟩) (es.length+vs.length) cap) W:=fun W=>by
  have:=qB (P:=prog) W 116 122 2 g 0 es.length cap underlying116 stp (es.length+vs.length) (by omega)
  rwa[Int.natCast_add]at this
 have r:∀W:World,(Instr.sliceAt 116 (.slice (some ⟨g,0,none⟩) (es.length+vs.length) cap) (some (.int .i64 ((i:Int)+(vs.length:Int)))) none none).run prog W=.ok (.slice (some (qS 2 g 0 cap (i+vs.length))) (es.length+vs.length-(i+vs.length)) (cap-(i+vs.length))) W:=fun W=>by
  have:=yA (P:=prog) W 116 122 2 g 0 (es.length+vs.length) cap underlying116 stp (i+vs.length) (by omega)
  rwa[Int.natCast_add]at this
 have s:∀W:World,(Instr.sliceAt 116 (.slice (some ⟨g,0,none⟩) (es.length+vs.length) cap) (some (.int .i64 (i:Int))) none none).run prog W=.ok (.slice (some (qS 2 g 0 cap (i))) (es.length+vs.length-(i)) (cap-(i))) W:=fun W=>yA (P:=prog) W 116 122 2 g 0 (es.length+vs.length) cap underlying116 stp i (by omega);clear d l v x f t c z a;go_enter func156,ntmps156;go_wp2;refine yo (fun _:World=>True) (by kernel_rfl) ?_;refine uh 0 (.slice (some ⟨g,0,none⟩) (es.length+vs.length) cap) rfl (fun W b=>by rfl) trivial ?_;refine uh 1 (.int .i64 i) rfl (fun W b=>by rfl) trivial ?_;refine uh 2 (.int .i64 vs.length) rfl (fun W b=>by rfl) trivial ?_;refine uh 3 (.int .i64 ((i+vs.length:Nat):Int)) rfl (fun W b=>gC (.tmp 70) (.tmp 71) rfl (i) (vs.length) rfl rfl (by omega)) trivial ?_;refine uh 4 (.slice (some (qS 2 g 0 cap (i+vs.length))) (es.length+vs.length-(i+vs.length)) (cap-(i+vs.length))) rfl (fun W b=>yY 116 (.tmp 69) (some (.tmp 72)) none none rfl _ (some (.int .i64 ((i+vs.length:Nat):Int))) none none rfl rfl rfl rfl _ (yA W 116 122 2 g 0 (es.length+vs.length) cap underlying116 stp (i+vs.length) (by omega))) trivial ?_;refine uh 5 (.slice (some ⟨g,0,none⟩) (es.length+vs.length) cap) rfl (fun W b=>by rfl) trivial ?_;refine uh 6 (.int .i64 i) rfl (fun W b=>by rfl) trivial ?_;refine uh 7 (.slice (some (qS 2 g 0 cap (i))) (es.length+vs.length-(i)) (cap-(i))) rfl (fun W b=>yY 116 (.tmp 74) (some (.tmp 75)) none none rfl _ (some (.int .i64 ((i:Nat):Int))) none none rfl rfl rfl rfl _ (yA W 116 122 2 g 0 (es.length+vs.length) cap underlying116 stp (i) (by omega))) trivial ?_;refine yi (i:=8) (by kernel_rfl) (yM rfl (by rfl) _ p (qJ (.tmp 73) (.tmp 76) 116 116 rfl _ _ rfl rfl _ (D _)) ⟨trivial,?_⟩);simp only[zz];refine aK (by kernel_rfl) ?_ _;go_wp2_with(first|(at_builtin;(refine ya rfl _ A (qJ (.tmp 80) (.tmp 81) 116 115 rfl _ _ rfl rfl _ (C _)) ?_)))
 go_ret;exact k.out
theorem XY{z:Value}(h:z.cells.all (·.oneCell')=true):∀u∈z.cells.toList,u.oneCell'=true:=by
 intro u hu;exact(Array.all_eq_true_iff_forall_mem.1 h) u (by simpa using hu)
theorem zvk(w:World):(zeroValue 80).run prog w=.ok (.agg #[.string ⟨#[]⟩,.int .i64 0,.nilIface]) w:=by kernel_rfl
inductive RP:Nat->Nat->Nat->Nat->Nat->Value->Prop
 |p:RP 125 116 115 122 2 (.agg #[.string ⟨#[]⟩,.string ⟨#[]⟩])
 |k:RP 269 168 165 80 3 (.agg #[.string ⟨#[]⟩,.int .i64 0,.nilIface])
variable {f S V T k:Nat} {z:Value}
theorem RP.us(R:RP f S V T k z):prog.underlying S=some (.slice T):=by
 cases R
 ·exact underlying116
 ·exact underlying168
theorem RP.uv(R:RP f S V T k z):prog.underlying V=some (.slice T):=by
 cases R
 ·exact underlying115
 ·exact underlying165
theorem RP.st(R:RP f S V T k z):(prog.info? T).map (·.size)=some k:=by
 cases R
 ·exact stp
 ·exact stk
theorem RP.zv(R:RP f S V T k z):∀w,(zeroValue T).run prog w=.ok z w:=by
 cases R
 ·exact zvp
 ·exact zvk
theorem RP.zs(R:RP f S V T k z):z.cells.size=k:=by cases R<;>rfl
theorem RP.z1(R:RP f S V T k z):∀u∈z.cells.toList,u.oneCell'=true:=by cases R<;>exact XY (by simp[Value.cells,Value.oneCell'])
theorem RP.pos(R:RP f S V T k z):0<k:=by cases R<;>decide
theorem RP.hk(R:RP f S V T k z):k=2\/k=3:=by cases R<;>simp
theorem RP.it(R:RP f S V T k z):∃i,prog.info? T=some i/\i.zero=some z/\i.size=k/\i.bytes<=40:=by
 cases R
 ·obtain⟨i,a,b,c,d⟩:=bu itp;exact⟨i,a,b,c,by omega⟩
 ·obtain⟨i,a,b,c,d⟩:=bu itk;exact⟨i,a,b,c,by omega⟩
variable {B i j g cap gv off cv:Nat} {es vs out:List El} {cur:List Value} {w:World}
structure RH(f S V T k:Nat)(z:Value)(B:Nat)(es:List El)(i j:Nat)(w:World)(g cap:Nat)(cur:List Value)(gv off cv:Nat)(vs out:List El):Prop where
 R:RP f S V T k z
 hB:B<=g
 hg:Rw w g T cur
 hc1:es.length<=cap
 hc2:cap<=maxLen
 hc3:cur.length=cap*k
 htk:cur.take (es.length*k)=fl es
 h1:One k es
 hij:i<j
 hl:es.length<=50000
 hv:SL w T k (.slice (some ⟨gv,off,none⟩) vs.length cv) vs
 hv1:One k vs
 hv0:0<vs.length
 hv2:vs.length<=1000
 hout:out=es.take i++vs++es.drop j
theorem RH.pre(h:RH f S V T k z B es i j w g cap cur gv off cv vs out)(hj:j<=es.length):(i:Int)<=(j:Int)/\(j:Int)<=(cap:Int)/\(¬(i:Int)=(j:Int))/\(fl vs).length=vs.length*k
  /\(∀W:World,(Instr.sliceAt S (.slice (some ⟨g,0,none⟩) (es.length) cap) (some (.int .i64 (i:Int))) (some (.int .i64 (j:Int))) none).run prog W=.ok (.slice (some (qS k g 0 cap i)) (j-i) (cap-i)) W)
  /\∀W:World,(Instr.sliceAt S (.slice (some ⟨g,0,none⟩) (es.length) cap) none (some (.int .i64 (i:Int))) none).run prog W=.ok (.slice (some ⟨g,0,none⟩) (i) cap) W:=by
 have:=h.hij;have:=h.hc1;exact⟨by omega,by omega,by omega,gj h.hv1.wd,fun W=>We W S T k g 0 es.length cap h.R.us h.R.st i j (by omega) (by omega),fun W=>qB W S T k g 0 es.length cap h.R.us h.R.st i (by omega)⟩
theorem Q5p(h:RH f S V T k z B es i j w g cap cur gv off cv vs out)(hj:j=es.length)(hroom:i+vs.length<=cap)(hcl:i+vs.length<es.length):Calls prog f #[.slice (some ⟨g,0,none⟩) (es.length) cap,.int .i64 i,.int .i64 j,.slice (some ⟨gv,off,none⟩) vs.length cv] w (QF B T k (.slice (some ⟨g,0,none⟩) (es.length) cap) out w):=by
 obtain⟨f1,f2,f3,p,r,Y⟩:=h.pre (Nat.le_of_eq hj);obtain⟨R,F,H,G,n,d,o,m,I,U,J,b,K,L,a⟩:=h;have q:=R.us;have M:=R.uv;have y:=R.st;have v:=R.pos;have Q:(j:Int)=(es.length:Int):=by omega
 have f4:(i:Int)+(vs.length:Int)<(es.length:Int):=by omega
 obtain⟨N,E,s,t⟩:=Pp (P:=prog) H S V T q M y cap i d ⟨gv,off,none⟩ vs.length cv hroom (fl vs) p (J.src v).2 b.fl;have x:(splice cur (i*k) (fl vs)).length=cap*k:=by rw[aN _ _ _ (by cases R<;>omega),d]
 obtain⟨A,O,X,D,e,u⟩:=Ot (P:=prog) s S T _ q R.zv R.zs R.z1 cap es.length (i+vs.length) (by omega) (by omega) x v;have c:QF B T k (.slice (some ⟨g,0,none⟩) (es.length) cap) out w (.returned (.slice (some ⟨g,0,none⟩) (i+vs.length) cap)) A:=by
  subst a;subst hj;refine⟨_,rfl,OW.close (((m.wd.take i).app b.wd).app (m.wd.drop _)) F e (by simp;(cases R<;>omega)) (by cases R<;>omega) n (by rw[aN _ _ _ (by cases R<;>omega),x]) ?_,t.trans u⟩;have:=UG (R.hk) es vs m.wd b.wd cur i es.length es.length vs.length rfl rfl (by cases R<;>omega) (ag _) o O (by cases R<;>omega) (by cases R<;>omega);rw[Nat.sub_self,dw,cR,dG]at this;have C:splice (splice cur (i*k) (fl vs)) ((i+vs.length)*k) []=splice cur (i*k) (fl vs):=by simp[splice]
  rw[C]at this;exact this
 have l:Hid _:=c;have Z:∀W:World,(Instr.sliceAt S (.slice (some ⟨g,0,none⟩) (es.length) cap) (some (.int .i64 ((i:Int)+(vs.length:Int)))) none none).run prog W=.ok (.slice (some (qS k g 0 cap (i+vs.length))) (es.length-(i+vs.length)) (cap-(i+vs.length))) W:=fun W=>by
  have:=yA (P:=prog) W S T k g 0 es.length cap q y (i+vs.length) (by omega)
  rwa[Int.natCast_add]at this
 clear a c t u e s
 cases R
 all_goals
  first|go_enter func125,ntmps125|go_enter func269,ntmps269
  go_wp2_with(first|(at_builtin;(refine ya rfl _ N (qc (.tmp 32) (.tmp 33) _ _ rfl _ _ rfl rfl _ (E _)) ?_))|(at_builtin;(refine ya rfl _ A (PY (.tmp 43) _ rfl _ rfl _ (D _)) ?_)))
  go_ret;exact l.out
theorem Q5q(h:RH f S V T k z B es i j w g cap cur gv off cv vs out)(hj:j=es.length)(hroom:i+vs.length<=cap)(hcl:es.length<=i+vs.length):Calls prog f #[.slice (some ⟨g,0,none⟩) (es.length) cap,.int .i64 i,.int .i64 j,.slice (some ⟨gv,off,none⟩) vs.length cv] w (QF B T k (.slice (some ⟨g,0,none⟩) (es.length) cap) out w):=by
 obtain⟨f1,f2,f3,e,p,L⟩:=h.pre (Nat.le_of_eq hj);obtain⟨R,u,x,v,n,c,o,m,y,K,A,d,C,D,a⟩:=h;have H:=R.us;have I:=R.uv;have G:=R.st;have E:=R.pos;have J:(j:Int)=(es.length:Int):=by omega
 have f4:¬(i:Int)+(vs.length:Int)<(es.length:Int):=by omega
 obtain⟨s,t,q,r⟩:=Pp (P:=prog) x S V T H I G cap i c ⟨gv,off,none⟩ vs.length cv hroom (fl vs) e (A.src E).2 d.fl;have F:(splice cur (i*k) (fl vs)).length=cap*k:=by rw[aN _ _ _ (by cases R<;>omega),c]
 have b:QF B T k (.slice (some ⟨g,0,none⟩) (es.length) cap) out w (.returned (.slice (some ⟨g,0,none⟩) (i+vs.length) cap)) s:=by
  subst a;subst hj;refine⟨_,rfl,OW.close (((m.wd.take i).app d.wd).app (m.wd.drop _)) u q (by simp;omega) (by omega) n F ?_,r⟩;rw[dV,bo,bT,<-e,List.take_add,qa _ _ _ _ (ag _) (by cases R<;>omega),gI _ _ _ (by cases R<;>omega),ZO es m.wd cur i es.length rfl o (by cases R<;>omega),qx]
 have l:Hid _:=b;clear a b r q
 cases R
 all_goals
  first|go_enter func125,ntmps125|go_enter func269,ntmps269
  go_wp2_with(first|(at_builtin;(refine ya rfl _ s (qc (.tmp 32) (.tmp 33) _ _ rfl _ _ rfl rfl _ (t _)) ?_)))
  go_ret;exact l.out
theorem X8(h:RH f S V T k z B es i j w g cap cur gv off cv vs out)(hj:j=es.length)(hroom:cap<i+vs.length)(ni:B<=w.heap.size):Calls prog f #[.slice (some ⟨g,0,none⟩) (es.length) cap,.int .i64 i,.int .i64 j,.slice (some ⟨gv,off,none⟩) vs.length cv] w (QF B T k (.slice (some ⟨g,0,none⟩) (es.length) cap) out w):=by
 obtain⟨f1,f2,f3,p,q,Y⟩:=h.pre (Nat.le_of_eq hj);obtain⟨R,U,E,C,D,e,l,d,F,W,G,m,H,I,a⟩:=h;have M:=R.us;have N:=R.uv;have Z:=R.st;have K:=R.pos;obtain⟨J,y,n,v,o⟩:=R.it;have Q:(j:Int)=(es.length:Int):=by omega
 have f4:¬(i:Int)+(vs.length:Int)<(es.length:Int):=by omega
 obtain⟨u,x,t,A,r,L,X,O,s⟩:=Q5b (P:=prog) E S V T J _ M N y n v o R.zs cap i (by omega) e ⟨gv,off,none⟩ vs.length cv hroom (by omega) (fl vs) p (G.src K).2;have b:QF B T k (.slice (some ⟨g,0,none⟩) (es.length) cap) out w (.returned (.slice (some ⟨w.heap.size,0,none⟩) (i+vs.length) x)) u:=by
  subst a;subst hj;refine⟨_,rfl,OW.close (((d.wd.take i).app m.wd).app (d.wd.drop _)) ni r (by simp;omega) (by omega) O L ?_,s.mono (by simp)⟩;rw[dV,bo,qx,<-ZO es d.wd cur i es.length rfl l (by cases R<;>omega),br (by simp;(cases R<;>omega)),aJ (by simp;(cases R<;>omega))]
 have c:Hid _:=b;clear a b s r
 cases R
 all_goals
  first|go_enter func125,ntmps125|go_enter func269,ntmps269
  go_wp2_with(first|(at_builtin;(refine ya rfl _ u (qc (.tmp 32) (.tmp 33) _ _ rfl _ _ rfl rfl _ (A _)) ?_)))
  go_ret;exact c.out
theorem Q5s(h:RH f S V T k z B es i j w g cap cur gv off cv vs out)(hj:j<es.length)(hroom:cap<i+vs.length+(es.length-j))(ni:B<=w.heap.size):Calls prog f #[.slice (some ⟨g,0,none⟩) (es.length) cap,.int .i64 i,.int .i64 j,.slice (some ⟨gv,off,none⟩) vs.length cv] w (QF B T k (.slice (some ⟨g,0,none⟩) (es.length) cap) out w):=by
 obtain⟨f1,f2,f3,M,N,pW⟩:=h.pre (Nat.le_of_lt hj);obtain⟨R,hB,D,hc1,hc2,C,r,v,hij,hl,hv,m,hv0,hv2,e⟩:=h;have d:=R.us;have uv:=R.uv;have n:=R.st;have Y:=R.pos;obtain⟨ie,eI,G,eE,H⟩:=R.it;have gw:g<w.heap.size:=(bA.1 D).1;obtain⟨a,K⟩:∃a,a=i+vs.length+(es.length-j):=⟨_,rfl⟩
 have HT:Hid _:=K;have EH:i+vs.length<=a:=by omega
 have ft2:a<=60000:=by omega
 have ft3:i<=50000:=by omega
 have f4:¬(j:Int)=(es.length:Int):=by omega
 have s:((cur.drop (j*k)).take ((es.length-j)*k)).length=(es.length-j)*k:=by rw[au,aC];(cases R<;>omega)
 have f5:(cap:Int)<(a:Int):=by omega
 obtain⟨w1,c,l,u,I,Z,y,xZ,U⟩:=TN (P:=prog) D.drew S 3 ie _ d underlying3 eI G eE H R.zs cap i (by omega) C (a-i) (by omega) (by omega) (by omega) Y;rw[show i+(a-i)=a by omega]at u y;rw[show((a-i:Nat):Int)=(a:Int)-(i:Int)by omega]at u;rw[show w.drew.heap.size=w.heap.size from rfl]at u I;have t:y6 [] w w1:=(y6.refl [] w).drew.trans U;obtain⟨w2,fE,p,J⟩:=Zo (P:=prog) I S V T d n c a i (by omega) y Z ⟨gv,off,none⟩ vs.length cv (fl vs) (by rw[M,ZP (by omega)]) ((hv.kept t).src Y).2 m.fl;have L:(splice (cur.take (i*k)++l) (i*k) (fl vs)).length=c*k:=by rw[aN _ _ _ (by cases R<;>omega),Z]
 have q:Rw w2.drew g T cur:=((D.kept t (by simp)).kept J (by simp;omega)).drew;obtain⟨w3,E,Q,X⟩:=Zo (P:=prog) p.drew S S T d n c a (i+vs.length) (by omega) y L (qS k g 0 cap j) (es.length-j) (cap-j) ((cur.drop (j*k)).take ((es.length-j)*k)) (by rw[s,ZP (by omega)]) (q.src cap j (es.length-j) (by omega)) (Zx v r j _ (by omega));have o:QF B T k (.slice (some ⟨g,0,none⟩) (es.length) cap) out w (.returned (.slice (some ⟨w.heap.size,0,none⟩) (a) c)) w3:=by
  subst e;refine⟨_,rfl,OW.close (((v.wd.take i).app m.wd).app (v.wd.drop _)) ni Q (by simp;(cases R<;>omega)) y xZ (by rw[aN _ _ _ (by rw[s,L];(cases R<;>omega)),L]) ?_,((t.trans2 J (by intro x F;simp at F;(cases R<;>omega))).drew.trans2 X (by intro x F;simp at F;(cases R<;>omega))).mono (by simp)⟩;have:=VK (R.hk) es vs v.wd m.wd cur i j es.length vs.length rfl rfl (by cases R<;>omega) (by cases R<;>omega) r l (by cases R<;>omega) (by cases R<;>omega);rw[<-K]at this;exact this
 have A:Hid _:=o;have O:∀W:World,(Instr.sliceAt S (.slice (some ⟨w.heap.size,0,none⟩) (a) c) (some (.int .i64 (i:Int))) none none).run prog W=.ok (.slice (some (qS k w.heap.size 0 c (i))) (a-(i)) (c-(i))) W:=fun W=>yA W S T k w.heap.size 0 a c d n i (by omega);clear K e o U t J X Q p I q
 cases R
 all_goals
  first|go_enter func125,ntmps125|go_enter func269,ntmps269
  go_wp2;refine yo (fun _:World=>True) (by kernel_rfl) ?_;refine uh 0 (.slice (some ⟨g,0,none⟩) (es.length) cap) rfl (fun W b=>by rfl) trivial ?_;refine uh 1 (.int .i64 i) rfl (fun W b=>by rfl) trivial ?_;refine uh 2 (.slice (some ⟨g,0,none⟩) (i) cap) rfl (fun W b=>yY _ (.tmp 45) none (some (.tmp 46)) none rfl _ none (some (.int .i64 ((i:Nat):Int))) none rfl rfl rfl rfl _ (qB W _ _ _ g 0 (es.length) cap d n (i) (by omega))) trivial ?_;refine uh 3 (.int .i64 i) rfl (fun W b=>gF (.tmp 47) _ _ rfl (some ⟨g,0,none⟩) (i) (cap) rfl d) trivial ?_;refine uh 4 (.slice (some ⟨gv,off,none⟩) vs.length cv) rfl (fun W b=>by rfl) trivial ?_;refine uh 5 (.int .i64 vs.length) rfl (fun W b=>gF (.tmp 49) _ _ rfl (some ⟨gv,off,none⟩) (vs.length) (cv) rfl uv) trivial ?_;refine uh 6 (.int .i64 ((i+vs.length:Nat):Int)) rfl (fun W b=>gC (.tmp 48) (.tmp 50) rfl (i) (vs.length) rfl rfl (by omega)) trivial ?_;refine uh 7 (.slice (some ⟨g,0,none⟩) (es.length) cap) rfl (fun W b=>by rfl) trivial ?_;refine uh 8 (.int .i64 j) rfl (fun W b=>by rfl) trivial ?_;refine uh 9 (.slice (some (qS _ g 0 cap (j))) (es.length-(j)) (cap-(j))) rfl (fun W b=>yY _ (.tmp 52) (some (.tmp 53)) none none rfl _ (some (.int .i64 ((j:Nat):Int))) none none rfl rfl rfl rfl _ (yA W _ _ _ g 0 (es.length) cap d n (j) (by omega))) trivial ?_;refine uh 10 (.int .i64 ((es.length-j:Nat):Int)) rfl (fun W b=>gF (.tmp 54) _ _ rfl (some (qS _ g 0 cap j)) (es.length-j) (cap-j) rfl d) trivial ?_;refine uh 11 (.int .i64 (a:Int)) rfl (fun W b=>by rw[HT.out];exact gC (.tmp 51) (.tmp 55) rfl (i+vs.length) (es.length-j) rfl rfl (by omega)) trivial ?_;refine uh 12 (.int .i64 (a:Int)) rfl (fun W b=>by rfl) trivial ?_;refine aK (by kernel_rfl) ?_ _;go_wp2_with(first|(at_builtin;(refine ya rfl _ w1 (qc (.tmp 63) (.tmp 66) _ 3 rfl _ _ rfl rfl _ (u _)) ?_))|(at_builtin;(refine ya rfl _ w2 (qJ (.tmp 70) (.tmp 71) _ _ rfl _ _ rfl rfl _ (fE _)) ?_)))
  refine yo (fun _:World=>True) (by kernel_rfl) ?_;refine uh 0 (.slice (some ⟨w.heap.size,0,none⟩) (a) c) rfl (fun W b=>by rfl) trivial ?_;refine uh 1 (.int .i64 i) rfl (fun W b=>by rfl) trivial ?_;refine uh 2 (.slice (some ⟨gv,off,none⟩) vs.length cv) rfl (fun W b=>by rfl) trivial ?_;refine uh 3 (.int .i64 vs.length) rfl (fun W b=>gF (.tmp 75) _ _ rfl (some ⟨gv,off,none⟩) (vs.length) (cv) rfl uv) trivial ?_;refine uh 4 (.int .i64 ((i+vs.length:Nat):Int)) rfl (fun W b=>gC (.tmp 74) (.tmp 76) rfl (i) (vs.length) rfl rfl (by omega)) trivial ?_;refine uh 5 (.slice (some (qS _ w.heap.size 0 c (i+vs.length))) (a-(i+vs.length)) (c-(i+vs.length))) rfl (fun W b=>yY _ (.tmp 73) (some (.tmp 77)) none none rfl _ (some (.int .i64 ((i+vs.length:Nat):Int))) none none rfl rfl rfl rfl _ (yA W _ _ _ w.heap.size 0 (a) c d n (i+vs.length) (by omega))) trivial ?_;refine uh 6 (.slice (some ⟨g,0,none⟩) (es.length) cap) rfl (fun W b=>by rfl) trivial ?_;refine uh 7 (.int .i64 j) rfl (fun W b=>by rfl) trivial ?_;refine uh 8 (.slice (some (qS _ g 0 cap (j))) (es.length-(j)) (cap-(j))) rfl (fun W b=>yY _ (.tmp 79) (some (.tmp 80)) none none rfl _ (some (.int .i64 ((j:Nat):Int))) none none rfl rfl rfl rfl _ (yA W _ _ _ g 0 (es.length) cap d n (j) (by omega))) trivial ?_;refine yi (i:=9) (by kernel_rfl) (yM rfl (by rfl) _ w3 (qJ (.tmp 78) (.tmp 81) _ _ rfl _ _ rfl rfl _ (E _)) ⟨trivial,?_⟩);simp only[zz];refine aK (by kernel_rfl) ?_ _;go_wp2;go_ret;exact A.out
theorem Q5t(h:RH f S V T k z B es i j w g cap cur gv off cv vs out)(hj:j<es.length)(hfit:i+vs.length<=j)(iw:gv≠g):Calls prog f #[.slice (some ⟨g,0,none⟩) (es.length) cap,.int .i64 i,.int .i64 j,.slice (some ⟨gv,off,none⟩) vs.length cv] w (QF B T k (.slice (some ⟨g,0,none⟩) (es.length) cap) out w):=by
 obtain⟨f1,f2,f3,H,I,pW⟩:=h.pre (Nat.le_of_lt hj);obtain⟨R,hB,hg,hc1,y,q,s,t,hij,hl,J,n,D,hv2,m⟩:=h;have c:=R.us;have Z:=R.uv;have l:=R.st;have O:=R.pos;obtain⟨a,F⟩:∃a,a=i+vs.length+(es.length-j):=⟨_,rfl⟩
 have HT:Hid _:=F;have EH:i+vs.length<=a:=by omega
 have ft2:a<=60000:=by omega
 have ft3:i<=50000:=by omega
 have f4:¬(j:Int)=(es.length:Int):=by omega
 have lcs:((cur.drop (j*k)).take ((es.length-j)*k)).length=(es.length-j)*k:=by rw[au,aC];(cases R<;>omega)
 have f5:¬(cap:Int)<(a:Int):=by omega
 have f6:(i:Int)+(vs.length:Int)<=(j:Int):=by omega
 have d:∃o:List Value,Rw w gv T o/\0<o.length:=by
  obtain⟨g',sg,fh,o,e,hh,c1,_,c3,_⟩:=J.at_ D
  cases e
  exact⟨o.toList,hh,by simp;(cases R<;>omega)⟩
 obtain⟨o,d,x4⟩:=d;have Y:=(J.src O).2;have X:∀W:World,y6 [g] w W->∀j u,(fl vs)[j]?=some u->W.cell? ((⟨gv,off,none⟩:Addr).add j)=some u:=by
  intro W b j u hj;have:=Y j u hj;rw[add_lit]at this⊢;rw[aY _ _ _ _ _ _ d]at this;rw[aY _ _ _ _ _ _ (b.get d (by simp;omega))];exact this
 have x:y6 [g] w w.drew:=(y6.refl [g] w).drew;obtain⟨w1,fI,E,L⟩:=Zo (P:=prog) hg.drew S V T c l cap a i (by omega) (by omega) q ⟨gv,off,none⟩ vs.length cv (fl vs) (by rw[H,ZP (by omega)]) (X _ x) n.fl;have Q:(splice cur (i*k) (fl vs)).length=cap*k:=by rw[aN _ _ _ (by cases R<;>omega),q]
 have G:(((splice cur (i*k) (fl vs)).drop (j*k)).take ((es.length-j)*k)).length=(es.length-j)*k:=by rw[au,aC];(cases R<;>omega)
 have A:∀u∈((splice cur (i*k) (fl vs)).drop (j*k)).take ((es.length-j)*k),u.oneCell'=true:=by
  rw[Ze _ _ _ _ (by cases R<;>omega) (by cases R<;>omega)];exact Zx t s j _ (by omega)
 obtain⟨w2,fE,r,M⟩:=Zo (P:=prog) E.drew S S T c l cap a (i+vs.length) (by omega) (by omega) Q (qS k g 0 cap j) (es.length-j) (cap-j) (((splice cur (i*k) (fl vs)).drop (j*k)).take ((es.length-j)*k)) (by rw[G,ZP (by omega)]) (E.drew.src cap j (es.length-j) (by omega)) A;have U:(splice (splice cur (i*k) (fl vs)) ((i+vs.length)*k) (((splice cur (i*k) (fl vs)).drop (j*k)).take ((es.length-j)*k))).length=cap*k:=by rw[aN _ _ _ (by cases R<;>omega),Q]
 obtain⟨w3,zs,pO,C,K,N⟩:=Ot (P:=prog) r S T _ c R.zv R.zs R.z1 cap es.length a (by omega) (by omega) U O;have p:QF B T k (.slice (some ⟨g,0,none⟩) (es.length) cap) out w (.returned (.slice (some ⟨g,0,none⟩) (a) cap)) w3:=by
  subst m;refine⟨_,rfl,OW.close (((t.wd.take i).app n.wd).app (t.wd.drop _)) hB K (by simp;(cases R<;>omega)) (by cases R<;>omega) y (by rw[aN _ _ _ (by cases R<;>omega),U]) ?_,((x.trans L).drew.trans M).trans N⟩;have:=UG (R.hk) es vs t.wd n.wd cur i j es.length vs.length rfl rfl (by cases R<;>omega) (by cases R<;>omega) s zs hfit (by cases R<;>omega);rw[<-F]at this;exact this
 have v:Hid _:=p;have B8:∀W:World,(Instr.sliceAt S (.slice (some ⟨g,0,none⟩) (es.length) cap) none (some (.int .i64 (a:Int))) none).run prog W=.ok (.slice (some ⟨g,0,none⟩) (a) cap) W:=fun W=>qB W S T k g 0 es.length cap c l a (by omega);have B9:∀W:World,(Instr.sliceAt S (.slice (some ⟨g,0,none⟩) (a) cap) (some (.int .i64 (i:Int))) none none).run prog W=.ok (.slice (some (qS k g 0 cap (i))) (a-(i)) (cap-(i))) W:=fun W=>yA W S T k g 0 a cap c l i (by omega);have xY:∀W:World,(Instr.sliceAt S (.slice (some ⟨g,0,none⟩) (es.length) cap) (some (.int .i64 (a:Int))) none none).run prog W=.ok (.slice (some (qS k g 0 cap (a))) (es.length-(a)) (cap-(a))) W:=fun W=>yA (P:=prog) W S T k g 0 es.length cap c l a (by omega);clear F m p L M N x K r E X Y d
 cases R
 all_goals
  first|go_enter func125,ntmps125|go_enter func269,ntmps269
  go_wp2;refine yo (fun _:World=>True) (by kernel_rfl) ?_;refine uh 0 (.slice (some ⟨g,0,none⟩) (es.length) cap) rfl (fun W b=>by rfl) trivial ?_;refine uh 1 (.int .i64 i) rfl (fun W b=>by rfl) trivial ?_;refine uh 2 (.slice (some ⟨g,0,none⟩) (i) cap) rfl (fun W b=>yY _ (.tmp 45) none (some (.tmp 46)) none rfl _ none (some (.int .i64 ((i:Nat):Int))) none rfl rfl rfl rfl _ (qB W _ _ _ g 0 (es.length) cap c l (i) (by omega))) trivial ?_;refine uh 3 (.int .i64 i) rfl (fun W b=>gF (.tmp 47) _ _ rfl (some ⟨g,0,none⟩) (i) (cap) rfl c) trivial ?_;refine uh 4 (.slice (some ⟨gv,off,none⟩) vs.length cv) rfl (fun W b=>by rfl) trivial ?_;refine uh 5 (.int .i64 vs.length) rfl (fun W b=>gF (.tmp 49) _ _ rfl (some ⟨gv,off,none⟩) (vs.length) (cv) rfl Z) trivial ?_;refine uh 6 (.int .i64 ((i+vs.length:Nat):Int)) rfl (fun W b=>gC (.tmp 48) (.tmp 50) rfl (i) (vs.length) rfl rfl (by omega)) trivial ?_;refine uh 7 (.slice (some ⟨g,0,none⟩) (es.length) cap) rfl (fun W b=>by rfl) trivial ?_;refine uh 8 (.int .i64 j) rfl (fun W b=>by rfl) trivial ?_;refine uh 9 (.slice (some (qS _ g 0 cap (j))) (es.length-(j)) (cap-(j))) rfl (fun W b=>yY _ (.tmp 52) (some (.tmp 53)) none none rfl _ (some (.int .i64 ((j:Nat):Int))) none none rfl rfl rfl rfl _ (yA W _ _ _ g 0 (es.length) cap c l (j) (by omega))) trivial ?_;refine uh 10 (.int .i64 ((es.length-j:Nat):Int)) rfl (fun W b=>gF (.tmp 54) _ _ rfl (some (qS _ g 0 cap j)) (es.length-j) (cap-j) rfl c) trivial ?_;refine uh 11 (.int .i64 (a:Int)) rfl (fun W b=>by rw[HT.out];exact gC (.tmp 51) (.tmp 55) rfl (i+vs.length) (es.length-j) rfl rfl (by omega)) trivial ?_;refine uh 12 (.int .i64 (a:Int)) rfl (fun W b=>by rfl) trivial ?_;refine aK (by kernel_rfl) ?_ _;go_wp2_with(first|(at_builtin;(refine ya rfl _ w1 (qJ (.tmp 95) (.tmp 96) _ _ rfl _ _ rfl rfl _ (fI _)) ?_)))
  refine yo (fun _:World=>True) (by kernel_rfl) ?_;refine uh 0 (.slice (some ⟨g,0,none⟩) (a) cap) rfl (fun W b=>by rfl) trivial ?_;refine uh 1 (.int .i64 i) rfl (fun W b=>by rfl) trivial ?_;refine uh 2 (.slice (some ⟨gv,off,none⟩) vs.length cv) rfl (fun W b=>by rfl) trivial ?_;refine uh 3 (.int .i64 vs.length) rfl (fun W b=>gF (.tmp 100) _ _ rfl (some ⟨gv,off,none⟩) (vs.length) (cv) rfl Z) trivial ?_;refine uh 4 (.int .i64 ((i+vs.length:Nat):Int)) rfl (fun W b=>gC (.tmp 99) (.tmp 101) rfl (i) (vs.length) rfl rfl (by omega)) trivial ?_;refine uh 5 (.slice (some (qS _ g 0 cap (i+vs.length))) (a-(i+vs.length)) (cap-(i+vs.length))) rfl (fun W b=>yY _ (.tmp 98) (some (.tmp 102)) none none rfl _ (some (.int .i64 ((i+vs.length:Nat):Int))) none none rfl rfl rfl rfl _ (yA W _ _ _ g 0 (a) cap c l (i+vs.length) (by omega))) trivial ?_;refine uh 6 (.slice (some ⟨g,0,none⟩) (es.length) cap) rfl (fun W b=>by rfl) trivial ?_;refine uh 7 (.int .i64 j) rfl (fun W b=>by rfl) trivial ?_;refine uh 8 (.slice (some (qS _ g 0 cap (j))) (es.length-(j)) (cap-(j))) rfl (fun W b=>yY _ (.tmp 104) (some (.tmp 105)) none none rfl _ (some (.int .i64 ((j:Nat):Int))) none none rfl rfl rfl rfl _ (yA W _ _ _ g 0 (es.length) cap c l (j) (by omega))) trivial ?_;refine yi (i:=9) (by kernel_rfl) (yM rfl (by rfl) _ w2 (qJ (.tmp 103) (.tmp 106) _ _ rfl _ _ rfl rfl _ (fE _)) ⟨trivial,?_⟩);simp only[zz];refine aK (by kernel_rfl) ?_ _;go_wp2_with(first|(at_builtin;(refine ya rfl _ w3 (PY (.tmp 110) _ rfl _ rfl _ (C _)) ?_)))
  go_ret;exact v.out
theorem Q5u(h:RH f S V T k z B es i j w g cap cur gv off cv vs out)(hj:j<es.length)(hroom:i+vs.length+(es.length-j)<=cap)(hfit:j<i+vs.length)(iw:gv≠g):Calls prog f #[.slice (some ⟨g,0,none⟩) (es.length) cap,.int .i64 i,.int .i64 j,.slice (some ⟨gv,off,none⟩) vs.length cv] w (QF B T k (.slice (some ⟨g,0,none⟩) (es.length) cap) out w):=by
 obtain⟨f1,f2,f3,G,I,pW⟩:=h.pre (Nat.le_of_lt hj);obtain⟨R,hB,A,hc1,y,q,s,t,hij,hl,J,n,C,hv2,m⟩:=h;have d:=R.us;have H:=R.uv;have l:=R.st;have ko:=R.pos;obtain⟨a,E⟩:∃a,a=i+vs.length+(es.length-j):=⟨_,rfl⟩
 have U:Hid _:=E;have EH:i+vs.length<=a:=by omega
 have Z:a<=60000:=by omega
 have ft3:i<=50000:=by omega
 have f4:¬(j:Int)=(es.length:Int):=by omega
 have F:((cur.drop (j*k)).take ((es.length-j)*k)).length=(es.length-j)*k:=by rw[au,aC];(cases R<;>omega)
 have f5:¬(cap:Int)<(a:Int):=by omega
 have f6:¬(i:Int)+(vs.length:Int)<=(j:Int):=by omega
 have c:∃o:List Value,Rw w gv T o/\0<o.length:=by
  obtain⟨g',sg,fh,o,e,hh,c1,_,c3,_⟩:=J.at_ C
  cases e
  exact⟨o.toList,hh,by simp;(cases R<;>omega)⟩
 obtain⟨o,c,x4⟩:=c;have O:=(J.src ko).2;have N:∀W:World,y6 [g] w W->∀j u,(fl vs)[j]?=some u->W.cell? ((⟨gv,off,none⟩:Addr).add j)=some u:=by
  intro W b j u hj;have:=O j u hj;rw[add_lit]at this⊢;rw[aY _ _ _ _ _ _ c]at this;rw[aY _ _ _ _ _ _ (b.get c (by simp;omega))];exact this
 have x:y6 [g] w w.drew.drew:=(y6.refl [g] w).drew.drew;have Hi:=UX (P:=prog) (w:=w.drew) V 4 H l (qS k g 0 cap (i+vs.length)) ⟨gv,off,none⟩ (a-(i+vs.length)) (cap-(i+vs.length)) vs.length cv (by rw[ZN];exact A) rfl c (by rw[ZN];exact fun e=>iw e.symm) x4;have he:= @run_callFunc_extern prog 157 _ (Extern.SlicesOverlaps.overlaps #[115,115] #[4]) func157 (by kernel_rfl) (by kernel_rfl) (by kernel_rfl) (by kernel_rfl);have rR:= @run_callFunc_extern prog 275 _ (Extern.SlicesOverlaps.overlaps #[165,165] #[4]) func275 (by kernel_rfl) (by kernel_rfl) (by kernel_rfl) (by kernel_rfl);obtain⟨w1,Y,K,D⟩:=Zo (P:=prog) A.drew.drew S S T d l cap a (i+vs.length) (by omega) (by omega) q (qS k g 0 cap j) (es.length-j) (cap-j) ((cur.drop (j*k)).take ((es.length-j)*k)) (by rw[F,ZP (by omega)]) (A.drew.drew.src cap j (es.length-j) (by omega)) (Zx t s j _ (by omega));have M:(splice cur ((i+vs.length)*k) ((cur.drop (j*k)).take ((es.length-j)*k))).length=cap*k:=by rw[aN _ _ _ (by cases R<;>omega),q]
 obtain⟨Q,X,r,L⟩:=Zo (P:=prog) K S V T d l cap a i (by omega) (by omega) M ⟨gv,off,none⟩ vs.length cv (fl vs) (by rw[G,ZP (by omega)]) (N _ (x.trans D)) n.fl;have p:QF B T k (.slice (some ⟨g,0,none⟩) (es.length) cap) out w (.returned (.slice (some ⟨g,0,none⟩) (a) cap)) Q:=by
  subst m;refine⟨_,rfl,OW.close (((t.wd.take i).app n.wd).app (t.wd.drop _)) hB r (by simp;(cases R<;>omega)) (by cases R<;>omega) y (by rw[aN _ _ _ (by cases R<;>omega),M]) ?_,(x.trans D).trans L⟩;have:=WQ (R.hk) es vs t.wd n.wd cur i j es.length vs.length rfl rfl (by cases R<;>omega) (by cases R<;>omega) s (by cases R<;>omega);rw[<-E]at this;exact this
 have v:Hid _:=p;have B8:∀W:World,(Instr.sliceAt S (.slice (some ⟨g,0,none⟩) (es.length) cap) none (some (.int .i64 (a:Int))) none).run prog W=.ok (.slice (some ⟨g,0,none⟩) (a) cap) W:=fun W=>qB W S T k g 0 es.length cap d l a (by omega);have B9:∀W:World,(Instr.sliceAt S (.slice (some ⟨g,0,none⟩) (a) cap) (some (.int .i64 (i:Int))) none none).run prog W=.ok (.slice (some (qS k g 0 cap (i))) (a-(i)) (cap-(i))) W:=fun W=>yA W S T k g 0 a cap d l i (by omega);have Hj:∀W:World,(Instr.sliceAt S (.slice (some ⟨g,0,none⟩) (a) cap) (some (.int .i64 ((i:Int)+(vs.length:Int)))) none none).run prog W=.ok (.slice (some (qS k g 0 cap (i+vs.length))) (a-(i+vs.length)) (cap-(i+vs.length))) W:=fun W=>by
  have:=yA (P:=prog) W S T k g 0 a cap d l (i+vs.length) (by omega)
  rwa[Int.natCast_add]at this
 clear E m p D L x r K N O c
 cases R
 all_goals
  first|go_enter func125,ntmps125|go_enter func269,ntmps269
  go_wp2;refine yo (fun _:World=>True) (by kernel_rfl) ?_;refine uh 0 (.slice (some ⟨g,0,none⟩) (es.length) cap) rfl (fun W b=>by rfl) trivial ?_;refine uh 1 (.int .i64 i) rfl (fun W b=>by rfl) trivial ?_;refine uh 2 (.slice (some ⟨g,0,none⟩) (i) cap) rfl (fun W b=>yY _ (.tmp 45) none (some (.tmp 46)) none rfl _ none (some (.int .i64 ((i:Nat):Int))) none rfl rfl rfl rfl _ (qB W _ _ _ g 0 (es.length) cap d l (i) (by omega))) trivial ?_;refine uh 3 (.int .i64 i) rfl (fun W b=>gF (.tmp 47) _ _ rfl (some ⟨g,0,none⟩) (i) (cap) rfl d) trivial ?_;refine uh 4 (.slice (some ⟨gv,off,none⟩) vs.length cv) rfl (fun W b=>by rfl) trivial ?_;refine uh 5 (.int .i64 vs.length) rfl (fun W b=>gF (.tmp 49) _ _ rfl (some ⟨gv,off,none⟩) (vs.length) (cv) rfl H) trivial ?_;refine uh 6 (.int .i64 ((i+vs.length:Nat):Int)) rfl (fun W b=>gC (.tmp 48) (.tmp 50) rfl (i) (vs.length) rfl rfl (by omega)) trivial ?_;refine uh 7 (.slice (some ⟨g,0,none⟩) (es.length) cap) rfl (fun W b=>by rfl) trivial ?_;refine uh 8 (.int .i64 j) rfl (fun W b=>by rfl) trivial ?_;refine uh 9 (.slice (some (qS _ g 0 cap (j))) (es.length-(j)) (cap-(j))) rfl (fun W b=>yY _ (.tmp 52) (some (.tmp 53)) none none rfl _ (some (.int .i64 ((j:Nat):Int))) none none rfl rfl rfl rfl _ (yA W _ _ _ g 0 (es.length) cap d l (j) (by omega))) trivial ?_;refine uh 10 (.int .i64 ((es.length-j:Nat):Int)) rfl (fun W b=>gF (.tmp 54) _ _ rfl (some (qS _ g 0 cap j)) (es.length-j) (cap-j) rfl d) trivial ?_;refine uh 11 (.int .i64 (a:Int)) rfl (fun W b=>by rw[U.out];exact gC (.tmp 51) (.tmp 55) rfl (i+vs.length) (es.length-j) rfl rfl (by omega)) trivial ?_;refine uh 12 (.int .i64 (a:Int)) rfl (fun W b=>by rfl) trivial ?_;refine aK (by kernel_rfl) ?_ _;go_wp2;refine yo (fun _:World=>True) (by kernel_rfl) ?_;refine uh 0 (.slice (some ⟨g,0,none⟩) (a) cap) rfl (fun W b=>by rfl) trivial ?_;refine uh 1 (.int .i64 i) rfl (fun W b=>by rfl) trivial ?_;refine uh 2 (.slice (some ⟨gv,off,none⟩) vs.length cv) rfl (fun W b=>by rfl) trivial ?_;refine uh 3 (.int .i64 vs.length) rfl (fun W b=>gF (.tmp 123) _ _ rfl (some ⟨gv,off,none⟩) (vs.length) (cv) rfl H) trivial ?_;refine uh 4 (.int .i64 ((i+vs.length:Nat):Int)) rfl (fun W b=>gC (.tmp 122) (.tmp 124) rfl (i) (vs.length) rfl rfl (by omega)) trivial ?_;refine uh 5 (.slice (some (qS _ g 0 cap (i+vs.length))) (a-(i+vs.length)) (cap-(i+vs.length))) rfl (fun W b=>yY _ (.tmp 121) (some (.tmp 125)) none none rfl _ (some (.int .i64 ((i+vs.length:Nat):Int))) none none rfl rfl rfl rfl _ (yA W _ _ _ g 0 (a) cap d l (i+vs.length) (by omega))) trivial ?_;refine uh 6 (.slice (some ⟨g,0,none⟩) (es.length) cap) rfl (fun W b=>by rfl) trivial ?_;refine uh 7 (.int .i64 j) rfl (fun W b=>by rfl) trivial ?_;refine uh 8 (.slice (some (qS _ g 0 cap (j))) (es.length-(j)) (cap-(j))) rfl (fun W b=>yY _ (.tmp 127) (some (.tmp 128)) none none rfl _ (some (.int .i64 ((j:Nat):Int))) none none rfl rfl rfl rfl _ (yA W _ _ _ g 0 (es.length) cap d l (j) (by omega))) trivial ?_;refine yi (i:=9) (by kernel_rfl) (yM rfl (by rfl) _ w1 (qJ (.tmp 126) (.tmp 129) _ _ rfl _ _ rfl rfl _ (Y _)) ⟨trivial,?_⟩);simp only[zz];refine aK (by kernel_rfl) ?_ _;go_wp2_with(first|(at_builtin;(refine ya rfl _ Q (qJ (.tmp 133) (.tmp 134) _ _ rfl _ _ rfl rfl _ (X _)) ?_)))
  go_ret;exact v.out
theorem Ua(R:RP f S V T k z)(B:Nat)(vl:Value)(es:List El)(i j:Nat)(w:World)(h:OW w B T k vl es)(h1:One k es)(hij:i<j)(hj:j<=es.length)(hl:es.length<=50000)(ni:B<=w.heap.size)
  (gv off cv:Nat)(vs:List El)(hv:SL w T k (.slice (some ⟨gv,off,none⟩) vs.length cv) vs)(hv1:One k vs)(hv0:0<vs.length)(hv2:vs.length<=1000)(iw:vl.ownBlock≠some gv):
  Calls prog f #[vl,.int .i64 i,.int .i64 j,.slice (some ⟨gv,off,none⟩) vs.length cv] w (QF B T k vl (es.take i++vs++es.drop j) w):=by
 obtain⟨g,a,o,rfl,p,r,c,d,l,m⟩:=h.open (by omega);have n:gv≠g:=by intro e;subst e;exact iw rfl
 have H:=RH.mk R p r c d l m h1 hij hl hv hv1 hv0 hv2 rfl;rcases Nat.eq_or_lt_of_le hj with hj|hj
 ·by_cases b:i+vs.length<=a
  ·by_cases hc:i+vs.length<es.length
   ·exact Q5p H hj b hc
   ·exact Q5q H hj b (by omega)
  ·exact X8 H hj (by omega) ni
 ·by_cases b:i+vs.length+(es.length-j)<=a
  ·by_cases q:i+vs.length<=j
   ·exact Q5t H hj q n
   ·exact Q5u H hj b (by omega) n
  ·exact Q5s H hj (by omega) ni
theorem Q5w(B:Nat)(vl:Value)(es:List El)(w:World)(h:OW w B 122 2 vl es)(hl:es.length<=50000)(ni:B<=w.heap.size)
  (gv off cv:Nat)(vs:List El)(hv:SL w 122 2 (.slice (some ⟨gv,off,none⟩) vs.length cv) vs)(hv1:One 2 vs)(hv0:0<vs.length)(hv2:vs.length<=1000):
  Calls prog 156 #[vl,.int .i64 es.length,.slice (some ⟨gv,off,none⟩) vs.length cv] w (QF B 122 2 vl (es++vs) w):=by
 obtain⟨v,k,l,s,m⟩:=bu itp;obtain⟨p,c,rfl⟩:=h.sl.shape;obtain⟨z,r,u,t,d,-⟩:=cY (P:=prog) w B 116 0 122 v _ 2 32 underlying116 k l s m rfl (by decide) (.slice p es.length c) es.length (fl es) h.1 ⟨gv,off,none⟩ vs.length cv (fl vs) (gj hv1.wd) hv.src.2 hv1.fl (by unfold maxLen;omega) (by omega) ni;have D:∀q,(Builtin.append_ #[116,115] q #[.slice p es.length c,.slice (some ⟨gv,off,none⟩) vs.length cv]).run prog w=.ok z r:=fun q=>(Xn w 116 115 q 122 122 v underlying116 underlying115 k p es.length c _).trans u;have f2:¬(vs.length:Int)=0:=by omega
 have f3:(es.length:Int)<=(es.length:Int):=by omega
 have hc:es.length<=c:=by
  obtain⟨_,⟨e,G⟩|⟨g,A,C,e,_,_,H,_⟩⟩:=h.1
  ·injection e with e1 e2 e3;omega
  ·injection e with e1 e2 e3;omega
 have b:QF B 122 2 (.slice p es.length c) (es++vs) w (.returned z) r:=by
  refine⟨_,rfl,?_,yF d _ (by intro x F;rw[F];simp)⟩;unfold OW;rw[ai,qx];exact⟨t,h.2.app hv1.wd⟩
 obtain⟨i,a⟩:∃i,i=es++vs:=⟨_,rfl⟩
 rw[<-a]at b⊢;have j:Hid _:=b;obtain⟨o,f⟩:∃o,o=(if c=es.length then p else p.map (·.add (es.length*2))):=⟨_,rfl⟩
 obtain⟨n,y⟩:∃n,n=c-es.length:=⟨_,rfl⟩
 have E:∀W:World,(Instr.sliceAt 116 (.slice p es.length c) (some (.int .i64 (es.length:Int))) none none).run prog W=.ok (.slice o 0 n) W:=by
  intro W;rw[f,y];simp[Instr.sliceAt,Instr.slice,aO underlying116,Instr.sliceBounds,Instr.sliceBound,asIntOf,sizeOf,typeInfo,k,s]
 clear b t d a u f y;go_enter func156,ntmps156;go_wp2_with(first|(at_builtin;(refine ya rfl _ r (qc (.tmp 23) (.tmp 24) 116 115 rfl _ _ rfl rfl _ (D _)) ?_)))
 go_ret;exact j.out
theorem Q5x(B:Nat)(vl:Value)(es:List El)(i:Nat)(w:World)(h:OW w B 122 2 vl es)(h1:One 2 es)(hi:i<=es.length)(hl:es.length<=50000)(ni:B<=w.heap.size)
  (gv off cv:Nat)(vs:List El)(hv:SL w 122 2 (.slice (some ⟨gv,off,none⟩) vs.length cv) vs)(hv1:One 2 vs)(hv0:0<vs.length)(hv2:vs.length<=1000)(iw:vl.ownBlock≠some gv):
  Calls prog 156 #[vl,.int .i64 i,.slice (some ⟨gv,off,none⟩) vs.length cv] w (QF B 122 2 vl (es.take i++vs++es.drop i) w):=by
 rcases Nat.eq_or_lt_of_le hi with rfl|hi
 ·have:=Q5w B vl es w h hl ni gv off cv vs hv hv1 hv0 hv2;rw[bV,dV,bo];exact this
 ·obtain⟨g,a,b,rfl,k,l,c,d,f,j⟩:=h.open (by omega);have n:gv≠g:=by intro e;subst e;exact iw rfl
  by_cases m:es.length+vs.length<=a
  ·exact Q5n B es i w g a b k l c d f j h1 hi hl gv off cv vs hv hv1 hv0 hv2 m n
  ·exact Q5m B es i w g a b k l c d f j h1 hi hl gv off cv vs hv hv1 hv0 hv2 (by omega) ni
theorem Q5y(w:World)(t ty e:TypeId)(i:TypeInfo)(ht:P.underlying t=some (.slice e))(hi:P.info? e=some i)(b:Option Addr)(n c:Nat)(hn:n<=c):
  (Builtin.append_ #[t,t] ty #[.slice b n c,.slice none 0 0]).run P w=.ok (.slice b n c) w:=by
 cases b with
 |none=>simp[Builtin.append_,aO ht,sizeOf,typeInfo,hi,Builtin.lenOf,Builtin.firstCells,hn]
 |some a=>simp[Builtin.append_,aO ht,sizeOf,typeInfo,hi,Builtin.lenOf,Builtin.firstCells,hn,storeCells]
theorem OW.low{B B':Nat}{t:TypeId}{d:Nat}{v:Value}{es:List El}(h:OW w B t d v es)(hb:B'<=B):OW w B' t d v es:=⟨gT h.1 hb,h.2⟩
theorem Nz(t e:TypeId)(ie:TypeInfo)(z:Value)(ht:P.underlying t=some (.slice e))(eI:P.info? e=some ie)(hz1:ie.zero=some z){d bb:Nat}(eE:ie.size=d)(hz3:ie.bytes=bb)(BJ:bb<=40)(hd:0<d)(pO:z.cells.size=d)(B:Nat)(v:Value)(xs:List El)(w:World)(h:OW w B e d v xs)(hB:B<=w.heap.size)
  (y:Value)(ys:List El)(hy:SL w e d y ys)(h1:One d ys)(hl:xs.length+ys.length<=100000):
  ∃v' w',(∀ty,(Builtin.append_ #[t,t] ty #[v,y]).run P w=.ok v' w')/\OW w' B e d v' (xs++ys)/\y6 v.ownBlock.toList w w':=by
 obtain⟨p,c,rfl⟩:=h.sl.shape;rcases hy with⟨rfl,rfl⟩|hy
 ·have hc:xs.length<=c:=by
   obtain⟨_,⟨e,n⟩|⟨g,a,f,e,_,_,h1,_⟩⟩:=h.1
   ·injection e with e1 e2 e3;omega
   ·injection e with e1 e2 e3;omega
  exact⟨_,w,fun ty=>Q5y w t ty e ie ht eI p xs.length c hc,by rw[bo];exact h,y6.refl _ _⟩
 ·obtain⟨g,b,a,f,rfl,hy⟩:=hy;have l:SL w e d (.slice (some ⟨g,b,none⟩) ys.length a) ys:=Or.inr ⟨g,b,a,f,rfl,hy⟩;obtain⟨v',w',k,j,i,-⟩:=cY (P:=P) w B t 0 e ie z d bb ht eI hz1 eE hz3 pO hd (.slice p xs.length c) xs.length (fl xs) h.1 ⟨g,b,none⟩ ys.length a (fl ys) (gj h1.wd) (l.src (hd:=hd)).2 h1.fl (by unfold maxLen;omega) (av (dD _ BJ) (by omega)) hB;refine⟨v',w',fun ty=>k,?_,yF i _ (by intro x m;rw[m];simp)⟩;unfold OW;rw[ai,qx];exact⟨j,h.2.app h1.wd⟩
theorem Q5A(n:Nat)(w:World)(hn:n<=100000):Calls prog 278 #[.slice none 0 0,.int .i64 n] w (LU 122 2 [] w):=by
 obtain⟨o,k,i,p,f⟩:=bu itp;have f1:¬(n:Int)<0:=by omega
 rcases dM n with rfl|q
 ·go_enter func278,ntmps278;go_wp2;go_ret;exact⟨_,rfl,⟨aM _ _ _ _,by simp[Wd]⟩,y6.refl _ _⟩
 ·have f2:(0:Int)<(n:Int):=by omega
  have s:=grownCap_ge w n 0 122;have r:grownCap w n 0 122<=maxLen:=grownCap_le_maxLen w n 0 122 (by unfold maxLen;omega);have t:(Builtin.firstCells o.size 0 (.slice none 0 0)).run prog w.drew=.ok ([]:List Value).toArray w.drew:=by simp[Builtin.firstCells]
  have c:=fun u=>Lib.run_append_grow_zeros (P:=prog) w 116 3 u 122 o _ .i64 .i64 underlying116 underlying3 k i none 0 0 [] t n q (by rw[p];decide) (by omega) (by omega) (by rw[f];omega) (growslice_fits (by omega) (by rw[f];omega));simp only[bL]at c;obtain⟨a,j⟩:∃a,a=grownCap w n 0 122:=⟨_,rfl⟩
  obtain⟨d,b⟩:∃d,d=(([]:List Value).toArray++Builtin.zeroCells (Value.agg #[.string ⟨#[]⟩,.string ⟨#[]⟩]).cells n++Builtin.zeroCells (Value.agg #[.string ⟨#[]⟩,.string ⟨#[]⟩]).cells (grownCap w n 0 122-n)):=⟨_,rfl⟩
  rw[<-b,<-j]at c;have g:d.size=a*2:=by
   rw[b,j,Array.size_append,Array.size_append,size_zeroCells,size_zeroCells];simp only[Value.cells,bX,bO,aB];omega
  have l:∀W:World,(Instr.sliceAt 116 (.slice none 0 0) none (some (.int .i64 0)) none).run prog W=.ok (.slice none 0 0) W:=by
   intro W;simp[Instr.sliceAt,Instr.slice,aO underlying116,Instr.sliceBounds,Instr.sliceBound,asIntOf,sizeOf,typeInfo,k]
  have m:∀W:World,(Instr.sliceAt 116 (.slice (some ⟨w.heap.size,0,none⟩) n a) none (some (.int .i64 0)) none).run prog W=.ok (.slice (some ⟨w.heap.size,0,none⟩) 0 a) W:=fun W=>qB W 116 122 2 w.heap.size 0 n a underlying116 stp 0 (by omega);have e:LU 122 2 [] w (.returned (.slice (some ⟨w.heap.size,0,none⟩) 0 a)) (w.drew.alloc (.cells d 122)):=by
   refine⟨_,rfl,⟨⟨rfl,Or.inr ⟨w.heap.size,a,d,rfl,ag _,af w.drew _,ay _,by omega,g,by simp[fl]⟩⟩,by simp[Wd]⟩,(y6.refl [] w).drew.alloc _⟩
  have h:Hid _:=e;clear e b j g;go_enter func278,ntmps278;go_wp2_with(first|(at_builtin;(refine ya rfl _ _ (qc (.tmp 20) (.tmp 21) 116 3 rfl _ _ rfl rfl _ (c _)) ?_)))
  go_ret;exact h.out
theorem Yo(n:Nat)(w:World)(hn:n<=100000):Calls prog 279 #[.slice none 0 0,.int .i64 n] w (LU 80 3 [] w):=by
 obtain⟨o,k,i,p,f⟩:=bu itk;have f1:¬(n:Int)<0:=by omega
 rcases dM n with rfl|q
 ·go_enter func279,ntmps279;go_wp2;go_ret;exact⟨_,rfl,⟨aM _ _ _ _,by simp[Wd]⟩,y6.refl _ _⟩
 ·have f2:(0:Int)<(n:Int):=by omega
  have s:=grownCap_ge w n 0 80;have r:grownCap w n 0 80<=maxLen:=grownCap_le_maxLen w n 0 80 (by unfold maxLen;omega);have t:(Builtin.firstCells o.size 0 (.slice none 0 0)).run prog w.drew=.ok ([]:List Value).toArray w.drew:=by simp[Builtin.firstCells]
  have c:=fun u=>Lib.run_append_grow_zeros (P:=prog) w 168 3 u 80 o _ .i64 .i64 underlying168 underlying3 k i none 0 0 [] t n q (by rw[p];decide) (by omega) (by omega) (by rw[f];omega) (growslice_fits (by omega) (by rw[f];omega));simp only[bL]at c;obtain⟨a,j⟩:∃a,a=grownCap w n 0 80:=⟨_,rfl⟩
  obtain⟨d,b⟩:∃d,d=(([]:List Value).toArray++Builtin.zeroCells (Value.agg #[.string ⟨#[]⟩,.int .i64 0,.nilIface]).cells n++Builtin.zeroCells (Value.agg #[.string ⟨#[]⟩,.int .i64 0,.nilIface]).cells (grownCap w n 0 80-n)):=⟨_,rfl⟩
  rw[<-b,<-j]at c;have g:d.size=a*3:=by
   rw[b,j,Array.size_append,Array.size_append,size_zeroCells,size_zeroCells];simp only[Value.cells,bX,bO,aB];omega
  have l:∀W:World,(Instr.sliceAt 168 (.slice none 0 0) none (some (.int .i64 0)) none).run prog W=.ok (.slice none 0 0) W:=by
   intro W;simp[Instr.sliceAt,Instr.slice,aO underlying168,Instr.sliceBounds,Instr.sliceBound,asIntOf,sizeOf,typeInfo,k]
  have m:∀W:World,(Instr.sliceAt 168 (.slice (some ⟨w.heap.size,0,none⟩) n a) none (some (.int .i64 0)) none).run prog W=.ok (.slice (some ⟨w.heap.size,0,none⟩) 0 a) W:=fun W=>qB W 168 80 3 w.heap.size 0 n a underlying168 stk 0 (by omega);have e:LU 80 3 [] w (.returned (.slice (some ⟨w.heap.size,0,none⟩) 0 a)) (w.drew.alloc (.cells d 80)):=by
   refine⟨_,rfl,⟨⟨rfl,Or.inr ⟨w.heap.size,a,d,rfl,ag _,af w.drew _,ay _,by omega,g,by simp[fl]⟩⟩,by simp[Wd]⟩,(y6.refl [] w).drew.alloc _⟩
  have h:Hid _:=e;clear e b j g;go_enter func279,ntmps279;go_wp2_with(first|(at_builtin;(refine ya rfl _ _ (qc (.tmp 20) (.tmp 21) 168 3 rfl _ _ rfl rfl _ (c _)) ?_)))
  go_ret;exact h.out
def CjP(xs ys:List El)(j:Nat):List El:=if j=0 then []else if j=1 then xs else xs++ys
def CnP(xs ys:List El)(w:World)(s i:Value)(wr:World):Prop:=∃j:Nat,j<=2/\i=.int .i64 j/\s=.int .i64 ((CjP xs ys j).length:Nat)/\y6 [] w wr
def CvP(xs ys:List El)(w:World)(s i:Value)(wr:World):Prop:=∃j:Nat,j<=2/\i=.int .i64 j/\OW wr w.heap.size 122 2 s (CjP xs ys j)/\y6 [] w wr
theorem XI(b:Nat)(x y:Value)(xs ys:List El)(w:World)(hb:w.heap[b]?=some (.cells #[x,y] 116 (0,0)))(hx:SL w 122 2 x xs)(hy:SL w 122 2 y ys)(x1:One 2 xs)(y1:One 2 ys)(hl:xs.length+ys.length<=50000):
  Calls prog 270 #[.slice (some ⟨b,0,none⟩) 2 2] w (LU 122 2 (xs++ys) w):=by
 obtain⟨E,D,n,C,o⟩:=bu itp;obtain⟨F,A,I⟩:=hx.shape;obtain⟨G,B,J⟩:=hy.shape;subst I;subst J;go_enter func270,ntmps270;go_wp2
 go_loopw [3,11] (fun s i wr=>CnP xs ys w s i wr) (fun _ i _=>2-(intOf i).toNat)
 case atStart=>exact⟨0,by omega,rfl,rfl,y6.refl _ _⟩
 case round=>
  obtain⟨j,K,rfl,rfl,a⟩:=hrel;have c:=a.get hb (by simp);have v:wr.cell? ⟨b,0,none⟩=some (.slice F xs.length A):=by rw[aY _ _ _ _ _ _ c];rfl
  have z:wr.cell? ⟨b,1,none⟩=some (.slice G ys.length B):=by rw[aY _ _ _ _ _ _ c];rfl
  rcases(by omega:j=0\/j=1\/j=2)with rfl|rfl|rfl
  ·have k:CjP xs ys 0= []:=rfl;have q:Hid (CjP xs ys (0+1)=xs):=rfl;rw[k];go_wp2;go_roundw
   case rel=>exact⟨0+1,by omega,by go_num,(by rw[q.out]<;>simp),a⟩
   case measure=>simp[intOf]
  ·have k:CjP xs ys 1=xs:=rfl;have q:Hid (CjP xs ys (1+1)=xs++ys):=rfl;rw[k];go_wp2;go_roundw
   case rel=>exact⟨1+1,by omega,by go_num,(by rw[q.out,ai]<;>simp),a⟩
   case measure=>simp[intOf]
  ·have k:(CjP xs ys 2).length=xs.length+ys.length:=by show(xs++ys).length=_;rw[ai]
   rw[k];go_wp2_with(first|(go_at_call 278;refine(Q5A (xs.length+ys.length) _ (by omega)).mono ?_;rintro e O⟨N,rfl,m,l⟩))
   go_loopw [6,27] (fun s i wr=>CvP xs ys w s i wr) (fun _ i _=>2-(intOf i).toNat)
   case atStart=>exact⟨0,by omega,rfl,OW.low m a.size,a.trans l⟩
   case round=>
    clear v z c l m a;obtain⟨j,K,rfl,g,a⟩:=hrel;obtain⟨M,L,H⟩:=g.sl.shape;subst H;have c:=a.get hb (by simp);have v:wr.cell? ⟨b,0,none⟩=some (.slice F xs.length A):=by rw[aY _ _ _ _ _ _ c];rfl
    have z:wr.cell? ⟨b,1,none⟩=some (.slice G ys.length B):=by rw[aY _ _ _ _ _ _ c];rfl
    rcases(by omega:j=0\/j=1\/j=2)with rfl|rfl|rfl
    ·obtain⟨u,h,t,f,d⟩:=Nz (P:=prog) 116 122 E _ underlying116 D n C o (by decide) (by decide) rfl w.heap.size _ _ wr g a.size _ xs (hx.kept a) x1 (by show 0+xs.length<=100000;omega);have r:y6 [] w h:=a.trans2 d (fun y hy=>Or.inr (qj g.1 y hy));have p:Hid (OW h w.heap.size 122 2 u (CjP xs ys (0+1))):=f;clear f d g;go_wp2_with(first|(at_builtin;(refine ya rfl _ h (qc (.tmp 31) (.tmp 32) 116 116 rfl _ _ rfl rfl _ (t _)) ?_)))
     go_roundw
     case rel=>exact⟨0+1,by omega,by go_num,p.out,r⟩
     case measure=>simp[intOf]
    ·obtain⟨u,h,t,f,d⟩:=Nz (P:=prog) 116 122 E _ underlying116 D n C o (by decide) (by decide) rfl w.heap.size _ _ wr g a.size _ ys (hy.kept a) y1 (by show xs.length+ys.length<=100000;omega);have r:y6 [] w h:=a.trans2 d (fun y hy=>Or.inr (qj g.1 y hy));have p:Hid (OW h w.heap.size 122 2 u (CjP xs ys (1+1))):=f;clear f d g;go_wp2_with(first|(at_builtin;(refine ya rfl _ h (qc (.tmp 31) (.tmp 32) 116 116 rfl _ _ rfl rfl _ (t _)) ?_)))
     go_roundw
     case rel=>exact⟨1+1,by omega,by go_num,p.out,r⟩
     case measure=>simp[intOf]
    ·go_wp2;go_ret;exact⟨_,rfl,g,a⟩
def CjK(xs ys:List El)(j:Nat):List El:=if j=0 then []else if j=1 then xs else xs++ys
def CnK(xs ys:List El)(w:World)(s i:Value)(wr:World):Prop:=∃j:Nat,j<=2/\i=.int .i64 j/\s=.int .i64 ((CjK xs ys j).length:Nat)/\y6 [] w wr
def CvK(xs ys:List El)(w:World)(s i:Value)(wr:World):Prop:=∃j:Nat,j<=2/\i=.int .i64 j/\OW wr w.heap.size 80 3 s (CjK xs ys j)/\y6 [] w wr
theorem Q5D(b:Nat)(x y:Value)(xs ys:List El)(w:World)(hb:w.heap[b]?=some (.cells #[x,y] 168 (0,0)))(hx:SL w 80 3 x xs)(hy:SL w 80 3 y ys)(x1:One 3 xs)(y1:One 3 ys)(hl:xs.length+ys.length<=50000):
  Calls prog 271 #[.slice (some ⟨b,0,none⟩) 2 2] w (LU 80 3 (xs++ys) w):=by
 obtain⟨E,D,n,C,o⟩:=bu itk;obtain⟨F,A,I⟩:=hx.shape;obtain⟨G,B,J⟩:=hy.shape;subst I;subst J;go_enter func271,ntmps271;go_wp2
 go_loopw [3,11] (fun s i wr=>CnK xs ys w s i wr) (fun _ i _=>2-(intOf i).toNat)
 case atStart=>exact⟨0,by omega,rfl,rfl,y6.refl _ _⟩
 case round=>
  obtain⟨j,K,rfl,rfl,a⟩:=hrel;have c:=a.get hb (by simp);have v:wr.cell? ⟨b,0,none⟩=some (.slice F xs.length A):=by rw[aY _ _ _ _ _ _ c];rfl
  have z:wr.cell? ⟨b,1,none⟩=some (.slice G ys.length B):=by rw[aY _ _ _ _ _ _ c];rfl
  rcases(by omega:j=0\/j=1\/j=2)with rfl|rfl|rfl
  ·have k:CjK xs ys 0= []:=rfl;have q:Hid (CjK xs ys (0+1)=xs):=rfl;rw[k];go_wp2;go_roundw
   case rel=>exact⟨0+1,by omega,by go_num,(by rw[q.out]<;>simp),a⟩
   case measure=>simp[intOf]
  ·have k:CjK xs ys 1=xs:=rfl;have q:Hid (CjK xs ys (1+1)=xs++ys):=rfl;rw[k];go_wp2;go_roundw
   case rel=>exact⟨1+1,by omega,by go_num,(by rw[q.out,ai]<;>simp),a⟩
   case measure=>simp[intOf]
  ·have k:(CjK xs ys 2).length=xs.length+ys.length:=by show(xs++ys).length=_;rw[ai]
   rw[k];go_wp2_with(first|(go_at_call 279;refine(Yo (xs.length+ys.length) _ (by omega)).mono ?_;rintro e O⟨N,rfl,m,l⟩))
   go_loopw [6,27] (fun s i wr=>CvK xs ys w s i wr) (fun _ i _=>2-(intOf i).toNat)
   case atStart=>exact⟨0,by omega,rfl,OW.low m a.size,a.trans l⟩
   case round=>
    clear v z c l m a;obtain⟨j,K,rfl,g,a⟩:=hrel;obtain⟨M,L,H⟩:=g.sl.shape;subst H;have c:=a.get hb (by simp);have v:wr.cell? ⟨b,0,none⟩=some (.slice F xs.length A):=by rw[aY _ _ _ _ _ _ c];rfl
    have z:wr.cell? ⟨b,1,none⟩=some (.slice G ys.length B):=by rw[aY _ _ _ _ _ _ c];rfl
    rcases(by omega:j=0\/j=1\/j=2)with rfl|rfl|rfl
    ·obtain⟨u,h,t,f,d⟩:=Nz (P:=prog) 168 80 E _ underlying168 D n C o (by decide) (by decide) rfl w.heap.size _ _ wr g a.size _ xs (hx.kept a) x1 (by show 0+xs.length<=100000;omega);have r:y6 [] w h:=a.trans2 d (fun y hy=>Or.inr (qj g.1 y hy));have p:Hid (OW h w.heap.size 80 3 u (CjK xs ys (0+1))):=f;clear f d g;go_wp2_with(first|(at_builtin;(refine ya rfl _ h (qc (.tmp 31) (.tmp 32) 168 168 rfl _ _ rfl rfl _ (t _)) ?_)))
     go_roundw
     case rel=>exact⟨0+1,by omega,by go_num,p.out,r⟩
     case measure=>simp[intOf]
    ·obtain⟨u,h,t,f,d⟩:=Nz (P:=prog) 168 80 E _ underlying168 D n C o (by decide) (by decide) rfl w.heap.size _ _ wr g a.size _ ys (hy.kept a) y1 (by show xs.length+ys.length<=100000;omega);have r:y6 [] w h:=a.trans2 d (fun y hy=>Or.inr (qj g.1 y hy));have p:Hid (OW h w.heap.size 80 3 u (CjK xs ys (1+1))):=f;clear f d g;go_wp2_with(first|(at_builtin;(refine ya rfl _ h (qc (.tmp 31) (.tmp 32) 168 168 rfl _ _ rfl rfl _ (t _)) ?_)))
     go_roundw
     case rel=>exact⟨1+1,by omega,by go_num,p.out,r⟩
     case measure=>simp[intOf]
    ·go_wp2;go_ret;exact⟨_,rfl,g,a⟩
def F2{α β:Type}(R:α->β->Prop)(ls:List α)(bs:List β):Prop:=ls.length=bs.length/\∀(i:Nat) (a:α) (b:β),ls[i]?=some a->bs[i]?=some b->R a b
section
variable {α β:Type} {R:α->β->Prop}
theorem F2.nil:F2 R [] []:=⟨rfl,fun i a b h=>by simp at h⟩
theorem F2.one{a:α}{b:β}(h:R a b):F2 R [a] [b]:=⟨rfl,fun i x y c d=>by
 cases i with
 |zero=>simp at c d;subst c;subst d;exact h
 |succ i=>simp at c⟩
theorem F2.get{ls:List α}{bs:List β}(h:F2 R ls bs){i:Nat}{a:α}(ha:ls[i]?=some a):∃b,bs[i]?=some b/\R a b:=by
 have c:i<bs.length:=by rw[<-h.1];exact(ae.1 ha).1
 exact⟨_,aa c,h.2 i a _ ha (aa c)⟩
theorem F2.mono{R':α->β->Prop}{ls:List α}{bs:List β}(h:F2 R ls bs)(hR:∀a∈ls,∀b,R a b->R' a b):F2 R' ls bs:=
 ⟨h.1,fun i a b c d=>hR a (ah c) b (h.2 i a b c d)⟩
theorem F2.append{ls EI:List α}{bs EJ:List β}(h:F2 R ls bs)(h':F2 R EI EJ):F2 R (ls++EI) (bs++EJ):=by
 refine⟨by rw[ai,ai,h.1,h'.1],fun i a b d e=> ?_⟩;rcases bG i ls.length with c|c
 ·rw[bq c]at d;rw[bq (by rw[<-h.1];exact c)]at e;exact h.2 i a b d e
 ·rw[bh c]at d;rw[bh (by rw[<-h.1];exact c),<-h.1]at e;exact h'.2 _ a b d e
theorem F2.take{ls:List α}{bs:List β}(h:F2 R ls bs)(n:Nat):F2 R (ls.take n) (bs.take n):=by
 refine⟨by rw[au,au,h.1],fun i a b c d=> ?_⟩;rw[aD]at c d;split at c
 ·rename_i e;rw[if_pos e]at d;exact h.2 i a b c d
 ·cases c
theorem F2.drop{ls:List α}{bs:List β}(h:F2 R ls bs)(n:Nat):F2 R (ls.drop n) (bs.drop n):=by
 refine⟨by rw[aC,aC,h.1],fun i a b c d=> ?_⟩;rw[aV]at c d;exact h.2 _ a b c d
theorem F2.set{ls:List α}{bs:List β}(h:F2 R ls bs)(i:Nat){a:α}{b:β}(tB:R a b):F2 R (ls.set i a) (bs.set i b):=by
 refine⟨by rw[bJ,bJ,h.1],fun j x y e d=> ?_⟩;rw[List.getElem?_set]at e d;split at e
 ·rename_i c;rw[if_pos c]at d;subst c;rw[<-h.1]at d;split at e
  ·rename_i f;rw[if_pos f]at d
   cases e;cases d;exact tB
  ·cases e
 ·rename_i c;rw[if_neg c]at d;exact h.2 j x y e d
end
theorem SL.keptS{S:List Nat}{w':World}{t:TypeId}{d:Nat}{v:Value}{es:List El}(h:SL w t d v es)(k:y6 S w w')(hS:∀b,v.ownBlock=some b->b∉S):SL w' t d v es:=by
 rcases h with h|⟨g,e,a,c,rfl,f,r⟩
 ·exact Or.inl h
 ·exact Or.inr ⟨g,e,a,c,rfl,k.get f (hS g rfl),r⟩
def ND(w:World)(A:Nat->Prop):(h:Nat)->Nd h->Value->Prop
 |0,l,x=>∃v,x=.iface 116 v/\LF w v l/\∀b,v.ownBlock=some b->A b
 |h+1,ks,x=>∃v xs,x=.iface 168 v/\SL w 80 3 v (xs.map ke)/\(∀b,v.ownBlock=some b->A b)/\F2 (fun(k:Kid h) (e:KE)=>(e.1=k.1/\e.3=k.3)/\ND w A h k.2 e.2) ks xs
def KR(w:World)(A:Nat->Prop)(h:Nat)(k:Kid h)(e:KE):Prop:=(e.1=k.1/\e.3=k.3)/\ND w A h k.2 e.2
theorem gg{A:Nat->Prop}{h:Nat}{ks:List (Kid h)}{x:Value}:ND w A (h+1) ks x↔∃v xs,x=.iface 168 v/\SL w 80 3 v (xs.map ke)/\(∀b,v.ownBlock=some b->A b)/\F2 (KR w A h) ks xs:=Iff.rfl
theorem ND.kept{S:List Nat}{w w':World}{A A':Nat->Prop}(k:y6 S w w')(hS:∀y∈S,¬A y)(hA:∀y,A y->A' y):∀{h:Nat} {n:Nd h} {x:Value},ND w A h n x->ND w' A' h n x
 |0,_,_,⟨v,e,d,c⟩=>⟨v,e,SL.keptS d k fun b a f=>hS b f (c b a),fun b h=>hA b (c b h)⟩
 |_+1,_,_,⟨v,i,e,d,c,j⟩=>⟨v,i,e,SL.keptS d k fun b a f=>hS b f (c b a),fun b h=>hA b (c b h),j.mono fun _ _ _ g=>⟨g.1,ND.kept k hS hA g.2⟩⟩
theorem KR.kept{S:List Nat}{w w':World}{A A':Nat->Prop}{h:Nat}{q:Kid h}{e:KE}(hr:KR w A h q e)(k:y6 S w w')(hS:∀y∈S,¬A y)(hA:∀y,A y->A' y):KR w' A' h q e:=⟨hr.1,ND.kept k hS hA hr.2⟩
theorem ND.iface{w:World}{A:Nat->Prop}:∀{h:Nat} {n:Nd h} {x:Value},ND w A h n x->∃t v,x=.iface t v
 |0,_,_,⟨v,e,_⟩=>⟨_,v,e⟩
 |_+1,_,_,⟨v,_,e,_⟩=>⟨_,v,e⟩
theorem L3(l:List Pr):One 2 (l.map pe):=by
 intro e a;obtain⟨p,_,rfl⟩:=bg.1 a;exact⟨rfl,by intro u hu;simp[pe]at hu;rcases hu with rfl|rfl<;>rfl⟩
variable {xs:List KE}
theorem gO{A:Nat->Prop}{h:Nat}{ks:List (Kid h)}(hf:F2 (KR w A h) ks xs):∀x∈xs,∃t v,x.2=.iface t v:=by
 intro x c;obtain⟨i,a⟩:=aU.1 c;have b:i<ks.length:=by rw[hf.1];exact(ae.1 a).1
 exact(hf.2 i _ x (aa b) a).2.iface
theorem L4(h:∀x∈xs,∃t v,x.2=.iface t v):One 3 (xs.map ke):=by
 intro e a;obtain⟨x,c,rfl⟩:=bg.1 a;obtain⟨t,v,b⟩:=h x c;exact⟨rfl,by intro u hu;simp[ke,b]at hu;rcases hu with rfl|rfl|rfl<;>rfl⟩
theorem Q5G{A:Nat->Prop}{h:Nat}{ks:List (Kid h)}(hf:F2 (KR w A h) ks xs):xs.map (·.1)=ks.map (·.1):=by
 apply cJ;intro i;rw[aA,aA];rcases bG i ks.length with a|a
 ·obtain⟨b,c,d⟩:=hf.get (aa a);rw[c,aa a];simp[d.1.1]
 ·rw[bY (by rw[<-hf.1];exact a),bY a];rfl
end Go.Proofs.YtcklgafpgdhnaaaGreatDoor
