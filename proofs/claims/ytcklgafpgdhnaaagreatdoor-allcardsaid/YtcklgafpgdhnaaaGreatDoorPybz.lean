import Derived.Test.YtcklgafpgdhnaaaGreatDoorPyby
set_option maxRecDepth 100000
set_option maxHeartbeats 4000000
set_option linter.unusedSimpArgs false
set_option linter.unusedVariables false
set_option linter.unusedSectionVars false
open Go.Proofs.Tryz
namespace Go.Proofs.YtcklgafpgdhnaaaGreatDoor
open Go.RowKit
def flat(os:List Op6):List Value:=os.flatMap Op6.cells
theorem j7(o:Op6):o.cells.length=6:=rfl
theorem QgH(os:List Op6):∀(i:Nat) (o:Op6),os[i]?=some o->∀(j:Nat) (v:Value),o.cells[j]?=some v->(flat os)[i*6+j]?=some v:=by
 induction os with
 |nil=>intro i o h;simp at h
 |cons x r ih=>
  intro i o h j v a;have b:j<6:=by have:=(ae.1 a).1;rwa[j7]at this
  have e:flat (x::r)=x.cells++flat r:=rfl;rw[e]
  cases i with
  |zero=>
   simp at h;subst h;rw[bq (by rw[j7];omega)]
   simpa using a
  |succ i=>
   rw[bh (by rw[j7];omega),j7];have:=ih i o (by simpa using h) j v a;rw[show(i+1)*6+j-6=i*6+j by omega];exact this
theorem QgI(os:List Op6)(o:Op6):flat os++o.cells=flat (os++ [o]):=by simp[flat]
theorem QgJ(o:Op6):∀v∈o.cells,v.oneCell'=true:=by
 intro v a;simp only[Op6.cells,an,bW,or_false]at a;rcases a with rfl|rfl|rfl|rfl|rfl|rfl<;>rfl
theorem Scr.of_owns{w:World}{base g cap:Nat}{os:List Op6}(h:w.ownsRow base 64 6 (.slice (some ⟨g,0,none⟩) os.length cap) os.length (flat os)):Scr w ⟨g,0,none⟩ os:=by
 obtain⟨_,⟨k,_⟩|⟨p,n,f,e,_,l,_,_,_,a⟩⟩:=h
 ·cases k
 cases e
 intro i o c j v d;have q:j<6:=by have:=(ae.1 d).1;rwa[j7]at this
 have m:i<os.length:=(ae.1 c).1;have b:=QgH os i o c j v d;rw[<-a,aD,if_pos (by omega)]at b;rw[add_lit,add_lit,bL,aY _ _ _ _ _ _ l]
 simpa using b
theorem iop:(prog.info? 64).map (fun i=>(i.zero,i.size,i.bytes))=some (some (.agg #[.int .i64 0,.int .i64 0,.int .i64 0,.int .i64 0,.string ⟨#[]⟩,.string ⟨#[]⟩]),6,64):=by kernel_rfl
def KdC(w:World)(kb:Nat)(ks:List Int):Prop:=w.heap[kb]?=some (.cells (ks.map (Value.int .i64)).toArray 3 (0,0))
def jD(w:World)(e:Ending)(w':World):Prop:=e=.returned (.bool true)/\y6 [] w w'
def PR(I:yB)(w:World)(os:List Op6)(v i:Value)(wr:World):Prop:=∃(k:Nat) (fs:List Op6),k<=os.length/\i=.int .i64 k/\fs.length<=k/\(∀o∈fs,LQ I o.K/\o.ok)/\wr.ownsRow w.heap.size 64 6 v fs.length (flat fs)/\y6 [] w wr
def InI(K:Int)(ks:List Int)(W:World)(b i:Value)(wr:World):Prop:=∃(m:Nat),m<=ks.length/\i=.int .i64 m/\b=.bool (decide (K<4)||(ks.take m).contains K)/\wr=W
theorem Y8(l:List Int)(a K:Int):(l++ [a]).contains K=(l.contains K||K==a):=by
 by_cases h:K=a<;>simp[h]
theorem Z8(I:yB)(ad:Addr)(cap kb kn kcap:Nat)(ks:List Int)(hks:∀k∈ks,LQ I k)(BH:ks.length=kn)(hkl:ks.length<=100)(os:List Op6)(w:World)(hG:qW w)(hT:Tab w)(h:Scr w ad os)(hok:∀o∈os,o.ok)(wB:KdC w kb ks):
  Calls prog 15 #[.slice (some ad) os.length cap,.slice (some ⟨kb,0,none⟩) kn kcap] w (jD w):=by
 subst BH;obtain⟨Y,U,A,T,L⟩:=bu iop;go_enter func15,ntmps15;go_wp2_with fail;refine(QgG ad cap os w h).mono ?_;rintro e w1⟨b,rfl,d,z⟩
 cases b with
 |false=>
  go_wp2;go_ret;exact⟨rfl,z⟩
 |true=>
  have X:=d rfl;clear d;go_wp2
  go_loopw [6,7] (fun v i wr=>PR I w os v i wr) (fun _ i _=>os.length-(intOf i).toNat)
  case atStart=>exact⟨0,[],ay _,rfl,ag _,by simp,aM _ _ _ _,z⟩
  case round=>
   obtain⟨k,j,hk,rfl,hfl,t,s,f⟩:=hrel
   by_cases l:k<os.length
   ·obtain⟨o,J⟩:∃o,os[k]?=some o:=⟨_,aa l⟩
    have q:=h.below f;have nZ:=q.load J;have DZ:=hok o (ah J);have l0:=q k o J 0 _ rfl;have sb:KdC wr kb ks:=f.get wB (by simp);have hbl:w.heap.size<=wr.heap.size:=f.size;have nK:=Qd (P:=prog) wr 22 64 o.cells.toArray Y _ underlying22 U A T (by simp[j7]) (by simp[j7]);have ke:∀(m:Nat) (x:Int),ks[m]?=some x->wr.cell? ⟨kb,m,none⟩=some (.int .i64 x):=by
     intro m x a;exact y7 sb (by simp[a])
    have C:Hid (∀(B:Value) (r:World),r.ownsRow w.heap.size 64 6 B (j.length+1) (flat j++o.cells)->y6 [] w r->LQ I o.K->PR I w os B (.int .i64 ((k:Int)+1)) r):=by
     intro B r V h2 h3;refine⟨k+1,j++ [o],by omega,by simp,by simp;omega,?_,by rw[QgI]at V;simpa using V,h2⟩;intro x a;rcases ar.1 a with a|a
     ·exact t x a
     ·simp at a;subst a;exact⟨h3,DZ⟩
    have E:Hid (PR I w os u6 (.int .i64 ((k:Int)+1)) wr):=⟨k+1,j,by omega,by simp,by omega,t,s,f⟩
    have D:Hid _:=ke;clear q sb t ke;have D4:∀(b:Bool),b=decide (o.K<4)->InI o.K ks wr (.bool b) (.int .i64 0) wr:=by
     intro b d;exact⟨0,ay _,rfl,by rw[d];simp,rfl⟩
    go_wp2_with(first|(refine ya rfl _ _ (QC 22 (.tmp 21) (.tmp 22) rfl ad os.length cap k 6 rfl rfl 64 underlying22 sop l) ?_)|(refine ya rfl _ _ (P1 64 (.tmp 23) 0 rfl (ad.add (k*6)) rfl 0 (by rfl)) ?_)|(refine y8 rfl 3 (.tmp 24) rfl _ rfl _ (yh underlying3 rfl l0) ?_))
    generalize W:wr=W0 at*;have HW:Hid _:=W;clear W
    go_loopw [9,10] (fun b i JW=>InI o.K ks W0 b i JW) (fun _ i _=>ks.length-(intOf i).toNat)
    case atStart=>exact D4 _ rfl
    case round=>
     obtain⟨m,hm,rfl,rfl,ew⟩:=hrel;subst ew;have N:Hid (∀x,ks[m]?=some x->(decide (o.K<4)||(ks.take (m+1)).contains o.K)=((decide (o.K<4)||(ks.take m).contains o.K)||o.K==x)):=by
      intro x a;rw[qe ks m x a,Y8,Bool.or_assoc]
     have u:Hid (m=ks.length->(decide (o.K<4)||(ks.take m).contains o.K)=true->LQ I o.K):=by
      intro n d;subst n;rw[bV,Bool.or_eq_true,cE,List.contains_iff_mem]at d;rcases d with d|d
      ·exact Qgy I d
      ·exact hks _ d
     generalize y:(decide (o.K<4)||(ks.take m).contains o.K)=S at*
     by_cases n:m<ks.length
     ·obtain⟨x,a⟩:∃x,ks[m]?=some x:=⟨_,aa n⟩
      have cx:=D.out m x a;have st:=N.out x a;clear y N;have O:Hid _:=st;clear st
      cases S with
      |true=>
       go_wp2;go_roundw
       case rel=>exact⟨m+1,by omega,by go_num,by rw[O.out];rfl,rfl⟩
       case measure=>simp[intOf];omega
      |false=>
       go_wp2;go_roundw
       case rel=>exact⟨m+1,by omega,by go_num,by rw[O.out];rfl,rfl⟩
       case measure=>simp[intOf];omega
     ·have G:¬(m:Int)<(ks.length:Int):=by omega
      clear y N
      cases S with
      |true=>
       have Bx:=u.out (by omega) rfl;go_wp2_with(first|(refine ya rfl _ _ (QC 22 (.tmp 45) (.tmp 46) rfl ad os.length cap k 6 rfl rfl 64 underlying22 sop l) ?_)|(refine y8 rfl 64 (.tmp 47) rfl _ rfl _ nZ ?_)|(refine yw rfl _ _ (yv 22 1 (.tmp 48) rfl (.agg o.cells.toArray) rfl _ nK) ?_;intro w3 n3 M _;have F:=yb s M (by simp);have hb3:=M.size)|(at_builtin;refine cK _ rfl (.tmp 44) (.tmp 49) 22 rfl w.heap.size 64 Y _ 6 64 underlying22 U A T L rfl (by decide) u6 j.length (flat j) rfl F ⟨_,0,none⟩ 1 1 o.cells rfl rfl (ju n3) (QgJ o) (by unfold maxLen;omega) (by omega) (by omega) ?_;intro B r lN oL _;have Z:=yF oL u6.ownBlock.toList (by intro x a;rw[a];simp);have oP:y6 [] w r:=(f.trans M).trans2 Z (by intro x a;simp at a;exact Or.inr (F.lt x a).1);have hP:=C.out B r lN oP Bx;clear lN oL Z F n3))
       go_roundw
       case rel=>exact hP
       case measure=>simp[intOf];omega
      |false=>
       go_wp2;go_roundw
       case rel=>exact E.out
       case measure=>simp[intOf];omega
   ·have G:¬(k:Int)<(os.length:Int):=by omega
    have Q:=hG.kept f (by simp);have R:=hT.kept f (by simp);have HU:Hid (Calls prog 38 #[u6] wr fun e w'=>e=.returned (.int .i64 (-1))/\y6 [] wr w'):=by
     obtain⟨p,c,rfl⟩:=Nr s
     by_cases h0:j.length=0
     ·rw[h0];exact Ui p c wr
     ·have Az:=s;obtain⟨_,⟨_,hz⟩|⟨g,fh,cur,e,_⟩⟩:=Az
      ·omega
      ·cases e
       exact QgA I ⟨g,0,none⟩ c j wr Q R (Scr.of_owns s) (by omega) t
    clear s t Q R;go_wp2_with(first|(go_at_call 38;refine HU.out.mono ?_;rintro e w2⟨rfl,H⟩))
    go_ret;exact⟨rfl,f.trans H⟩
theorem Z9(ao:Option Addr)(cap:Nat)(kv:Value)(w:World):Calls prog 15 #[.slice ao 0 cap,kv] w (jD w):=by
 go_enter func15,ntmps15;go_wp2_with fail;refine(QgD ao cap w).mono ?_;rintro e f⟨b,rfl,d,a⟩
 cases b with
 |false=>
  go_wp2;go_ret;exact⟨rfl,a⟩
 |true=>
  go_wp2;refine dU 1 ?_;rw[dh];go_wp2_with(first|(go_at_call 38;refine(Ui _ _ _).mono ?_;rintro e g⟨rfl,c⟩))
  go_ret;exact⟨rfl,a.trans c⟩
end Go.Proofs.YtcklgafpgdhnaaaGreatDoor
