import Derived.Test.YtcklgafpgdhnaaaGreatDoorPybd
import Derived.Test.YtcklgafpgdhnaaaGreatDoorPybg
set_option maxRecDepth 100000
set_option maxHeartbeats 4000000
set_option linter.unusedSimpArgs false
set_option linter.unusedVariables false
set_option linter.unusedSectionVars false
open Go.Proofs.Tryz
open List renaming getElem_toArray → zA, getElem_cons_succ → zB
namespace Go.Proofs.YtcklgafpgdhnaaaGreatDoor
open Go.RowKit
structure RyI(a:Nat)(bv:Value)(n:Nat)(cv:Value)(b:Nat)(D:Dv)(w0:World)(us:List Nat)(W:World):Prop where
 sp:SpM W b us
 ul:∀u∈us,u<n
 nd:us.Nodup
 dq:∃D',DQ W a bv n cv D'/\Qt D D'
 kp:y6 [b,a] w0 W
def RyJ(a:Nat)(bv:Value)(n:Nat)(cv:Value)(b:Nat)(D:Dv)(w0:World)(x:Bool)(e:Ending)(W:World):Prop:=
 ∃D',DQ W a bv n cv D'/\y6 [b,a] w0 W/\((x=true/\Qt D D'/\Thr 7 e W)\/(x=false/\Er D D'/\Thr 6 e W))
theorem Y9(args:Array Value)(w:World):(callFunc 123 args).run prog w=.ok (.enter 123 args) w:=qy func123 (by kernel_rfl) (by kernel_rfl) args w
theorem DQ.kaa{w w':World}{a:Nat}{bv:Value}{n:Nat}{cv:Value}{D:Dv}(h:DQ w a bv n cv D)(k:y6 [a] w w'):KA Tru w w':=h.ka (k.mono (by intro y b;simp at b;subst b;simp[yk]))
theorem Qcx(v a n rb rv b:Nat)(bv cv:Value)(D:Dv)(w0:World)(vp:w0.heap[rb]?=some (.cells #[.int .i64 n,.map (some b)] 131 (0,0)))(FP:w0.heap[rv]?=some (.cells #[.pointer (some ⟨v,0,none⟩)] 73 (0,0)))(rB:Vol w0 v a n)(wO:DQ w0 a bv n cv D)(kr:List Nat)(iB:SpM w0 b kr)(hT:Tab w0)(hn:n<=1000)(hq:D.q.length<=1000000):
  Rdr 123 (.pointer (some ⟨rb,0,none⟩)) (.pointer (some ⟨rv,0,none⟩)) n D.view (RyI a bv n cv b D w0) (RyJ a bv n cv b D w0) w0.heap.size where
 en:=Y9
 call:=by
  intro us i w g hi AY;have R:∀{y:Nat} {J:Array Value} {t:TypeId} {K:Nat×Nat},w0.heap[y]?=some (.cells J t K)->t∉ [91,92,94]->y∉ [b,a]:=by
   intro y J t K c ht m;rcases an.1 m with rfl|m
   ·exact iB.ne c rfl
   ·exact wO.no c ht (by simp at m;subst m;simp[yk])
  have Cy:=g.kp.get vp (R vp (by decide));have Jc:=g.kp.get FP (R FP (by decide));have Cz:Vol w v a n:=g.kp.get rB (R rB (by decide));have T0:Tab w:=hT.kept g.kp (fun m=>by
   obtain⟨J,K,c⟩:=hT.row;exact R c (by decide) m)
  have hlen:=jg n us g.nd g.ul;have x:Hid (RyI a bv n cv b D w0 us w):=g;have vH:=g.sp;clear g;go_enter func123,ntmps123
  by_cases j:i<n/\i∉us
  focus
   have HU:Hid (∀W,y6 [] w W->Calls _ _ _ _ _):=fun W Q=>MT n b us i W (vH.kept Q (by simp)) (by omega) (by omega) j.1 j.2
  rotate_left
  focus
   have HU:Hid (∀W,y6 [] w W->Calls _ _ _ _ _):=fun W Q=>YU n b us i W (vH.kept Q (by simp)) (by omega) j (T0.k Q)
  rotate_left
  all_goals
   go_wp2_with(first|(refine yj rfl 4 rfl 92 rfl _ (zblk _) ?_;intro w1 n1 A M;have hU:Hid _:=M;clear M;have pt:=A.get Cy (by simp))|(refine aW rfl 131 (.tmp 1) rfl rb rfl 131 #[.int .i64 n,.map (some b)] (0,0) _ pt underlying131 rfl Zl ?_))
   refine(HU.out w1 A).mono ?_
  ·rintro e E⟨rfl,s2,z⟩;obtain⟨p,r,s⟩:=x.out.dq;have zA:=x.out.sp.kept A (by simp);have ux:b∉yk a bv cv:=x.out.sp.nd r;have O:DQ E a bv n cv p:=(r.k0 A).k1 z ux;have H:KA Tru w E:=(KA.k0 A).trans (zA.ka z);have FQ:=H.row _ _ _ _ trivial (by decide) Jc;have zB:Vol E v a n:=H.row _ _ _ _ trivial (by decide) Cz;have n2:=z.get n1 (by simp;exact zA.ne n1);have T2:Tab E:=T0.ka H;have ma:p.q.length<=1000000:=by rw[s.q];exact hq
   have HV:Hid (Calls _ _ _ _ _):=Q2J v a bv n cv p i E zB O j.1 hn ma (Or.inr T2);have T:y6 [b,a] w0 E:=(x.out.kp.trans2 A (by simp)).trans2 z (by intro y c;simp at c;subst c;exact Or.inl (by simp));go_wp2_with(first|(refine y8 rfl 73 (.tmp 2) rfl ⟨rv,0,none⟩ rfl (.pointer (some ⟨v,0,none⟩)) (yh underlying73 rfl (y7 FQ rfl)) ?_))
   refine HV.out.mono ?_;rintro e I⟨N,X,G,⟨fJ,rfl⟩|⟨EN,B⟩⟩;rotate_left
   ·obtain⟨f,o,rfl,hf⟩:=B.ex;exact⟨rfl,Or.inr ⟨false,⟨N,X,T.trans2 G (by intro y c;simp at c;subst c;exact Or.inl (by simp)),Or.inr ⟨rfl,s.er EN,B⟩⟩,fun h=>by cases h⟩,H.trans (O.kaa G)⟩
   have na:w.heap.size∉ [a]:=by have:=yt r.d;simp;omega
   have n3:=G.get n2 na;have C:(p.view i).length=128:=M0 (gE p.L n i r.l j.1) r.q;have FR:y6 [b,a] w0 I:=T.trans2 G (by intro y c;simp at c;subst c;exact Or.inl (by simp));have pz:KA Tru w I:=H.trans (O.kaa G);have wQ:=s2.kept G (by intro m;simp at m;subst m;exact ux (by simp[yk]));have HF:Hid (DQ I a bv n cv N/\Qt D N):=⟨X,s.trans fJ⟩
   have U:Hid (y6 [b,a] w0 I/\KA Tru w I/\SpM I b (i::us)):=⟨FR,pz,wQ⟩
   have V:Hid (p.view i=D.view i):=s.view i;clear X fJ FR pz wQ T H s2 z n2 FQ zB T2 r O n1 pt vH s;go_wp2_with(refine ye rfl 92 (.tmp 4) (.tmp 10) rfl w.heap.size (u8s (p.view i)).toArray rfl rfl 92 _ n3 (by rw[QM];simp[yd,C]) (by simp[yd,C]) (qf (qP _)) ?_;intro w4 n4 P)
   refine aR (aI rfl _ w4 w.heap.size 92 _ (0,0) _ rfl n4 underlying92 rfl (by rw[QM];simp[yd,C])) rfl ?_;have nJ:=x.out.sp.lt;obtain⟨D0,iS,_⟩:=x.out.dq;refine⟨Or.inl ⟨j,by rw[V.out],U.out.2.2.kept P (by simp;omega),?_,dj.2 ⟨j.2,x.out.nd⟩,⟨N,HF.out.1.kept P ?_,HF.out.2⟩,U.out.1.trans2 P (by intro y c;simp at c;subst c;exact Or.inr AY)⟩,U.out.2.1.new P (by intro y c;simp at c;subst c;exact ag _)⟩
   ·intro u hu;rcases an.1 hu with rfl|hu
    ·exact j.1
    ·exact x.out.ul u hu
   ·intro y c m;simp at m;subst m;exact iS.ge (ag _) c
  ·rintro e E⟨B,z⟩;obtain⟨f,o,rfl,hf⟩:=B.ex;obtain⟨p,r,s⟩:=x.out.dq;exact⟨rfl,Or.inr ⟨true,⟨p,(r.k0 A).k0 z,(x.out.kp.trans2 A (by simp)).trans2 z (by simp),Or.inl ⟨rfl,s,B⟩⟩,fun _=>j⟩,KA.k0 (A.trans z)⟩
 fresh:=by
  intro us W W' S g F Y;obtain⟨p,r,s⟩:=g.dq;refine⟨g.sp.kept F fun m=> ?_,g.ul,g.nd,⟨p,r.kept F fun y c m=> ?_,s⟩,g.kp.trans2 F fun y c=>Or.inr (Y y c).1⟩
  ·obtain⟨J,K,Z⟩:=(Y _ m).2;exact g.sp.ne Z rfl
  ·obtain⟨J,K,Z⟩:=(Y _ m).2;exact r.no Z (by decide) c
 len:=fun i hi=>M0 (gE D.L n i wO.l hi) wO.q
 us:=fun us W g=>⟨g.nd,g.ul⟩
 jt:=by
  intro us W W' e g B F;obtain⟨p,r,s⟩:=g.dq;exact⟨p,r.k0 F,g.kp.trans2 F (by simp),Or.inl ⟨rfl,s,B⟩⟩
 jp:=by
  rintro b e W⟨D',_,_,⟨_,_,h⟩|⟨_,_,h⟩⟩
  ·obtain⟨f,o,rfl,_⟩:=h.ex;exact⟨_,rfl⟩
  ·obtain⟨f,o,rfl,_⟩:=h.ex;exact⟨_,rfl⟩
end Go.Proofs.YtcklgafpgdhnaaaGreatDoor
