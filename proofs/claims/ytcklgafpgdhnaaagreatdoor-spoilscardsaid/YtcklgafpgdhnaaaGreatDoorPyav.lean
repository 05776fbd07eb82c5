import Derived.Test.YtcklgafpgdhnaaaGreatDoorPyas
set_option maxRecDepth 100000
set_option maxHeartbeats 4000000
set_option linter.unusedSimpArgs false
set_option linter.unusedVariables false
set_option linter.unusedSectionVars false
open Go.Proofs.Tryz
namespace Go.Proofs.YtcklgafpgdhnaaaGreatDoor
open Go.RowKit
theorem Xz(b:ByteArray)(fid:FuncId)(cv:Value)(he:∀(args:Array Value) (W:World),(callFunc fid args).run prog W=.ok (.enter fid args) W)(S:List Nat)(R:World->Prop)(w:World)(hS:∀x∈S,x<w.heap.size)
  (hR:∀W W' T,R W->y6 T W W'->(∀x∈T,w.heap.size<=x/\x<w.heap.size+2/\∃cs fr,W.heap[x]?=some (.cells cs 35 fr))->R W')
  (hw:∀W,y6 [] w W->W.heap.size=w.heap.size+2->Calls prog fid #[cv] W (Ends S R W)):
  Calls prog 42 #[.string b,.func (.func fid) #[cv] #[]] w fun e w'=>e=.returned .nilIface/\R w'/\y6 S w w':=by
 have y:=j2;have h:=((y6.refl [] w).alloc (.cells #[.string b] 9)).alloc (.cells #[.nilIface] 35);have l:((w.alloc (.cells #[.string b] 9)).alloc (.cells #[.nilIface] 35)).heap[w.heap.size+1]?=some (.cells #[.nilIface] 35 (0,0)):=by
  have:=af (w.alloc (.cells #[.string b] 9)) (.cells #[.nilIface] 35)
  rwa[ak]at this
 have d:=hw _ h (by simp);have p:Hid (Calls _ _ _ _ _):=d;have n:Hid (∀W W' T,R W->y6 T W W'->(∀x∈T,w.heap.size<=x/\x<w.heap.size+2/\∃cs fr,W.heap[x]?=some (.cells cs 35 fr))->R W'):=hR;have o:Hid (∀x∈S,x<w.heap.size):=hS;clear hw d hR hS
 go_enter_defers func42,ntmps42
 go_wp2_with fail;refine p.out.mono ?_;rintro e W⟨rfl,m,k⟩;have t:Hid (R W):=m;have g:=k.get l (fun a=>by have:=o.out _ a;omega);have v:W.cell? ⟨w.heap.size+1,0,none⟩=some .nilIface:=y7 g rfl;have f2:W.frozen? ⟨w.heap.size+1,0,none⟩=false:=ax _ _ _ _ _ g;have j:y6 [w.heap.size+1] W (W.setCell ⟨w.heap.size+1,0,none⟩ .nilIface):=(y6.refl _ _).setCell (Or.inl (by simp)) _;have r:y6 S w (W.setCell ⟨w.heap.size+1,0,none⟩ .nilIface):=((h.mono (by simp)).trans k).trans2 j (by intro x a;simp at a;subst a;exact Or.inr (by omega));have c:R (W.setCell ⟨w.heap.size+1,0,none⟩ .nilIface):=n.out _ _ _ t.out j (by intro x a;simp at a;subst a;exact⟨by omega,by omega,_,_,g⟩);have u:Hid (R (W.setCell ⟨w.heap.size+1,0,none⟩ .nilIface)):=c;have q:(W.setCell ⟨w.heap.size+1,0,none⟩ .nilIface).cell? ⟨w.heap.size+1,0,none⟩=some .nilIface:=y7 (yf (i:=0) .nilIface g) rfl;clear m c l g h;go_wp2;refine leaves_cons (f:=67) (args:=#[.pointer (some ⟨w.heap.size,0,none⟩),.pointer (some ⟨w.heap.size+1,0,none⟩)]) (by simp) (by simp[go_sem]) ?_;refine(OE ⟨w.heap.size,0,none⟩ ⟨w.heap.size+1,0,none⟩ _).mono ?_;rintro e z s⟨rfl,rfl,rfl⟩;simp[Leaves,settle,results,Tryz.results42,go_sem,q];exact⟨u.out,r⟩
theorem Q84(b:ByteArray)(fid:FuncId)(cv:Value)(he:∀(args:Array Value) (W:World),(callFunc fid args).run prog W=.ok (.enter fid args) W)(x:Int)(S:List Nat)(R:World->Prop)(w:World)(hS:∀x∈S,x<w.heap.size)
  (hR:∀W W' T,R W->y6 T W W'->(∀x∈T,w.heap.size<=x/\x<w.heap.size+2/\∃cs fr,W.heap[x]?=some (.cells cs 35 fr))->R W')
  (hw:∀W,y6 [] w W->W.heap.size=w.heap.size+2->Calls prog fid #[cv] W (jF x S R W)):
  Calls prog 42 #[.string b,.func (.func fid) #[cv] #[]] w (PU x S R w):=by
 have z:=j2;have m:=((y6.refl [] w).alloc (.cells #[.string b] 9)).alloc (.cells #[.nilIface] 35);have s:((w.alloc (.cells #[.string b] 9)).alloc (.cells #[.nilIface] 35)).heap[w.heap.size+1]?=some (.cells #[.nilIface] 35 (0,0)):=by
  have:=af (w.alloc (.cells #[.string b] 9)) (.cells #[.nilIface] 35)
  rwa[ak]at this
 have u:=((y6.refl [] (w.alloc (.cells #[.string b] 9))).alloc (.cells #[.nilIface] 35)).get (af w (.cells #[.string b] 9)) (by simp);have c:=hw _ m (by simp);have p:Hid (Calls _ _ _ _ _):=c;have n:Hid (∀W W' T,R W->y6 T W W'->(∀x∈T,w.heap.size<=x/\x<w.heap.size+2/\∃cs fr,W.heap[x]?=some (.cells cs 35 fr))->R W'):=hR;have j:Hid (∀x∈S,x<w.heap.size):=hS;clear hw c hR hS
 go_enter_defers func42,ntmps42
 go_wp2_with fail;refine p.out.mono ?_;rintro e W⟨f,o,rfl,r,t,h⟩;have l:=h.get s (fun g=>by have:=j.out _ g;omega);have v:=h.get u (fun g=>by have:=j.out _ g;omega);refine leaves_cons (f:=67) (args:=#[.pointer (some ⟨w.heap.size,0,none⟩),.pointer (some ⟨w.heap.size+1,0,none⟩)]) (by simp) (by simp[go_sem]) ?_;refine(Zk w.heap.size (w.heap.size+1) f o _ _ x W v ⟨b,rfl⟩ l r).mono ?_;rintro e A i⟨rfl,rfl,a,he,hc,k⟩;have q:i.cell? ⟨w.heap.size+1,0,none⟩=some a:=y7 he rfl;simp[Leaves,settle,results,Tryz.results42,go_sem,q];exact⟨a,rfl,hc,n.out _ _ _ t k (by intro y d;simp at d;subst d;exact⟨by omega,by omega,_,_,l⟩),((m.mono (by simp)).trans h).trans2 k (by intro y d;simp at d;subst d;exact Or.inr (by omega))⟩
def ScI(w:World)(vl:Value)(l:List Pr)(lo hi:ByteArray)(m:Nat)(out i:Value)(wr:World):Prop:=
 ∃(j:Nat) (o:List Pr),j<=l.length/\i=.int .i64 j/\wr.ownsRow (w.heap.size+1) 224 2 out o.length (yU o)/\o.length<=j/\o.length<=m/\o=(l.take j).filter (inR lo hi)/\
  wr.heap[w.heap.size]?=some (.cells #[vl] 189 (0,0))/\y6 [] w wr
theorem Qfj{lo hi:ByteArray}{m:Nat}{l:List Pr}{j:Nat}(h:m<=((l.take j).filter (inR lo hi)).length):Qu lo hi m l=((l.take j).filter (inR lo hi)).take m:=by
 conv=>lhs;rw[Qu,<-aS j l,List.filter_append]
 rw[br h]
theorem VU(vl:Value)(l:List Pr)(lo hi:ByteArray)(m:Int)(w:World)(h:PL w 224 vl l)(hl:l.length<=50000):
  Calls prog 143 #[.agg #[vl],.string lo,.string hi,.int .i64 m] w (PO 224 (Qu lo hi (mst m) l) w):=by
 obtain⟨u,c,rfl⟩:=h.shape;have k0:=(y6.refl [] w).alloc (.cells #[.slice u l.length c] 189);have X:=af w (.cells #[.slice u l.length c] 189);have xF:ScI w (.slice u l.length c) l lo hi (mst m) (.slice none 0 0) (.int .i64 0) (w.alloc (.cells #[.slice u l.length c] 189)):=
  ⟨0,[],ay _,rfl,aM _ _ _ _,by simp,by simp,rfl,X,k0⟩
 clear X;go_enter func143,ntmps143;go_wp2
 go_loopw [9,10] (fun L i wr=>ScI w (.slice u l.length c) l lo hi (mst m) L i wr) (fun _ i _=>l.length-(intOf i).toNat)
 case atStart=>exact xF
 case round=>
  obtain⟨j,o,hj,rfl,n,hol,Z,a,F,I⟩:=hrel;have c0:wr.cell? ⟨w.heap.size,0,none⟩=some (.slice u l.length c):=y7 F rfl;obtain⟨M,G,rfl⟩:=jx n;have N:Hid (∀(x:List Pr),x=Qu lo hi (mst m) l->o=x->PO 224 (Qu lo hi (mst m) l) w (.returned (.slice M o.length G)) wr):=by
   rintro x s rfl;rw[s]at n;exact⟨_,rfl,by rw[s];exact gT n (ay _),by intro y U;have:=(n.lt y (by rw[s]at U;exact U)).1;omega,I⟩
  have E:Hid (o=(l.take j).filter (inR lo hi)):=a;clear a
  by_cases b:j<l.length
  ·by_cases hm:(o.length:Int)<m
   ·have hm':o.length+1<=mst m:=by unfold mst;omega
    have W:=h.kept I (by simp);obtain⟨g,cap,cur,e,T,H⟩:=W.at_ (by omega)
    cases e
    obtain⟨p,J⟩:∃p,l[j]?=some p:=⟨_,aa b⟩
    have eK:=PL.load (P:=prog) (ty:=224) _ T (H j p J) underlying224 srp;have hc0:wr.cell? ⟨g,j*2,none⟩=some (.string p.1):=y7 T (H j p J).1;have hb:w.heap.size+1<=wr.heap.size:=by have:=yt F;omega
    clear W H;have v:∀(K:Value) (t:List Pr) (B:World),B.ownsRow (w.heap.size+1) 224 2 K t.length (yU t)->t.length<=o.length+1->t=(l.take (j+1)).filter (inR lo hi)->y6 (Value.slice M o.length G).ownBlock.toList wr B->ScI w (.slice (some ⟨g,0,none⟩) l.length c) l lo hi (mst m) K (.int .i64 ((j:Int)+1)) B:=by
     rintro K t B h1 h2 h3 Q;have R:=qj n;refine⟨j+1,t,by omega,by simp,h1,by omega,by omega,h3,Q.get F ?_,I.trans2 Q ?_⟩
     ·intro s;have:=R _ s;omega
     ·intro x s;right;have:=R _ s;omega
    have r:Hid _:=v;have C:Hid ((l.take (j+1)).filter (inR lo hi)=o++if inR lo hi p then [p]else []):=by
     have a:=E.out;show _=_;rw[qe l j p J,a];simp only[List.filter_append]
     cases he:inR lo hi p<;>simp[he]
    clear v
    cases d:bl p.1 lo with
    |true=>
     have z:=r.out _ o wr n (by omega) (by have:=C.out;simpa[inR,d]using this.symm) (y6.refl _ _);unfold bl at d;go_wp2_with(first|(refine ya rfl _ _ (yc 187 (.tmp 25) (.tmp 26) rfl g 0 l.length c j 2 rfl rfl 224 underlying187 srp b (j*2) (by omega)) ?_))
     go_roundw
     case rel=>exact z
     case measure=>simp[intOf];omega
    |false=>
     cases k:bl p.1 hi with
     |false=>
      have z:=r.out _ o wr n (by omega) (by have:=C.out;simpa[inR,d,k]using this.symm) (y6.refl _ _);unfold bl at d k;go_wp2_with(first|(refine ya rfl _ _ (yc 187 (.tmp 25) (.tmp 26) rfl g 0 l.length c j 2 rfl rfl 224 underlying187 srp b (j*2) (by omega)) ?_)|(refine ya rfl _ _ (yc 187 (.tmp 34) (.tmp 35) rfl g 0 l.length c j 2 rfl rfl 224 underlying187 srp b (j*2) (by omega)) ?_))
      go_roundw
      case rel=>exact z
      case measure=>simp[intOf];omega
     |true=>
      have S:(l.take (j+1)).filter (inR lo hi)=o++ [p]:=by have:=C.out;simpa[inR,d,k]using this
      have D:Hid _:=S;clear S;unfold bl at d k;go_wp2_with(first|(refine ya rfl _ _ (yc 187 (.tmp 25) (.tmp 26) rfl g 0 l.length c j 2 rfl rfl 224 underlying187 srp b (j*2) (by omega)) ?_)|(refine ya rfl _ _ (yc 187 (.tmp 34) (.tmp 35) rfl g 0 l.length c j 2 rfl rfl 224 underlying187 srp b (j*2) (by omega)) ?_)|(refine ya rfl _ _ (yc 187 (.tmp 44) (.tmp 45) rfl g 0 l.length c j 2 rfl rfl 224 underlying187 srp b (j*2) (by omega)) ?_)|(refine y8 rfl 224 (.tmp 46) rfl ⟨g,j*2,none⟩ rfl _ eK ?_)|(refine yw rfl _ _ (yv 187 1 (.tmp 47) rfl (.agg #[.string p.1,.string p.2]) rfl _ (jw _ p)) ?_;intro w3 Y A _;have O:=yb n A (by simp);have hb3:=A.size)|(at_builtin;refine j1 rfl (.tmp 42) (.tmp 48) rfl (w.heap.size+1) (.slice M o.length G) o rfl O p _ rfl Y (by omega) (by omega) ?_;intro v4 w4 q V;have z:=r.out v4 (o++ [p]) w4 q (by simp) D.out.symm ((A.mono (by simp)).trans V);clear q O Y A V))
      go_roundw
      case rel=>exact z
      case measure=>simp[intOf];omega
   ·have Dy:mst m<=o.length:=by unfold mst;omega
    have f:=N.out o (by have a:=E.out;rw[Qfj (j:=j) (by rw[<-a];exact Dy),<-a,aJ (by omega)]) rfl;go_wp2;go_ret;exact f
  ·have hge:¬(j:Int)<(l.length:Int):=by omega
   have ej:j=l.length:=by omega
   have f:=N.out o (by have a:=E.out;rw[ej,bV]at a;rw[Qu,<-a,aJ Z]) rfl;go_wp2;go_ret;exact f
end Go.Proofs.YtcklgafpgdhnaaaGreatDoor
