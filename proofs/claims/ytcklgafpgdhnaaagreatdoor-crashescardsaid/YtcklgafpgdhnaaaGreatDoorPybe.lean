import Derived.Test.YtcklgafpgdhnaaaGreatDoorPyaz
set_option maxRecDepth 100000
set_option maxHeartbeats 4000000
set_option linter.unusedSimpArgs false
set_option linter.unusedVariables false
set_option linter.unusedSectionVars false
namespace Go.Proofs.YtcklgafpgdhnaaaGreatDoor
open Go.RowKit
def GN(G:(h:Nat)->Kid h->Prop):(h:Nat)->Nd h->Prop
 |0,_=>True
 |h+1,ks=>∀k:Kid h,List.Mem k ks->G h k
structure KP(G:(h:Nat)->Kid h->Prop):Prop where
 down:∀(h:Nat) (k:Kid h),G h k->GN G h k.2
 up:∀(h:Nat) (f:ByteArray) (n:Nd h),f.size<=8->GN G h n->G h ⟨f,n,0⟩
 fr:∀(h:Nat) (k:Kid h),G h k->k.1.size<=8
theorem j6{G:(h:Nat)->Kid h->Prop}{h:Nat}{ks:List (Kid h)}:GN G (h+1) ks↔∀k∈ks,G h k:=Iff.rfl
theorem WT{G:(h:Nat)->Kid h->Prop}{h:Nat}{n:Nd h}(g:GN G h n):GN G h (yW h n).1/\GN G h (yW h n).2:=by
 cases h with
 |zero=>exact⟨trivial,trivial⟩
 |succ h=>exact⟨j6.2 fun k a=>j6.1 g k (cM a),j6.2 fun k a=>j6.1 g k (List.mem_of_mem_drop a)⟩
theorem Y3{G:(h:Nat)->Kid h->Prop}{h:Nat}{n m:Nd h}(g:GN G h n)(g':GN G h m):GN G h (Q4 h n m):=by
 cases h with
 |zero=>exact trivial
 |succ h=>exact j6.2 fun k a=>(ar.1 a).elim (j6.1 g k) (j6.1 g' k)
def Sh(h:Nat)(n:Nd h):Prop:=∀p∈yV h n,p.1.size<=8
theorem Sh.of{h:Nat}{f:ByteArray}{n:Nd h}(hw:WFN h f n):Sh h n:=fun p a=>(WFN.keys hw p a).2.2.1
theorem Sh.join{h:Nat}{n m:Nd h}(a:Sh h n)(b:Sh h m):Sh h (Q4 h n m):=fun p c=>by
 rw[Wu]at c;exact(ar.1 c).elim (a p) (b p)
theorem Qb1(l:List Pr)(hs:∀p∈l,p.1.size<=8):(Mo l).size<=8:=by
 cases l with
 |nil=>show(ByteArray.mk #[]).size<=8;decide
 |cons p r=>exact hs p (by simp)
theorem Qb2{h:Nat}(l:List (Kid h))(hs:∀k∈l,k.1.size<=8):(L6 l).size<=8:=by
 cases l with
 |nil=>show(ByteArray.mk #[]).size<=8;decide
 |cons p r=>exact hs p (by simp)
theorem Qb3{G:(h:Nat)->Kid h->Prop}(kp:KP G){h:Nat}{n:Nd h}(hs:Sh h n)(g:GN G h n):(jG h (yW h n).2).size<=8:=by
 cases h with
 |zero=>exact Qb1 _ fun p b=>hs p (List.mem_of_mem_drop b)
 |succ h=>exact Qb2 _ fun k a=>kp.fr h k (j6.1 g k (List.mem_of_mem_drop a))
theorem O3{G:(h:Nat)->Kid h->Prop}(kp:KP G){h:Nat}{f:ByteArray}{n:Nd h}(hf:f.size<=8)(hs:Sh h n)(g:GN G h n):∀k∈qN h f n,G h k:=by
 intro k a;unfold qN at a;split at a
 ·simp at a;subst a;exact kp.up h f n hf g
 ·simp at a;rcases a with rfl|rfl
  ·exact kp.up h f _ hf (WT g).1
  ·exact kp.up h _ _ (Qb3 kp hs g) (WT g).2
theorem XQ{G:(h:Nat)->Kid h->Prop}(kp:KP G){h:Nat}(ks:List (Kid h))(i:Nat)(hi:i<ks.length)(hl:2<=ks.length)(hw:∀k∈ks,k.1.size<=8/\GN G h k.2/\Sh h k.2)(ho:∀j k,ks[j]?=some k->j≠i->G h k):∀k∈qA h ks i,G h k:=by
 intro k a;unfold qA at a;have d:ks[i]?=some ks[i]:=aa hi;have mt:∀{m:Nat},m<=i->k∈ks.take m->G h k:=by
  intro m n a;obtain⟨j,b⟩:=aU.1 a;rw[aD]at b;split at b
  ·exact ho j k b (by omega)
  ·cases b
 have g:∀{m:Nat},i<m->k∈ks.drop m->G h k:=by
  intro m n a;obtain⟨j,b⟩:=aU.1 a;rw[aV]at b;exact ho (m+j) k b (by omega)
 rw[d]at a;simp only at a;split at a
 ·have e:ks[i-1]?=some ks[i-1]:=aa (by omega);have f:ks[i-1+1]?=some ks[i-1+1]:=aa (by omega);rw[e,f]at a;simp only at a;have c:=hw _ (ah e);have l:=hw _ (ah f);rcases ar.1 a with a|a
  ·exact mt (by omega) a
  ·rcases ar.1 a with a|a
   ·exact O3 kp c.1 (c.2.2.join l.2.2) (Y3 c.2.1 l.2.1) k a
   ·exact g (by omega) a
 ·have c:=hw _ (ah d);rcases ar.1 a with a|a
  ·exact mt (ag _) a
  ·rcases ar.1 a with a|a
   ·exact O3 kp c.1 c.2.2 c.2.1 k a
   ·exact g (by omega) a
theorem VT{G:(h:Nat)->Kid h->Prop}(kp:KP G){F:List Pr->List Pr}{k:ByteArray}(hF:Zw F k):∀(h:Nat) (f:ByteArray) (n:Nd h),WFN h f n->qd h n->ge k f->(0<h->22<=yq h n)->GN G h n->GN G h (yL F k h n)
 |0,_,_,_,_,_,_,_=>trivial
 |h+1,f,(b:List (Kid h)),C,w,y,D,g=>by
  obtain⟨⟨E,I,H,r⟩,l⟩:=(yN h f b).1 C;have v:=(yO h b).1 w;obtain⟨A,a,B,e,d,t,J⟩:=Zv f E I H k (by rw[<-r];exact l) y;rw[<-r]at e d;have i:a∈b:=by rw[e];simp
  have c:b[qq b k]?=some a:=by
   rw[<-d,e];simp
  have q:=v a i;have u:0<h->22<=yq h a.2:=fun _=>by have:=q.1.1;omega
  have hc:=Zn hF h a.1 a.2 (l.all a i) q.2 t u;have ih:=VT kp hF h a.1 a.2 (l.all a i) q.2 t u (kp.down h a (j6.1 g a i));have p:qq b k<b.length:=(ae.1 c).1;have o:2<=b.length:=by
   have:22<=11*b.length:=D (by omega);omega
  show GN G (h+1) (chgK h (yL F k h) k b);unfold chgK;rw[c];refine j6.2 (XQ kp _ _ (by rw[bJ];exact p) (by rw[bJ];exact o) ?_ ?_)
  ·intro x m;rcases List.mem_or_eq_of_mem_set m with m|rfl
   ·have:=j6.1 g x m;exact⟨kp.fr h x this,kp.down h x this,Sh.of (l.all x m)⟩
   ·exact⟨kp.fr h a (j6.1 g a i),ih,Sh.of hc.wf⟩
  ·intro j x s z;rw[cW (by omega)]at s;exact j6.1 g x (ah s)
def rtK(t:Tr):Kid t.h:=⟨yu,t.n,t.pl⟩
theorem Qb7{G:(h:Nat)->Kid h->Prop}(kp:KP G)(h:Nat)(m:Nd h)(hw:WFN h yu m)(gn:GN G h m):G (lowT h m).h (rtK (lowT h m)):=by
 have a:yu.size<=8:=by decide
 cases h with
 |zero=>exact kp.up 0 yu m a trivial
 |succ h=>
  obtain⟨⟨e,f,d,c⟩,_⟩:=(yN h yu m).1 hw;subst c
  cases d with
  |nil=>exact j6.1 gn _ (aZ ..)
  |cons b r=>exact kp.up (h+1) yu _ a gn
theorem Qb8{G:(h:Nat)->Kid h->Prop}(kp:KP G){F:List Pr->List Pr}{k:ByteArray}(hF:Zw F k)(t:Tr)(ht:TW t)(g:G t.h (rtK t)):G (gZ F k t).h (rtK (gZ F k t)):=by
 have hc:=Zn hF t.h yu t.n ht.wf ht.full (jQ k) ht.two;have a:=VT kp hF t.h yu t.n ht.wf ht.full (jQ k) ht.two (kp.down _ _ g);have b:yu.size<=8:=by decide
 have c:=O3 kp b (Sh.of hc.wf) a;have d:=hc.wf;unfold gZ;revert c a d;generalize yL F k t.h t.n=m;intro c a d
 by_cases f:yq t.h m<=122
 ·have e:qN t.h yu m= [⟨yu,m,0⟩]:=by unfold qN;rw[if_pos f]
  rw[e];exact Qb7 kp t.h m d c
 ·have e:qN t.h yu m= [⟨yu,(yW t.h m).1,0⟩,⟨jG t.h (yW t.h m).2,(yW t.h m).2,0⟩]:=by unfold qN;rw[if_neg f]
  rw[e]at a⊢;exact kp.up (t.h+1) yu _ b (j6.2 a)
end Go.Proofs.YtcklgafpgdhnaaaGreatDoor
