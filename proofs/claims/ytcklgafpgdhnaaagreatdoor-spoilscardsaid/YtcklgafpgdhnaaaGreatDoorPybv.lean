import Derived.Test.YtcklgafpgdhnaaaGreatDoorPybs
set_option maxRecDepth 100000
set_option maxHeartbeats 4000000
set_option linter.unusedSimpArgs false
set_option linter.unusedVariables false
set_option linter.unusedSectionVars false
open Go.Proofs.Tryz
namespace Go.Proofs.YtcklgafpgdhnaaaGreatDoor
open Go.RowKit
theorem QgW(b0 x:Nat)(w:World)(hb:w.heap[b0]?=some (.cells #[.pointer (some ⟨x,0,none⟩)] 27 (0,0)))(h:Shut x w):Calls prog 51 #[.pointer (some ⟨b0,0,none⟩)] w (jF 5 [] qY w):=by
 have d:w.cell? ⟨b0,0,none⟩=some (.pointer (some ⟨x,0,none⟩)):=y7 hb rfl;have a:Hid (Calls _ _ _ _ _):=Z5 x w h;clear hb;go_enter func51,ntmps51;go_wp2_with(first|(go_at_call 49;refine a.out.mono ?_;rintro e g⟨f,o,rfl,b,c⟩))
 exact⟨rfl,f,o,rfl,b,trivial,c⟩
theorem XP(b0 x:Nat)(w:World)(hb:w.heap[b0]?=some (.cells #[.pointer (some ⟨x,0,none⟩)] 27 (0,0))){v a n:Nat}{c:Hd}{r:Value}{t:Tr}(h:Rec x v a n c r t w)(hs:c.s=3):Calls prog 51 #[.pointer (some ⟨b0,0,none⟩)] w (jF 4 [] qY w):=by
 have i:w.cell? ⟨b0,0,none⟩=some (.pointer (some ⟨x,0,none⟩)):=y7 hb rfl;have b:Hid (Calls _ _ _ _ _):=Z6 x v c t r w hs h.row;clear hb;go_enter func51,ntmps51;go_wp2_with(first|(go_at_call 49;refine b.out.mono ?_;rintro e j⟨f,o,rfl,d,g⟩))
 exact⟨rfl,f,o,rfl,d,trivial,g⟩
theorem VW(x:Nat)(P:Value->World->Prop)(S:List Nat)(w:World)(hc:∀b,Calls prog 42 #[.string b,.func (.func 51) #[] #[.pointer (some ⟨w.heap.size,0,none⟩)]] (w.alloc (.cells #[.pointer (some ⟨x,0,none⟩)] 27)) (jc P S (w.alloc (.cells #[.pointer (some ⟨x,0,none⟩)] 27)))):
  Calls prog 28 #[.pointer (some ⟨x,0,none⟩)] w (jc P S w):=by
 have d:Hid (∀b,Calls _ _ _ _ _):=hc;have g:=j2;clear hc;go_enter func28,ntmps28;go_wp2_with(go_at_call 42;refine(d.out _).mono ?_;rintro e h⟨a,rfl,f,c⟩)
 go_ret;exact⟨a,rfl,f,((y6.refl S w).alloc _).trans c⟩
theorem QgZ(x:Nat)(w:World)(h:Shut x w):Calls prog 28 #[.pointer (some ⟨x,0,none⟩)] w (jc (LI 5 qY) [] w):=by
 have c:=(y6.refl [] w).alloc (.cells #[.pointer (some ⟨x,0,none⟩)] 27);have d:=af w (.cells #[.pointer (some ⟨x,0,none⟩)] 27);exact VW x _ _ w fun b=>gX b _ _ (fun _ _=>by kernel_rfl) 5 _ _ (fun _ _ _ _ _ _=>trivial) fun W a=>QgW _ x W (a.get d (by simp)) (a.get (c.get h (by simp)) (by simp))
theorem Qh0(x v a n:Nat)(c:Hd)(r:Value)(t:Tr)(w:World)(h:Rec x v a n c r t w)(hs:c.s=3):Calls prog 28 #[.pointer (some ⟨x,0,none⟩)] w (jc (LI 4 qY) [] w):=by
 have e:=(y6.refl [] w).alloc (.cells #[.pointer (some ⟨x,0,none⟩)] 27);have f:=af w (.cells #[.pointer (some ⟨x,0,none⟩)] 27);exact VW x _ _ w fun b=>gX b _ _ (fun _ _=>by kernel_rfl) 4 _ _ (fun _ _ _ _ _ _=>trivial) fun W d=>XP _ x W (d.get f (by simp)) ((h.k e).k d) hs
def SIs(w:World)(s:Sx)(D:Dv):Prop:=s.fp= [s.x]/\8<=s.n/\s.n<=400/\s.l.length<=20000/\s.ll.length<=s.mo/\s.l.length<=s.mo/\(if s.cl then Shut s.x w else∃v hd r t,Rec s.x v s.a s.n hd r t w/\TW t/\yH t=s.l/\yH hd.lt=s.ll/\(if s.fl then hd.s=3 else Pn s.n hd t D/\t.h<=4/\frT t<=12*s.ch))
theorem SIs.tag{w:World}{s:Sx}{D:Dv}(h:SIs w s D):Tg w s.x 84:=by
 obtain⟨_,_,_,_,_,_,h⟩:=h;split at h
 ·exact⟨_,_,h⟩
 ·obtain⟨v,a,r,t,h,_⟩:=h;exact⟨_,_,h.row⟩
theorem LT.tags{w:World}{y:Nat}(h:LT w y):∃t∈ji,Tg w y t:=by
 obtain⟨c,t,d,a,b⟩:=h;exact⟨t,b,_,_,a⟩
theorem Wh{w:World}{y:Nat}{t:TypeId}(h:Tg w y t)(h1:t≠122)(h2:t≠80):¬TT w y:=fun a=>a.elim (fun e=>h1 (h.ne e)) (fun e=>h2 (h.ne e))
theorem Um{t:TypeId}(h:t∈ji):t≠128/\t≠122/\t≠80/\t≠84:=by
 unfold ji at h;revert t;decide
theorem SIs.kept{w w':World}{s:Sx}{D:Dv}{S:List Nat}(h:SIs w s D)(k:y6 S w w')(hS:∀y∈S,y∉s.fp)(hT:∀y∈S,LT w y\/∃s' D',SIs w s' D'/\y∈s'.fp):SIs w' s D:=by
 obtain⟨d,m,n,o,p,q,c⟩:=h;have f:s.x∉S:=fun b=>hS _ b (by rw[d];simp);refine⟨d,m,n,o,p,q,?_⟩;split at c
 ·rename_i hc;rw[if_pos hc];exact k.get c f
 ·rename_i hc;rw[if_neg hc];obtain⟨v,u,r,t,A,ht⟩:=c;refine⟨v,u,r,t,A.kept k f fun y B=> ?_,ht⟩;rcases hT y B with z|⟨s',D',g,b⟩
  ·obtain⟨E,C,a⟩:=z.tags;obtain⟨i,j,l,_⟩:=Um C;exact⟨fun e=>i (a.ne e),Wh a j l⟩
  ·have a:=g.tag;rw[g.1]at b;simp at b;rw[<-b]at a;exact⟨fun e=>by have:=a.ne e;revert this;decide,Wh a (by decide) (by decide)⟩
variable {w':World}
theorem SIs.k{w:World}{s:Sx}{D:Dv}(h:SIs w s D)(k:y6 [] w w'):SIs w' s D:=h.kept k (by simp) (by simp)
theorem SIs.same{w:World}{s:Sx}{D E:Dv}(h:SIs w s D)(hL:E.L=D.L)(hq:E.q=D.q):SIs w s E:=by
 obtain⟨i,j,k,l,m,n,b⟩:=h;refine⟨i,j,k,l,m,n,?_⟩;split at b
 ·rename_i hc;rw[if_pos hc];exact b
 ·rename_i hc;rw[if_neg hc];obtain⟨v,o,r,t,d,e,f,g,a⟩:=b;refine⟨v,o,r,t,d,e,f,g,?_⟩;split at a
  ·rename_i c;rw[if_pos c];exact a
  ·rename_i c;rw[if_neg c];exact⟨a.1.same hL hq,a.2⟩
def Sx.toE(s:Sx)(cl:Bool)(l:List Pr)(ch:Nat):Sx:={s with cl:=cl,l:=l,mo:=max s.mo l.length,ch:=ch}
theorem M8{s:Sx}{D:Dv}{w:World}{cl:Bool}{l:List Pr}{ch:Nat}(h:SIs w s D)(k:y6 [s.x] w w')(h':SIs w' (s.toE cl l ch) D):AftS SIs s (s.toE cl l ch) D w w':=
 ⟨rfl,rfl,rfl,rfl,rfl,rfl,h',k.mono (by rw[h.1];simp),fun _ h=>Or.inl h⟩
theorem gM{s:Sx}{D:Dv}{w:World}(h:SIs w s D)(k:y6 [] w w'):AftS SIs s (s.toE s.cl s.l s.ch) D w w':=by
 refine M8 h (k.mono (by simp)) ?_;have e:s.toE s.cl s.l s.ch=s:=by
  unfold Sx.toE;rw[dB h.2.2.2.2.2.1]
 rw[e];exact h.k k
theorem Qh4{w:World}{s:Sx}{D:Dv}(h:SIs w s D):∀y∈s.fp,∃o,w.heap[y]?=some o/\∀cs t fr,o=.cells cs t fr->t∉ji:=by
 intro y a;obtain⟨cs,fr,c⟩:=h.tag;rw[h.1]at a;simp at a;subst a;refine⟨_,c,?_⟩;rintro d g f e b
 cases e
 exact(Um b).2.2.2 rfl
variable {v:ByteArray}
theorem Sv{k:ByteArray}(h:¬gz k):chg false false k v=1:=by
 unfold chg;unfold gz at h;rw[if_neg (by simp),if_neg (by simp),if_pos h]
theorem Qh6{k:ByteArray}(h:gz k)(hv:¬v.size<=12):chg false false k v=2:=by
 unfold chg;unfold gz at h;rw[if_neg (by simp),if_neg (by simp),if_neg (by simpa using h),if_pos (by omega)]
theorem V3{k:ByteArray}(h:gz k)(hv:v.size<=12):chg false false k v=0:=by
 unfold chg;unfold gz at h;rw[if_neg (by simp),if_neg (by simp),if_neg (by simpa using h),if_neg (by omega)]
theorem Qh8(k v:ByteArray)(l:List Pr):(yy k v l).length<=l.length+1:=by
 have a:∀(b:Bool) (l:List Pr),(gK k v b l).length<=l.length+1:=by
  intro b l
  induction l generalizing b with
  |nil=>cases b<;>simp[ZF]
  |cons p r ih=>
   cases b with
   |true=>rw[jY];exact Nat.le_succ_of_le (dt _ _)
   |false=>
    have:=ih false;have c:(gK k v true r).length<=r.length:=by rw[jY];exact dt _ _
    rw[qX]
    cases bl p.1 k<;>cases be p.1 k<;>simp<;>omega
 exact a false l
theorem UJ(k v:ByteArray):chg false true k v=4:=rfl
theorem Tl.cend{w:World}{o:Option Int}{err:Value}(h:CEnd o err w):Tl w err (o.getD 0):=by
 cases o with
 |none=>have h:err=.nilIface:=h;rw[h];exact Tl.nil w
 |some x=>exact Tl.chain h
theorem TW.rs{t:Tr}(h:TW t):Rs (yH t):=⟨WFN.srt h.wf,fun p a=>(WFN.keys h.wf p a).2⟩
theorem YB{t:Tr}(h:TW t)(hc:gh t<=400):(yH t).length<=20000:=by
 have:=Sf _ h;omega
variable {lk:Nat->List UInt8}
theorem StK.cnt{n:Nat}{lt t:Tr}(h:StK n lk lt t)(h8:8<=n):gh lt+2<=n:=by
 cases b:g9 lt.h lt.n with
 |true=>unfold gh;rw[b];simp;omega
 |false=>
  have a:(usL lt).length<=n:=jg n _ h.us fun u hu=>by
   unfold usL at hu;rcases ar.1 hu with hu|hu
   ·exact h.ub u (cD.1 hu)
   ·simp at hu;omega
  unfold usL qZ at a;rw[b]at a;have:=Mj lt.h lt.n;simp at a;unfold gh;split<;>omega
theorem Lh.t{D E:Dv}{t r:Nat}(h:Lh D t r E):E.t=D.t:=by
 obtain⟨c,a,b⟩:=h;exact b.t.trans a.t
theorem Lf.t{D E:Dv}{t r:Nat}(h:Lf D t r E):E.t=wrap64 (D.t+1):=by
 rcases h with h|⟨c,a,b⟩
 ·exact h.t
 ·rw[b.t,a.t]
variable {r:Rk}{K:Nat}
theorem Yt{w:World}{a:Nat}{bv:Value}{n:Nat}{cv:Value}{D:Dv}(h:DQ w a bv n cv D)(h8:8<=n)(h4:n<=400)(hD:Ds n r K D)(hK:K<=700000)(hT:Tab w):Calls prog 33 #[.pointer (some ⟨a,0,none⟩)] w fun e w'=>
  ∃err cv' D' x,e=.returned err/\Tl w' err x/\DQ w' a bv n cv' D'/\CvN cv cv' w.heap.size/\y6 (yk a bv cv) w w'/\
   ((x=0/\err=.nilIface/\D'.t=D.t/\∀r',r'.may= [[]]->Ds n r' 1 D')\/(x=6/\D'.t=wrap64 (D.t+1)/\∀r',Rle r r'-> []∈r'.may->r'.em=true->Ds n r' (K+2) D')):=by
 refine(Ta a w _ _ (Q8u a bv n cv D w h h8 h4 (by have:=hD.ql;omega) (Or.inr hT))).mono ?_;rintro e w'⟨o,err,rfl,hc,⟨cv',D',j,i,b⟩,g⟩;have k:=b;rcases b with⟨rfl,l,c,d⟩|⟨rfl,b⟩
 ·have m:err=.nilIface:=hc;exact⟨err,cv',D',0,rfl,Tl.cend hc,j,i,g,Or.inl ⟨rfl,m,d.t.trans c.t,fun r' p=>QeI hD (by omega) k p⟩⟩
 ·refine⟨err,cv',D',6,rfl,Tl.cend hc,j,i,g,Or.inr ⟨rfl,?_,fun r' f c d=>QeJ hD (by omega) (by omega) k f.may c d f.bit f.wild⟩⟩;rcases b with b|⟨l,c,b⟩
  ·exact b.t
  ·rw[b.t,c.t]
theorem Qhc{w:World}{a:Nat}{bv:Value}{n:Nat}{cv:Value}{D:Dv}(h:DQ w a bv n cv D)(h8:8<=n)(h4:n<=400)(hD:Ds n r K D)(hK:K<=700000)(hT:Tab w):Calls prog 34 #[.pointer (some ⟨a,0,none⟩)] w fun e w'=>
  ∃px err x D',e=.returned (.tuple #[px,err])/\Tl w' err x/\DQ w' a bv n cv D'/\D'.L=D.L/\D'.q=D.q/\D'.wr=D.wr/\y6 [a] w w'/\
   ((x=6/\px=.pointer none/\D'.t=wrap64 (D.t+1))\/(x=7/\px=.pointer none/\D'.t=D.t/\(r.wild=false->r.em=true\/r.may= []))\/
    (x=0/\err=.nilIface/\D'.t=D.t/\∃s:Sx,px=.pointer (some ⟨s.x,0,none⟩)/\SIs w' s D'/\s.a=a/\s.n=n/\s.cl=false/\s.fl=false/\s.ll=s.l/\s.mo=s.l.length/\s.ch=0/\Rs s.l/\(r.wild=false->s.l∈r.may)/\∀y∈s.fp,w.heap.size<=y)):=by
 refine T7 a w _ ((QdR a bv n cv D w h h8 h4 (by have:=hD.ql;omega) hT).mono ?_);rintro e w'⟨o,A,err,D',rfl,hc,f,g,⟨rfl,d,rfl⟩|⟨rfl,b,rfl,i⟩|⟨rfl,b,k,t,m,x,v,ht,rfl,u,z⟩⟩
 ·exact⟨_,_,rfl,_,err,6,D',rfl,Tl.cend hc,f,d.L,d.q,d.wr,g,Or.inl ⟨rfl,rfl,d.t⟩⟩
 ·exact⟨_,_,rfl,_,err,7,D',rfl,Tl.cend hc,f,b.L,b.q,b.wr,g,Or.inr (Or.inl ⟨rfl,rfl,b.t,fun j=>Qfd hD h8 h4 j i⟩)⟩
 ·have d:err=.nilIface:=hc;have c:=(Qfb hD (by omega) k ht m).same b.L b.q;have p:=c.st.cnt h8;refine⟨_,_,rfl,_,err,0,D',rfl,Tl.cend hc,f,b.L,b.q,b.wr,g,Or.inr (Or.inr ⟨rfl,d,b.t,⟨x,a,n,[x],false,false,yH t,yH t,(yH t).length,0⟩,rfl,?_,rfl,rfl,rfl,rfl,rfl,rfl,rfl,TW.rs c.st.tw,fun j=>Qfc hD h8 h4 j k ht,by simpa using z⟩)⟩;refine⟨rfl,h8,h4,YB c.st.tw (by show gh t<=400;have:gh t+2<=n:=p;omega),ag _,ag _,?_⟩;rw[if_neg (by simp)];refine⟨v,_,m,t,u,c.st.tw,rfl,rfl,?_⟩;rw[if_neg (by simp)];exact⟨c,c.st.hgt h4,by rw[show frT t=0 from Vr (n:=n) (lk:=D'.view) c.st];exact ay _⟩
theorem Qhd{n mo:Nat}{c:Hd}{t:Tr}(h:StK n lk c.lt t)(h8:8<=n)(hl:(yH c.lt).length<=mo)(ht:(yH t).length<=mo)(hr:LK n mo 0):Bd n (yG c t).2:=by
 unfold LK at hr;have a:max mo 0=mo:=dB (ay _);rw[a]at hr;exact QaV (by omega) h.ub (Rm.two (by unfold Rm;omega) (by unfold Rm;omega) h8 h.ltw h.tw)
theorem Y6{w:World}{s:Sx}{bv cv:Value}{D:Dv}(h:SIs w s D)(hd:DQ w s.a bv s.n cv D)(hD:Ds s.n r K D)(hK:K<=700000)(hT:Tab w)(hm:r.wild=false->s.ll∈r.may)(hcl:s.cl=false)(hfl:s.fl=false):Calls prog 28 #[.pointer (some ⟨s.x,0,none⟩)] w fun e w'=>
  ∃s' err x cv' D' k,e=.returned err/\Tl w' err x/\DQ w' s.a bv s.n cv' D'/\CvN cv cv' w.heap.size/\y6 (s.fp++yk s.a bv cv) w w'/\SIs w' s' D'/\(s'.x=s.x/\s'.a=s.a/\s'.n=s.n/\s'.cl=s.cl/\s'.l=s.l/\s'.mo=s.mo)/\(∀y∈s'.fp,y∈s.fp\/w.heap.size<=y)/\D'.wr=wrN k D.wr/\
   (k<=12*s.ch+1/\
    ((x=0/\err=.nilIface/\s'.fl=false/\s'.ch=0/\s'.ll=s.l/\D'.t=D.t/\∀r':Rk,s.l∈r'.may->(r'.bit=false->r.bit=false)->(r'.wild=false->r.wild=false)->Ds s.n r' (K+1) D')\/
     (((x=6/\D'.t=wrap64 (D.t+1))\/(x=3/\D'.t=D.t/\¬LK s.n s.mo 0))/\s'.fl=true/\s'.ch=s.ch/\s'.ll=s.ll/\∀r',Rle r r'->s.l∈r'.may->Ds s.n r' (K+1) D'))):=by
 obtain⟨R,j,i,Z,Y,M,hc⟩:=h;rw[hcl,if_neg (by simp)]at hc;obtain⟨v,c,W,t,hR,ht,p,O,J⟩:=hc;rw[hfl,if_neg (by simp)]at J;obtain⟨F,hh,hfr⟩:=J;have hs:c.s=1\/c.s=2:=F.s.imp id fun h=>h.1;refine(QaS s.x v s.a s.n bv cv c W t D w hR hs hd (F.st.lyp (by omega)) j i (by have:=hD.ql;omega) (O2 c.tu) (Or.inr hT)).mono ?_;rintro e w'⟨o,err,rfl,I,⟨cv',D',⟨T,S⟩,J⟩,hk⟩;have X:y6 (s.fp++yk s.a bv cv) w w':=by rw[R];exact hk
 have E:r.wild=false->yH c.lt∈r.may:=by rw[O];exact hm
 have B:∀{tu ro:Nat},Rec s.x v s.a s.n ⟨3,tu,ro,c.lt,c.lr⟩ W t w'->SIs w' {s with fl:=true} D':=fun u=>by
  refine⟨R,j,i,Z,Y,M,?_⟩;show(if s.cl=true then _ else _);rw[hcl,if_neg (by simp)];refine⟨v,_,W,t,u,ht,p,O,?_⟩;rw[if_pos rfl]
 rcases J with⟨rfl,D0,r',fq,fy,h0,hok,Ee,hus,u⟩|⟨q,fq,fy,rfl,u,⟨rfl,_,m⟩|⟨D0,h0,mF⟩⟩
 ·obtain⟨U,V⟩:=F.pre hD (by omega) j i h0;obtain⟨⟨k,P,g⟩,Q⟩:=XW h0 hok;have H:∀f:Rk,yH t∈f.may->(f.bit=false->r.bit=false)->(f.wild=false->r.wild=false)->Ds s.n f (K+1) D'/\Pn s.n ⟨2,fq,fy,(yG c t).1,r'⟩ (yG c t).1 D':=fun f b z A=>XE (c:=⟨2,c.tu,c.ro,c.lt,c.lr⟩) V U rfl (by omega) E hok Ee b z A;have N:=(H ⟨[yH t],r.em,r.were,r.wild,r.bit⟩ (by simp) id id).2;have m:err=.nilIface:=I;have C:=(Nc c t).1;refine⟨{s with ll:=s.l,ch:=0,fl:=false},err,0,cv',D',k,rfl,Tl.cend I,T,S,X,?_,⟨rfl,rfl,rfl,rfl,rfl,rfl⟩,fun y G=>Or.inl G,g,by omega,Or.inl ⟨rfl,m,rfl,rfl,rfl,Q,fun f b z A=>(H f (by rw[p];exact b) z A).1⟩⟩;refine⟨R,j,i,Z,M,M,?_⟩;show(if s.cl=true then _ else _);rw[hcl,if_neg (by simp)];refine⟨v,_,r',_,u,N.st.tw,by rw[C];exact p,by show yH (yG c t).1=s.l;rw[C];exact p,?_⟩;rw[if_neg (by simp)];exact⟨N,N.st.hgt i,by rw[show frT (yG c t).1=0 from Vr (n:=s.n) (lk:=D'.view) N.st];exact ay _⟩
 ·refine⟨{s with fl:=true},err,6,cv',D',0,rfl,Tl.cend I,T,S,X,B u,⟨rfl,rfl,rfl,rfl,rfl,rfl⟩,fun y G=>Or.inl G,m.wr,by omega,Or.inr ⟨Or.inl ⟨rfl,m.t⟩,rfl,rfl,rfl,fun f d _=> ?_⟩⟩;exact((hD.same m.L m.q).more d.may d.em d.bit d.wild).mono (by omega)
 ·obtain⟨U,V⟩:=F.pre hD (by omega) j i h0;obtain⟨⟨k,P,g⟩,Q⟩:=Qff h0 mF;refine⟨{s with fl:=true},err,q,cv',D',k,rfl,Tl.cend I,T,S,X,B u,⟨rfl,rfl,rfl,rfl,rfl,rfl⟩,fun y G=>Or.inl G,g,by omega,Or.inr ⟨?_,rfl,rfl,rfl,fun f d b=> ?_⟩⟩
  ·rcases Q with b|⟨b,z,A⟩
   ·exact Or.inl b
   ·exact Or.inr ⟨b,z,fun hr=>A (Qhd F.st j (by rw[O];exact Y) (by rw[p];exact M) hr)⟩
  ·exact Xp (c:=⟨2,c.tu,c.ro,c.lt,c.lr⟩) V U (by omega) E mF (by rw[p];exact b) d.may d.em d.bit d.wild
def Mu:yB where
 SI:=SIs
 same h:=h.same
 kept h k h1 h2:=SIs.kept h k h1 h2
 fp h:=Qh4 h
 len h:=h.2.2.2.1
 fmt w a bv n cv D r K h h8 h4 hD hK hT:=Yt h h8 h4 hD hK hT
 fmtNo w a bv n cv D h hn:=by
  obtain⟨bp,bc,rfl⟩:=yZ h.b;exact(Ta a w _ _ (Q8w a n bc bp cv D w h.d hn)).mono fun e w' ⟨o,err,h1,h2,h3,h4⟩=>⟨err,h1,Tl.chain (by subst h3;exact h2),h4⟩
 opn w a bv n cv D r K h h8 h4 hD hK hT:=Qhc h h8 h4 hD hK hT
 opnNo w a bv n cv D h hn:=by
  obtain⟨bp,bc,rfl⟩:=yZ h.b;exact T7 a w _ ((QcP a n bc bp cv D w h.d hn).mono fun e w' ⟨err,h1,h2,h3⟩=>⟨_,_,h1,err,h1,Tl.chain h2,h3⟩)
 get w s D k h:=by
  have h0:=h;obtain⟨_,_,_,_,_,_,hc⟩:=h0
  cases e:s.cl with
  |true=>
   rw[e,if_pos rfl]at hc;refine(Xq s.x k w hc).mono ?_;rintro _ w'⟨err,rfl,h1,h2⟩;exact⟨_,_,_,err,rfl,gM h h2,by simp[Sx.toE,e],rfl,rfl,by simp;exact Tl.chain h1⟩
  |false=>
   rw[e,if_neg (by simp)]at hc;obtain⟨v,iS,r,tr,hr,ht,hf,_⟩:=hc
   by_cases hk:gz k
   ·refine(QgT s.x v s.a s.n iS r tr k w hr ht hk).mono ?_;rintro _ w'⟨err,rfl,h1,h2⟩;rw[hf];exact⟨_,_,_,err,rfl,gM h h2,by simp[Sx.toE,e],rfl,rfl,by simp[hk,h1]⟩
   ·refine(QgV s.x v s.a s.n iS r tr k w hr hk).mono ?_;rintro _ w'⟨err,rfl,h1,h2⟩;exact⟨_,_,_,err,rfl,gM h h2,by simp[Sx.toE,e],rfl,rfl,by simp[hk];exact Tl.chain h1⟩
 scan w s D lo hi m h:=by
  have h0:=h;obtain⟨_,_,_,uu,_,_,hc⟩:=h0
  cases e:s.cl with
  |true=>
   rw[e,if_pos rfl]at hc;refine(QdJ s.x lo hi m w hc).mono ?_;rintro _ w'⟨err,rfl,h1,h2⟩;exact⟨_,_,err,rfl,gM h h2,by simp[Sx.toE,e],rfl,rfl,by simp;exact Tl.chain h1⟩
  |false=>
   rw[e,if_neg (by simp)]at hc;obtain⟨v,iS,r,tr,hr,ht,hf,_⟩:=hc;refine(QdI s.x v s.a s.n iS r tr lo hi m ht (by rw[hf];omega) w hr).mono ?_;rintro _ w'⟨vv,rfl,h1,h2,h3⟩;rw[hf]at h1;exact⟨_,vv,.nilIface,rfl,gM h h3,by simp[Sx.toE,e],rfl,rfl,by simp;exact⟨h1,h2⟩⟩
 put w s D k y h:=by
  have h0:=h;obtain⟨mY,h8,h4,uu,iL,rZ,hc⟩:=h0
  cases e:s.cl with
  |true=>
   rw[e,if_pos rfl]at hc;refine(Qas s.x k y w hc).mono ?_;rintro _ w'⟨err,rfl,⟨h1,_⟩,h2⟩;exact⟨_,err,5,rfl,gM h h2,by simp[Sx.toE,e],Tl.chain h1,by rw[show chg true s.fl k y=5 from rfl,if_pos (by decide)];exact⟨rfl,rfl,rfl⟩⟩
  |false=>
   rw[e,if_neg (by simp)]at hc;obtain⟨v,iS,r,tr,hr,ht,hf,fU,eC⟩:=hc
   cases ef:s.fl with
   |true=>
    rw[ef,if_pos rfl]at eC;refine(Qav s.x v s.a s.n iS r tr k y w hr eC).mono ?_;rintro _ w'⟨err,rfl,⟨h1,_⟩,h2⟩;exact⟨_,err,4,rfl,gM h h2,by simp[Sx.toE,e],Tl.chain h1,by rw[UJ,if_pos (by decide)];exact⟨rfl,rfl,rfl⟩⟩
   |false=>
    rw[ef,if_neg (by simp)]at eC;obtain⟨hp,hh,hfr⟩:=eC;have hst:iS.s=1\/iS.s=2:=hp.s.imp id fun h=>h.1
    by_cases hk:gz k
    ·by_cases hy:y.size<=12
     ·obtain⟨wo,hfl⟩:=Oh (OZ k y hk hy) tr ht;rw[hf]at hfl;rw[V3 hk hy];have sy:=Od _ wo;have hwl:=Qh8 k y s.l;rw[hfl]at sy
      by_cases hroom:(s.n-2)/2<gh (gZ (yy k y) k tr)
      ·refine(Qar s.x v s.a s.n iS r tr k y w hr hst ht hk hy h8 h4 (by omega) hroom).mono ?_;rintro _ w'⟨err,rfl,⟨h1,_⟩,h2⟩;have hno:=Q4z _ wo s.n s.mo h8 hroom;rw[hfl]at hno;exact⟨_,err,3,rfl,gM h h2,by simp[Sx.toE,e],Tl.chain h1,by rw[if_neg (by simp)];exact Or.inr ⟨rfl,rfl,rfl,hno⟩⟩
      ·refine(Yv s.x v s.a s.n iS r tr k y w hr hst ht hk hy h8 h4 hroom).mono ?_;rintro _ w'⟨err,rfl,⟨rfl,r',h1⟩,h2⟩;have J9:=Sf _ wo;rw[hfl]at J9;have Ef:=UW (yy k y) k hp.st;exact⟨s.toE false (yy k y s.l) (s.ch+1),.nilIface,0,rfl,M8 h h2 ⟨mY,h8,h4,by show(yy k y s.l).length<=20000;omega,av iL (Nat.le_max_left _ _),Nat.le_max_right _ _,by
        show(if false=true then _ else _);rw[if_neg (by simp)];refine⟨v,iS,r',_,h1,wo,hfl,fU,?_⟩;show(if s.fl=true then _ else _);rw[ef,if_neg (by simp)];exact⟨{hp with st:=hp.st.chg (OZ k y hk hy)},Vc _ wo (by omega),by show frT _<=12*(s.ch+1);omega⟩⟩,rfl,Tl.nil _,by rw[if_neg (by simp)];exact Or.inl ⟨rfl,rfl,rfl⟩⟩
     ·rw[Qh6 hk hy];refine(Yr s.x v s.a s.n iS r tr k y w hr hst hk hy).mono ?_;rintro _ w'⟨err,rfl,⟨h1,_⟩,h2⟩;exact⟨_,err,2,rfl,gM h h2,by simp[Sx.toE,e],Tl.chain h1,by rw[if_pos (by decide)];exact⟨rfl,rfl,rfl⟩⟩
    ·rw[Sv hk];refine(Qat s.x v s.a s.n iS r tr k y w hr hst hk).mono ?_;rintro _ w'⟨err,rfl,⟨h1,_⟩,h2⟩;exact⟨_,err,1,rfl,gM h h2,by simp[Sx.toE,e],Tl.chain h1,by rw[if_pos (by decide)];exact⟨rfl,rfl,rfl⟩⟩
 del w s D k h:=by
  have h0:=h;obtain⟨mY,h8,h4,uu,iL,rZ,hc⟩:=h0
  cases e:s.cl with
  |true=>
   rw[e,if_pos rfl]at hc;refine(Qa8 s.x k w hc).mono ?_;rintro _ w'⟨err,rfl,⟨h1,_⟩,h2⟩;exact⟨_,err,rfl,gM h h2,by simp[Sx.toE,e],by rw[show chg true s.fl k ⟨#[]⟩=5 from rfl,if_pos (by decide)];exact⟨Tl.chain h1,rfl,rfl⟩⟩
  |false=>
   rw[e,if_neg (by simp)]at hc;obtain⟨v,iS,r,tr,hr,ht,hf,fU,eC⟩:=hc
   cases ef:s.fl with
   |true=>
    rw[ef,if_pos rfl]at eC;refine(Yz s.x v s.a s.n iS r tr k w hr eC).mono ?_;rintro _ w'⟨err,rfl,⟨h1,_⟩,h2⟩;exact⟨_,err,rfl,gM h h2,by simp[Sx.toE,e],by rw[UJ,if_pos (by decide)];exact⟨Tl.chain h1,rfl,rfl⟩⟩
   |false=>
    rw[ef,if_neg (by simp)]at eC;obtain⟨hp,hh,hfr⟩:=eC;have hst:iS.s=1\/iS.s=2:=hp.s.imp id fun h=>h.1
    by_cases hk:gz k
    ·obtain⟨wo,hfl⟩:=Q95 k tr ht;rw[hf]at hfl;rw[V3 hk (by decide)];refine(Qa7 s.x v s.a s.n iS r tr k w hr ht hst hk).mono ?_;rintro _ w'⟨err,rfl,⟨rfl,r',h1⟩,h2⟩;have hle:(ym k s.l).length<=s.l.length:=dt _ _;have Ef:=Qf6 k hp.st;have LH:=YC k tr ht;exact⟨s.toE false (ym k s.l) (s.ch+1),.nilIface,rfl,M8 h h2 ⟨mY,h8,h4,by show(ym k s.l).length<=20000;omega,av iL (Nat.le_max_left _ _),Nat.le_max_right _ _,by
      show(if false=true then _ else _);rw[if_neg (by simp)];refine⟨v,iS,r',_,h1,wo,hfl,fU,?_⟩;show(if s.fl=true then _ else _);rw[ef,if_neg (by simp)];exact⟨{hp with st:=hp.st.del},by omega,by show frT _<=12*(s.ch+1);omega⟩⟩,rfl,by rw[if_neg (by simp)];exact⟨Tl.nil _,rfl,rfl⟩⟩
    ·rw[Sv hk];refine(Qa9 s.x v s.a s.n iS r tr k w hr hst hk).mono ?_;rintro _ w'⟨err,rfl,⟨h1,_⟩,h2⟩;exact⟨_,err,rfl,gM h h2,by simp[Sx.toE,e],by rw[if_pos (by decide)];exact⟨Tl.chain h1,rfl,rfl⟩⟩
 close w s D h:=by
  have h0:=h;obtain⟨mY,h8,h4,uu,iL,rZ,hc⟩:=h0
  cases e:s.cl with
  |true=>
   rw[e,if_pos rfl]at hc;refine(Q9Z s.x w hc).mono ?_;rintro _ w'⟨err,rfl,⟨h1,_⟩,h2⟩;exact⟨_,err,rfl,gM h h2,by simp[Sx.toE,e],rfl,rfl,by simp;exact Tl.chain h1⟩
  |false=>
   rw[e,if_neg (by simp)]at hc;obtain⟨v,iS,r,tr,hr,ht,hf,_⟩:=hc;refine(Yk s.x v s.a s.n iS r tr w hr).mono ?_;rintro _ w'⟨err,rfl,⟨rfl,h1⟩,h2⟩;exact⟨s.toE true s.l s.ch,.nilIface,rfl,M8 h h2 ⟨mY,h8,h4,uu,av iL (Nat.le_max_left _ _),Nat.le_max_right _ _,by
    show(if true=true then _ else _);rw[if_pos rfl];exact h1⟩,rfl,rfl,rfl,by simp;exact Tl.nil _⟩
 sync w s bv cv D r K h hd hD hK hT hm:=by
  have h0:=h;obtain⟨mY,h8,h4,uu,iL,rZ,hc⟩:=h0;have old:∀{x:Int} {err:Value} {w':World},gU w' err x->y6 [] w w'->(x=chg s.cl s.fl ⟨#[]⟩ ⟨#[]⟩)->(s.cl=true\/s.fl=true)->∃s' wq x cv' D' k,(Ending.returned err)=.returned wq/\Tl w' wq x/\DQ w' s.a bv s.n cv' D'/\CvN cv cv' w.heap.size/\y6 (s.fp++yk s.a bv cv) w w'/\SIs w' s' D'/\(s'.x=s.x/\s'.a=s.a/\s'.n=s.n/\s'.cl=s.cl/\s'.l=s.l/\s'.mo=s.mo)/\(∀y∈s'.fp,y∈s.fp\/w.heap.size<=y)/\D'.wr=wrN k D.wr/\
   (if s.cl\/s.fl then x=chg s.cl s.fl ⟨#[]⟩ ⟨#[]⟩/\k=0/\D'=D/\s'.fl=s.fl/\s'.ll=s.ll/\s'.ch=s.ch else k<=12*s.ch+1/\
    ((x=0/\wq=.nilIface/\s'.fl=false/\s'.ch=0/\s'.ll=s.l/\D'.t=D.t/\∀r':Rk,s.l∈r'.may->(r'.bit=false->r.bit=false)->(r'.wild=false->r.wild=false)->Ds s.n r' (K+1) D')\/
     (((x=6/\D'.t=wrap64 (D.t+1))\/(x=3/\D'.t=D.t/\¬LK s.n s.mo 0))/\s'.fl=true/\s'.ch=s.ch/\s'.ll=s.ll/\∀r',Rle r r'->s.l∈r'.may->Ds s.n r' (K+1) D'))):=fun h1 h2 h3 h5=>
   ⟨s,_,_,cv,D,0,rfl,Tl.chain h1,hd.k0 h2,fun y hy=>Or.inl hy,h2.mono (by simp),h.k h2,⟨rfl,rfl,rfl,rfl,rfl,rfl⟩,fun y hy=>Or.inl hy,rfl,by rw[if_pos h5];exact⟨h3,rfl,rfl,rfl,rfl,rfl⟩⟩
  cases e:s.cl with
  |true=>
   rw[e,if_pos rfl]at hc;refine(QgZ s.x w hc).mono ?_;rintro _ w'⟨err,rfl,⟨h1,_⟩,h2⟩;have:=old h1 h2 (by rw[e];rfl) (Or.inl e);rw[e]at this;exact this
  |false=>
   cases ef:s.fl with
   |true=>
    rw[e,if_neg (by simp)]at hc;obtain⟨v,iS,r,tr,hr,ht,hf,fU,eC⟩:=hc;rw[ef,if_pos rfl]at eC;refine(Qh0 s.x v s.a s.n iS r tr w hr eC).mono ?_;rintro _ w'⟨err,rfl,⟨h1,_⟩,h2⟩;have:=old h1 h2 (by rw[e,ef];rfl) (Or.inr ef);rw[e,ef]at this;exact this
   |false=>
    have:=Y6 h hd hD hK hT hm e ef;rw[e]at this
    simpa using this
end Go.Proofs.YtcklgafpgdhnaaaGreatDoor
