import Derived.Test.YtcklgafpgdhnaaaGreatDoorPybr
set_option maxRecDepth 100000
set_option maxHeartbeats 4000000
set_option linter.unusedSimpArgs false
set_option linter.unusedVariables false
set_option linter.unusedSectionVars false
open Go.Proofs.Tryz
namespace Go.Proofs.YtcklgafpgdhnaaaGreatDoor
open Go.RowKit
structure Rc where
 n:Int
 may:Value
 em:Bool
 were:Value
 wild:Bool
 bit:Bool
def Rc.cs(R:Rc):Array Value:=yS R.n R.may R.em R.were R.wild R.bit
def ldl(a:Nat)(R:Rc)(s:Value):List Value:= [.pointer (some ⟨a,0,none⟩),.int .i64 R.n,R.may,.bool R.em,R.were,.bool R.wild,.bool R.bit,s]
def LD(w:World)(q a:Nat)(R:Rc)(s:Value):Prop:=w.heap[q]?=some (.cells (ldl a R s).toArray 154 (0,0))
variable {w:World}{q:Nat}{R:Rc}
theorem LD.load{a:Nat}{s:Value}(h:LD w q a R s):(loadVar 151 ⟨q,1,none⟩).run prog w=.ok (.agg R.cs) w:=by
 refine yQ (P:=prog) w q 1 154 151 (ldl a R s) [.int .i64 R.n,R.may,.bool R.em,R.were,.bool R.wild,.bool R.bit] (0,0) _ h underlying151 rfl srd ?_;intro j v b;rw[ae]at b;obtain⟨c,rfl⟩:=b;simp at c;rcases j with _|_|_|_|_|_|j<;>first|rfl|omega
structure Sx where
 x:Nat
 a:Nat
 n:Nat
 fp:List Nat
 cl:Bool
 fl:Bool
 l:List Pr
 ll:List Pr
 mo:Nat
 ch:Nat
def Tl(w:World)(err:Value)(x:Int):Prop:=∀W,y6 [] w W->qW W->Calls prog 131 #[err] W fun e w'=>e=.returned (.int .i64 x)/\y6 [] W w'
theorem Tl.nil(w:World):Tl w .nilIface 0:=by
 intro W _ _;exact(Q1G W).mono fun _ _ h=>⟨h.1,by rw[h.2];exact y6.refl _ _⟩
theorem Tl.chain{err:Value}{x:Int}(h:gU w err x):Tl w err x:=by
 intro W a d;refine Q1H err x W d ?_;obtain⟨f1,f2,e,f,rfl,b,c⟩:=h.ex;exact⟨f1,f2,e,f,rfl,a.get b (by simp),a.get c (by simp)⟩
def ji:List TypeId:= [195,28,41,224,189,154,104,3,148,91,92,64,94]
def LT(w:World)(y:Nat):Prop:=∃cs t fr,w.heap[y]?=some (.cells cs t fr)/\t∈ji
def AftS(SI:World->Sx->Dv->Prop)(s s':Sx)(D:Dv)(w w':World):Prop:=
 s'.x=s.x/\s'.a=s.a/\s'.n=s.n/\s'.fl=s.fl/\s'.ll=s.ll/\s'.mo=max s.mo s'.l.length/\SI w' s' D/\y6 s.fp w w'/\(∀y∈s'.fp,y∈s.fp\/w.heap.size<=y)
def Rs(l:List Pr):Prop:=Srt l/\∀p∈l,okp p
structure Rle(r r':Rk):Prop where
 may:∀m∈r.may,m∈r'.may
 em:r'.wild=false->r.em=true\/r.may= []->r'.em=true\/r'.may= []
 bit:r'.bit=false->r.bit=false
 wild:r'.wild=false->r.wild=false
structure yB where
 SI:World->Sx->Dv->Prop
 same:∀{w:World} {s:Sx} {D E:Dv},SI w s D->E.L=D.L->E.q=D.q->SI w s E
 kept:∀{w w':World} {s:Sx} {D:Dv} {S:List Nat},SI w s D->y6 S w w'->(∀y∈S,y∉s.fp)->(∀y∈S,LT w y\/∃s' D',SI w s' D'/\y∈s'.fp)->SI w' s D
 fp:∀{w:World} {s:Sx} {D:Dv},SI w s D->∀y∈s.fp,∃o,w.heap[y]?=some o/\∀cs t fr,o=.cells cs t fr->t∉ji
 len:∀{w:World} {s:Sx} {D:Dv},SI w s D->s.l.length<=20000
 fmt:∀(w:World) (a:Nat) (bv:Value) (n:Nat) (cv:Value) (D:Dv) (r:Rk) (K:Nat),DQ w a bv n cv D->8<=n->n<=400->Ds n r K D->K<=700000->Tab w->Calls prog 33 #[.pointer (some ⟨a,0,none⟩)] w fun e w'=>
  ∃err cv' D' x,e=.returned err/\Tl w' err x/\DQ w' a bv n cv' D'/\CvN cv cv' w.heap.size/\y6 (yk a bv cv) w w'/\
   ((x=0/\err=.nilIface/\D'.t=D.t/\∀r',r'.may= [[]]->Ds n r' 1 D')\/(x=6/\D'.t=wrap64 (D.t+1)/\∀r',Rle r r'-> []∈r'.may->r'.em=true->Ds n r' (K+2) D'))
 fmtNo:∀(w:World) (a:Nat) (bv:Value) (n:Nat) (cv:Value) (D:Dv),DQ w a bv n cv D->(n<8\/400<n)->Calls prog 33 #[.pointer (some ⟨a,0,none⟩)] w fun e w'=>∃err,e=.returned err/\Tl w' err 8/\y6 [] w w'
 opn:∀(w:World) (a:Nat) (bv:Value) (n:Nat) (cv:Value) (D:Dv) (r:Rk) (K:Nat),DQ w a bv n cv D->8<=n->n<=400->Ds n r K D->K<=700000->Tab w->Calls prog 34 #[.pointer (some ⟨a,0,none⟩)] w fun e w'=>
  ∃px err x D',e=.returned (.tuple #[px,err])/\Tl w' err x/\DQ w' a bv n cv D'/\D'.L=D.L/\D'.q=D.q/\D'.wr=D.wr/\y6 [a] w w'/\
   ((x=6/\px=.pointer none/\D'.t=wrap64 (D.t+1))\/(x=7/\px=.pointer none/\D'.t=D.t/\(r.wild=false->r.em=true\/r.may= []))\/
    (x=0/\err=.nilIface/\D'.t=D.t/\∃s:Sx,px=.pointer (some ⟨s.x,0,none⟩)/\SI w' s D'/\s.a=a/\s.n=n/\s.cl=false/\s.fl=false/\s.ll=s.l/\s.mo=s.l.length/\s.ch=0/\Rs s.l/\(r.wild=false->s.l∈r.may)/\∀y∈s.fp,w.heap.size<=y))
 opnNo:∀(w:World) (a:Nat) (bv:Value) (n:Nat) (cv:Value) (D:Dv),DQ w a bv n cv D->(n<8\/400<n)->Calls prog 34 #[.pointer (some ⟨a,0,none⟩)] w fun e w'=>
  ∃err,e=.returned (.tuple #[.pointer none,err])/\Tl w' err 8/\y6 [] w w'
 get:∀(w:World) (s:Sx) (D:Dv) (k:ByteArray),SI w s D->Calls prog 20 #[.pointer (some ⟨s.x,0,none⟩),.string k] w fun e w'=>
  ∃s' v b err,e=.returned (.tuple #[.string v,.bool b,err])/\AftS SI s s' D w w'/\s'.cl=s.cl/\s'.l=s.l/\s'.ch=s.ch/\
   (if s.cl then Tl w' err 5/\v=⟨#[]⟩/\b=false else if¬gz k then Tl w' err 1/\v=⟨#[]⟩/\b=false else err=.nilIface/\v=(gA k s.l).getD ⟨#[]⟩/\b=(gA k s.l).isSome)
 scan:∀(w:World) (s:Sx) (D:Dv) (lo hi:ByteArray) (m:Int),SI w s D->Calls prog 19 #[.pointer (some ⟨s.x,0,none⟩),.string lo,.string hi,.int .i64 m] w fun e w'=>
  ∃s' v err,e=.returned (.tuple #[v,err])/\AftS SI s s' D w w'/\s'.cl=s.cl/\s'.l=s.l/\s'.ch=s.ch/\
   (if s.cl then Tl w' err 5/\v=.slice none 0 0 else err=.nilIface/\PL w' 41 v (Qu lo hi (mst m) s.l)/\∀y,v.ownBlock=some y->w.heap.size<=y)
 put:∀(w:World) (s:Sx) (D:Dv) (k v:ByteArray),SI w s D->Calls prog 36 #[.pointer (some ⟨s.x,0,none⟩),.string k,.string v] w fun e w'=>
  ∃s' err x,e=.returned err/\AftS SI s s' D w w'/\s'.cl=s.cl/\Tl w' err x/\
   (if chg s.cl s.fl k v≠0 then x=chg s.cl s.fl k v/\s'.l=s.l/\s'.ch=s.ch else(x=0/\s'.l=yy k v s.l/\s'.ch=s.ch+1)\/(x=3/\s'.l=s.l/\s'.ch=s.ch/\¬LK s.n s.mo (yy k v s.l).length))
 del:∀(w:World) (s:Sx) (D:Dv) (k:ByteArray),SI w s D->Calls prog 22 #[.pointer (some ⟨s.x,0,none⟩),.string k] w fun e w'=>
  ∃s' err,e=.returned err/\AftS SI s s' D w w'/\s'.cl=s.cl/\
   (if chg s.cl s.fl k ⟨#[]⟩≠0 then Tl w' err (chg s.cl s.fl k ⟨#[]⟩)/\s'.l=s.l/\s'.ch=s.ch else Tl w' err 0/\s'.l=ym k s.l/\s'.ch=s.ch+1)
 close:∀(w:World) (s:Sx) (D:Dv),SI w s D->Calls prog 147 #[.pointer (some ⟨s.x,0,none⟩)] w fun e w'=>
  ∃s' err,e=.returned err/\AftS SI s s' D w w'/\s'.cl=true/\s'.l=s.l/\s'.ch=s.ch/\(if s.cl then Tl w' err 5 else Tl w' err 0)
 sync:∀(w:World) (s:Sx) (bv cv:Value) (D:Dv) (r:Rk) (K:Nat),SI w s D->DQ w s.a bv s.n cv D->Ds s.n r K D->K<=700000->Tab w->(r.wild=false->s.ll∈r.may)->Calls prog 28 #[.pointer (some ⟨s.x,0,none⟩)] w fun e w'=>
  ∃s' err x cv' D' k,e=.returned err/\Tl w' err x/\DQ w' s.a bv s.n cv' D'/\CvN cv cv' w.heap.size/\y6 (s.fp++yk s.a bv cv) w w'/\SI w' s' D'/\(s'.x=s.x/\s'.a=s.a/\s'.n=s.n/\s'.cl=s.cl/\s'.l=s.l/\s'.mo=s.mo)/\(∀y∈s'.fp,y∈s.fp\/w.heap.size<=y)/\D'.wr=wrN k D.wr/\
   (if s.cl\/s.fl then x=chg s.cl s.fl ⟨#[]⟩ ⟨#[]⟩/\k=0/\D'=D/\s'.fl=s.fl/\s'.ll=s.ll/\s'.ch=s.ch else k<=12*s.ch+1/\
    ((x=0/\err=.nilIface/\s'.fl=false/\s'.ch=0/\s'.ll=s.l/\D'.t=D.t/\∀r':Rk,s.l∈r'.may->(r'.bit=false->r.bit=false)->(r'.wild=false->r.wild=false)->Ds s.n r' (K+1) D')\/
     (((x=6/\D'.t=wrap64 (D.t+1))\/(x=3/\D'.t=D.t/\¬LK s.n s.mo 0))/\s'.fl=true/\s'.ch=s.ch/\s'.ll=s.ll/\∀r',Rle r r'->s.l∈r'.may->Ds s.n r' (K+1) D')))
structure Ox where
 b:Nat
 vl:Value
 lv:Value
 wv:Value
 xs:List HLd
structure OI(w:World)(s:Sx)(o:Ox):Prop where
 r:OR w o.b (some ⟨s.x,0,none⟩) o.vl s.fl s.cl s.mo s.ch o.lv o.wv
 v:PL w 224 o.vl s.l
 h:HL w o.lv o.wv o.xs
 m:s.l.length<=s.mo
theorem qW.ne{b:Nat}{cs:Array Value}{t:TypeId}{fr:Nat×Nat}(hg:qW w)(h:w.heap[b]?=some (.cells cs t fr))(hc:∀v,cs[0]?=some v->∀i u,v≠ .iface i u):b≠1:=by
 intro e;subst e;unfold qW at hg;rw[aY _ _ _ _ _ _ h]at hg;exact hc _ hg _ _ rfl
theorem qW.ld{a:Nat}{s:Value}(hg:qW w)(h:LD w q a R s):q≠1:=by
 refine hg.ne h ?_;intro v b i u e;subst e;simp[ldl]at b
variable {bv cv:Value}{D:Dv}
theorem DQ.law{a n:Nat}(h:DQ w a bv n cv D):∀y∈yk a bv cv,∃cs t fr,w.heap[y]?=some (.cells cs t fr)/\t∈ [91,92,94]:=by
 intro y c;simp only[yk,an,ar]at c;rcases c with rfl|c|c
 ·exact⟨_,_,_,h.d,by decide⟩
 ·obtain⟨cs,fr,e⟩:=yD h.b (by simpa using c);exact⟨_,_,_,e,by decide⟩
 ·obtain⟨cs,fr,e⟩:=yD h.o (by simpa using c);exact⟨_,_,_,e,by decide⟩
variable {s:Sx}
theorem yB.ne(I:yB)(h:I.SI w s D){y:Nat}(hy:LT w y):y∉s.fp:=by
 intro c;obtain⟨o,b,a⟩:=I.fp h y c;obtain⟨d,t,e,hc,ht⟩:=hy;rw[b]at hc
 cases hc
 exact a _ _ _ rfl ht
theorem Yf:∀t∈ [91,92,94],t∈ji:=by decide
theorem yB.off(I:yB){E:Dv}{a n:Nat}(h:I.SI w s D)(hd:DQ w a bv n cv E):∀y∈s.fp,y∉yk a bv cv:=fun y f e=>by
 obtain⟨b,t,c,d,ht⟩:=hd.law y e;exact I.ne h ⟨b,t,c,d,Yf t ht⟩ f
theorem yB.nt(I:yB)(hs:I.SI w s D):∀{y:Nat} {cs:Array Value} {t:TypeId} {fr:Nat×Nat},w.heap[y]?=some (.cells cs t fr)->t∈ji->y∉s.fp:=fun a ht=>I.ne hs ⟨_,_,_,a,ht⟩
variable {o:Ox}
theorem OI.aft(I:yB){w':World}(h:OI w s o)(hs:I.SI w s D)(k:y6 s.fp w w'):
  OR w' o.b (some ⟨s.x,0,none⟩) o.vl s.fl s.cl s.mo s.ch o.lv o.wv/\PL w' 224 o.vl s.l/\HL w' o.lv o.wv o.xs:=by
 have rows:∀{a e n k:Nat} {v:Value} {xs:List Value},w.ownsRow a e k v n xs->e∈ji->∀g,v.ownBlock=some g->g∉s.fp:=by
  intro a e n k v xs m f g i;obtain⟨q,t,j⟩:=yD m i;exact I.nt hs j f
 refine⟨k.get h.r (I.nt hs h.r (by decide)),h.v.kept k (rows h.v (by decide)),h.h.kept k (rows h.h.lists (by decide)) (rows h.h.want (by decide)) ?_⟩;intro x p;obtain⟨c,d,_⟩:=h.h.all x p;exact⟨rows c (by decide),rows d (by decide)⟩
def je(I:yB)(s:Sx)(o:Ox)(w:World)(q:Nat)(R:Rc)(bv cv:Value)(D:Dv)(e:Ending)(w':World):Prop:=
 e=.returned (.bool true)/\∃s' o',o'.b=o.b/\s'.x=s.x/\s'.a=s.a/\s'.n=s.n/\s'.ll=s.ll/\LD w' q s.a R (.pointer (some ⟨o.b,0,none⟩))/\DQ w' s.a bv s.n cv D/\I.SI w' s' D/\OI w' s' o'/\
  (∀y∈s'.fp,y∈s.fp\/w.heap.size<=y)/\(∀y,o'.lv.ownBlock=some y->o.lv.ownBlock=some y\/w.heap.size<=y)/\(∀y,o'.wv.ownBlock=some y->o.wv.ownBlock=some y\/w.heap.size<=y)/\
  o'.xs.length<=o.xs.length+2/\s'.mo<=s.mo+1/\s'.ch<=s.ch+1/\
  y6 (o.b::(s.fp++o.lv.ownBlock.toList++o.wv.ownBlock.toList)) w w'
variable {px:Option Addr}
theorem OR.map{b:Nat}{vl:Value}{f c:Bool}{mo ch:Int}{lv wv:Value}(h:OR w b px vl f c mo ch lv wv):(loadVar 189 ⟨b,1,none⟩).run prog w=.ok (.agg #[vl]) w:=by
 refine yQ (P:=prog) w b 1 195 189 (opnc px vl f c mo ch lv wv).toList [vl] (0,0) _ (by simpa[OR]using h) underlying189 rfl smap ?_;intro j v a;rcases j with _|j
 ·simp at a;subst a;rfl
 ·simp at a
theorem Qfh:(prog.info? 192).map (·.size)=some 5:=by kernel_rfl
theorem OR.store{b:Nat}{vl:Value}{f c:Bool}{mo ch:Int}{lv wv:Value}(h:OR w b px vl f c mo ch lv wv):(loadVar 192 ⟨b,1,none⟩).run prog w=.ok (.agg (ZG vl f c mo ch)) w:=by
 refine yQ (P:=prog) w b 1 195 192 (opnc px vl f c mo ch lv wv).toList [vl,.bool f,.bool c,.int .i64 mo,.int .i64 ch] (0,0) _ (by simpa[OR]using h) underlying192 rfl Qfh ?_;intro j v a;rw[ae]at a;obtain⟨d,rfl⟩:=a;simp at d;rcases j with _|_|_|_|_|j<;>first|rfl|omega
variable {s':Sx}{w2:World}
theorem je.same(I:yB){w':World}(hq:LD w q s.a R (.pointer (some ⟨o.b,0,none⟩)))(hd:DQ w s.a bv s.n cv D)(hs:I.SI w s D)(ho:OI w s o)
  (ha:AftS I.SI s s' D w w2)(hcl:s'.cl=s.cl)(hl:s'.l=s.l)(fQ:s'.ch=s.ch)(hk:y6 [] w2 w'):je I s o w q R bv cv D (.returned (.bool true)) w':=by
 obtain⟨h,j,k,e,f,p,t,d,r⟩:=ha;obtain⟨u,v,z⟩:=ho.aft I hs d;have i:s'.mo=s.mo:=by rw[p,hl];exact dB ho.m
 have d2:DQ w2 s.a bv s.n cv D:=hd.kept d fun y c g=>I.off hs hd y g c;refine⟨rfl,s',o,rfl,h,j,k,f,hk.get (d.get hq (I.nt hs hq (by decide))) (by simp),d2.k0 hk,I.kept t hk (by simp) (by simp),⟨?_,?_,z.fresh hk,?_⟩,r,fun y c=>Or.inl c,fun y c=>Or.inl c,by omega,by omega,by omega,?_⟩
 ·rw[h,hcl,i,e,fQ];exact hk.get u (by simp)
 ·rw[hl];exact v.kept hk (by simp)
 ·rw[hl,i];exact ho.m
 ·exact(d.mono fun x g=>aq _ (aw _ (aw _ g))).trans (hk.mono (by simp))
theorem Qfi(I:yB)(s:Sx)(o:Ox)(q:Nat)(R:Rc)(bv cv:Value)(D:Dv)(k:ByteArray)(w:World)(hG:qW w)(ig:1∉s.fp)(hq:LD w q s.a R (.pointer (some ⟨o.b,0,none⟩)))(hd:DQ w s.a bv s.n cv D)(hs:I.SI w s D)(ho:OI w s o)(hl:s.l.length<=40000):
  Calls prog 101 #[.pointer (some ⟨q,0,none⟩),.string k] w (je I s o w q R bv cv D):=by
 have X:w.cell? ⟨q,0,none⟩=some (.pointer (some ⟨s.a,0,none⟩)):=y7 hq rfl;have Y:w.cell? ⟨q,7,none⟩=some (.pointer (some ⟨o.b,0,none⟩)):=y7 hq rfl;have Z:w.cell? ⟨o.b,0,none⟩=some (.pointer (some ⟨s.x,0,none⟩)):=y7 ho.r rfl;have N:Hid (Calls _ _ _ _ _):=qD s.a bv cv D w hd.d;have P:Hid (Calls _ _ _ _ _):=I.get w s D k hs
 cases g:s.cl with
 |true=>
  go_enter func101,ntmps101;go_wp2_with(first|(go_at_call 130;refine N.out.mono ?_;rintro e y⟨rfl,rfl⟩)|(go_at_call 20;refine P.out.mono ?_;rintro e V⟨U,v,S,B,rfl,p,h,i,A,c⟩;simp only[g,if_true]at c;obtain⟨C,rfl,rfl⟩:=c;have u:=p.2.2.2.2.2.2.2.1;obtain⟨H,J,T⟩:=ho.aft I hs u;have F:=hG.kept u ig)|(go_at_call 131;refine(C _ (y6.refl _ _) F).mono ?_;rintro e L⟨rfl,f⟩;have t:OR L o.b (some ⟨s.x,0,none⟩) o.vl s.fl s.cl s.mo s.ch o.lv o.wv:=f.get H (by simp);have E:=t.map;have K:=J.kept f (by simp))|(go_at_call 141;refine(Q1 _ _).mono ?_;rintro e y⟨rfl,rfl⟩)|(refine y8 rfl 189 (.tmp 41) rfl ⟨o.b,1,none⟩ rfl _ E ?_)|(go_at_call 142;refine(Re o.vl s.l k _ K (by omega)).mono ?_;rintro e z⟨rfl,m⟩;have G:OR z o.b (some ⟨s.x,0,none⟩) o.vl s.fl s.cl s.mo s.ch o.lv o.wv:=m.get t (by simp);have Q:z.cell? ⟨o.b,3,none⟩=some (.bool true):=(by have:=y7 (j:=3) G rfl;rw[g]at this;exact this))|(go_at_call 133;refine(qv _ _).mono ?_;rintro e y⟨rfl,rfl⟩))
  go_ret;exact je.same I hq hd hs ho p h i A (f.trans m)
 |false=>
  by_cases M:gz k
  ·have O:decide (1<=k.size/\k.size<=8)=true:=by simpa[gz]using M
   have C:=fun W=>Tl.nil W W (y6.refl _ _);go_enter func101,ntmps101;go_wp2_with(first|(go_at_call 130;refine N.out.mono ?_;rintro e y⟨rfl,rfl⟩)|(go_at_call 20;refine P.out.mono ?_;rintro e V⟨U,v,S,B,rfl,p,h,i,A,c⟩;simp only[g,bj,cQ,M,not_true]at c;obtain⟨rfl,rfl,rfl⟩:=c;have u:=p.2.2.2.2.2.2.2.1;obtain⟨H,J,T⟩:=ho.aft I hs u;have F:=hG.kept u ig)|(go_at_call 131;refine(C _ F).mono ?_;rintro e L⟨rfl,f⟩;have t:OR L o.b (some ⟨s.x,0,none⟩) o.vl s.fl s.cl s.mo s.ch o.lv o.wv:=f.get H (by simp);have E:=t.map;have K:=J.kept f (by simp))|(go_at_call 141;refine(Q1 _ _).mono ?_;rintro e y⟨rfl,rfl⟩;rw[O])|(refine y8 rfl 189 (.tmp 41) rfl ⟨o.b,1,none⟩ rfl _ E ?_)|(go_at_call 142;refine(Re o.vl s.l k _ K (by omega)).mono ?_;rintro e z⟨rfl,m⟩;have G:OR z o.b (some ⟨s.x,0,none⟩) o.vl s.fl s.cl s.mo s.ch o.lv o.wv:=m.get t (by simp);have Q:z.cell? ⟨o.b,3,none⟩=some (.bool false):=(by have:=y7 (j:=3) G rfl;rw[g]at this;exact this))|(go_at_call 133;refine(qv _ _).mono ?_;rintro e y⟨rfl,rfl⟩))
   go_ret;exact je.same I hq hd hs ho p h i A (f.trans m)
  ·have O:decide (1<=k.size/\k.size<=8)=false:=by simpa[gz]using M
   go_enter func101,ntmps101;go_wp2_with(first|(go_at_call 130;refine N.out.mono ?_;rintro e y⟨rfl,rfl⟩)|(go_at_call 20;refine P.out.mono ?_;rintro e V⟨U,v,S,B,rfl,p,h,i,A,c⟩;simp only[g,bj,cQ,M,not_false_eq_true,if_true]at c;obtain⟨C,rfl,rfl⟩:=c;have u:=p.2.2.2.2.2.2.2.1;obtain⟨H,J,T⟩:=ho.aft I hs u;have F:=hG.kept u ig)|(go_at_call 131;refine(C _ (y6.refl _ _) F).mono ?_;rintro e L⟨rfl,f⟩;have t:OR L o.b (some ⟨s.x,0,none⟩) o.vl s.fl s.cl s.mo s.ch o.lv o.wv:=f.get H (by simp);have E:=t.map;have K:=J.kept f (by simp))|(go_at_call 141;refine(Q1 _ _).mono ?_;rintro e y⟨rfl,rfl⟩;rw[O])|(refine y8 rfl 189 (.tmp 41) rfl ⟨o.b,1,none⟩ rfl _ E ?_)|(go_at_call 142;refine(Re o.vl s.l k _ K (by omega)).mono ?_;rintro e z⟨rfl,m⟩;have G:OR z o.b (some ⟨s.x,0,none⟩) o.vl s.fl s.cl s.mo s.ch o.lv o.wv:=m.get t (by simp);have Q:z.cell? ⟨o.b,3,none⟩=some (.bool false):=(by have:=y7 (j:=3) G rfl;rw[g]at this;exact this))|(go_at_call 133;refine(qv _ _).mono ?_;rintro e y⟨rfl,rfl⟩))
   go_ret;exact je.same I hq hd hs ho p h i A (f.trans m)
theorem PW(lo hi:ByteArray)(m:Nat)(l:List Pr):(Qu lo hi m l).length<=l.length:=by
 rw[Qu,au];exact av (Nat.min_le_right _ _) (dt _ _)
theorem SU:∀t∈ [91,92,94],t≠195/\t≠28/\t≠41:=by decide
theorem je.keep(I:yB){w6 w7:World}(hq:LD w q s.a R (.pointer (some ⟨o.b,0,none⟩)))(hd:DQ w s.a bv s.n cv D)(hs:I.SI w s D)(ho:OI w s o)
  (ha:AftS I.SI s s' D w w2)(hcl:s'.cl=s.cl)(hl:s'.l=s.l)(fQ:s'.ch=s.ch)(lz:y6 [] w2 w6){v:Value}{l:List Pr}(p6:PL w6 41 v l)(f2:∀y,v.ownBlock=some y->w.heap.size<=y){uE tD:Value}{Bo:List HLd}(Dz:Bo.length=2)
  (nY:OR w7 o.b (some ⟨s.x,0,none⟩) o.vl s.fl s.cl s.mo s.ch uE tD)(h7:HL w7 uE tD (o.xs++Bo))(k7:y6 (o.b::(o.lv.ownBlock.toList++o.wv.ownBlock.toList++v.ownBlock.toList)) w6 w7)
  (xN:∀g,uE.ownBlock=some g->o.lv.ownBlock=some g\/w6.heap.size<=g)(xO:∀g,tD.ownBlock=some g->o.wv.ownBlock=some g\/w6.heap.size<=g):je I s o w q R bv cv D (.returned (.bool true)) w7:=by
 obtain⟨G,N,O,r,u,P,T,p,Q⟩:=ha;obtain⟨U,V,W⟩:=ho.aft I hs p;have J:s'.mo=s.mo:=by rw[P,hl];exact dB ho.m
 have nq:q∉s.fp:=I.nt hs hq (by decide);have K:=lz.get (p.get hq nq) (by simp);have d6:DQ w6 s.a bv s.n cv D:=(hd.kept p fun y c d=>I.off hs hd y d c).k0 lz;have L:=I.kept T lz (by simp) (by simp);have X:=lz.get U (by simp);have M:=V.kept lz (by simp);have H:=W.fresh lz;have Z:w.heap.size<=w6.heap.size:=av p.size lz.size;have F:∀y∈o.b::(o.lv.ownBlock.toList++o.wv.ownBlock.toList++v.ownBlock.toList),(∃f i,w6.heap[y]?=some (.cells f 195 i))\/(∃f i,w6.heap[y]?=some (.cells f 28 i))\/(∃f i,w6.heap[y]?=some (.cells f 41 i)):=by
  intro y c;rcases an.1 c with rfl|c
  ·exact Or.inl ⟨_,_,X⟩
  rcases ar.1 c with c|c
  ·rcases ar.1 c with c|c
   ·exact Or.inr (Or.inl (yD H.lists (by simpa using c)))
   ·exact Or.inr (Or.inl (yD H.want (by simpa using c)))
  ·exact Or.inr (Or.inr (p6.tag (by simpa using c)))
 have j:∀y∈o.b::(o.lv.ownBlock.toList++o.wv.ownBlock.toList++v.ownBlock.toList),LT w6 y:=by
  intro y c;rcases F y c with⟨f,i,h⟩|⟨f,i,h⟩|⟨f,i,h⟩
  ·exact⟨_,_,_,h,by decide⟩
  ·exact⟨_,_,_,h,by decide⟩
  ·exact⟨_,_,_,h,by decide⟩
 have E:∀{y:Nat} {f:Array Value} {t:TypeId} {i:Nat×Nat},w6.heap[y]?=some (.cells f t i)->t≠195->t≠28->t≠41->y∉o.b::(o.lv.ownBlock.toList++o.wv.ownBlock.toList++v.ownBlock.toList):=by
  intro y f t i h A B C d;rcases F y d with k|k|k
  ·exact qH ⟨_,_,h⟩ k A rfl
  ·exact qH ⟨_,_,h⟩ k B rfl
  ·exact qH ⟨_,_,h⟩ k C rfl
 refine⟨rfl,s',{o with lv:=uE,wv:=tD,xs:=o.xs++Bo},rfl,G,N,O,u,k7.get K (E K (by decide) (by decide) (by decide)),d6.kept k7 fun y c=>by obtain⟨f,t,i,z,ht⟩:=d6.law y c;obtain⟨A,B,C⟩:=SU t ht;exact E z A B C,
  I.kept L k7 (fun y c=>I.ne L (j y c)) (fun y c=>Or.inl (j y c)),⟨?_,?_,h7,?_⟩,Q,?_,?_,by simp[Dz],by omega,by omega,?_⟩
 ·rw[G,hcl,J,r,fQ];exact nY
 ·rw[hl];refine M.kept k7 ?_;intro g S;obtain⟨f,i,z⟩:=M.tag S;exact E z (by decide) (by decide) (by decide)
 ·rw[hl,J];exact ho.m
 ·intro y c;rcases xN y c with e|e
  ·exact Or.inl e
  ·right;omega
 ·intro y c;rcases xO y c with e|e
  ·exact Or.inl e
  ·right;omega
 ·have Y:y6 (o.b::(s.fp++o.lv.ownBlock.toList++o.wv.ownBlock.toList)) w w6:=by
   refine(p.mono ?_).trans (lz.mono (by simp));exact fun x d=>aq _ (aw _ (aw _ d))
  refine Y.trans2 k7 ?_;intro x d;rcases an.1 d with rfl|d
  ·exact Or.inl aZ
  rcases ar.1 d with d|d
  ·left;rcases ar.1 d with d|d
   ·exact aq _ (aw _ (az _ d))
   ·exact aq _ (az _ d)
  ·right;exact f2 x (by simpa using d)
theorem Qfn(I:yB)(s:Sx)(o:Ox)(q:Nat)(R:Rc)(bv cv:Value)(D:Dv)(lo hi:ByteArray)(m:Int)(w:World)(hG:qW w)(ig:1∉s.fp)(hq:LD w q s.a R (.pointer (some ⟨o.b,0,none⟩)))(hd:DQ w s.a bv s.n cv D)(hs:I.SI w s D)(ho:OI w s o)(hl:s.l.length<=40000)(hx:o.xs.length<=40000):
  Calls prog 102 #[.pointer (some ⟨q,0,none⟩),.string lo,.string hi,.int .i64 m] w (je I s o w q R bv cv D):=by
 have cq0:w.cell? ⟨q,0,none⟩=some (.pointer (some ⟨s.a,0,none⟩)):=y7 hq rfl;have cq7:w.cell? ⟨q,7,none⟩=some (.pointer (some ⟨o.b,0,none⟩)):=y7 hq rfl;have ua:w.cell? ⟨o.b,0,none⟩=some (.pointer (some ⟨s.x,0,none⟩)):=y7 ho.r rfl;have Y:Hid (Calls _ _ _ _ _):=qD s.a bv cv D w hd.d;have oK:Hid (Calls _ _ _ _ _):=I.scan w s D lo hi m hs;have AP:Hid (∀(v:Value) (W:World),(∀y,v.ownBlock=some y->W.heap.size<=y)->W.heap.size=w.heap.size->∀x∈o.xs,(∀g,x.v.ownBlock=some g->v.ownBlock≠some g)/\(∀g,x.u.ownBlock=some g->v.ownBlock≠some g)):=by
  intro v W Z hW x N;obtain⟨a1,a2,_⟩:=ho.h.all x N;refine⟨fun g L M=> ?_,fun g L M=> ?_⟩
  ·have:=Z g M;have:=(World.ownsRow.lt a1 g L).2;omega
  ·have:=Z g M;have:=(World.ownsRow.lt a2 g L).2;omega
 cases i:s.cl with
 |true=>
  go_enter func102,ntmps102;go_wp2_with(first|(go_at_call 130;refine Y.out.mono ?_;rintro e U⟨rfl,rfl⟩)|(go_at_call 19;refine oK.out.mono ?_;rintro e w2⟨s',v,J,rfl,A,k,t,H,f⟩;simp only[i,if_true]at f;obtain⟨K,rfl⟩:=f;have C:=A.2.2.2.2.2.2.2.1;obtain⟨Q,S,r3⟩:=ho.aft I hs C;have P:=hG.kept C ig)|(go_at_call 131;refine(K _ (y6.refl _ _) P).mono ?_;rintro e V⟨rfl,c⟩;have B:OR V o.b (some ⟨s.x,0,none⟩) o.vl s.fl s.cl s.mo s.ch o.lv o.wv:=c.get Q (by simp);have O:=B.map;have T:=S.kept c (by simp))|(refine y8 rfl 189 (.tmp 42) rfl ⟨o.b,1,none⟩ rfl _ O ?_)|(go_at_call 143;refine(VU o.vl s.l lo hi m _ T (by omega)).mono ?_;rintro e E⟨v4,rfl,p4,f4,z⟩;have G:OR E o.b (some ⟨s.x,0,none⟩) o.vl s.fl s.cl s.mo s.ch o.lv o.wv:=z.get B (by simp);have Bn:E.cell? ⟨o.b,3,none⟩=some (.bool true):=(by have:=y7 (j:=3) G rfl;rw[i]at this;exact this))|(go_at_call 133;refine(qv _ _).mono ?_;rintro e U⟨rfl,rfl⟩))
  go_ret;exact je.same I hq hd hs ho A k t H (c.trans z)
 |false=>
  have K:=fun W=>Tl.nil W W (y6.refl _ _);go_enter func102,ntmps102;go_wp2_with(first|(go_at_call 130;refine Y.out.mono ?_;rintro e U⟨rfl,rfl⟩)|(go_at_call 19;refine oK.out.mono ?_;rintro e w2⟨s',v,J,rfl,A,k,t,H,f⟩;simp only[i,bj,cQ]at f;obtain⟨rfl,p2,f2⟩:=f;have C:=A.2.2.2.2.2.2.2.1;obtain⟨Q,S,r3⟩:=ho.aft I hs C;have P:=hG.kept C ig)|(go_at_call 131;refine(K _ P).mono ?_;rintro e V⟨rfl,c⟩;have B:OR V o.b (some ⟨s.x,0,none⟩) o.vl s.fl s.cl s.mo s.ch o.lv o.wv:=c.get Q (by simp);have O:=B.map;have T:=S.kept c (by simp);have p3:=p2.kept c (by simp))|(refine y8 rfl 189 (.tmp 42) rfl ⟨o.b,1,none⟩ rfl _ O ?_)|(go_at_call 143;refine(VU o.vl s.l lo hi m _ T (by omega)).mono ?_;rintro e E⟨v4,rfl,p4,f4,z⟩;have G:OR E o.b (some ⟨s.x,0,none⟩) o.vl s.fl s.cl s.mo s.ch o.lv o.wv:=z.get B (by simp);have Bn:E.cell? ⟨o.b,3,none⟩=some (.bool false):=(by have:=y7 (j:=3) G rfl;rw[i]at this;exact this);have q4:=p3.kept z (by simp))|(go_at_call 144;refine(OK v _ _ q4 (by have:=PW lo hi (mst m) s.l;omega)).mono ?_;rintro e w5⟨v5,rfl,p5,f5,F⟩;have rG:OR w5 o.b (some ⟨s.x,0,none⟩) o.vl s.fl s.cl s.mo s.ch o.lv o.wv:=F.get G (by simp);have q5:=q4.kept F (by simp);have u5:=p4.kept F (by simp))|(go_at_call 145;refine(Pb v5 v4 _ _ _ p5 u5 (by have:=PW lo hi (mst m) s.l;omega)).mono ?_;rintro e X⟨rfl,p⟩;have lz:y6 [] w2 X:=((c.trans z).trans F).trans p;have Jy:OR X o.b (some ⟨s.x,0,none⟩) o.vl s.fl s.cl s.mo s.ch o.lv o.wv:=p.get rG (by simp);have q6:=q5.kept p (by simp);have h6:=r3.fresh lz;rw[show decide (Qu lo hi (mst m) s.l=Qu lo hi (mst m) s.l)=true by simp])|(go_at_call 146;refine(Q2f o.b (some ⟨s.x,0,none⟩) o.vl s.fl s.cl s.mo s.ch o.lv o.wv o.xs v _ X Jy h6 hx q6 (by have:=PW lo hi (mst m) s.l;omega) (AP.out _ _ f2 rfl)).mono ?_;rintro e w7⟨rfl,uE,tD,Bo,Dz,nY,h7,k7,xN,xO,Lr⟩)|(go_at_call 133;refine(qv _ _).mono ?_;rintro e U⟨rfl,rfl⟩))
  go_ret;exact je.keep I hq hd hs ho A k t H lz q6 f2 Dz nY h7 k7 xN xO
theorem je.upd(I:yB){w6 w7:World}(hq:LD w q s.a R (.pointer (some ⟨o.b,0,none⟩)))(hd:DQ w s.a bv s.n cv D)(hs:I.SI w s D)(ho:OI w s o)
  (ha:AftS I.SI s s' D w w2)(lz:y6 [] w2 w6){vl':Value}(fQ:s'.ch<=s.ch+1)(iW:s'.mo<=s.mo+1)(rZ:s'.l.length<=s'.mo)
  (r7:OR w7 o.b (some ⟨s.x,0,none⟩) vl' s.fl s'.cl s'.mo s'.ch o.lv o.wv)(v6:PL w6 224 vl' s'.l)(k7:y6 [o.b] w6 w7):je I s o w q R bv cv D (.returned (.bool true)) w7:=by
 obtain⟨E,M,N,z,A,X,T,u,P⟩:=ha;obtain⟨V,Y,W⟩:=ho.aft I hs u;have F:=lz.get (u.get hq (I.nt hs hq (by decide))) (by simp);have d6:DQ w6 s.a bv s.n cv D:=(hd.kept u fun y c d=>I.off hs hd y d c).k0 lz;have H:=I.kept T lz (by simp) (by simp);have G:=lz.get V (by simp);have r:=W.fresh lz;have i:∀y∈ [o.b],LT w6 y:=by intro y c;simp at c;subst c;exact⟨_,_,_,G,by decide⟩
 have C:∀{y:Nat} {m:Array Value} {t:TypeId} {p:Nat×Nat},w6.heap[y]?=some (.cells m t p)->t≠195->y∉ [o.b]:=by
  intro y m t p h U d;simp at d;subst d;exact yP h G U rfl
 have j:∀{f e n k:Nat} {v:Value} {J:List Value},w6.ownsRow f e k v n J->e≠195->∀g,v.ownBlock=some g->g∉ [o.b]:=by
  intro f e n k v J S O g Q;obtain⟨m,p,B⟩:=yD S Q;exact C B O
 refine⟨rfl,s',{o with vl:=vl'},rfl,E,M,N,A,k7.get F (C F (by decide)),d6.kept k7 (fun y c=>by obtain⟨m,t,p,B,ht⟩:=d6.law y c;exact C B (SU t ht).1),
  I.kept H k7 (fun y c=>I.ne H (i y c)) (fun y c=>Or.inl (i y c)),⟨by rw[E,z];exact r7,v6.kept k7 (j v6 (by decide)),r.kept k7 (j r.lists (by decide)) (j r.want (by decide)) ?_,rZ⟩,P,fun y c=>Or.inl c,fun y c=>Or.inl c,by simp,iW,fQ,?_⟩
 ·intro x d;obtain⟨K,L,_⟩:=r.all x d;exact⟨j K (by decide),j L (by decide)⟩
 ·exact((u.mono fun x d=>aq _ (aw _ (aw _ d))).trans (lz.mono (by simp))).trans (k7.mono (by intro x d;simp at d;subst d;exact aZ))
theorem Qfo(I:yB)(s:Sx)(o:Ox)(q:Nat)(R:Rc)(bv cv:Value)(D:Dv)(w:World)(hG:qW w)(ig:1∉s.fp)(hq:LD w q s.a R (.pointer (some ⟨o.b,0,none⟩)))(hd:DQ w s.a bv s.n cv D)(hs:I.SI w s D)(ho:OI w s o):
  Calls prog 104 #[.pointer (some ⟨q,0,none⟩)] w (je I s o w q R bv cv D):=by
 have G:w.cell? ⟨q,7,none⟩=some (.pointer (some ⟨o.b,0,none⟩)):=y7 hq rfl;have L:w.cell? ⟨o.b,0,none⟩=some (.pointer (some ⟨s.x,0,none⟩)):=y7 ho.r rfl;have B:Hid (Calls _ _ _ _ _):=I.close w s D hs
 cases f:s.cl with
 |true=>
  go_enter func104,ntmps104;go_wp2_with(first|(go_at_call 147;refine B.out.mono ?_;rintro e K⟨E,v,rfl,k,h,g,u,c⟩;simp only[f,if_true]at c;have t:=k.2.2.2.2.2.2.2.1;obtain⟨z,C,H⟩:=ho.aft I hs t;have y:=hG.kept t ig)|(go_at_call 131;refine(c _ (y6.refl _ _) y).mono ?_;rintro e l⟨rfl,d⟩;have p:OR l o.b (some ⟨s.x,0,none⟩) o.vl s.fl s.cl s.mo s.ch o.lv o.wv:=d.get z (by simp);have F:l.cell? ⟨o.b,3,none⟩=some (.bool true):=(by have:=y7 (j:=3) p rfl;rw[f]at this;exact this))|(go_at_call 133;refine(qv _ _).mono ?_;rintro e J⟨rfl,rfl⟩))
  go_ret;exact je.same I hq hd hs ho k (by rw[h,f]) g u d
 |false=>
  go_enter func104,ntmps104;go_wp2_with(first|(go_at_call 147;refine B.out.mono ?_;rintro e K⟨E,v,rfl,k,h,g,u,c⟩;simp only[f,bj,cQ]at c;have t:=k.2.2.2.2.2.2.2.1;obtain⟨z,C,H⟩:=ho.aft I hs t;have y:=hG.kept t ig)|(go_at_call 131;refine(c _ (y6.refl _ _) y).mono ?_;rintro e l⟨rfl,d⟩;have p:OR l o.b (some ⟨s.x,0,none⟩) o.vl s.fl s.cl s.mo s.ch o.lv o.wv:=d.get z (by simp);have F:l.cell? ⟨o.b,3,none⟩=some (.bool false):=(by have:=y7 (j:=3) p rfl;rw[f]at this;exact this);have f33:l.frozen? ⟨o.b,3,none⟩=false:=ax _ _ _ _ _ p)|(go_at_call 133;refine(qv _ _).mono ?_;rintro e J⟨rfl,rfl⟩))
  go_ret;have A:E.mo=s.mo:=by rw[k.2.2.2.2.2.1,g];exact dB ho.m
  refine je.upd I hq hd hs ho k d (vl':=o.vl) (by omega) (by omega) (by rw[g,A];exact ho.m) ?_ (by rw[g];exact C.kept d (by simp)) ((y6.refl _ _).setCell (Or.inl (by simp)) _);rw[h,A,u];exact yf (i:=3) (.bool true) p
end Go.Proofs.YtcklgafpgdhnaaaGreatDoor
